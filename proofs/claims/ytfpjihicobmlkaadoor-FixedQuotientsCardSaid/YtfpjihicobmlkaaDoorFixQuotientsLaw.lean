/- The law of quotients and rests of layer 3: a walk. -/
import Derived.Test.YtfpjihicobmlkaaDoorFixLives
import Derived.Test.YtfpjihicobmlkaaDoorFixLawMath
namespace Go.Proofs.YtfpjihicobmlkaaDoor
open Go.RowKit
set_option linter.unusedVariables false

/-- What is divided and multiplied again: as far as it is told. -/
theorem again {a b : Int} (ha : fitsB a = true) (hb : fitsB b = true) (h0 : b ≠ 0) (hd : divE a b = 0) :
    mulE (divV a b) b = 0 ∧ (mulV (divV a b) b).natAbs ≤ a.natAbs ∧ (a - mulV (divV a b) b).natAbs ≤ b.natAbs / 1000000 + 1 := by
  obtain ⟨h1, h2, _, _⟩ := div_ok ha hb h0
  rw [h2] at hd
  have hN : quoN a 1000000 b ≤ 1152921504606846976 := by
    by_cases h : quoN a 1000000 b ≤ 1152921504606846976
    · exact h
    · rw [(tell_over (b := true) h).2] at hd
      omega
  have hV := (tell_ok (b := quoS a 1000000 b) hN).1
  rw [h1, hV]
  have hfd : fitsB (if quoS a 1000000 b = true then -((quoN a 1000000 b : Nat) : Int) else ((quoN a 1000000 b : Nat) : Int)) = true := by
    split <;> exact fits_mk (by omega) (by omega)
  obtain ⟨m1, m2⟩ := mul_ok hfd hb
  have hn : (if quoS a 1000000 b = true then -((quoN a 1000000 b : Nat) : Int) else ((quoN a 1000000 b : Nat) : Int)).natAbs = quoN a 1000000 b := by
    split <;> omega
  have hP : quoN (if quoS a 1000000 b = true then -((quoN a 1000000 b : Nat) : Int) else ((quoN a 1000000 b : Nat) : Int)) b 1000000 = a.natAbs * 1000000 / b.natAbs * b.natAbs / 1000000 := by
    rw [show ∀ x : Int, quoN x b 1000000 = x.natAbs * b.natAbs / 1000000 from fun _ => rfl, hn]
    rfl
  have hS : quoN a 1000000 b ≠ 0 → quoS (if quoS a 1000000 b = true then -((quoN a 1000000 b : Nat) : Int) else ((quoN a 1000000 b : Nat) : Int)) b 1000000 = decide (a < 0) := by
    intro hne
    cases hs : quoS a 1000000 b
    · rw [if_neg (by decide)]
      unfold quoS at hs ⊢
      rw [show decide (((quoN a 1000000 b : Nat) : Int) < 0) = false from decide_eq_false (by omega)]
      revert hs
      cases decide (a < 0) <;> cases decide (b < 0) <;> decide
    · rw [if_pos rfl]
      unfold quoS at hs ⊢
      rw [show decide (-((quoN a 1000000 b : Nat) : Int) < 0) = true from decide_eq_true (by omega)]
      revert hs
      cases decide (a < 0) <;> cases decide (b < 0) <;> decide
  obtain ⟨b1, b2⟩ := back_near a.natAbs b.natAbs (by omega)
  have ka := fits_of ha
  have hz : quoN a 1000000 b = 0 → a.natAbs * 1000000 / b.natAbs * b.natAbs / 1000000 = 0 := by
    intro hz
    rw [show a.natAbs * 1000000 / b.natAbs = quoN a 1000000 b from rfl, hz]
    simp
  rw [m1, m2, hP]
  generalize quoS (if quoS a 1000000 b = true then -((quoN a 1000000 b : Nat) : Int) else ((quoN a 1000000 b : Nat) : Int)) b 1000000 = S at *
  generalize a.natAbs * 1000000 / b.natAbs * b.natAbs / 1000000 = P at *
  have hPl : P ≤ 1152921504606846976 := by omega
  obtain ⟨t1, t2⟩ := tell_ok (b := S) hPl
  rw [t1, t2]
  refine ⟨rfl, ?_, ?_⟩
  · split <;> omega
  · by_cases hne : quoN a 1000000 b = 0
    · have := hz hne
      subst this
      split <;> omega
    · have hs := hS hne
      subst hs
      by_cases hneg : a < 0
      · rw [if_pos (by simpa using hneg)]
        omega
      · rw [if_neg (by simpa using hneg)]
        omega
theorem div_far {a b : Int} (h : divE a b ≠ 0) (ha : fitsB a = true) (hb : fitsB b = true) (h0 : b ≠ 0) : divE a b = 11 ∧ divV a b = 0 := by
  obtain ⟨h1, h2, _, _⟩ := div_ok ha hb h0
  rw [h2] at h ⊢
  rw [h1]
  have hN : ¬ quoN a 1000000 b ≤ 1152921504606846976 := fun hh => h (tell_ok (b := true) hh).2
  exact ⟨(tell_over (b := true) hN).2, (tell_over hN).1⟩
theorem max_abs (n : Int) : max n (-n) = (n.natAbs : Int) := by omega

set_option maxHeartbeats 4000000 in
set_option maxRecDepth 100000 in
theorem quotients_go (w : World) (a b m d e p : Int) (A B M P X : Nat) (k1 : -1152921504606846976 ≤ a ∧ a ≤ 1152921504606846976) (k2 : -1152921504606846976 ≤ b ∧ b ≤ 1152921504606846976) (h0 : b ≠ 0)
    (k3 : -1152921504606846976 ≤ m ∧ m ≤ 1152921504606846976) (k4 : -1152921504606846976 ≤ p ∧ p ≤ 1152921504606846976)
    (HA : Calls Tryd.prog 14 #[.int .i64 a] w fun e w' => e = .returned (.bool true) ∧ w = w') (HB : Calls Tryd.prog 14 #[.int .i64 b] w fun e w' => e = .returned (.bool true) ∧ w = w')
    (H1 : ∀ w, Calls Tryd.prog 23 #[.int .i64 a, .int .i64 b] w fun r w' => r = .returned (.tuple #[.int .i64 m, .int .i64 0]) ∧ Below w.heap.size w w')
    (H2 : ∀ w, Calls Tryd.prog 21 #[.int .i64 a, .int .i64 b] w fun r w' => r = .returned (.tuple #[.int .i64 d, .int .i64 e]) ∧ Below w.heap.size w w')
    (H3 : e = 0 → ∀ w, Calls Tryd.prog 19 #[.int .i64 d, .int .i64 b] w fun r w' => r = .returned (.tuple #[.int .i64 p, .int .i64 0]) ∧ Below w.heap.size w w')
    (hA : max a (-a) = (A : Int)) (hB : max b (-b) = (B : Int)) (hM : max m (-m) = (M : Int)) (hP : max p (-p) = (P : Int)) (hX : max (a - p) (p - a) = (X : Int)) (c1 : M < B) (c2 : P ≤ A) (c3 : e = 0 → X ≤ B / 1000000 + 1) (c4 : e ≠ 0 → e = 11 ∧ d = 0)
    (hr : (a - m).tmod b = 0) (hs : m < 0 ∧ a < 0 ∨ 0 < m ∧ 0 < a ∨ m = 0) :
    Calls Tryd.prog 9 #[.int .i64 a, .int .i64 b] w fun e w' => e = .returned (.bool true) ∧ Below w.heap.size w w' := by
  have hAb : A ≤ 1152921504606846976 := by omega
  have hBb : B ≤ 1152921504606846976 := by omega
  have q0 : (b == 0) = false := by simp [h0]
  have q1 : decide ((B : Int) ≤ (M : Int)) = false := by simp; omega
  have q1' : decide (B ≤ M) = false := by simp; omega
  have q2 : decide ((P : Int) ≤ (A : Int)) = true := by simp; omega
  have q2' : decide (P ≤ A) = true := by simpa using c2
  obtain ⟨D, hD⟩ : ∃ D, D = B / 1000000 := ⟨_, rfl⟩
  have hDc : (B : Int) / 1000000 = (D : Int) := by omega
  rw [← hD] at c3
  have HX := Lib.hid c3
  have H4 := Lib.hid c4
  have HH3 := Lib.hid H3
  clear hD c3 c4 c1 c2 H3
  have t1 : (decide (m < 0) = true ∧ decide (0 ≤ a) = false ∧ decide (0 < m) = false) ∨ (decide (m < 0) = false ∧ decide (0 < m) = true ∧ decide (a ≤ 0) = false) ∨ (decide (m < 0) = false ∧ decide (0 < m) = false) := by
    rcases hs with hs | hs | hs
    · exact .inl ⟨by simp; omega, by simp; omega, by simp; omega⟩
    · exact .inr (.inl ⟨by simp; omega, by simp; omega, by simp; omega⟩)
    · exact .inr (.inr ⟨by simp; omega, by simp; omega⟩)
  clear hs
  by_cases he : e = 0
  · have HS := HH3.out he
    have hx := HX.out he
    have q : (e != 0) = false := by simp [he]
    have q3 : decide ((X : Int) ≤ (D : Int) + 1) = true := by simp; omega
    have HE := Lib.hid he
    clear he hx HX H4 HH3
    rcases t1 with ⟨u1, u2, u3⟩ | ⟨u1, u2, u3⟩ | ⟨u1, u2⟩
    all_goals
      go_enter Tryd.func9, Tryd.ntmps9
      go_wp2_with fail
      refine HA.mono ?_
      rintro r w0 ⟨rfl, rfl⟩
      go_wp2_with fail
      refine HB.mono ?_
      rintro r w0 ⟨rfl, rfl⟩
      go_wp2_with fail
      refine (H1 w).mono ?_
      rintro r w1 ⟨rfl, hb1⟩
      go_wp2_with fail
      refine (H2 w1).mono ?_
      rintro r w2 ⟨rfl, hb2⟩
      go_wp2_with fail
      refine (HS w2).mono ?_
      rintro r w3 ⟨rfl, hb3⟩
      go_wp2_with fail
      refine (lives_true w3).mono ?_
      rintro r w4 ⟨rfl, hb4⟩
      go_wp2
      go_ret
      exact ⟨rfl, below_then (below_then (below_then hb1 hb2) hb3) hb4⟩
  · obtain ⟨rfl, rfl⟩ := H4.out he
    clear he HX H4 HH3
    rcases t1 with ⟨u1, u2, u3⟩ | ⟨u1, u2, u3⟩ | ⟨u1, u2⟩
    all_goals
      go_enter Tryd.func9, Tryd.ntmps9
      go_wp2_with fail
      refine HA.mono ?_
      rintro r w0 ⟨rfl, rfl⟩
      go_wp2_with fail
      refine HB.mono ?_
      rintro r w0 ⟨rfl, rfl⟩
      go_wp2_with fail
      refine (H1 w).mono ?_
      rintro r w1 ⟨rfl, hb1⟩
      go_wp2_with fail
      refine (H2 w1).mono ?_
      rintro r w2 ⟨rfl, hb2⟩
      go_wp2_with fail
      refine (lives_true w2).mono ?_
      rintro r w4 ⟨rfl, hb4⟩
      go_wp2
      go_ret
      exact ⟨rfl, below_then (below_then hb1 hb2) hb4⟩
end Go.Proofs.YtfpjihicobmlkaaDoor
