/- The number at a place of a row of bits, as the program tells it. -/
import Derived.Test.YtheaebkegncdlaaBitAt
namespace Go.Proofs.Ytheaebkegncdlaa
open Go.RowKit
set_option linter.unusedVariables false

theorem get_bad (A : Option Addr) (l : List UInt8) (c : Nat) (N a n : Int) (w : World) (hA : Bys w A l) (h1 : N ≤ 9223372036854775807) (hl : l.length ≤ 562949953421312)
    (h : rightB l N = false ∨ n < 0 ∨ 64 < n ∨ a < 0 ∨ N < a) :
    Calls Try.prog 65 #[.agg #[.slice A l.length c, .int .i64 N], .int .i64 a, .int .i64 n] w fun e w' => e = .returned (.tuple #[.int .u64 0, .int .i64 2]) ∧ Below w.heap.size w w' := by
  have hcase : rightB l N = false ∨ (rightB l N = true ∧ decide (n < 0) = true) ∨ (rightB l N = true ∧ decide (n < 0) = false ∧ decide (64 < n) = true) ∨
      (rightB l N = true ∧ decide (n < 0) = false ∧ decide (64 < n) = false ∧ decide (a < 0) = true) ∨
      (rightB l N = true ∧ decide (n < 0) = false ∧ decide (64 < n) = false ∧ decide (a < 0) = false ∧ decide (N < a) = true) := by
    simp only [decide_eq_true_eq, decide_eq_false_iff_not]
    rcases h with h | h | h | h | h
    · exact .inl h
    all_goals
      cases rightB l N
      · exact .inl rfl
      · simp only [Bool.true_eq_false, false_or, true_and]
        omega
  clear h
  rcases hcase with h | ⟨h, h2⟩ | ⟨h, h2, h3⟩ | ⟨h, h2, h3, h4⟩ | ⟨h, h2, h3, h4, h5⟩
  all_goals
    go_enter Try.func65, Try.ntmps65
    go_wp2_with (go_at_call 54; refine (right_prog A l c N _ (hA.below (below_one _ _)) h1 hl).mono ?_; rintro e w1 ⟨rfl, hb1⟩; obtain ⟨hs, hf⟩ := stands hb1)
    go_ret2
    exact ⟨rfl, below_then (below_one _ _) hb1⟩

theorem get_short (A : Option Addr) (l : List UInt8) (c : Nat) (N a n : Int) (w : World) (hA : Bys w A l) (h1 : N ≤ 9223372036854775807) (hl : l.length ≤ 562949953421312)
    (hr : rightB l N = true) (hn0 : 0 ≤ n) (hn : n ≤ 64) (ha0 : 0 ≤ a) (ha : a ≤ N) (h : N - a < n) :
    Calls Try.prog 65 #[.agg #[.slice A l.length c, .int .i64 N], .int .i64 a, .int .i64 n] w fun e w' => e = .returned (.tuple #[.int .u64 0, .int .i64 4]) ∧ Below w.heap.size w w' := by
  have d1 : decide (n < 0) = false := by simp; omega
  have d2 : decide (64 < n) = false := by simp; omega
  have d3 : decide (a < 0) = false := by simp; omega
  have d4 : decide (N < a) = false := by simp; omega
  go_enter Try.func65, Try.ntmps65
  go_wp2_with (go_at_call 54; refine (right_prog A l c N _ (hA.below (below_one _ _)) h1 hl).mono ?_; rintro e w1 ⟨rfl, hb1⟩; obtain ⟨hs, hf⟩ := stands hb1)
  go_ret2
  exact ⟨rfl, below_then (below_one _ _) hb1⟩

theorem getN_63 (l : List UInt8) (a k : Nat) (hk : k < 64) : getN l a k ≤ 9223372036854775807 := by
  have h1 := getN_lt l a k
  have h2 : 2 ^ k ≤ 2 ^ 63 := Nat.pow_le_pow_right (by omega) (by omega)
  omega
theorem getN_64 (l : List UInt8) (a k : Nat) (hk : k ≤ 64) : getN l a k ≤ 18446744073709551615 := by
  have h1 := getN_lt l a k
  have h2 : 2 ^ k ≤ 2 ^ 64 := Nat.pow_le_pow_right (by omega) hk
  omega

set_option maxHeartbeats 400000 in
theorem get_ok (A : Option Addr) (l : List UInt8) (c : Nat) (N a n : Nat) (w : World) (hA : Bys w A l) (hl : l.length ≤ 562949953421312)
    (hr : rightB l (N : Int) = true) (hn : n ≤ 64) (h : a + n ≤ N) :
    Calls Try.prog 65 #[.agg #[.slice A l.length c, .int .i64 N], .int .i64 a, .int .i64 n] w fun e w' => e = .returned (.tuple #[.int .u64 (getN l a n), .int .i64 0]) ∧ Below w.heap.size w w' := by
  have hlen := (rightB_iff.1 hr).2.1
  rw [Int.toNat_natCast] at hlen
  have hN : N ≤ 8 * l.length := by omega
  clear hlen
  have d1 : decide ((n : Int) < 0) = false := by simp
  have d2 : decide (64 < (n : Int)) = false := by simp; omega
  have d3 : decide ((a : Int) < 0) = false := by simp
  have d4 : decide (N < a) = false := by simp; omega
  have d5 : decide ((N : Int) - (a : Int) < (n : Int)) = false := by simp; omega
  go_enter Try.func65, Try.ntmps65
  go_wp2_with (go_at_call 54; refine (right_prog A l c N _ (hA.below (below_one _ _)) (by omega) hl).mono ?_; rintro e w1 ⟨rfl, hb1⟩; obtain ⟨hs, hf⟩ := stands hb1)
  have hB0 : w1.cell? ⟨w.heap.size, 0, none⟩ = some (.slice A l.length c) := by rw [hs _ _ (by simp), World.cell?_alloc_at _ _ _ _ rfl]; rfl
  have hB1 : w1.cell? ⟨w.heap.size, 1, none⟩ = some (.int .i64 N) := by rw [hs _ _ (by simp), World.cell?_alloc_at _ _ _ _ rfl]; rfl
  have hz : w.heap.size < w1.heap.size := by have := hb1.size; simp at this; omega
  have hA1 : Bys w1 A l := hA.below (below_then (below_one _ _) hb1)
  clear hs hf
  go_loopw [8, 38] (fun u i wr => ∃ k : Nat, k ≤ n ∧ u = .int .u64 (getN l a k) ∧ i = .int .i64 k ∧ Below w1.heap.size w1 wr) (fun _ i _ => n - (intOf i).toNat)
  case atStart => exact ⟨0, Nat.zero_le _, rfl, rfl, Below.refl _ _⟩
  case round =>
    obtain ⟨k, hk, rfl, rfl, hbr⟩ := hrel
    have hB0r := (hbr.cell (p := ⟨w.heap.size, 0, none⟩) hz).trans hB0
    have hB1r := (hbr.cell (p := ⟨w.heap.size, 1, none⟩) hz).trans hB1
    have hAr := hA1.below hbr
    clear hB0 hB1
    by_cases hlt : k < n
    · have hg := getN_63 l a k (by omega)
      have hbt := bitN_lt l (a + k)
      have Hn := Lib.hid (show 2 * getN l a k + bitN l (a + k) = getN l a (k + 1) from rfl)
      have Hb := Lib.hid (show ((a + k : Nat) : Int) = (a : Int) + k by omega)
      generalize getN l a k = g at *
      go_wp2_with fail
      rw [← Hb.out]
      refine (bitAt_prog A l c N (a + k) wr hAr (by omega) hl).mono ?_
      rintro e w2 ⟨rfl, hb2⟩
      generalize bitN l (a + k) = d at *
      go_wp2
      go_roundw
      case rel => exact ⟨k + 1, by omega, by rw [show (g : Int) * 2 = ((2 * g : Nat) : Int) from by omega, u64_or_one g (by omega) d hbt, Hn.out], by go_num, below_then hbr hb2⟩
      case measure => simp [intOf]; omega
    · have e : k = n := by omega
      subst e
      go_wp2
      go_ret2
      exact ⟨rfl, below_then (below_then (below_one _ _) hb1) hbr⟩
end Go.Proofs.Ytheaebkegncdlaa
