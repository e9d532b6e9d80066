/- The number at a place of bytes, as the program and as the document's own answer read it. -/
import Derived.Test.YtiepepikbophmaaOwn
import Derived.Test.YtiepepikbophmaaFrSumG
import Derived.Deep.DeepCutAuto
namespace Go.Proofs.Ytiepepikbophmaa
open Go.RowKit
set_option linter.unusedVariables false

theorem getuint_bad (A : Option Addr) (l : List UInt8) (c : Nat) (a : Int) (w : World) (ha : a < 0 ∨ (l.length : Int) < a) :
    Calls Try.prog 65 #[.slice A l.length c, .int .i64 a] w fun e w' => e = .returned (.tuple #[.int .i64 0, .int .i64 0, .int .i64 2]) ∧ w = w' := by
  have h : decide (a < 0) = true ∨ (decide (a < 0) = false ∧ decide ((l.length : Int) < a) = true) := by simp only [decide_eq_true_eq, decide_eq_false_iff_not]; omega
  rcases h with h | ⟨h, h2⟩
  all_goals
    go_enter Try.func65, Try.ntmps65
    go_wp2
    go_ret3
    exact ⟨rfl, rfl⟩
theorem getuint_ref_bad (A : Option Addr) (l : List UInt8) (c : Nat) (a : Int) (w : World) (ha : a < 0 ∨ (l.length : Int) < a) :
    Calls Try.prog 66 #[.slice A l.length c, .int .i64 a] w fun e w' => e = .returned (.tuple #[.int .i64 0, .int .i64 0, .int .i64 2]) ∧ w = w' := by
  have h : decide (a < 0) = true ∨ (decide (a < 0) = false ∧ decide ((l.length : Int) < a) = true) := by simp only [decide_eq_true_eq, decide_eq_false_iff_not]; omega
  rcases h with h | ⟨h, h2⟩
  all_goals
    go_enter Try.func66, Try.ntmps66
    go_wp2
    go_ret3
    exact ⟨rfl, rfl⟩

/-- The closure that tells one digit after the other: at the end. -/
theorem next_end (D Bx : Nat) (A : Option Addr) (n c : Nat) (w : World) (hD : Row w D 3 #[.int .i64 n]) (hB : Row w Bx 35 #[.slice A n c]) :
    Calls Try.prog 98 #[.pointer (some ⟨D, 0, none⟩), .pointer (some ⟨Bx, 0, none⟩)] w fun e w' => e = .returned (.tuple #[.int .i64 0, .bool false, .int .i64 4]) ∧ Below w.heap.size w w' := by
  have h1 := hD.cell 0
  have h2 := hB.cell 0
  simp only [List.getElem?_toArray, List.getElem?_cons_zero] at h1 h2
  clear hD hB
  go_enter Try.func98, Try.ntmps98
  go_wp2
  go_ret3
  exact ⟨rfl, Below.refl _ _⟩
/-- The closure that tells one digit after the other. -/
theorem next_digit (D Bx : Nat) (A : Option Addr) (l : List UInt8) (c k : Nat) (w : World) (hD : Row w D 3 #[.int .i64 k]) (hB : Row w Bx 35 #[.slice A l.length c]) (hA : Bys w A l) (hk : k < l.length) (hl : l.length ≤ 281474976710656) :
    Calls Try.prog 98 #[.pointer (some ⟨D, 0, none⟩), .pointer (some ⟨Bx, 0, none⟩)] w fun e w' =>
      e = .returned (.tuple #[.int .i64 (((l.getD k 0).toNat : Int) % 128), .bool (decide (((l.getD k 0).toNat : Int) < 128)), .int .i64 0]) ∧ Row w' D 3 #[.int .i64 ((k : Int) + 1)] ∧ Two w w' D D := by
  obtain ⟨b, o, rfl, hb, hcl⟩ := hA.at_ (by omega)
  have hx := hcl k hk
  have hbx := byte_nat (l.getD k 0)
  have h1 := hD.cell 0
  have h2 := hB.cell 0
  have hf := hD.frozen 0
  have hDl := hD.lt
  simp only [List.getElem?_toArray, List.getElem?_cons_zero] at h1 h2
  have HD := Lib.hid hD
  have q : ((k : Int) == (l.length : Int)) = false := by rw [beq_eq_false_iff_ne]; omega
  clear hcl hA hD hB
  generalize (l.getD k 0).toNat = x at *
  go_enter Try.func98, Try.ntmps98
  go_wp2
  go_ret3
  exact ⟨rfl, by simpa using HD.out.setAt 0 (.int .i64 ((k : Int) + 1)), (Two.refl _ _ _).set (.inl rfl) _⟩

theorem digits_start (R : Option Addr) (n d : Nat) (w : World) :
    Calls Try.prog 90 #[.slice R n d] w fun e w' => ∃ D Bx, e = .returned (.func (.func 98) #[] #[.pointer (some ⟨D, 0, none⟩), .pointer (some ⟨Bx, 0, none⟩)]) ∧
      Row w' D 3 #[.int .i64 0] ∧ Row w' Bx 35 #[.slice R n d] ∧ Below w.heap.size w w' ∧ D ≠ Bx ∧ w.heap.size ≤ D := by
  have hmf : ∀ (fn : Fn) (first cap : Array Value) (w : World), (Instr.makeFunc fn first cap).run Try.prog w = .ok (.func fn first cap) w := fun _ _ _ _ => rfl
  have r1 : Row ((w.alloc (.cells #[.slice R n d] 35)).alloc (.cells #[.int .i64 0] 3)) w.heap.size 35 #[.slice R n d] := (Row.new w _ _).alloc _
  have r2 : Row ((w.alloc (.cells #[.slice R n d] 35)).alloc (.cells #[.int .i64 0] 3)) (w.heap.size + 1) 3 #[.int .i64 0] := row_at w _ _ _
  have hb : Below w.heap.size w ((w.alloc (.cells #[.slice R n d] 35)).alloc (.cells #[.int .i64 0] 3)) := (below_one w _).alloc (by simp) _
  go_enter Try.func90, Try.ntmps90
  go_wp2
  go_ret
  exact ⟨w.heap.size + 1, w.heap.size, rfl, r2, r1, hb, by omega, by omega⟩

theorem next_at (a D Bx : Nat) (R : Option Addr) (l : List UInt8) (d k : Nat) (W w : World) (hD : Row w D 3 #[.int .i64 k]) (hB : Row w Bx 35 #[.slice R (l.drop a).length d]) (hR : Bys W R (l.drop a)) (hb : Below W.heap.size W w) (hDB : D ≠ Bx) (hDw : W.heap.size ≤ D)
    (hk : a + k < l.length) (hl : l.length ≤ 140737488355328) :
    Calls Try.prog 98 #[.pointer (some ⟨D, 0, none⟩), .pointer (some ⟨Bx, 0, none⟩)] w fun e w' =>
      e = .returned (.tuple #[.int .i64 (((l.getD (a + k) 0).toNat : Int) % 128), .bool (decide (((l.getD (a + k) 0).toNat : Int) < 128)), .int .i64 0]) ∧ Row w' D 3 #[.int .i64 ((k : Int) + 1)] ∧ Row w' Bx 35 #[.slice R (l.drop a).length d] ∧ Below W.heap.size W w' := by
  have e : (l.drop a).getD k 0 = l.getD (a + k) 0 := by rw [getD_in l 0 hk, getD_in (l.drop a) 0 (by rw [List.length_drop]; omega), List.getElem_drop]
  rw [← e]
  refine (next_digit D Bx R (l.drop a) d k w hD hB (hR.below hb) (by rw [List.length_drop]; omega) (by rw [List.length_drop]; omega)).mono ?_
  rintro e w' ⟨rfl, h1, h2⟩
  exact ⟨rfl, h1, (h2.block Bx hB.lt (fun e => hDB e.symm) (fun e => hDB e.symm)).trans hB, Two.below hb h2 hb.size hDw hDw⟩

theorem ret_three {a b c a' b' c' : Int} (h1 : a = a') (h2 : b = b') (h3 : c = c') : Ending.returned (.tuple #[.int .i64 a, .int .i64 b, .int .i64 c]) = .returned (.tuple #[.int .i64 a', .int .i64 b', .int .i64 c']) := by rw [h1, h2, h3]
theorem ofInt_64 (a : Nat) (ha : a < 9223372036854775808) : (BitVec.ofInt 64 (a : Int)).toNat = a := by
  rw [BitVec.ofInt_natCast, BitVec.toNat_ofNat]; exact Nat.mod_eq_of_lt (by omega)
theorem i64_or_nat (a b : Nat) (ha : a < 9223372036854775808) (hb : b < 9223372036854775808) : bits .or .i64 (a : Int) (b : Int) = ((a ||| b : Nat) : Int) := by
  have hx : a ||| b < 2 ^ 63 := Nat.or_lt_two_pow (by omega) (by omega)
  show IntKind.i64.wrap ((BitVec.ofInt 64 (a : Int) ||| BitVec.ofInt 64 (b : Int)).toNat : Int) = _
  rw [BitVec.toNat_or, ofInt_64 a ha, ofInt_64 b hb]
  exact IntWalk.i64_in _ (by omega)
theorem or_digit (n x k : Nat) (hn : n < 128 ^ k) (hk : k < 9) : bits BinOp.or IntKind.i64 (n : Int) (wrap64 ((x : Int) % 128 * 2 ^ (k * 7))) = ((n + x % 128 * 128 ^ k : Nat) : Int) := by
  have e : 2 ^ (k * 7) = 128 ^ k := by rw [Nat.mul_comm, Nat.pow_mul]
  have h1 : x % 128 < 128 := Nat.mod_lt _ (by omega)
  have h2 : 128 ^ (k + 1) ≤ 128 ^ 9 := Nat.pow_le_pow_right (by omega) (by omega)
  have h3 : 128 ^ k * 128 = 128 ^ (k + 1) := rfl
  have h4 : x % 128 * 128 ^ k ≤ 127 * 128 ^ k := Nat.mul_le_mul_right _ (by omega)
  have e2 : ((x : Int) % 128 * 2 ^ (k * 7)) = ((128 ^ k * (x % 128) : Nat) : Int) := by rw [← e]; simp [Int.mul_comm]
  rw [e2, IntWalk.wrap64_in _ (by rw [Nat.mul_comm]; omega), i64_or_nat _ _ (by omega) (by rw [Nat.mul_comm]; omega), Nat.or_comm, ← e, ← Nat.two_pow_add_eq_or_of_lt (by rw [e]; exact hn), e, Nat.add_comm, Nat.mul_comm (128 ^ k)]

theorem gu_stop {l : List UInt8} {a n nx e : Nat} (h : GU l a n nx e) : ∃ K, K ≤ 9 ∧ a + K ≤ l.length ∧ (∀ j, j < K → 128 ≤ (l.getD (a + j) 0).toNat) ∧
    ((K < 9 ∧ a + K = l.length ∧ n = 0 ∧ nx = 0 ∧ e = 4) ∨ (K < 9 ∧ 0 < K ∧ a + K < l.length ∧ (l.getD (a + K) 0).toNat = 0 ∧ n = 0 ∧ nx = 0 ∧ e = 5) ∨ (K = 9 ∧ n = 0 ∧ nx = 0 ∧ e = 5) ∨
      (K < 9 ∧ a + K < l.length ∧ (l.getD (a + K) 0).toNat < 128 ∧ ((l.getD (a + K) 0).toNat = 0 → K = 0) ∧ n = digN l a K + (l.getD (a + K) 0).toNat % 128 * 128 ^ K ∧ nx = a + K + 1 ∧ e = 0)) := by
  cases h with
  | short k hk hc he => exact ⟨k, by omega, by omega, hc, .inl ⟨hk, he, rfl, rfl, rfl⟩⟩
  | nought k hk h0 hc he hz => exact ⟨k, by omega, by omega, hc, .inr (.inl ⟨hk, h0, he, hz, rfl, rfl, rfl⟩)⟩
  | long he hc => exact ⟨9, by omega, he, hc, .inr (.inr (.inl ⟨rfl, rfl, rfl, rfl⟩))⟩
  | ok k hk hc he hl hz => exact ⟨k, by omega, by omega, hc, .inr (.inr (.inr ⟨hk, he, hl, hz, rfl, rfl, rfl⟩))⟩

set_option maxRecDepth 4000 in
set_option maxHeartbeats 2000000 in
theorem getuint_in (b o : Nat) (l : List UInt8) (c a n nx e : Nat) (w : World) (hA : Bys w (some ⟨b, o, none⟩) l) (hlc : l.length ≤ c) (hl : l.length ≤ 140737488355328) (ha : a < l.length) (hg : GU l a n nx e) :
    Calls Try.prog 65 #[.slice (some ⟨b, o, none⟩) l.length c, .int .i64 a] w fun e' w' => e' = .returned (.tuple #[.int .i64 n, .int .i64 nx, .int .i64 e]) ∧ Below w.heap.size w w' := by
  obtain ⟨K, hK9, haK, hcn, hstop⟩ := gu_stop hg
  clear hg
  have q1 : decide ((a : Int) < 0) = false := by simp
  have q2 : decide ((l.length : Int) < (a : Int)) = false := by simp; omega
  have q3 : ¬ c = a := by omega
  have hdl : (l.drop a).length = l.length - a := List.length_drop
  have HA := Lib.hid (hA.from a)
  have HC := Lib.hid hcn
  have HS := Lib.hid hstop
  clear hA hcn hstop
  go_enter Try.func65, Try.ntmps65
  go_wp2_with fail
  refine (digits_start _ _ _ w).mono ?_
  rintro e' w1 ⟨D, Bx, rfl, hD, hB, hbx, hDB, hDw⟩
  rw [← hdl] at hB
  clear hdl
  have HD0 := Lib.hid hD
  have HB0 := Lib.hid hB
  have Hb0 := Lib.hid hbx
  clear hD hB hbx
  go_wp2_with fail
  go_loopw [8, 25] (fun s8 s25 wr => ∃ k : Nat, k ≤ K ∧ s25 = .int .i64 k ∧ s8 = .int .i64 (digN l a k) ∧ Row wr D 3 #[.int .i64 k] ∧ Row wr Bx 35 #[.slice (some ⟨b, o + a, none⟩) (l.drop a).length (c - a)] ∧ Below w.heap.size w wr) (fun _ i _ => 9 - (intOf i).toNat)
  case atStart => exact ⟨0, Nat.zero_le _, rfl, rfl, HD0.out, HB0.out, Hb0.out⟩
  case round =>
    obtain ⟨k, hkK, rfl, rfl, hDr, hBr, hbr⟩ := hrel
    have HDr := Lib.hid hDr
    have HBr := Lib.hid hBr
    have Hbr := Lib.hid hbr
    clear hDr hBr hbr
    have hy := digN_lt l a k
    by_cases hlt : k < K
    · have HP := Lib.hid (next_at a D Bx _ l _ k w wr HDr.out HBr.out HA.out Hbr.out hDB hDw (by omega) hl)
      have hx := HC.out k hlt
      have Hn := Lib.hid (show digN l a (k + 1) = digN l a k + (l.getD (a + k) 0).toNat % 128 * 128 ^ k from rfl)
      generalize (l.getD (a + k) 0).toNat = x at *
      have hq : decide ((x : Int) < 128) = false := by simp; omega
      have Ho := Lib.hid (or_digit (digN l a k) x k hy (by omega))
      rw [← Hn.out] at Ho
      have Hy := Lib.hid hy
      clear hy
      generalize digN l a k = y at *
      rw [hq] at HP
      clear hx hq Hn
      go_wp2_with fail
      refine HP.out.mono ?_
      rintro e w2 ⟨rfl, hD2, hB2, hb2⟩
      have HD2 := Lib.hid hD2
      have HB2 := Lib.hid hB2
      have Hb2 := Lib.hid hb2
      clear hD2 hB2 hb2
      go_wp2_with fail
      go_roundw
      case rel => exact ⟨k + 1, by omega, by go_num, by rw [Ho.out], HD2.out, HB2.out, Hb2.out⟩
      case measure => simp [intOf]; omega
    · obtain rfl : k = K := by omega
      rcases HS.out with ⟨hk, he, rfl, rfl, rfl⟩ | ⟨hk, h0, he, hz, rfl, rfl, rfl⟩ | ⟨rfl, rfl, rfl, rfl⟩ | ⟨hk, he, hx, hz, hn, rfl, rfl⟩
      · have HP := Lib.hid (next_end D Bx (some ⟨b, o + a, none⟩) k (c - a) wr HDr.out (by have := HBr.out; rw [show (l.drop a).length = k from by rw [List.length_drop]; omega] at this; exact this))
        clear HS
        generalize digN l a k = y at *
        go_wp2_with fail
        refine HP.out.mono ?_
        rintro e w2 ⟨rfl, hb2⟩
        have Hb2 := Lib.hid hb2
        clear hb2
        go_wp2
        go_ret3
        exact ⟨rfl, below_then Hbr.out Hb2.out⟩
      · have HP := Lib.hid (next_at a D Bx _ l _ k w wr HDr.out HBr.out HA.out Hbr.out hDB hDw (by omega) hl)
        have hi : decide ((0 : Int) < (k : Int)) = true := by simp; omega
        rw [hz] at HP
        clear HS hz
        have Ho := Lib.hid (or_digit (digN l a k) 0 k hy (by omega))
        have Hy := Lib.hid hy
        clear hy
        generalize digN l a k = y at *
        go_wp2_with fail
        refine HP.out.mono ?_
        rintro e w2 ⟨rfl, hD2, hB2, hb2⟩
        have Hb2 := Lib.hid hb2
        clear hb2 hD2 hB2
        go_wp2
        go_ret3
        exact ⟨rfl, Hb2.out⟩
      · clear HS
        generalize digN l a 9 = y at *
        go_wp2
        go_ret3
        exact ⟨rfl, Hbr.out⟩
      · have HP := Lib.hid (next_at a D Bx _ l _ k w wr HDr.out HBr.out HA.out Hbr.out hDB hDw (by omega) hl)
        clear HS
        have Hn := Lib.hid hn
        clear hn
        generalize (l.getD (a + k) 0).toNat = x at *
        have hq : decide ((x : Int) < 128) = true := by simp; omega
        have Ho := Lib.hid (or_digit (digN l a k) x k hy (by omega))
        have Hy := Lib.hid hy
        clear hy
        generalize digN l a k = y at *
        rw [hq] at HP
        by_cases hx0 : x = 0
        · have hi : k = 0 := hz hx0
          subst hi
          subst hx0
          clear hz hq
          go_wp2_with fail
          refine HP.out.mono ?_
          rintro e w2 ⟨rfl, hD2, hB2, hb2⟩
          have Hb2 := Lib.hid hb2
          clear hb2 hD2 hB2
          go_wp2
          go_ret3
          exact ⟨ret_three (by rw [Hn.out]; simpa [wrap64] using Ho.out) (by omega) rfl, Hb2.out⟩
        · have hxx : ((x : Int) % 128 == 0) = false := by rw [beq_eq_false_iff_ne]; omega
          clear hz hq hx0
          go_wp2_with fail
          refine HP.out.mono ?_
          rintro e w2 ⟨rfl, hD2, hB2, hb2⟩
          have Hb2 := Lib.hid hb2
          clear hb2 hD2 hB2
          go_wp2
          go_ret3
          exact ⟨ret_three (by rw [Hn.out]; exact Ho.out) (by omega) rfl, Hb2.out⟩

theorem gu_end {l : List UInt8} {n nx e : Nat} (h : GU l l.length n nx e) : n = 0 ∧ nx = 0 ∧ e = 4 := by
  cases h with
  | short k hk hc he => exact ⟨rfl, rfl, rfl⟩
  | nought k hk h0 hc he hz => omega
  | long he hc => omega
  | ok k hk hc he hl hz => omega
set_option maxRecDepth 4000 in
set_option maxHeartbeats 2000000 in
theorem getuint_end (A : Option Addr) (m c : Nat) (w : World) (hlc : m ≤ c) (hl : m ≤ 140737488355328) :
    Calls Try.prog 65 #[.slice A m c, .int .i64 m] w fun e' w' => e' = .returned (.tuple #[.int .i64 0, .int .i64 0, .int .i64 4]) ∧ Below w.heap.size w w' := by
  have q1 : decide ((m : Int) < 0) = false := by simp
  have q2 : decide ((m : Int) < (m : Int)) = false := by simp
  go_enter Try.func65, Try.ntmps65
  rcases A with _ | ⟨b, o, s⟩
  all_goals go_wp2_with fail
  all_goals (refine (digits_start _ _ _ w).mono ?_; rintro e' w1 ⟨D, Bx, rfl, hD, hB, hbx, hDB, hDw⟩; have HD0 := Lib.hid hD; have HB0 := Lib.hid hB; have Hb0 := Lib.hid hbx; clear hD hB hbx)
  all_goals go_wp2_with fail
  all_goals
    go_loopw [8, 25] (fun s8 s25 wr => s25 = .int .i64 0 ∧ s8 = .int .i64 0 ∧ Row wr D 3 #[.int .i64 (0 : Nat)] ∧ (∃ R d, Row wr Bx 35 #[.slice R 0 d]) ∧ Below w.heap.size w wr) (fun _ _ _ => 0)
    case atStart => exact ⟨rfl, rfl, HD0.out, ⟨_, _, HB0.out⟩, Hb0.out⟩
    case round =>
      obtain ⟨rfl, rfl, hDr, ⟨R, d, hBr⟩, hbr⟩ := hrel
      have HP := Lib.hid (next_end D Bx R 0 d wr hDr hBr)
      have Hbr := Lib.hid hbr
      clear hDr hBr hbr
      go_wp2_with fail
      refine HP.out.mono ?_
      rintro e w2 ⟨rfl, hb2⟩
      have Hb2 := Lib.hid hb2
      clear hb2
      go_wp2
      go_ret3
      exact ⟨rfl, below_then Hbr.out Hb2.out⟩
theorem getuint_prog (A : Option Addr) (l : List UInt8) (c a n nx e : Nat) (w : World) (hA : Bys w A l) (hlc : l.length ≤ c) (hl : l.length ≤ 140737488355328) (ha : a ≤ l.length) (hg : GU l a n nx e) :
    Calls Try.prog 65 #[.slice A l.length c, .int .i64 a] w fun e' w' => e' = .returned (.tuple #[.int .i64 n, .int .i64 nx, .int .i64 e]) ∧ Below w.heap.size w w' := by
  rcases Nat.lt_or_ge a l.length with h | h
  · obtain ⟨b, o, rfl, _⟩ := hA.at_ (by omega)
    exact getuint_in b o l c a n nx e w hA hlc hl h hg
  · obtain rfl : a = l.length := by omega
    obtain ⟨rfl, rfl, rfl⟩ := gu_end hg
    exact getuint_end A l.length c w hlc hl

theorem wrap_digit (y x k : Nat) (hy : y < 128 ^ k) (hx : x < 256) (hk : k < 9) : wrap64 ((y : Int) + wrap64 ((x : Int) % 128 * ((128 ^ k : Nat) : Int))) = ((y + x % 128 * 128 ^ k : Nat) : Int) := by
  have h2 : 128 ^ (k + 1) ≤ 128 ^ 9 := Nat.pow_le_pow_right (by omega) (by omega)
  have h3 : 128 ^ k * 128 = 128 ^ (k + 1) := rfl
  have h4 : x % 128 * 128 ^ k ≤ 127 * 128 ^ k := Nat.mul_le_mul_right _ (by omega)
  have e : (x : Int) % 128 * ((128 ^ k : Nat) : Int) = ((x % 128 * 128 ^ k : Nat) : Int) := by simp
  rw [e, IntWalk.wrap64_in ((x % 128 * 128 ^ k : Nat) : Int) (by omega), ← Int.natCast_add]
  exact IntWalk.wrap64_in _ (by omega)

set_option maxRecDepth 4000 in
set_option maxHeartbeats 2000000 in
theorem getuint_ref (A : Option Addr) (l : List UInt8) (c a n nx e : Nat) (w : World) (hA : Bys w A l) (hl : l.length ≤ 140737488355328) (ha : a ≤ l.length) (hg : GU l a n nx e) :
    Calls Try.prog 66 #[.slice A l.length c, .int .i64 a] w fun e' w' => e' = .returned (.tuple #[.int .i64 n, .int .i64 nx, .int .i64 e]) ∧ w = w' := by
  obtain ⟨K, hK9, haK, hcn, hstop⟩ := gu_stop hg
  clear hg
  have q1 : decide ((a : Int) < 0) = false := by simp
  have q2 : decide ((l.length : Int) < (a : Int)) = false := by simp; omega
  have HC := Lib.hid hcn
  have HS := Lib.hid hstop
  have HA := Lib.hid hA
  clear hcn hstop hA
  go_enter Try.func66, Try.ntmps66
  go_wp2
  go_loop [7, 8, 9] (fun s7 s8 s9 => ∃ k : Nat, k ≤ K ∧ s9 = .int .i64 k ∧ s7 = .int .i64 (digN l a k) ∧ ((k < 9 ∧ s8 = .int .i64 ((128 ^ k : Nat) : Int)) ∨ (k = 9 ∧ ∃ z, s8 = .int .i64 z))) (fun _ _ i => 9 - (intOf i).toNat)
  case atStart => exact ⟨0, Nat.zero_le _, rfl, rfl, .inl ⟨by omega, rfl⟩⟩
  case round =>
    obtain ⟨k, hkK, rfl, rfl, h8⟩ := hrel
    have hy := digN_lt l a k
    by_cases hlt : k < K
    · obtain ⟨b, o, rfl, hb, hcl⟩ := HA.out.at_ (by omega)
      have hcx := hcl (a + k) (by omega)
      have hx := HC.out k hlt
      have hbx := byte_nat (l.getD (a + k) 0)
      have Hn := Lib.hid (show digN l a (k + 1) = digN l a k + (l.getD (a + k) 0).toNat % 128 * 128 ^ k from rfl)
      rcases h8 with ⟨hk9, rfl⟩ | ⟨hk9, _⟩
      · generalize (l.getD (a + k) 0).toNat = x at *
        have Hg := Lib.hid (wrap_digit (digN l a k) x k hy hbx hk9)
        have hp : (128 : Nat) ^ k ≤ 72057594037927936 := Nat.pow_le_pow_right (n := 128) (by omega) (show k ≤ 8 by omega)
        have Hp := Lib.hid (show ((128 ^ k : Nat) : Int) * 128 = ((128 ^ (k + 1) : Nat) : Int) by rw [Nat.pow_succ]; omega)
        rw [← Hn.out] at Hg
        have hy' : digN l a k ≤ 9223372036854775807 := by omega
        clear hcl Hn hy
        generalize digN l a k = y at *
        by_cases h8 : k < 8
        · have hp8 : 128 ^ k ≤ 562949953421312 := Nat.pow_le_pow_right (n := 128) (by omega) (show k ≤ 7 by omega)
          generalize 128 ^ k = p at *
          go_wp2
          go_round
          case rel => exact ⟨k + 1, by omega, by go_num, by rw [← Hg.out], .inl ⟨by omega, by rw [← Hp.out]⟩⟩
          case measure => simp [intOf]; omega
        · generalize 128 ^ k = p at *
          go_wp2
          go_round
          case rel => exact ⟨k + 1, by omega, by go_num, by rw [← Hg.out], .inr ⟨by omega, _, rfl⟩⟩
          case measure => simp [intOf]; omega
      · omega
    · obtain rfl : k = K := by omega
      rcases HS.out with ⟨hk, he, rfl, rfl, rfl⟩ | ⟨hk, h0, he, hz, rfl, rfl, rfl⟩ | ⟨rfl, rfl, rfl, rfl⟩ | ⟨hk, he, hx, hz, hn, rfl, rfl⟩
      · clear HS hy
        generalize digN l a k = y at *
        rcases h8 with ⟨_, rfl⟩ | ⟨h9, z, rfl⟩
        · go_wp2
          go_ret3
          exact ⟨rfl, rfl⟩
        · omega
      · obtain ⟨b, o, rfl, hb, hcl⟩ := HA.out.at_ (by omega)
        have hcx := hcl (a + k) (by omega)
        rw [hz] at hcx
        clear HS hz hcl hy
        have hi : decide ((0 : Int) < (k : Int)) = true := by simp; omega
        generalize digN l a k = y at *
        rcases h8 with ⟨_, rfl⟩ | ⟨_, z, rfl⟩
        · generalize 128 ^ k = p at *
          go_wp2
          go_ret3
          exact ⟨rfl, rfl⟩
        · omega
      · clear HS
        generalize digN l a 9 = y at *
        rcases h8 with ⟨h, _⟩ | ⟨_, z, rfl⟩
        · omega
        · go_wp2
          go_ret3
          exact ⟨ret_three rfl rfl rfl, rfl⟩
      · obtain ⟨b, o, rfl, hb, hcl⟩ := HA.out.at_ (by omega)
        have hcx := hcl (a + k) (by omega)
        have hbx := byte_nat (l.getD (a + k) 0)
        rcases h8 with ⟨_, rfl⟩ | ⟨_, z, rfl⟩
        · have Hn := Lib.hid hn
          clear hn HS hcl
          generalize (l.getD (a + k) 0).toNat = x at *
          have Hg := Lib.hid (wrap_digit (digN l a k) x k hy hbx hk)
          clear hy
          rw [← Hn.out] at Hg
          generalize digN l a k = y at *
          generalize 128 ^ k = p at *
          by_cases hx0 : x = 0
          · have hi : k = 0 := hz hx0
            subst hi
            subst hx0
            clear hz
            simp only [Nat.add_zero] at hcx he
            go_wp2
            go_ret3
            exact ⟨ret_three (by simpa [wrap64] using Hg.out) (by omega) rfl, rfl⟩
          · have hxx : ((x : Int) == 0) = false := by rw [beq_eq_false_iff_ne]; omega
            clear hz
            go_wp2
            rw [Hg.out]
            go_ret3
            exact ⟨ret_three rfl (by omega) rfl, rfl⟩
        · omega
end Go.Proofs.Ytiepepikbophmaa
