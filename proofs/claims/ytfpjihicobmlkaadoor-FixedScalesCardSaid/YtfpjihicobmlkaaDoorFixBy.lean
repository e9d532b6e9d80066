/- Layer 3: the document's own division, by hand, a bit at a time. -/
import Derived.Test.YtfpjihicobmlkaaDoorFixQuo
import Derived.Test.YtfpjihicobmlkaaDoorDigMath
import Derived.Test.YtfpjihicobmlkaaDoorMem
import Derived.Deep.QuietTactic
import Derived.BigQuiet
namespace Go.Proofs.YtfpjihicobmlkaaDoor
open Go.RowKit
set_option linter.unusedVariables false

/-- A row of numbers as cells. -/
def icells (l : List Nat) : Array Value := (l.map fun (x : Nat) => Value.int .i64 (x : Int)).toArray
theorem icells_size (l : List Nat) : (icells l).size = l.length := by simp [icells]
theorem icells_get (l : List Nat) (i : Nat) (h : i < l.length) : (icells l)[i]? = some (.int .i64 ((l.getD i 0 : Nat) : Int)) := by
  simp [icells, h]
theorem icells_set (l : List Nat) (i x : Nat) : (icells l).setIfInBounds i (.int .i64 (x : Int)) = icells (l.set i x) := by
  simp [icells]

theorem ret_ints {a b : Int} {v : Value} (h : a = b) : Ending.returned (.tuple #[.int .i64 a, v]) = .returned (.tuple #[.int .i64 b, v]) := by rw [h]

theorem i64_eq {a b : Int} (h : a = b) : Value.int .i64 a = Value.int .i64 b := by rw [h]
/-- What the division answers: that it fits, and then the quotient. -/
def ByEnd (N b : Nat) (w : World) (e : Ending) (w' : World) : Prop :=
  ∃ (q : Int) (ok : Bool), e = .returned (.tuple #[.int .i64 q, .bool ok]) ∧ ok = decide (N / b ≤ 1152921504606846976) ∧ (ok = true → q = ((N / b : Nat) : Int)) ∧ w = w'

theorem by_over {N b q r P : Nat} (hb : 0 < b) (h : q * b + r = P) (hP : 2 * P ≤ N) (hq : 576460752303423488 < q) : ¬ N / b ≤ 1152921504606846976 := by
  have h1 : 2 * q ≤ N / b := by
    refine le_div _ _ _ hb ?_
    rw [Nat.mul_assoc]
    omega
  omega

set_option maxHeartbeats 2000000 in
theorem by_ref (g c b : Nat) (l : List Nat) (w : World) (hw : Row w g 3 (icells l)) (hl : l.length = 9) (hd : ∀ j, l.getD j 0 < 1048576) (hb : 0 < b) (hbb : b ≤ 1152921504606846976) :
    Calls Tryd.prog 46 #[.slice (some ⟨g, 0, none⟩) 9 c, .int .i64 (b : Int)] w (ByEnd (val l) b w) := by
  go_enter Tryd.func46, Tryd.ntmps46
  go_wp2
  go_loop [6, 7, 8] (fun q r i => ∃ k a m : Nat, k ≤ 9 ∧ i = .int .i64 ((k : Int) - 1) ∧ q = .int .i64 (a : Int) ∧ r = .int .i64 (m : Int) ∧ a ≤ 1152921504606846977 ∧ m < b ∧ a * b + m = val (l.drop k)) (fun _ _ i => (intOf i + 1).toNat)
  case atStart => exact ⟨9, 0, 0, by omega, rfl, rfl, rfl, by omega, hb, by rw [List.drop_eq_nil_of_le (by omega)]; simp [val]⟩
  case round =>
    obtain ⟨k, a, m, hk, rfl, rfl, rfl, ha, hm, hs⟩ := hrel
    rcases Nat.eq_zero_or_pos k with h0 | h0
    · subst h0
      rw [List.drop_zero] at hs
      have hq : val l / b = a := by
        rw [← hs, Nat.mul_comm, Nat.mul_add_div hb, Nat.div_eq_of_lt hm, Nat.add_zero]
      have H := Lib.hid hq
      clear hs hq
      rw [show (((0 : Nat) : Int) - 1) = -1 from rfl]
      go_wp2
      go_ret2
      refine ⟨a, decide ((a : Int) ≤ 1152921504606846976), rfl, ?_, fun _ => by rw [H.out], rfl⟩
      rw [H.out, Bool.eq_iff_iff]
      simp
      omega
    · obtain ⟨i, rfl⟩ : ∃ i, k = i + 1 := ⟨k - 1, by omega⟩
      rw [show (((i + 1 : Nat) : Int) - 1) = (i : Int) from by omega]
      have hdd := hd i
      have hcell := (hw.cell i).trans (icells_get l i (by omega))
      have hnext := Lib.hid (val_drop l i (by omega))
      have hle := Lib.hid (val_drop_le l i)
      have H0 := Lib.hid hs
      generalize val (l.drop (i + 1)) = P at *
      generalize l.getD i 0 = d at *
      have hi9 : i < 9 := by omega
      have hrd := Lib.hid (read_zero (P := P) hdd)
      clear hs
      go_wp2
      go_loop [6, 7, 9] (fun q r x => ∃ j a m : Nat, j ≤ 20 ∧ x = .int .i64 ((524288 / 2 ^ j : Nat) : Int) ∧ q = .int .i64 (a : Int) ∧ r = .int .i64 (m : Int) ∧ a ≤ 1152921504606846977 ∧ m < b ∧ a * b + m = read P d j) (fun _ _ x => (intOf x).toNat)
      case atStart => exact ⟨0, a, m, by omega, rfl, rfl, rfl, ha, hm, by rw [H0.out, hrd.out]⟩
      case round =>
        clear ha hm H0 hrd
        obtain ⟨j, a', m', hj, rfl, rfl, rfl, ha', hm', hs'⟩ := hrel
        by_cases hlt : j < 20
        · have hp := half_pos hlt
          have hpl := half_le j
          have hq : ((d : Int) / ((524288 / 2 ^ j : Nat) : Int)) = ((d / (524288 / 2 ^ j) : Nat) : Int) := rfl
          have hn := read_next (P := P) (d := d) hlt
          have h2 := Lib.hid (read_twice (P := P) (d := d) hlt)
          have hdl := Nat.div_le_self d (524288 / 2 ^ j)
          have hw2 : (((524288 / 2 ^ j : Nat) : Int)) / 2 = ((524288 / 2 ^ (j + 1) : Nat) : Int) := by
            rw [← half_less]
            omega
          have hWl : 524288 / 2 ^ (j + 1) < 524288 / 2 ^ j := by rw [← half_less]; omega
          generalize d / (524288 / 2 ^ j) = x at *
          generalize 524288 / 2 ^ j = W at *
          obtain ⟨W1, hW1⟩ : ∃ W1, W1 = 524288 / 2 ^ (j + 1) := ⟨_, rfl⟩
          rw [← hW1] at hw2 hWl
          have HW1 := Lib.hid hW1
          clear hW1
          obtain ⟨t, ht⟩ : ∃ t, t = x % 2 := ⟨_, rfl⟩
          have ht2 : t < 2 := by omega
          have hxt : (x : Int) % 2 = (t : Int) := by omega
          rw [← ht] at hn
          have HN := Lib.hid hn
          have HS := Lib.hid hs'
          clear hn hs' ht hd
          by_cases hfar : 576460752303423488 < a'
          · have hov := by_over hb HS.out (show 2 * read P d j ≤ val l by have := h2.out; have := hle.out; have := hnext.out; omega) hfar
            have HO := Lib.hid hov
            clear hov
            go_wp2
            all_goals
              go_ret2
              refine ⟨0, false, rfl, ?_, fun h => (by cases h), rfl⟩
              rw [eq_comm, decide_eq_false_iff_not]
              exact HO.out
          · have hwl := Lib.hid hWl
            by_cases hge : b ≤ 2 * m' + t
            · go_wp2
              go_round
              case rel => exact ⟨j + 1, 2 * a' + 1, 2 * m' + t - b, by omega, by rw [← HW1.out], i64_eq (by omega), i64_eq (by omega), by omega, by omega, by rw [HN.out, ← HS.out, Nat.add_mul, Nat.mul_assoc]; omega⟩
              case measure => simp [intOf]; have := hwl.out; omega
            · go_wp2
              go_round
              case rel => exact ⟨j + 1, 2 * a', 2 * m' + t, by omega, by rw [← HW1.out], i64_eq (by omega), i64_eq (by omega), by omega, by omega, by rw [HN.out, ← HS.out, Nat.mul_assoc]; omega⟩
              case measure => simp [intOf]; have := hwl.out; omega
        · obtain rfl : j = 20 := by omega
          rw [half_end (by omega), read_all] at *
          have HS := Lib.hid (hs'.trans hnext.out.symm)
          clear hs'
          go_wp2
          go_round
          case rel => exact ⟨i, a', m', by omega, i64_eq (by omega), rfl, rfl, ha', hm', HS.out⟩
          case measure => simp [intOf]
end Go.Proofs.YtfpjihicobmlkaaDoor
