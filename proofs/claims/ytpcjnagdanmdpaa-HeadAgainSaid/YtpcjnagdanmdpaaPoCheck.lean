/- Whether numbers are a posting list: as the program and as the document's own answer tell it; two rows held against one another; a number looked for. -/
import Derived.Test.YtpcjnagdanmdpaaPoInts
import Derived.Test.YtpcjnagdanmdpaaPoMath
namespace Go.Proofs.Ytpcjnagdanmdpaa
open Go.RowKit Go.Maps
set_option linter.unusedVariables false
theorem po_ret_int {a b : Int} (h : a = b) : Ending.returned (.int .i64 a) = .returned (.int .i64 b) := by rw [h]
theorem po_check_prog (A : Option Addr) (l : List Int) (c : Nat) (w : World) (hA : Zi w A l) (hl : l.length ≤ 281474976710656) :
    Calls Try.prog 74 #[.slice A l.length c] w fun e w' => e = .returned (.int .i64 (pchk l)) ∧ w = w' := by
  have HA := Lib.hid hA
  clear hA
  by_cases hb : 1024 < l.length
  · have i1 : decide ((1024 : Int) < (l.length : Int)) = true := by simp; omega
    have HE := Lib.hid (show pchk l = 3 by unfold pchk; rw [if_pos hb])
    clear hb
    go_enter Try.func74, Try.ntmps74
    go_wp2_with fail
    go_ret
    exact ⟨po_ret_int HE.out.symm, rfl⟩
  · have i1 : decide ((1024 : Int) < (l.length : Int)) = false := by simp; omega
    have HE := Lib.hid (show pchkF (ahead l 0) (l.drop 0) = pchk l by unfold pchk; rw [if_neg hb]; rfl)
    clear hb
    go_enter Try.func74, Try.ntmps74
    go_wp2_with fail
    go_loop [10] (fun i => ∃ k : Nat, k ≤ l.length ∧ i = .int .i64 (k : Int) ∧ pchkF (ahead l k) (l.drop k) = pchk l) (fun i => l.length - (intOf i).toNat)
    case atStart => exact ⟨0, Nat.zero_le _, rfl, HE.out⟩
    case round =>
      obtain ⟨k, hk, rfl, he⟩ := hrel
      by_cases hlt : k < l.length
      · obtain ⟨b, o, rfl, hbl, g0⟩ := HA.out.at_ hlt
        have i2 : (k : Int) < (l.length : Int) := by omega
        by_cases h1 : l.getD k 0 < 0 ∨ 1099511627776 < l.getD k 0
        · have HR := Lib.hid ((pchk_arg l hlt h1).symm.trans he)
          generalize l.getD k 0 = n at *
          by_cases h0 : n < 0
          · have j1 : decide (n < (0 : Int)) = true := decide_eq_true h0
            clear he h1 h0
            go_wp2_with fail
            go_ret
            exact ⟨po_ret_int HR.out, rfl⟩
          · have j1 : decide (n < (0 : Int)) = false := decide_eq_false h0
            have j2 : decide ((1099511627776 : Int) < n) = true := decide_eq_true (by omega)
            clear he h1 h0
            go_wp2_with fail
            go_ret
            exact ⟨po_ret_int HR.out, rfl⟩
        · have j1 : decide (l.getD k 0 < (0 : Int)) = false := decide_eq_false (by omega)
          have j2 : decide ((1099511627776 : Int) < l.getD k 0) = false := decide_eq_false (by omega)
          by_cases hk0 : k = 0
          · have HN := Lib.hid ((pchk_next l hlt h1 (.inl hk0)).symm.trans he)
            subst hk0
            have g1 : w.cell? ⟨b, o, none⟩ = some (.int .i64 (l.getD 0 0)) := g0
            have i3 : (0 : Int) < (l.length : Int) := i2
            clear he h1 g0 i2
            generalize l.getD 0 0 = n at *
            go_wp2_with fail
            exact ⟨⟨1, by omega, by go_num, HN.out⟩, by simp [intOf]; omega⟩
          · have g1 := HA.out.cell (i := k - 1) (by omega)
            have i3 : (1 : Int) ≤ (k : Int) := by omega
            have i4 : decide ((0 : Int) < (k : Int)) = true := decide_eq_true (by omega)
            by_cases ho : l.getD k 0 ≤ l.getD (k - 1) 0
            · have HR := Lib.hid ((pchk_order l hlt h1 hk0 ho).symm.trans he)
              have j3 : decide (l.getD k 0 ≤ l.getD (k - 1) 0) = true := decide_eq_true ho
              clear he h1 ho
              generalize l.getD k 0 = n at *
              generalize l.getD (k - 1) 0 = m at *
              go_wp2_with fail
              go_ret
              exact ⟨po_ret_int HR.out, rfl⟩
            · have HN := Lib.hid ((pchk_next l hlt h1 (.inr (by omega))).symm.trans he)
              have j3 : decide (l.getD k 0 ≤ l.getD (k - 1) 0) = false := decide_eq_false ho
              clear he h1 ho
              generalize l.getD k 0 = n at *
              generalize l.getD (k - 1) 0 = m at *
              go_wp2_with fail
              exact ⟨⟨k + 1, by omega, by go_num, HN.out⟩, by simp [intOf]; omega⟩
      · obtain rfl : k = l.length := by omega
        have HR := Lib.hid ((pchk_end l).symm.trans he)
        clear he
        go_wp2_with fail
        go_ret
        exact ⟨po_ret_int HR.out, rfl⟩
end Go.Proofs.Ytpcjnagdanmdpaa
