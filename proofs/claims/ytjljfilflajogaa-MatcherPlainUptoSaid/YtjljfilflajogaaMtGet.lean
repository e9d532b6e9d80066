/- The value of a name, as the program and as the document's own answer look for it. -/
import Derived.Test.YtjljfilflajogaaMtMath
import Derived.Test.YtjljfilflajogaaLbRows
import Derived.BigRegion
namespace Go.Proofs.Ytjljfilflajogaa
open Go.RowKit
set_option linter.unusedVariables false

theorem val_eq {l : List Lbl} {name : ByteArray} {k : Nat} (hk : k < l.length) (h : nmOf l k = name) : valOf (l.drop k) name = vlOf l k := by
  rw [List.drop_eq_getElem_cons hk, valOf]
  have e : l[k] = l.getD k lbl0 := by simp [List.getD, List.getElem?_eq_getElem hk]
  rw [e]
  exact if_pos h
theorem val_ne {l : List Lbl} {name : ByteArray} {k : Nat} (hk : k < l.length) (h : nmOf l k ≠ name) : valOf (l.drop k) name = valOf (l.drop (k + 1)) name := by
  rw [List.drop_eq_getElem_cons hk, valOf]
  have e : l[k] = l.getD k lbl0 := by simp [List.getD, List.getElem?_eq_getElem hk]
  rw [e]
  exact if_neg h
theorem ret_strv {a b : ByteArray} (h : a = b) : Ending.returned (.string a) = .returned (.string b) := by rw [h]
theorem get_prog (A : Option Addr) (l : List Lbl) (c : Nat) (name : ByteArray) (w : World) (hA : Lbls w A l) (hl : l.length ≤ 100000000000000) :
    Calls Try.prog 47 #[.slice A l.length c, .string name] w fun e w' => e = .returned (.string (valOf l name)) ∧ Below w.heap.size w w' := by
  have HA := Lib.hid hA
  clear hA
  go_enter Try.func47, Try.ntmps47
  go_wp2_with fail
  go_loopw [9] (fun i wr => ∃ k : Nat, k ≤ l.length ∧ i = .int .i64 (k : Int) ∧ valOf (l.drop k) name = valOf l name ∧ Below w.heap.size w wr) (fun i _ => l.length - (intOf i).toNat)
  case atStart => exact ⟨0, Nat.zero_le _, rfl, rfl, Below.refl _ _⟩
  case round =>
    obtain ⟨k, hk, rfl, he, hbr⟩ := hrel
    by_cases hlt : k < l.length
    · obtain ⟨b, o, rfl, hb, g0, g1⟩ := HA.out.at_ hlt
      have c0 := (hbr.cell (p := ⟨b, o + k * 2, none⟩) hb).trans g0
      have c1 := (hbr.cell (p := ⟨b, o + k * 2 + 1, none⟩) hb).trans g1
      have i2 : (k : Int) < (l.length : Int) := by omega
      have hq := eqT (nmOf l k) name
      have HB := Lib.hid (hbr.alloc hbr.size (.cells #[.string (nmOf l k), .string (vlOf l k)] 63))
      clear g0 g1 hbr
      by_cases h : nmOf l k = name
      · have HE := Lib.hid ((val_eq hlt h).symm.trans he)
        rw [decide_eq_true h] at hq
        clear he h
        go_wp2_with fail
        go_ret
        exact ⟨ret_strv HE.out, HB.out⟩
      · have HE := Lib.hid ((val_ne hlt h).symm.trans he)
        rw [decide_eq_false h] at hq
        clear he h
        go_wp2_with fail
        go_roundw
        case rel => exact ⟨k + 1, by omega, by go_num, HE.out, HB.out⟩
        case measure => simp [intOf]; omega
    · obtain rfl : k = l.length := by omega
      rw [List.drop_length] at he
      have HE := Lib.hid (show (⟨#[]⟩ : ByteArray) = valOf l name from he)
      clear he
      go_wp2_with fail
      go_ret
      exact ⟨ret_strv HE.out, hbr⟩
end Go.Proofs.Ytjljfilflajogaa
