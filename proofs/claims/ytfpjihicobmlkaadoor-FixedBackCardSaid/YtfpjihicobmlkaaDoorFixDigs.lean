/- Layer 3: whether a text is digits, and may stand ahead of the point, or behind it; a text that is cut at its point. -/
import Derived.Test.YtfpjihicobmlkaaDoorFixOps
import Derived.Test.YtfpjihicobmlkaaDoorNumMath
import Derived.Test.YtfpjihicobmlkaaDoorBitMath
import Derived.Test.YtfpjihicobmlkaaDoorStr
import Derived.Test.YtfpjihicobmlkaaDoorShelf
import Derived.Deep.QuietTactic
import Derived.BigQuiet
namespace Go.Proofs.YtfpjihicobmlkaaDoor
open Go.RowKit
set_option linter.unusedVariables false

/-- A text's bytes. -/
def txl (s : ByteArray) : List UInt8 := s.data.toList
theorem txl_length (s : ByteArray) : (txl s).length = s.size := by
  unfold txl
  rw [Array.length_toList]
  rfl
theorem txl_get (s : ByteArray) {k : Nat} (h : k < s.size) : (txl s).getD k 0 = s[k] := by
  rw [getD_in _ 0 (by rw [txl_length]; exact h)]
  rfl
theorem txl_take (s : ByteArray) {k : Nat} (h : k < s.size) : (txl s).take (k + 1) = (txl s).take k ++ [s[k]] := by
  rw [List.take_succ_eq_append_getElem (by rw [txl_length]; exact h)]
  rfl
theorem txt_txl (s : ByteArray) : txt (txl s) = s := by simp [txt, txl]
theorem txl_txt (l : List UInt8) : txl (txt l) = l := by simp [txt, txl]
theorem txt_size' (l : List UInt8) : (txt l).size = l.length := by simp [txt, ByteArray.size]

theorem ret_bool' {a b : Bool} (h : a = b) : Ending.returned (.bool a) = .returned (.bool b) := by rw [h]
theorem digs_no {s : ByteArray} {k : Nat} (h : k < s.size) (hd : isDig s[k] = false) : digsB (txl s) = false := by
  unfold digsB
  have : (txl s).all isDig = false := by
    rw [List.all_eq_false]
    refine ⟨s[k], ?_, by simp [hd]⟩
    rw [← txl_get s h, getD_in _ 0 (by rw [txl_length]; exact h)]
    exact List.getElem_mem _
  simp [this]
theorem digs_yes {s : ByteArray} (h : (txl s).all isDig = true) : digsB (txl s) = !(txl s).isEmpty := by
  unfold digsB
  rw [h]
  simp

set_option maxHeartbeats 1000000 in
theorem digits_prog (s : ByteArray) (w : World) (hs : s.size ≤ 140737488351232) :
    Calls Tryd.prog 51 #[.string s] w fun e w' => e = .returned (.bool (digsB (txl s))) ∧ w = w' := by
  go_enter Tryd.func51, Tryd.ntmps51
  go_wp2_with fail
  go_loop [6] (fun i => ∃ k : Nat, k ≤ s.size ∧ i = .int .i64 (k : Int) ∧ ((txl s).take k).all isDig = true) (fun i => s.size - (intOf i).toNat)
  case atStart => exact ⟨0, Nat.zero_le _, rfl, by simp⟩
  case round =>
    obtain ⟨k, hk, rfl, hall⟩ := hrel
    by_cases hlt : k < s.size
    · have HT := Lib.hid (txl_take s hlt)
      have HA := Lib.hid hall
      clear hall
      by_cases hd : isDig s[k] = true
      · have hc := dig_of hd
        have c1 : decide ((s[k].toNat : Int) < 48) = false := decide_eq_false (by omega)
        have c2 : decide ((57 : Int) < (s[k].toNat : Int)) = false := decide_eq_false (by omega)
        have HD := Lib.hid hd
        clear hd hc
        go_wp2_with fail
        go_round
        case rel => exact ⟨k + 1, by omega, by go_num, by rw [HT.out, List.all_append, HA.out]; simp [HD.out]⟩
        case measure => simp [intOf]; omega
      · have HN := Lib.hid (digs_no hlt (by simpa using hd))
        have hc : s[k].toNat < 48 ∨ 57 < s[k].toNat := by
          by_cases h1 : s[k].toNat < 48
          · exact .inl h1
          · by_cases h2 : 57 < s[k].toNat
            · exact .inr h2
            · exact absurd (by unfold isDig; simp; omega) hd
        clear hd
        by_cases h1 : s[k].toNat < 48
        · have c1 : decide ((s[k].toNat : Int) < 48) = true := decide_eq_true (by omega)
          clear hc h1
          go_wp2_with fail
          go_ret
          exact ⟨ret_bool' HN.out.symm, rfl⟩
        · have c1 : decide ((s[k].toNat : Int) < 48) = false := decide_eq_false (by omega)
          have c2 : decide ((57 : Int) < (s[k].toNat : Int)) = true := decide_eq_true (by omega)
          clear hc h1
          go_wp2_with fail
          go_ret
          exact ⟨ret_bool' HN.out.symm, rfl⟩
    · have hkk : k = s.size := by omega
      have hall2 : (txl s).all isDig = true := by
        rw [hkk, ← txl_length, List.take_length] at hall
        exact hall
      have HY := Lib.hid (digs_yes hall2)
      clear hall hall2 hkk
      go_wp2_with fail
      go_ret
      refine ⟨ret_bool' ?_, rfl⟩
      rw [HY.out]
      simp [txl, ByteArray.toList_eq]
end Go.Proofs.YtfpjihicobmlkaaDoor
