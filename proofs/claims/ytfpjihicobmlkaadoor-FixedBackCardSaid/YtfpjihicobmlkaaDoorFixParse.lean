/- Layer 3: a text that is read as a number. -/
import Derived.Test.YtfpjihicobmlkaaDoorFixParts
import Derived.Test.YtfpjihicobmlkaaDoorFixCut
namespace Go.Proofs.YtfpjihicobmlkaaDoor
open Go.RowKit
set_option linter.unusedVariables false

theorem digs_size {s : ByteArray} (h : digsB (txl s) = true) : 0 < s.size := by
  unfold digsB at h
  simp only [Bool.and_eq_true, Bool.not_eq_true'] at h
  rw [← txl_length]
  cases hl : txl s with
  | nil => rw [hl] at h; simp at h
  | cons c r => simp
theorem head_is {s : ByteArray} (h : 0 < s.size) : (txl s).head? = some s[0] := by
  have e := txl_get s h
  have hl : 0 < (txl s).length := by rw [txl_length]; exact h
  rw [getD_in _ 0 hl] at e
  rw [List.head?_eq_getElem?, List.getElem?_eq_getElem hl, e]
theorem last_is {s : ByteArray} (h : 0 < s.size) : (txl s).getLast? = some (s[s.size - 1]'(by omega)) := by
  have e := txl_get s (k := s.size - 1) (by omega)
  have hl : s.size - 1 < (txl s).length := by rw [txl_length]; omega
  rw [getD_in _ 0 hl] at e
  rw [List.getLast?_eq_getElem?, txl_length, List.getElem?_eq_getElem hl, e]
theorem byte_ne {c : UInt8} (h : c ≠ 48) : ((c.toNat : Int) != 48) = true := by
  rw [bne_iff_ne]
  intro e
  exact h (UInt8.toNat_inj.1 (by show c.toNat = 48; omega))
theorem byte_is {c : UInt8} (h : c = 48) : ((c.toNat : Int) != 48) = false := by
  subst h
  rfl

theorem whole_prog (s : ByteArray) (w : World) (hs : s.size ≤ 140737488351232) :
    Calls Tryd.prog 40 #[.string s] w fun e w' => e = .returned (.bool (wholeB (txl s))) ∧ w = w' := by
  have HD := digits_prog s w hs
  cases hd : digsB (txl s)
  · rw [show wholeB (txl s) = false from by unfold wholeB; rw [hd]; rfl]
    rw [hd] at HD
    clear hd
    go_enter Tryd.func40, Tryd.ntmps40
    go_wp2_with fail
    refine HD.mono ?_
    rintro e w1 ⟨rfl, rfl⟩
    go_wp2
    go_ret
    exact ⟨rfl, rfl⟩
  · have hz := digs_size hd
    have hh := head_is hz
    rw [show wholeB (txl s) = (decide (s[0] ≠ 48) || decide (s.size = 1)) from by unfold wholeB; rw [hd, hh, txl_length]; simp]
    rw [hd] at HD
    clear hd hh
    by_cases hc : s[0] = 48
    · have q := byte_is hc
      rw [show decide (s[0] ≠ 48) = false from decide_eq_false (by simpa using hc), Bool.false_or]
      clear hc
      go_enter Tryd.func40, Tryd.ntmps40
      go_wp2_with fail
      refine HD.mono ?_
      rintro e w1 ⟨rfl, rfl⟩
      go_wp2
      all_goals
        go_ret
        refine ⟨ret_bool' ?_, rfl⟩
        rw [Bool.eq_iff_iff]
        simp
        try omega
    · have q := byte_ne hc
      rw [show decide (s[0] ≠ 48) = true from decide_eq_true hc, Bool.true_or]
      clear hc
      go_enter Tryd.func40, Tryd.ntmps40
      go_wp2_with fail
      refine HD.mono ?_
      rintro e w1 ⟨rfl, rfl⟩
      go_wp2
      go_ret
      exact ⟨rfl, rfl⟩

theorem behind_is_prog (s : ByteArray) (w : World) (hs : s.size ≤ 140737488351232) :
    Calls Tryd.prog 41 #[.string s] w fun e w' => e = .returned (.bool (behindB (txl s))) ∧ w = w' := by
  have HD := digits_prog s w hs
  cases hd : digsB (txl s)
  · rw [show behindB (txl s) = false from by unfold behindB; rw [hd]; rfl]
    rw [hd] at HD
    clear hd
    go_enter Tryd.func41, Tryd.ntmps41
    go_wp2_with fail
    refine HD.mono ?_
    rintro e w1 ⟨rfl, rfl⟩
    go_wp2
    go_ret
    exact ⟨rfl, rfl⟩
  · have hz := digs_size hd
    have hh := last_is hz
    rw [show behindB (txl s) = (decide (s.size ≤ 6) && decide ((s[s.size - 1]'(by omega)) ≠ 48)) from by unfold behindB; rw [hd, hh, txl_length]; simp]
    rw [hd] at HD
    clear hd hh
    by_cases h6 : s.size ≤ 6
    · rw [show decide (s.size ≤ 6) = true from decide_eq_true h6, Bool.true_and]
      have q6 : decide ((s.size : Int) ≤ 6) = true := decide_eq_true (by omega)
      have i1 : (s.size : Int) - 1 = ((s.size - 1 : Nat) : Int) := by omega
      have i2 : s.size - 1 < s.size := by omega
      by_cases hc : (s[s.size - 1]'(by omega)) = 48
      · have q := byte_is hc
        rw [show decide ((s[s.size - 1]'(by omega)) ≠ 48) = false from decide_eq_false (by simpa using hc)]
        clear hc
        go_enter Tryd.func41, Tryd.ntmps41
        go_wp2_with fail
        refine HD.mono ?_
        rintro e w1 ⟨rfl, rfl⟩
        go_wp2
        go_ret
        exact ⟨rfl, rfl⟩
      · have q := byte_ne hc
        rw [show decide ((s[s.size - 1]'(by omega)) ≠ 48) = true from decide_eq_true hc]
        clear hc
        go_enter Tryd.func41, Tryd.ntmps41
        go_wp2_with fail
        refine HD.mono ?_
        rintro e w1 ⟨rfl, rfl⟩
        go_wp2
        go_ret
        exact ⟨rfl, rfl⟩
    · rw [show decide (s.size ≤ 6) = false from decide_eq_false h6, Bool.false_and]
      have q6 : decide ((s.size : Int) ≤ 6) = false := decide_eq_false (by omega)
      go_enter Tryd.func41, Tryd.ntmps41
      go_wp2_with fail
      refine HD.mono ?_
      rintro e w1 ⟨rfl, rfl⟩
      go_wp2
      go_ret
      exact ⟨rfl, rfl⟩
end Go.Proofs.YtfpjihicobmlkaaDoor
