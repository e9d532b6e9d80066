/- LabelChecks' walk. -/
import Derived.Test.YtgiclapgilppgaaDoorLbLives
import Derived.Test.YtgiclapgilppgaaDoorLbCheckRef
namespace Go.Proofs.YtgiclapgilppgaaDoor
open Go.RowKit
set_option linter.unusedVariables false

theorem labelChecks_walk (w : World) (A : Option Addr) (l : List Lbl) (c : Nat) (hA : Lbls w A l) (hf : LFits l) (hr : l.length * 32 ≤ 140737488351232) (hlc : l.length ≤ c) (s : ByteArray) (hs : s.size ≤ 140737488351232) :
    Calls Tryd.prog 3 #[.slice A l.length c, .string s] w fun e w' => e = .returned (.bool true) ∧ Below w.heap.size w w' := by
  have q1 : (nameB (strL s) == nameB (strL s)) = true := by simp
  have q2 : (lbChk l == lbChk l) = true := by simp
  have HA := Lib.hid hA
  have HF := Lib.hid hf
  have HR := Lib.hid hr
  have HS := Lib.hid hs
  clear hA hf hr hs
  go_enter Tryd.func3, Tryd.ntmps3
  go_wp2_with (first
    | (go_at_call 11; refine (name_prog s _).mono ?_; rintro e w1 ⟨rfl, rfl⟩)
    | (go_at_call 12; refine (name_ref s _ HS.out).mono ?_; rintro e w1 ⟨rfl, rfl⟩)
    | (go_at_call 13; refine (lbchk_prog A l c _ HA.out (by have := HR.out; omega)).mono ?_; rintro e w2 ⟨rfl, hb2⟩; have HB2 := Lib.hid hb2; clear hb2)
    | (go_at_call 14; refine (lbchk_ref A l c _ (HA.out.below HB2.out) (by have := HR.out; omega) HF.out).mono ?_; rintro e w3 ⟨rfl, hb3⟩; have HB3 := Lib.hid (HB2.out.trans (hb3.mono HB2.out.size)); clear hb3)
    | (go_at_call 15; refine (lives_true _).mono ?_; rintro e w4 ⟨rfl, hb4⟩; have HB4 := Lib.hid (HB3.out.trans (hb4.mono HB3.out.size)); clear hb4))
  go_ret
  exact ⟨rfl, HB4.out⟩
end Go.Proofs.YtgiclapgilppgaaDoor
