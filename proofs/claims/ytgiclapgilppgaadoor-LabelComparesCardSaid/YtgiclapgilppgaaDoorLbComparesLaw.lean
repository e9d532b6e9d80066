/- LabelCompares' walk. -/
import Derived.Test.YtgiclapgilppgaaDoorLbLives
import Derived.Test.YtgiclapgilppgaaDoorLbCmp2
namespace Go.Proofs.YtgiclapgilppgaaDoor
open Go.RowKit
set_option linter.unusedVariables false

theorem labelCompares_walk (w : World) (A : Option Addr) (l : List Lbl) (c : Nat) (hA : Lbls w A l) (hf : LFits l) (hr : l.length * 32 ≤ 140737488351232) (hlc : l.length ≤ c)
    (B : Option Addr) (m : List Lbl) (d : Nat) (hB : Lbls w B m) (hg : LFits m) (hq : m.length * 32 ≤ 140737488351232) (hmd : m.length ≤ d) :
    Calls Tryd.prog 5 #[.slice A l.length c, .slice B m.length d] w fun e w' => e = .returned (.bool true) ∧ Below w.heap.size w w' := by
  have q2 : (cmpLs l m == cmpLs l m) = true := by simp
  have H1 := Lib.hid (compare_prog A B l m c d w hA hB (by omega) (by omega))
  have H2 := Lib.hid (fun W (h : Below w.heap.size w W) => compare_ref A B l m c d W (hA.below h) (hB.below h) (by omega) (by omega))
  clear hA hB hf hg
  generalize cmpLs l m = C at *
  go_enter Tryd.func5, Tryd.ntmps5
  go_wp2_with (first
    | (go_at_call 24; refine H1.out.mono ?_; rintro e w2 ⟨rfl, hb2⟩; have HB2 := Lib.hid hb2; clear hb2)
    | (go_at_call 25; refine (H2.out _ HB2.out).mono ?_; rintro e w3 ⟨rfl, hb3⟩; have HB3 := Lib.hid (HB2.out.trans (hb3.mono HB2.out.size)); clear hb3)
    | (go_at_call 15; refine (lives_true _).mono ?_; rintro e w4 ⟨rfl, hb4⟩; have HB4 := Lib.hid (HB3.out.trans (hb4.mono HB3.out.size)); clear hb4))
  go_ret
  exact ⟨rfl, HB4.out⟩
end Go.Proofs.YtgiclapgilppgaaDoor
