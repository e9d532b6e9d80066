/- Of no block there is nothing: BlockNil's walk. -/
import Derived.Test.YtgdmcnoogacdaaaGreatDoorBlLives
import Derived.Test.YtgdmcnoogacdaaaGreatDoorBlLotMt
namespace Go.Proofs.YtgdmcnoogacdaaaGreatDoor
open Go.RowKit Go.Maps
set_option linter.unusedVariables false
set_option maxRecDepth 100000
set_option maxHeartbeats 4000000 in
theorem blockNil_walk (w : World) (hD : Door w) (x0 : Int) (b0 : -9223372036854775808 ≤ x0 ∧ x0 ≤ 9223372036854775807) (x1 : Int) (b1 : -9223372036854775808 ≤ x1 ∧ x1 ≤ 9223372036854775807) (A : Option Addr) (l : List Mt) (c : Nat) (hA : Mts w A l) (hf : MFits l) (hr : l.length * 40 ≤ 140737488351232) (hlc : l.length ≤ c) :
    Calls Tryz.prog 9 #[.int .i64 x0, .int .i64 x1, .slice A l.length c] w fun e w' => e = .returned (.bool true) ∧ Below w.heap.size w w' := by
  clear hA hf hr hlc b0 b1
  have H1 := Lib.hid (fun x => blbounds_nil x)
  have H2 := Lib.hid (fun x => bllabels_nil x0 x)
  have H3 := Lib.hid (fun x => blfind_nil (.slice A l.length c) x)
  have H4 := Lib.hid (fun x => blselect_nil x0 x1 x1 x)
  have H5 := Lib.hid (fun x => bllen_nil x)
  have H6 := Lib.hid (fun x => blcount_nil x)
  have H7 := Lib.hid (fun x => blall_nil x)
  have HX := Lib.hid (fun x hx => blLives_true x hx)
  have HD := Lib.hid hD
  clear hD
  generalize l.length = n at *
  go_enter Tryz.func9, Tryz.ntmps9
  go_wp2_with fail
  refine (H1.out _).mono ?_
  rintro e w1 ⟨rfl, hb1⟩
  have HB1 := Lib.hid hb1
  clear hb1
  go_wp2_with fail
  refine (H2.out _).mono ?_
  rintro e w2 ⟨rfl, hb2⟩
  have HB2 := Lib.hid (below_then HB1.out hb2)
  clear hb2
  go_wp2_with fail
  refine (H3.out _).mono ?_
  rintro e w3 ⟨rfl, hb3⟩
  have HB3 := Lib.hid (below_then HB2.out hb3)
  clear hb3
  go_wp2_with fail
  refine (H4.out _).mono ?_
  rintro e w4 ⟨rfl, hb4⟩
  have HB4 := Lib.hid (below_then HB3.out hb4)
  clear hb4
  go_wp2_with fail
  refine (H5.out _).mono ?_
  rintro e w5 ⟨rfl, hb5⟩
  have HB5 := Lib.hid (below_then HB4.out hb5)
  clear hb5
  go_wp2_with fail
  refine (H6.out _).mono ?_
  rintro e w6 ⟨rfl, hb6⟩
  have HB6 := Lib.hid (below_then HB5.out hb6)
  clear hb6
  go_wp2_with fail
  refine (H7.out _).mono ?_
  rintro e w7 ⟨rfl, hb7⟩
  have HB7 := Lib.hid (below_then HB6.out hb7)
  clear hb7
  go_wp2_with fail
  refine (HX.out _ (HD.out.below HB7.out)).mono ?_
  rintro e w8 ⟨rfl, hb8⟩
  have HB8 := Lib.hid (below_then HB7.out hb8)
  clear hb8
  go_wp2
  go_ret
  exact ⟨rfl, HB8.out⟩
end Go.Proofs.YtgdmcnoogacdaaaGreatDoor
