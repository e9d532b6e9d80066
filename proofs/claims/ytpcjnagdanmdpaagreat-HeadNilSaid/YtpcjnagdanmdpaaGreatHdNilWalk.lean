/- Of no head there is nothing: HeadNil's walk. -/
import Derived.Test.YtpcjnagdanmdpaaGreatHdLotC
import Derived.Test.YtpcjnagdanmdpaaGreatMtRows
import Derived.Test.YtpcjnagdanmdpaaGreatWaOpen
namespace Go.Proofs.YtpcjnagdanmdpaaGreat
open Go.RowKit Go.Maps
open Ch
set_option linter.unusedVariables false
set_option linter.unusedSimpArgs false
set_option maxRecDepth 100000
theorem hdid_nil (v : Value) (w : World) : Calls Tryz.prog 11 #[.pointer none, v] w fun e w' => e = .returned (.tuple #[.int .i64 0, .int .i64 1]) ∧ w' = w := by
  have q := hd_eqnil0
  go_enter Tryz.func11, Tryz.ntmps11
  go_wp2_with fail
  go_ret2
  exact ⟨rfl, rfl⟩
theorem hdlabels_nil (i : Int) (w : World) : Calls Tryz.prog 15 #[.pointer none, .int .i64 i] w fun e w' => e = .returned (.tuple #[.slice none 0 0, .int .i64 1]) ∧ w' = w := by
  have H := hdat_nil i
  go_enter Tryz.func15, Tryz.ntmps15
  go_wp2_with (go_at_call 39; refine (H _).mono ?_; rintro e w2 ⟨rfl, rfl⟩)
  go_ret2
  exact ⟨rfl, rfl⟩
theorem hdfind_nil (v : Value) (w : World) : Calls Tryz.prog 8 #[.pointer none, v] w fun e w' => e = .returned (.tuple #[.slice none 0 0, .int .i64 1]) ∧ w' = w := by
  have q := hd_eqnil0
  go_enter Tryz.func8, Tryz.ntmps8
  go_wp2_with fail
  go_ret2
  exact ⟨rfl, rfl⟩
theorem hdselect_nil (i lo hi : Int) (w : World) : Calls Tryz.prog 17 #[.pointer none, .int .i64 i, .int .i64 lo, .int .i64 hi] w fun e w' => e = .returned (.tuple #[.slice none 0 0, .int .i64 1]) ∧ Below w.heap.size w w' := by
  have H := hdat_nil i
  have HB := Lib.hid (((Below.refl w.heap.size w).alloc (Nat.le_refl _) (.cells #[.int .i64 lo] 3)).alloc (by simp) (.cells #[.int .i64 hi] 3))
  go_enter Tryz.func17, Tryz.ntmps17
  go_wp2_with (go_at_call 39; refine (H _).mono ?_; rintro e w2 ⟨rfl, rfl⟩)
  go_ret2
  exact ⟨rfl, HB.out⟩
theorem hdseries_nil (w : World) : Calls Tryz.prog 20 #[.pointer none] w fun e w' => e = .returned (.slice none 0 0) ∧ w' = w := by
  have q := hd_eqnil0
  go_enter Tryz.func20, Tryz.ntmps20
  go_wp2_with fail
  go_ret
  exact ⟨rfl, rfl⟩
theorem hdcopy_nil (w : World) : Calls Tryz.prog 21 #[.pointer none] w fun e w' => e = .returned (.pointer none) ∧ w' = w := by
  have q := hd_eqnil0
  go_enter Tryz.func21, Tryz.ntmps21
  go_wp2_with fail
  go_ret
  exact ⟨rfl, rfl⟩
theorem hddo_nil (cs : Array Value) (w : World) : Calls Tryz.prog 6 #[.pointer none, .agg cs] w fun e w' => e = .returned (.int .i64 1) ∧ Below w.heap.size w w' := by
  have q := hd_eqnil0
  go_enter Tryz.func6, Tryz.ntmps6
  go_wp2_with fail
  go_ret
  exact ⟨rfl, below_one _ _⟩
set_option maxHeartbeats 4000000 in
theorem headNil_walk (w : World) (p : Pl) (hp : RecIn w p.1 p.2) (hf : RecFit p.1) (x1 : Int) (b1 : -9223372036854775808 ≤ x1 ∧ x1 ≤ 9223372036854775807) (A : Option Addr) (ms : List Mt) (c : Nat) (hA : Mts w A ms) (hmf : MFits ms) (hmr : ms.length * 40 ≤ 140737488351232) (hmc : ms.length ≤ c)
    (A3 : Option Addr) (l3 : List Lbl) (c3 : Nat) (hA3 : Lbls w A3 l3) (hf3 : LFits l3) (hr3 : l3.length * 32 ≤ 140737488351232) (hc3 : l3.length ≤ c3) :
    Calls Tryz.prog 4 #[.agg (plE p).toArray, .int .i64 x1, .slice A ms.length c, .slice A3 l3.length c3] w fun e w' => e = .returned (.bool true) ∧ Below w.heap.size w w' := by
  clear hp hf b1 hA hmf hmr hmc hA3 hf3 hr3 hc3
  obtain ⟨R, m⟩ := p
  simp only [plE, recC]
  obtain ⟨y0, y1, y2, y3, y4, y5⟩ := rec_cells (Row.new w 33 #[.int .i64 R.kind, .slice m.la R.labels.length m.lc, .slice m.ra R.rows.length m.rc, .slice m.ia R.ids.length m.ic, .int .i64 R.low, .int .i64 R.high]) rfl
  have HB := Lib.hid (below_one w (.cells #[.int .i64 R.kind, .slice m.la R.labels.length m.lc, .slice m.ra R.rows.length m.rc, .slice m.ia R.ids.length m.ic, .int .i64 R.low, .int .i64 R.high] 33))
  have HX := Lib.hid (Row.new w 33 #[.int .i64 R.kind, .slice m.la R.labels.length m.lc, .slice m.ra R.rows.length m.rc, .slice m.ia R.ids.length m.ic, .int .i64 R.low, .int .i64 R.high])
  have q := hd_eqnil0
  go_enter Tryz.func4, Tryz.ntmps4
  go_wp2_with (first
    | (go_at_call 11; refine (hdid_nil _ _).mono ?_; rintro e w1 ⟨rfl, rfl⟩)
    | (go_at_call 15; refine (hdlabels_nil _ _).mono ?_; rintro e w1 ⟨rfl, rfl⟩)
    | (go_at_call 16; refine (hdlast_nil _ _).mono ?_; rintro e w1 ⟨rfl, rfl⟩)
    | (go_at_call 8; refine (hdfind_nil _ _).mono ?_; rintro e w1 ⟨rfl, rfl⟩)
    | (go_at_call 17; refine (hdselect_nil _ _ _ _).mono ?_; rintro e w2 ⟨rfl, hb2⟩; have hx2 := HX.out.below hb2 HX.out.lt; obtain ⟨z0, z1, z2, z3, z4, z5⟩ := rec_cells hx2 rfl; have HB2 := Lib.hid (below_then HB.out hb2); clear hb2 hx2)
    | (go_at_call 6; refine (hddo_nil _ _).mono ?_; rintro e w3 ⟨rfl, hb3⟩; have HB3 := Lib.hid (below_then HB2.out hb3); clear hb3)
    | (go_at_call 18; refine (hdlen_nil _).mono ?_; rintro e w1 ⟨rfl, rfl⟩)
    | (go_at_call 19; refine (hdcount_nil _).mono ?_; rintro e w1 ⟨rfl, rfl⟩)
    | (go_at_call 20; refine (hdseries_nil _).mono ?_; rintro e w1 ⟨rfl, rfl⟩)
    | (go_at_call 21; refine (hdcopy_nil _).mono ?_; rintro e w1 ⟨rfl, rfl⟩)
    | (go_at_call 13; refine (hdlives_true _).mono ?_; rintro e w6 ⟨rfl, hb6⟩; have HB6 := Lib.hid (below_then HB3.out hb6); clear hb6))
  go_ret
  exact ⟨rfl, HB6.out⟩
end Go.Proofs.YtpcjnagdanmdpaaGreat
