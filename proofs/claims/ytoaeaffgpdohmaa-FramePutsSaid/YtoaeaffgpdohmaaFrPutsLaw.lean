/- The law of frames that are laid down: a walk of it. -/
import Derived.Test.YtoaeaffgpdohmaaFrKept
import Derived.Test.YtoaeaffgpdohmaaFrPut
namespace Go.Proofs.Ytoaeaffgpdohmaa
open Go.RowKit
set_option linter.unusedVariables false

theorem same_no (x : ByteArray) : (x.toList != x.toList) = false := by simp
set_option maxHeartbeats 1000000 in
theorem puts_go (A : Option Addr) (l : List UInt8) (c : Nat) (V : Option Addr) (x : List UInt8) (cx : Nat) (E : Int) (L : List UInt8) (w : World) (hA : Bys w A l) (hV : Bys w V x) (hr : l.length ≤ 140737488351232) (hx : x.length ≤ 140737488351232) (hL : L.length ≤ 281474976710656)
    (hp : ∀ A' cc V' cx' W, Bys W A' l → Bys W V' x → Calls Try.prog 27 #[.slice A' l.length cc, .slice V' x.length cx'] W fun e w' => ∃ v, e = .returned (.tuple #[v, .int .i64 E]) ∧ Own w' W.heap.size v L ∧ Below W.heap.size W w')
    (hq : ∀ A' cc V' cx' W, Bys W A' l → Bys W V' x → Calls Try.prog 28 #[.slice A' l.length cc, .slice V' x.length cx'] W fun e w' => ∃ v, e = .returned (.tuple #[v, .int .i64 E]) ∧ Own w' W.heap.size v L ∧ Below W.heap.size W w') :
    Calls Try.prog 6 #[.slice A l.length c, .slice V x.length cx] w fun e w' => e = .returned (.bool true) ∧ Below w.heap.size w w' := by
  have Hp := Lib.hid hp
  have Hq := Lib.hid hq
  clear hp hq
  go_enter Try.func6, Try.ntmps6
  go_wp2_with fail
  refine (lent_law A l c w hA hr).mono ?_
  rintro e w1 ⟨G, cap, rfl, hG, hcap, hmax, hGw, hb1⟩
  go_wp2_with fail
  refine (lent_law V x cx w1 (hV.below hb1) hx).mono ?_
  rintro e w2 ⟨G2, cap2, rfl, hG2, hcap2, hmax2, hGw2, hb2⟩
  have hb12 := below_then hb1 hb2
  have hs2 := hb2.size
  have hs1 := hb1.size
  go_wp2_with fail
  refine (Hp.out (some ⟨G, 0, none⟩) cap (some ⟨G2, 0, none⟩) cap2 w2 (bys_front (hG.below hb2)) (bys_front hG2)).mono ?_
  rintro e w3 ⟨v, rfl, hv, hb3⟩
  obtain ⟨B, d, rfl, hB, _⟩ := own_slice' hv
  have hb13 := below_then hb12 hb3
  have hs3 := hb3.size
  have Hv := Lib.hid hv
  clear hv
  go_wp2_with fail
  refine (Hq.out A c V cx w3 (hA.below hb13) (hV.below hb13)).mono ?_
  rintro e w4 ⟨u, rfl, hu, hb4⟩
  obtain ⟨C, f, rfl, hC, _⟩ := own_slice' hu
  have c1 := conv_bys w4 B L d (hB.below hb4)
  have c2 := conv_bys w4 C L f hC
  have q := same_no (txt L)
  have Hb4 := Lib.hid hb4
  clear hu hC hB hb4
  go_wp2_with fail
  refine (spoil_law _ L w2.heap.size w4 (own_below Hv.out Hb4.out) hL).mono ?_
  rintro e w5 ⟨rfl, _, _, hb5⟩
  have hb25 : Below w2.heap.size w2 w5 := (hb3.trans (Hb4.out.mono hs3)).trans hb5
  have hbw5 : Below w.heap.size w w5 := hb12.trans (hb25.mono (by omega))
  clear c1 c2
  go_wp2_with fail
  refine (kept_law A l c G cap w5 (hA.below hbw5) ((hG.below hb2).below hb25) hcap hr).mono ?_
  rintro e w6 ⟨rfl, hb6⟩
  have hbw6 := below_then hbw5 hb6
  go_wp2_with fail
  refine (kept_law V x cx G2 cap2 w6 (hV.below hbw6) ((hG2.below hb25).below hb6) hcap2 hx).mono ?_
  rintro e w7 ⟨rfl, hb7⟩
  go_wp2_with fail
  refine (lives_true w7).mono ?_
  rintro e w8 ⟨rfl, hb8⟩
  go_wp2
  go_ret
  exact ⟨rfl, below_then (below_then hbw6 hb7) hb8⟩

theorem framePuts_walk (w : World) (A : Option Addr) (l : List UInt8) (c : Nat) (hA : Bys w A l) (hr : l.length ≤ 140737488351232) (hlc : l.length ≤ c)
    (V : Option Addr) (x : List UInt8) (cx : Nat) (hV : Bys w V x) (hx : x.length ≤ 140737488351232) (hxc : x.length ≤ cx) :
    Calls Try.prog 6 #[.slice A l.length c, .slice V x.length cx] w fun e w' => e = .returned (.bool true) ∧ Below w.heap.size w w' := by
  by_cases h : x.length ≤ 65535
  · refine puts_go A l c V x cx 0 (l ++ frameL x) w hA hV hr hx (by rw [List.length_append, frameL_length]; omega) (fun A' cc V' cx' W hA' hV' => put_prog A' l cc V' x cx' W hA' hV' (by omega) h) (fun A' cc V' cx' W hA' hV' => put_ref A' l cc V' x cx' W hA' hV' (by omega) h)
  · refine puts_go A l c V x cx 3 [] w hA hV hr hx (by simp) (fun A' cc V' cx' W hA' hV' => ?_) (fun A' cc V' cx' W hA' hV' => ?_)
    · refine (put_big A' V' l.length cc x.length cx' W (by omega) (by omega)).mono ?_
      rintro e w' ⟨rfl, rfl⟩
      exact ⟨_, rfl, own_nil _ _, Below.refl _ _⟩
    · refine (put_ref_big A' V' l.length cc x.length cx' W (by omega) (by omega)).mono ?_
      rintro e w' ⟨rfl, rfl⟩
      exact ⟨_, rfl, own_nil _ _, Below.refl _ _⟩
end Go.Proofs.Ytoaeaffgpdohmaa
