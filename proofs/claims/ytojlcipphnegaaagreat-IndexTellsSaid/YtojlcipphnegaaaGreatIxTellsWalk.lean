/- What an index tells beside the document's own answers: a walk of the law. -/
import Derived.Test.YtojlcipphnegaaaGreatIxFindsWalk
import Derived.Test.YtojlcipphnegaaaGreatIxSpoil
import Derived.Test.YtojlcipphnegaaaGreatIxTold
namespace Go.Proofs.YtojlcipphnegaaaGreat
open Go.RowKit Go.Maps
set_option linter.unusedVariables false
theorem lw_of {w : World} {base : Nat} {P : Option Addr} {n c : Nat} {l : List Lbl} (h : OwnL w base (.slice P n c) l) (hn : 0 < n) : ∃ g cs, P = some ⟨g, 0, none⟩ ∧ base ≤ g ∧ Row w g 35 cs ∧ 2 ≤ cs.size := by
  obtain ⟨P', c', e, _⟩ := ownl_slice h
  have hnl : n = l.length := (Value.slice.inj e).2.1
  rcases h.2 with ⟨e, h0⟩ | ⟨g, cap, cur, hv, hg, hh, hnc, hcm, hcs, htk⟩
  · omega
  · injection hv with e1 _ _
    refine ⟨g, cur, e1, hg, hh, ?_⟩
    have hlen := flat_len lblE 2 lblE_len l
    have := congrArg List.length htk
    rw [List.length_take, hlen, Array.length_toList] at this
    omega
set_option maxHeartbeats 4000000 in
set_option maxRecDepth 100000 in
theorem indexTells_walk (w : World) (V : Option Addr) (ss : List (List Lbl)) (cs : Nat) (hV : Sets w V ss) (hL : ∀ l ∈ ss, LFits l ∧ l.length * 32 ≤ 140737488351232) (hR : ss.length * 24 ≤ 140737488351232) (hC : ss.length ≤ cs)
    (id : Int) (hid : -9223372036854775808 ≤ id ∧ id ≤ 9223372036854775807) (name : ByteArray) (hs : name.size ≤ reachBytes) :
    Calls Tryz.prog 3 #[.slice V ss.length cs, .int .i64 id, .string name] w fun e w' => e = .returned (.bool true) ∧ Below w.heap.size w w' := by
  have HLV := Lib.hid (fun x => ixLives_true x)
  have HO := Lib.hid (ixown_law V ss cs w hV (by omega) (fun l hl => (hL l hl).2))
  have HCK := Lib.hid (fun x (h : Below w.heap.size w x) => ixcheck_told V ss cs x (hV.below h) (by omega) hL)
  have hll := sets_ll hL
  by_cases hz : ixChk ss = 0
  · have HN := Lib.hid (fun P c x (h : Sets x P ss) => (new_prog P ss c x h (by omega) hll).mono fun e w' h => new_yes hz h)
    have HTD := Lib.hid (fun X bs x (h : IdxAt x bs X ss) (hb : Below w.heap.size w x) => told_prog X ss bs V cs id hid name x h hz (hV.below hb))
    have HLY := Lib.hid (fun X bs x (h : IdxAt x bs X ss) k (hk : k < ss.length) => labels_yes X ss bs x h hz k hk)
    have HLN := Lib.hid (fun X bs x (h : IdxAt x bs X ss) (hk : id < 0 ∨ (ss.length : Int) ≤ id) => labels_no X ss bs x h id hk)
    have HLEN := Lib.hid (show ss.length ≤ 5864062014634 by omega)
    have HH8 := Lib.hid (fun l (hl : l ∈ ss) => (lbChk_ok.1 ((ixChk_right hz).2.2 l hl)).1)
    rw [hz] at HCK
    clear hV hL hR hC hll hz hs
    go_enter Tryz.func3, Tryz.ntmps3
    go_wp2_with fail
    refine HO.out.mono ?_
    rintro e w1 ⟨v1, rfl, ho1, hb1⟩
    obtain ⟨P1, c1, rfl, hc1, hS1, _⟩ := ownsets_slice ho1
    obtain ⟨ns, hns, _, hSW⟩ := sw_of ho1
    have HNS := Lib.hid hns
    have HSW := Lib.hid hSW
    have HS1 := Lib.hid hS1
    have HB1 := Lib.hid hb1
    clear ho1 hb1 hS1 hc1 hns hSW
    go_wp2_with fail
    refine (HN.out _ _ _ HS1.out).mono ?_
    rintro e w2 ⟨X, rfl, hI2, hb2⟩
    have HI2 := Lib.hid hI2
    have HSW2 := Lib.hid (sw_below HSW.out hb2)
    have HB2 := Lib.hid (below_then HB1.out hb2)
    clear hI2 hb2
    go_wp2_with fail
    refine (HCK.out _ HB2.out).mono ?_
    rintro e w3 ⟨rfl, hb3⟩
    have HI3 := Lib.hid (HI2.out.below hb3)
    have HSW3 := Lib.hid (sw_below HSW2.out hb3)
    have HB3 := Lib.hid (below_then HB2.out hb3)
    clear hb3
    go_wp2_with fail
    refine (spoil_law P1 ss.length c1 w.heap.size w1.heap.size ns w w3 HNS.out HSW3.out HLEN.out HB3.out HB1.out.size).mono ?_
    rintro e w4 ⟨⟨v4, rfl⟩, hb4, hk4⟩
    have HI4 := Lib.hid (idx_keep HI3.out hk4)
    have HB4 := Lib.hid hb4
    clear hb4 hk4 HSW HSW2 HSW3 HI2 HI3 HS1 HNS HB1 HB2 HB3 HCK HN HO HLEN
    by_cases hk : id < 0 ∨ (ss.length : Int) ≤ id
    · have HLX := Lib.hid (HLN.out _ _ _ HI4.out hk)
      have HTX := Lib.hid (HTD.out _ _ _ HI4.out HB4.out)
      clear hk HLY HLN HTD HH8
      go_wp2_with fail
      refine HLX.out.mono ?_
      rintro e w' ⟨rfl, rfl⟩
      go_wp2_with fail
      refine HTX.out.mono ?_
      rintro e w5 ⟨rfl, hb5⟩
      have HB5 := Lib.hid (below_then HB4.out hb5)
      clear hb5
      go_wp2_with fail
      refine (HLV.out _).mono ?_
      rintro e w6 ⟨rfl, hb6⟩
      have HB6 := Lib.hid (below_then HB5.out hb6)
      clear hb6
      go_wp2
      go_ret
      exact both_ret HB6.out
    · obtain ⟨k, rfl⟩ : ∃ k : Nat, id = (k : Int) := ⟨id.toNat, by omega⟩
      have hk2 : k < ss.length := by omega
      have HLX := Lib.hid (HLY.out _ _ _ HI4.out k hk2)
      have h8 := HH8.out _ (ss_at hk2)
      generalize ss.getD k [] = l at *
      clear hk HLY HLN HH8 hid
      go_wp2_with fail
      refine HLX.out.mono ?_
      rintro e w5 ⟨v5, rfl, ho5, hb5⟩
      obtain ⟨P5, c5, hv5, hc5, hL5, _⟩ := ownl_slice ho5
      subst hv5
      by_cases hpos : 0 < l.length
      · obtain ⟨g, rs, rfl, hg, hrow, hsz⟩ := lw_of ho5 hpos
        have i1 : decide ((l.length : Int) > 0) = true := decide_eq_true (by omega)
        have i2 : decide ((0 : Int) < (l.length : Int)) = true := decide_eq_true (by omega)
        have i3 : (0 : Int) < (l.length : Int) := by omega
        have hr4 := hrow.setAt 0 (.string ⟨#[122, 122]⟩)
        have f1 := hrow.frozen 0
        have f2 := hr4.frozen 1
        have d1 : w5.cell? ⟨g, 0, none⟩ = some rs[0] := (hrow.cell 0).trans (Array.getElem?_eq_getElem (by omega))
        have d2 : (w5.setCell ⟨g, 0, none⟩ (.string ⟨#[122, 122]⟩)).cell? ⟨g, 1, none⟩ = some _ := (hr4.cell 1).trans (Array.getElem?_eq_getElem (by simp; omega))
        have hB6 := Below.setCell (Below.setCell hb5 (p := ⟨g, 0, none⟩) hg (.string ⟨#[122, 122]⟩)) (p := ⟨g, 1, none⟩) hg (.string ⟨#[115, 112, 111, 105, 108, 116]⟩)
        have HBW6 := Lib.hid (below_then HB4.out hB6)
        have HTX := Lib.hid (HTD.out _ _ _ (HI4.out.below hB6) HBW6.out)
        clear ho5 hb5 hL5 hc5 hrow hr4 hB6 HTD hk2 h8
        go_wp2_with fail
        refine HTX.out.mono ?_
        rintro e w7 ⟨rfl, hb7⟩
        have HB7 := Lib.hid (below_then HBW6.out hb7)
        clear hb7
        go_wp2_with fail
        refine (HLV.out _).mono ?_
        rintro e w8 ⟨rfl, hb8⟩
        have HB8 := Lib.hid (below_then HB7.out hb8)
        clear hb8
        go_wp2
        go_ret
        exact both_ret HB8.out
      · have e0 : l.length = 0 := by omega
        rw [e0]
        have HBW6 := Lib.hid (below_then HB4.out hb5)
        have HTX := Lib.hid (HTD.out _ _ _ (HI4.out.below hb5) HBW6.out)
        clear ho5 hb5 hL5 hc5 HTD hk2 h8 hpos e0
        go_wp2_with fail
        refine HTX.out.mono ?_
        rintro e w7 ⟨rfl, hb7⟩
        have HB7 := Lib.hid (below_then HBW6.out hb7)
        clear hb7
        go_wp2_with fail
        refine (HLV.out _).mono ?_
        rintro e w8 ⟨rfl, hb8⟩
        have HB8 := Lib.hid (below_then HB7.out hb8)
        clear hb8
        go_wp2
        go_ret
        exact both_ret HB8.out
  · have j1 : (ixChk ss != 0) = true := bne_iff_ne.2 hz
    have j2 : (ixChk ss == 0) = false := beq_eq_false_iff_ne.2 hz
    have HN := Lib.hid (fun P c x (h : Sets x P ss) => (new_prog P ss c x h (by omega) hll).mono fun e w' h => new_no hz h)
    clear hV hL hR hC hll hz hs
    generalize ixChk ss = E at *
    have q1 : (E != E) = false := by simp
    go_enter Tryz.func3, Tryz.ntmps3
    go_wp2_with fail
    refine HO.out.mono ?_
    rintro e w1 ⟨v1, rfl, ho1, hb1⟩
    obtain ⟨P1, c1, rfl, hc1, hS1, _⟩ := ownsets_slice ho1
    have HS1 := Lib.hid hS1
    have HB1 := Lib.hid hb1
    clear ho1 hb1 hS1 hc1
    go_wp2_with fail
    refine (HN.out _ _ _ HS1.out).mono ?_
    rintro e w2 ⟨rfl, hb2⟩
    have HB2 := Lib.hid (below_then HB1.out hb2)
    clear hb2
    go_wp2_with fail
    refine (HCK.out _ HB2.out).mono ?_
    rintro e w3 ⟨rfl, hb3⟩
    have HB3 := Lib.hid (below_then HB2.out hb3)
    clear hb3
    go_wp2_with fail
    refine (HLV.out _).mono ?_
    rintro e w4 ⟨rfl, hb4⟩
    have HB4 := Lib.hid (below_then HB3.out hb4)
    clear hb4
    go_wp2
    go_ret
    exact both_ret HB4.out
end Go.Proofs.YtojlcipphnegaaaGreat
