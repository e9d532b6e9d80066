/- Two lists of matchers together: a walk of the law. -/
import Derived.Test.YtojlcipphnegaaaGreatIxLives
namespace Go.Proofs.YtojlcipphnegaaaGreat
open Go.RowKit Go.Maps
set_option linter.unusedVariables false
theorem both_ret {w w' : World} (h : Below w.heap.size w w') : Ending.returned (.bool true) = Ending.returned (.bool true) ∧ Below w.heap.size w w' := ⟨rfl, h⟩
theorem new_no {w w' : World} {ss : List (List Lbl)} {e : Ending} (hz : ixChk ss ≠ 0) (h : NewTold w ss e w') : e = .returned (.tuple #[.pointer none, .int .i64 (ixChk ss)]) ∧ Below w.heap.size w w' := by
  obtain ⟨hb, ⟨_, h⟩ | ⟨h, _⟩⟩ := h
  · exact ⟨h, hb⟩
  · exact absurd h hz
theorem new_yes {w w' : World} {ss : List (List Lbl)} {e : Ending} (hz : ixChk ss = 0) (h : NewTold w ss e w') : ∃ X, e = .returned (.tuple #[.pointer (some ⟨X, 0, none⟩), .int .i64 0]) ∧ IdxAt w' w.heap.size X ss ∧ Below w.heap.size w w' := by
  obtain ⟨hb, ⟨h, _⟩ | ⟨_, X, h1, h2⟩⟩ := h
  · exact absurd hz h
  · exact ⟨X, h1, h2, hb⟩
set_option maxHeartbeats 4000000 in
set_option maxRecDepth 100000 in
theorem indexBoth_walk (w : World) (V : Option Addr) (ss : List (List Lbl)) (cs : Nat) (hV : Sets w V ss) (hL : ∀ l ∈ ss, LFits l ∧ l.length * 32 ≤ 140737488351232) (hR : ss.length * 24 ≤ 140737488351232) (hC : ss.length ≤ cs)
    (A : Option Addr) (a : List Mt) (ca : Nat) (hA : Mts w A a) (ha : a.length ≤ 1048576) (hac : a.length ≤ ca)
    (B : Option Addr) (b : List Mt) (cb : Nat) (hB : Mts w B b) (hb : b.length ≤ 1048576) (hbc : b.length ≤ cb) :
    Calls Tryz.prog 7 #[.slice V ss.length cs, .slice A a.length ca, .slice B b.length cb] w fun e w' => e = .returned (.bool true) ∧ Below w.heap.size w w' := by
  have HLV := Lib.hid (fun x => ixLives_true x)
  have hll : ∀ i, (ss.getD i []).length ≤ 100000000000000 := by
    intro i
    rcases Nat.lt_or_ge i ss.length with h | h
    · have := (hL _ (ss_at h)).2
      omega
    · rw [List.getD_eq_getElem?_getD, List.getElem?_eq_none h]
      exact Nat.zero_le _
  have HN := Lib.hid (new_prog V ss cs w hV (by omega) hll)
  by_cases hz : ixChk ss = 0
  · have HF := Lib.hid (fun X bs (x : World) (hI : IdxAt x bs X ss) P (ms : List Mt) c (hP : Mts x P ms) (hm : ms.length ≤ 100000000000000) (hc : ms.length ≤ c) => find_prog X ss bs P ms c x hI hz hP hm hc)
    have H256 := Lib.hid (ixChk_right hz).1
    have HAB := Lib.hid (find_both (sets := ss) (ixChk_right hz).1 a b)
    have HFL := Lib.hid (fun ms => findK_len ss ms ss.length)
    have HA := Lib.hid (fun x (h : Below w.heap.size w x) => (show Mts x A a from hA.below h))
    have HB := Lib.hid (fun x (h : Below w.heap.size w x) => (show Mts x B b from hB.below h))
    have hwr : IntKind.i64.wrap ((a.length : Int) + (b.length : Int)) = (a.length : Int) + (b.length : Int) := IntWalk.i64_in _ (by omega)
    have HZ := Lib.hid hz
    have HLA := Lib.hid ha
    have HLB := Lib.hid hb
    have HCA := Lib.hid hac
    have HCB := Lib.hid hbc
    clear hV hL hR hC hll hA hB hz ha hb hac hbc
    go_enter Tryz.func7, Tryz.ntmps7
    go_wp2_with fail
    refine HN.out.mono ?_
    rintro e w1 ⟨hb1, ⟨h, _⟩ | ⟨_, X, rfl, hI1⟩⟩
    · exact absurd HZ.out h
    have HI1 := Lib.hid hI1
    have HB1 := Lib.hid hb1
    clear hI1 hb1
    go_wp2_with fail
    refine (HF.out _ _ _ HI1.out _ _ _ (HA.out _ HB1.out) (by have := HLA.out; omega) HCA.out).mono ?_
    rintro e w2 ⟨v2, rfl, ho2, hb2⟩
    obtain ⟨P2, c2, hv2, hc2, hZ2, _⟩ := ownz_slice ho2
    obtain ⟨n2, hn2⟩ : ∃ n2, (if mchkAll a = 0 then findL ss a else []).length = n2 := ⟨_, rfl⟩
    rw [hn2] at hv2
    subst hv2
    have HN2 := Lib.hid hn2
    have HZ2 := Lib.hid hZ2
    have HI2 := Lib.hid (HI1.out.below hb2)
    have HB2 := Lib.hid (below_then HB1.out hb2)
    clear ho2 hb2 hn2 hZ2 hc2
    go_wp2_with fail
    refine (HF.out _ _ _ HI2.out _ _ _ (HB.out _ HB2.out) (by have := HLB.out; omega) HCB.out).mono ?_
    rintro e w3 ⟨v3, rfl, ho3, hb3⟩
    obtain ⟨P3, c3, hv3, hc3, hZ3, _⟩ := ownz_slice ho3
    obtain ⟨n3, hn3⟩ : ∃ n3, (if mchkAll b = 0 then findL ss b else []).length = n3 := ⟨_, rfl⟩
    rw [hn3] at hv3
    subst hv3
    have HN3 := Lib.hid hn3
    have HZ23 := Lib.hid (HZ2.out.below hb3)
    have HZ3 := Lib.hid hZ3
    have HI3 := Lib.hid (HI2.out.below hb3)
    have HB3 := Lib.hid (below_then HB2.out hb3)
    clear ho3 hb3 hn3 hZ3 hc3
    have HE := Lib.hid (ownm_empty (Row.new w3 54 #[]) (Nat.le_refl _))
    go_wp2_with (first
      | (at_builtin
         refine app_mts rfl (.tmp 45) (.tmp 46) rfl w3.heap.size _ [] rfl HE.out A a ca rfl (HA.out _ (HB3.out.alloc HB3.out.size _)) (by have := HLA.out; simp only [List.length_nil]; omega) (by simp) ?_
         intro v4 w4 ho4 hb4 _
         rw [List.nil_append] at ho4
         have hb34 : Below w3.heap.size w3 w4 := ((Below.refl _ w3).alloc (Nat.le_refl _) _).trans hb4
         have HB4 := Lib.hid (below_then HB3.out hb34)
         have HI4 := Lib.hid (HI3.out.below hb34)
         have HZ24 := Lib.hid (HZ23.out.below hb34)
         have HZ34 := Lib.hid (HZ3.out.below hb34)
         have HO4 := Lib.hid ho4
         have HS4 := Lib.hid hb34.size
         have HB34 := Lib.hid hb34
         clear ho4 hb4 hb34)
      | (at_builtin
         refine app_mts rfl (.tmp 47) (.tmp 48) rfl w3.heap.size v4 a rfl HO4.out B b cb rfl (HB.out _ HB4.out) (by have := HLA.out; have := HLB.out; omega) HS4.out ?_
         intro v5 w5 ho5 hb5 _
         obtain ⟨P5, c5, hv5, hc5, hM5, _⟩ := ownm_slice ho5
         obtain ⟨n5, hn5⟩ : ∃ n5, (a ++ b).length = n5 := ⟨_, rfl⟩
         rw [hn5] at hv5
         subst hv5
         have HN5 := Lib.hid hn5
         have HM5 := Lib.hid hM5
         have HC5 := Lib.hid hc5
         have HB5 := Lib.hid hb5
         clear ho5 hb5 hc5 hM5 hn5)
      | fail)
    have HB35 := Lib.hid (HB34.out.trans HB5.out)
    have HBW5 := Lib.hid (below_then HB3.out HB35.out)
    have HZ25 := Lib.hid (HZ23.out.below HB35.out)
    have HZ35 := Lib.hid (HZ3.out.below HB35.out)
    have HI5 := Lib.hid (HI3.out.below HB35.out)
    clear HE HO4 HS4 HB4 HI4 HZ24 HZ34 HI3 HZ23 HZ3 HB1 HB2 HB3 HB34 HB35 HB5 HZ2 HI2 HI1 HN
    have HFC := Lib.hid (HF.out _ _ _ HI5.out _ _ _ HM5.out (by have := HLA.out; have := HLB.out; rw [List.length_append]; omega) HC5.out)
    rw [HN5.out] at HFC
    refine HFC.out.mono ?_
    rintro e w6 ⟨v6, rfl, ho6, hb6⟩
    obtain ⟨P6, c6, hv6, hc6, hZ6, _⟩ := ownz_slice ho6
    have HZ6 := Lib.hid hZ6
    have HZ26 := Lib.hid (HZ25.out.below hb6)
    have HZ36 := Lib.hid (HZ35.out.below hb6)
    have HB6 := Lib.hid (below_then HBW5.out hb6)
    clear ho6 hb6 hZ6 hc6 HZ25 HZ35 HI5 HF HM5 HBW5
    by_cases h1 : mchkAll a = 0
    · by_cases h2 : mchkAll b = 0
      · by_cases h3 : a.length + b.length ≤ 8
        · have h4 := chkall_app h1 h2 h3
          rw [if_pos h1] at HN2 HZ26
          rw [if_pos h2] at HN3 HZ36
          rw [if_pos h4, HAB.out] at HZ6 hv6
          rw [h1, h2, h4]
          obtain ⟨nL, hnL⟩ : ∃ nL, (pickL (findL ss a) (findL ss b) true).length = nL := ⟨_, rfl⟩
          have HFA := Lib.hid (show (findL ss a).length ≤ 256 from Nat.le_trans (HFL.out a) H256.out)
          have HFB := Lib.hid (show (findL ss b).length ≤ 256 from Nat.le_trans (HFL.out b) H256.out)
          have HPK := Lib.hid (po_pick_ref P2 P3 (findL ss a) (findL ss b) c2 c3 true w6 HZ26.out HZ36.out (by have := HFA.out; omega) (by have := HFB.out; omega))
          have HPL := Lib.hid (pick_len (findL ss a) (findL ss b) true)
          rw [HN2.out, HN3.out] at HPK
          generalize pickL (findL ss a) (findL ss b) true = L at *
          subst hnL
          subst hv6
          have i3 : decide ((8 : Int) < (a.length : Int) + (b.length : Int)) = false := decide_eq_false (by omega)
          clear h1 h2 h3 h4 HN2 HN3 HZ26 HZ36 HAB
          go_wp2_with fail
          refine HPK.out.mono ?_
          rintro e w7 ⟨v7, rfl, ho7, hb7⟩
          obtain ⟨P7, c7, hv7, hc7, hZ7, _⟩ := ownz_slice ho7
          subst hv7
          have HZ7 := Lib.hid hZ7
          have HZ67 := Lib.hid (HZ6.out.below hb7)
          have HB7 := Lib.hid (below_then HB6.out hb7)
          clear ho7 hb7 hc7 hZ7
          go_wp2_with fail
          refine (same_yes _ _ L c6 c7 _ HZ67.out HZ7.out (by have := HPL.out; have := HFA.out; omega)).mono ?_
          rintro e w8 ⟨rfl, hb8⟩
          have HB8 := Lib.hid (below_then HB7.out hb8)
          clear hb8
          go_wp2_with fail
          refine (HLV.out _).mono ?_
          rintro e w9 ⟨rfl, hb9⟩
          have HB9 := Lib.hid (below_then HB8.out hb9)
          clear hb9
          go_wp2
          go_ret
          exact both_ret HB9.out
        · rw [h1, h2]
          have i3 : decide ((8 : Int) < (a.length : Int) + (b.length : Int)) = true := decide_eq_true (by omega)
          generalize mchkAll (a ++ b) = E3 at *
          clear h1 h2 h3 HN2 HN3 HZ26 HZ36 HAB hv6 HZ6
          go_wp2_with fail
          refine (HLV.out _).mono ?_
          rintro e w9 ⟨rfl, hb9⟩
          have HB9 := Lib.hid (below_then HB6.out hb9)
          clear hb9
          go_wp2
          go_ret
          exact both_ret HB9.out
      · rw [h1]
        have i2 : (mchkAll b != 0) = true := bne_iff_ne.2 h2
        generalize mchkAll (a ++ b) = E3 at *
        generalize mchkAll b = E2 at *
        clear h1 h2 HN2 HN3 HZ26 HZ36 HAB hwr hv6 HZ6
        go_wp2_with fail
        refine (HLV.out _).mono ?_
        rintro e w9 ⟨rfl, hb9⟩
        have HB9 := Lib.hid (below_then HB6.out hb9)
        clear hb9
        go_wp2
        go_ret
        exact both_ret HB9.out
    · have i1 : (mchkAll a != 0) = true := bne_iff_ne.2 h1
      generalize mchkAll (a ++ b) = E3 at *
      generalize mchkAll b = E2 at *
      generalize mchkAll a = E1 at *
      clear h1 HN2 HN3 HZ26 HZ36 HAB hwr hv6 HZ6
      go_wp2_with fail
      refine (HLV.out _).mono ?_
      rintro e w9 ⟨rfl, hb9⟩
      have HB9 := Lib.hid (below_then HB6.out hb9)
      clear hb9
      go_wp2
      go_ret
      exact both_ret HB9.out
  · have j1 : (ixChk ss != 0) = true := bne_iff_ne.2 hz
    have HN' := Lib.hid (HN.out.mono fun e w' h => new_no hz h)
    clear hV hL hR hC hll hA hB hz ha hb hac hbc HN
    generalize ixChk ss = E at *
    generalize a.length = na at *
    generalize b.length = nb at *
    go_enter Tryz.func7, Tryz.ntmps7
    go_wp2_with fail
    refine HN'.out.mono ?_
    rintro e w1 ⟨rfl, hb1⟩
    have HB1 := Lib.hid hb1
    clear hb1
    go_wp2_with fail
    refine (HLV.out _).mono ?_
    rintro e w2 ⟨rfl, hb2⟩
    have HB2 := Lib.hid (below_then HB1.out hb2)
    clear hb2
    go_wp2
    go_ret
    exact both_ret HB2.out
end Go.Proofs.YtojlcipphnegaaaGreat
