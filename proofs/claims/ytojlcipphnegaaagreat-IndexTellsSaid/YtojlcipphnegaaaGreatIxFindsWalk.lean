/- What Find tells beside the document's own answer: a walk of the law. -/
import Derived.Test.YtojlcipphnegaaaGreatIxBothWalk
import Derived.Test.YtojlcipphnegaaaGreatIxRef4
import Derived.Test.YtojlcipphnegaaaGreatIxRef3
import Derived.Test.YtojlcipphnegaaaGreatIxLotM
import Derived.Test.YtojlcipphnegaaaGreatIxLotF
import Derived.Test.YtojlcipphnegaaaGreatIxLotR
namespace Go.Proofs.YtojlcipphnegaaaGreat
open Go.RowKit Go.Maps
set_option linter.unusedVariables false
theorem sets_ll {ss : List (List Lbl)} (hL : ∀ l ∈ ss, LFits l ∧ l.length * 32 ≤ 140737488351232) : ∀ i, (ss.getD i []).length ≤ 100000000000000 := by
  intro i
  rcases Nat.lt_or_ge i ss.length with h | h
  · have := (hL _ (ss_at h)).2
    omega
  · rw [List.getD_eq_getElem?_getD, List.getElem?_eq_none h]
    exact Nat.zero_le _
theorem sets_ff {ss : List (List Lbl)} (hL : ∀ l ∈ ss, LFits l ∧ l.length * 32 ≤ 140737488351232) : ∀ i, LFits (ss.getD i []) := by
  intro i
  rcases Nat.lt_or_ge i ss.length with h | h
  · exact (hL _ (ss_at h)).1
  · rw [List.getD_eq_getElem?_getD, List.getElem?_eq_none h]
    intro j hj
    exact absurd hj (Nat.not_lt_zero j)
/-- The document's own check of the sets, its two premises paid. -/
theorem ixcheck_told (V : Option Addr) (ss : List (List Lbl)) (c : Nat) (w : World) (hV : Sets w V ss) (hl : ss.length ≤ 100000000000000) (hL : ∀ l ∈ ss, LFits l ∧ l.length * 32 ≤ 140737488351232) :
    Calls Tryz.prog 12 #[.slice V ss.length c] w fun e w' => e = .returned (.int .i64 (ixChk ss)) ∧ Below w.heap.size w w' :=
  ixcheck_ref V ss c w hV hl
    (fun x _ i _ A c' hA => lbchk_ref A _ c' x hA (sets_ll hL i) (sets_ff hL i))
    (fun x _ i _ A c' B d' hA hB => compare_ref A B _ _ c' d' x hA hB (sets_ll hL i) (sets_ll hL (i + 1)))
theorem find_told_ref (V : Option Addr) (ss : List (List Lbl)) (c : Nat) (M : Option Addr) (ms : List Mt) (cm : Nat) (w : World) (hV : Sets w V ss) (h256 : ss.length ≤ 256) (hL : ∀ l ∈ ss, LFits l ∧ l.length * 32 ≤ 140737488351232)
    (hM : Mts w M ms) (hf : MFits ms) (hm : ms.length ≤ 100000000000000) :
    Calls Tryz.prog 18 #[.slice V ss.length c, .slice M ms.length cm] w fun e w' => ∃ v, e = .returned (.tuple #[v, .int .i64 (mchkAll ms)]) ∧ OwnZ w' w.heap.size v (if mchkAll ms = 0 then findL ss ms else []) ∧ Below w.heap.size w w' :=
  find_ref V ss c M ms cm w hV h256
    (fun x hx => chkall_ref M ms cm x (show Mts x M ms from hM.below hx) hm (mnames_of hf))
    (fun x hx i _ A c' hA => all_ref M ms cm A _ c' x (show Mts x M ms from hM.below hx) hm (mnames_of hf) hA (sets_ll hL i))
set_option maxHeartbeats 4000000 in
set_option maxRecDepth 100000 in
theorem indexFinds_walk (w : World) (V : Option Addr) (ss : List (List Lbl)) (cs : Nat) (hV : Sets w V ss) (hL : ∀ l ∈ ss, LFits l ∧ l.length * 32 ≤ 140737488351232) (hR : ss.length * 24 ≤ 140737488351232) (hC : ss.length ≤ cs)
    (A : Option Addr) (a : List Mt) (ca : Nat) (hA : Mts w A a) (hf : MFits a) (ha : a.length * 40 ≤ 140737488351232) (hac : a.length ≤ ca) :
    Calls Tryz.prog 4 #[.slice V ss.length cs, .slice A a.length ca] w fun e w' => e = .returned (.bool true) ∧ Below w.heap.size w w' := by
  have HLV := Lib.hid (fun x => ixLives_true x)
  have HO := Lib.hid (ixown_law V ss cs w hV (by omega) (fun l hl => (hL l hl).2))
  have HCK := Lib.hid (fun x (h : Below w.heap.size w x) => ixcheck_told V ss cs x (hV.below h) (by omega) hL)
  have hll := sets_ll hL
  by_cases hz : ixChk ss = 0
  · have h256 := (ixChk_right hz).1
    have HN := Lib.hid (fun P c x (h : Sets x P ss) => (new_prog P ss c x h (by omega) hll).mono fun e w' h => new_yes hz h)
    have HF := Lib.hid (fun X bs (x : World) (hI : IdxAt x bs X ss) P c (hP : Mts x P a) (hc : a.length ≤ c) => find_prog X ss bs P a c x hI hz hP (by omega) hc)
    have HFR := Lib.hid (fun x (h : Below w.heap.size w x) => find_told_ref V ss cs A a ca x (hV.below h) h256 hL (show Mts x A a from hA.below h) hf (by omega))
    have HA := Lib.hid (fun x (h : Below w.heap.size w x) => (show Mts x A a from hA.below h))
    have HLA := Lib.hid ha
    have HFL := Lib.hid (show (if mchkAll a = 0 then findL ss a else []).length ≤ 256 by
      split
      · exact Nat.le_trans (findK_len ss a ss.length) h256
      · simp)
    clear hV hL hR hC hll hA hz ha hac hf h256 HCK
    unfold FindTold at HF
    generalize (if mchkAll a = 0 then findL ss a else []) = L at *
    generalize mchkAll a = E at *
    have q1 : (E == E) = true := by simp
    go_enter Tryz.func4, Tryz.ntmps4
    go_wp2_with fail
    refine HO.out.mono ?_
    rintro e w1 ⟨v1, rfl, ho1, hb1⟩
    obtain ⟨P1, c1, rfl, hc1, hS1, _⟩ := ownsets_slice ho1
    have HS1 := Lib.hid hS1
    have HB1 := Lib.hid hb1
    clear ho1 hb1 hS1 hc1
    go_wp2_with fail
    refine (HN.out _ _ _ HS1.out).mono ?_
    rintro e w2 ⟨X, rfl, hI2, hb2⟩
    have HI2 := Lib.hid hI2
    have HB2 := Lib.hid (below_then HB1.out hb2)
    clear hI2 hb2
    have HE := Lib.hid (ownm_empty (Row.new w2 54 #[]) (Nat.le_refl _))
    go_wp2_with (first
      | (at_builtin
         refine app_mts rfl (.tmp 36) (.tmp 37) rfl w2.heap.size _ [] rfl HE.out A a ca rfl (HA.out _ (HB2.out.alloc HB2.out.size _)) (by have := HLA.out; simp only [List.length_nil]; omega) (by simp) ?_
         intro v3 w3 ho3 hb3 _
         rw [List.nil_append] at ho3
         have hb23 : Below w2.heap.size w2 w3 := ((Below.refl _ w2).alloc (Nat.le_refl _) _).trans hb3
         obtain ⟨P3, c3, hv3, hc3, hM3, _⟩ := ownm_slice ho3
         subst hv3
         have HM3 := Lib.hid hM3
         have HC3 := Lib.hid hc3
         have HI3 := Lib.hid (HI2.out.below hb23)
         have HB3 := Lib.hid (below_then HB2.out hb23)
         clear ho3 hb3 hb23 hc3 hM3)
      | fail)
    refine (HF.out _ _ _ HI3.out _ _ HM3.out HC3.out).mono ?_
    rintro e w4 ⟨v4, rfl, ho4, hb4⟩
    obtain ⟨P4, c4, hv4, hc4, hZ4, _⟩ := ownz_slice ho4
    subst hv4
    have HZ4 := Lib.hid hZ4
    have HB4 := Lib.hid (below_then HB3.out hb4)
    clear ho4 hb4 hc4 hZ4
    go_wp2_with fail
    refine (HFR.out _ HB4.out).mono ?_
    rintro e w5 ⟨v5, rfl, ho5, hb5⟩
    obtain ⟨P5, c5, hv5, hc5, hZ5, _⟩ := ownz_slice ho5
    subst hv5
    have HZ5 := Lib.hid hZ5
    have HZ45 := Lib.hid (HZ4.out.below hb5)
    have HB5 := Lib.hid (below_then HB4.out hb5)
    clear ho5 hb5 hc5 hZ5
    go_wp2_with fail
    refine (same_yes _ _ L c4 c5 _ HZ45.out HZ5.out (by have := HFL.out; omega)).mono ?_
    rintro e w6 ⟨rfl, hb6⟩
    have HB6 := Lib.hid (below_then HB5.out hb6)
    clear hb6
    go_wp2_with fail
    refine (HLV.out _).mono ?_
    rintro e w7 ⟨rfl, hb7⟩
    have HB7 := Lib.hid (below_then HB6.out hb7)
    clear hb7
    go_wp2
    go_ret
    exact both_ret HB7.out
  · have j1 : (ixChk ss != 0) = true := bne_iff_ne.2 hz
    have HN := Lib.hid (fun P c x (h : Sets x P ss) => (new_prog P ss c x h (by omega) hll).mono fun e w' h => new_no hz h)
    clear hV hL hR hC hll hA hz ha hac hf
    generalize ixChk ss = E at *
    generalize a.length = na at *
    have q1 : (E == E) = true := by simp
    go_enter Tryz.func4, Tryz.ntmps4
    go_wp2_with fail
    refine HO.out.mono ?_
    rintro e w1 ⟨v1, rfl, ho1, hb1⟩
    obtain ⟨P1, c1, rfl, hc1, hS1, _⟩ := ownsets_slice ho1
    have HS1 := Lib.hid hS1
    have HB1 := Lib.hid hb1
    clear ho1 hb1 hS1 hc1
    go_wp2_with fail
    refine (HN.out _ _ _ HS1.out).mono ?_
    rintro e w2 ⟨rfl, hb2⟩
    have HB2 := Lib.hid (below_then HB1.out hb2)
    clear hb2
    go_wp2_with fail
    refine (HCK.out _ HB2.out).mono ?_
    rintro e w3 ⟨rfl, hb3⟩
    have HB3 := Lib.hid (below_then HB2.out hb3)
    clear hb3
    go_wp2_with fail
    refine (HLV.out _).mono ?_
    rintro e w4 ⟨rfl, hb4⟩
    have HB4 := Lib.hid (below_then HB3.out hb4)
    clear hb4
    go_wp2
    go_ret
    exact both_ret HB4.out
end Go.Proofs.YtojlcipphnegaaaGreat
