/- LabelParts' walk. -/
import Derived.Test.YtgiclapgilppgaaDoorLbParts
namespace Go.Proofs.YtgiclapgilppgaaDoor
open Go.RowKit Go.Maps
set_option linter.unusedVariables false

/-- A right set, said of its members. -/
def RightP (l : List Lbl) : Prop := l.length ≤ 8 ∧ (∀ x ∈ l, nameB (strL x.1) = true ∧ 0 < x.2.size ∧ x.2.size ≤ 64) ∧ l.Pairwise fun x y => cmpB x.1 y.1 = -1
theorem at_eq (l : List Lbl) {i : Nat} (h : i < l.length) : l[i].1 = nmOf l i ∧ l[i].2 = vlOf l i := by
  unfold nmOf vlOf
  rw [List.getD_eq_getElem?_getD, List.getElem?_eq_getElem h]
  exact ⟨rfl, rfl⟩
theorem rightP_of {l : List Lbl} (h : lbChk l = 0) : RightP l := by
  have hu := right_up h
  obtain ⟨h8, h0⟩ := lbChk_ok.1 h
  refine ⟨h8, fun x hx => ?_, ?_⟩
  · obtain ⟨i, hi, rfl⟩ := List.mem_iff_getElem.1 hx
    have h1 := lbErrAt_zero.1 (h0 i hi)
    obtain ⟨e1, e2⟩ := at_eq l hi
    rw [e1, e2]
    exact ⟨h1.1, h1.2.1, h1.2.2.1⟩
  · rw [List.pairwise_iff_getElem]
    intro i j hi hj hij
    rw [(at_eq l hi).1, (at_eq l hj).1]
    exact hu i j hij hj
theorem chk_of {l : List Lbl} (h : RightP l) : lbChk l = 0 := by
  obtain ⟨h8, h1, h2⟩ := h
  rw [List.pairwise_iff_getElem] at h2
  refine lbChk_ok.2 ⟨h8, fun i hi => lbErrAt_zero.2 ?_⟩
  have h3 := h1 l[i] (List.getElem_mem hi)
  rw [(at_eq l hi).1, (at_eq l hi).2] at h3
  refine ⟨h3.1, h3.2.1, h3.2.2, fun h0 => ?_⟩
  have h4 := h2 (i - 1) i (by omega) hi (by omega)
  rw [(at_eq l hi).1, (at_eq l (show i - 1 < l.length by omega)).1] at h4
  rw [le_cmp, cmpB_cmp.swap (nmOf l (i - 1)) (nmOf l i), h4]
  rfl
theorem filter_right {l : List Lbl} (h : lbChk l = 0) (p : Lbl → Bool) : lbChk (l.filter p) = 0 := by
  obtain ⟨h8, h1, h2⟩ := rightP_of h
  refine chk_of ⟨?_, fun x hx => h1 x (List.mem_filter.1 hx).1, h2.filter _⟩
  have := List.length_filter_le p l
  omega
theorem filter_sum (p : Lbl → Bool) (l : List Lbl) : (l.filter p).length + (l.filter fun x => !p x).length = l.length := by
  induction l with
  | nil => rfl
  | cons x r ih =>
    rw [List.filter_cons, List.filter_cons]
    cases p x <;> simp <;> omega

set_option maxHeartbeats 1000000 in
theorem labelParts_walk (w : World) (A : Option Addr) (l : List Lbl) (c : Nat) (hA : Lbls w A l) (hf : LFits l) (hr : l.length * 32 ≤ 140737488351232) (hlc : l.length ≤ c)
    (V : Option Addr) (ns : List ByteArray) (nc : Nat) (hV : Nms w V ns) (_ : True) (hq : ns.length * 16 ≤ 140737488351232) (hnc : ns.length ≤ nc) :
    Calls Tryd.prog 9 #[.slice A l.length c, .slice V ns.length nc] w fun e w' => e = .returned (.bool true) ∧ Below w.heap.size w w' := by
  have HC := Lib.hid (lbchk_prog A l c w hA (by omega))
  by_cases h : lbChk l = 0
  · have h8 := (lbChk_ok.1 h).1
    rw [h] at HC
    obtain ⟨la, hla⟩ : ∃ la, l.filter (fun x => hasB ns x.1) = la := ⟨_, rfl⟩
    obtain ⟨lb, hlb⟩ : ∃ lb, l.filter (fun x => !hasB ns x.1) = lb := ⟨_, rfl⟩
    have hsum : la.length + lb.length = l.length := by rw [← hla, ← hlb]; exact filter_sum _ l
    have hca : lbChk la = 0 := by rw [← hla]; exact filter_right h _
    have hcb : lbChk lb = 0 := by rw [← hlb]; exact filter_right h _
    have HA := Lib.hid hA
    have HV := Lib.hid hV
    have HLA := Lib.hid hla
    have HLB := Lib.hid hlb
    have HM1 := Lib.hid (fun P Q pc qc W (h1 : Lbls W P la) (h2 : Lbls W Q lb) (h3 : la.length ≤ pc) (h4 : lb.length ≤ qc) => merge_parts (fun x => hasB ns x.1) l h P Q la lb hla.symm hlb.symm pc qc W h1 h2 h3 h4)
    have HM2 := Lib.hid (fun P Q pc qc W (h1 : Lbls W P lb) (h2 : Lbls W Q la) (h3 : lb.length ≤ pc) (h4 : la.length ≤ qc) => merge_parts (fun x => !hasB ns x.1) l h P Q lb la hlb.symm (by rw [← hla]; congr 1; funext x; simp) pc qc W h1 h2 h3 h4)
    have HK1 := Lib.hid (fun P pc W (h1 : Lbls W P la) => lbchk_prog P la pc W h1 (by omega))
    have HK2 := Lib.hid (fun P pc W (h1 : Lbls W P lb) => lbchk_prog P lb pc W h1 (by omega))
    have HSM := Lib.hid (fun P Q pc qc W (h1 : Lbls W P l) (h2 : Lbls W Q l) => same_ref P Q l l pc qc W h1 h2 (by omega) (by omega))
    rw [hca] at HK1
    rw [hcb] at HK2
    rw [show decide (l = l) = true from decide_eq_true rfl] at HSM
    have HR := Lib.hid hr
    have HN := Lib.hid (show ns.length ≤ 100000000000000 by omega)
    have s1 : (la.length : Int) + (lb.length : Int) = (l.length : Int) := by omega
    have s2 : IntKind.i64.wrap (l.length : Int) = (l.length : Int) := IntWalk.i64_in _ (by omega)
    have s4 : IntKind.i64.wrap ((la.length : Int) + (lb.length : Int)) = (l.length : Int) := by rw [s1]; exact s2
    have s3 : ((l.length : Int) == (l.length : Int)) = true := by simp
    clear hA hV hla hlb hca hcb hf hr hq h s1
    go_enter Tryd.func9, Tryd.ntmps9
    go_upto_region 4 with (first
      | (go_at_call 13; refine HC.out.mono ?_; rintro e w1 ⟨rfl, hb1⟩; have HB1 := Lib.hid hb1; clear hb1)
      | (go_at_call 20; refine (keep_prog A V l c ns nc _ (HA.out.below HB1.out) (HV.out.below HB1.out) HR.out HN.out).mono ?_; rintro e w2 ⟨v2, rfl, ho2, hb2⟩; rw [HLA.out] at ho2; obtain ⟨P2, c2, hv2, hc2, hL2, _⟩ := ownl_slice ho2; subst hv2; have HL2 := Lib.hid hL2; have HB2 := Lib.hid (HB1.out.trans (hb2.mono HB1.out.size)); clear ho2 hb2 hL2)
      | (go_at_call 22; refine (drop_prog A V l c ns nc _ (HA.out.below HB2.out) (HV.out.below HB2.out) HR.out HN.out).mono ?_; rintro e w3 ⟨v3, rfl, ho3, hb3⟩; rw [HLB.out] at ho3; obtain ⟨P3, c3, hv3, hc3, hL3, _⟩ := ownl_slice ho3; subst hv3; have HL3 := Lib.hid hL3; have HL23 := Lib.hid (HL2.out.below hb3); have HB3 := Lib.hid (HB2.out.trans (hb3.mono HB2.out.size)); clear ho3 hb3 hL3))
    have HCC := Lib.hid (show la.length ≤ c2 ∧ lb.length ≤ c3 from ⟨hc2, hc3⟩)
    clear hc2 hc3
    go_wp2_with (first
      | (go_at_call_of 13 (Value.slice P2 la.length c2); refine (HK1.out _ _ _ HL23.out).mono ?_; rintro e w4 ⟨rfl, hb4⟩; have HB34 := Lib.hid hb4; have HB4 := Lib.hid (HB3.out.trans (hb4.mono HB3.out.size)); clear hb4)
      | (go_at_call_of 13 (Value.slice P3 lb.length c3); refine (HK2.out _ _ _ (HL3.out.below HB34.out)).mono ?_; rintro e w5 ⟨rfl, hb5⟩; have HB35 := Lib.hid (HB34.out.trans (hb5.mono HB34.out.size)); have HB5 := Lib.hid (HB4.out.trans (hb5.mono HB4.out.size)); clear hb5)
      | (go_at_call 34; first
          | (refine (HM2.out P3 P2 c3 c2 w7 (HL3.out.below HB37.out) (HL23.out.below HB37.out) HCC.out.2 HCC.out.1).mono ?_; rintro e w8 ⟨v8, rfl, ho8, hb8⟩; obtain ⟨P8, c8, hv8, _, hL8, _⟩ := ownl_slice ho8; subst hv8; have HL8 := Lib.hid hL8; have HB8 := Lib.hid (HB7.out.trans (hb8.mono HB7.out.size)); clear ho8 hb8 hL8)
          | (refine (HM1.out P2 P3 c2 c3 w5 (HL23.out.below HB35.out) (HL3.out.below HB35.out) HCC.out.1 HCC.out.2).mono ?_; rintro e w6 ⟨v6, rfl, ho6, hb6⟩; obtain ⟨P6, c6, hv6, _, hL6, _⟩ := ownl_slice ho6; subst hv6; have HL6 := Lib.hid hL6; have HB36 := Lib.hid (HB35.out.trans (hb6.mono HB35.out.size)); have HB6 := Lib.hid (HB5.out.trans (hb6.mono HB5.out.size)); clear ho6 hb6 hL6))
      | (go_at_call 19; first
          | (refine (HSM.out P8 A c8 c w8 HL8.out (HA.out.below HB8.out)).mono ?_; rintro e w9 ⟨rfl, hb9⟩; have HB9 := Lib.hid (HB8.out.trans (hb9.mono HB8.out.size)); clear hb9)
          | (refine (HSM.out P6 A c6 c w6 HL6.out (HA.out.below HB6.out)).mono ?_; rintro e w7 ⟨rfl, hb7⟩; have HB37 := Lib.hid (HB36.out.trans (hb7.mono HB36.out.size)); have HB7 := Lib.hid (HB6.out.trans (hb7.mono HB6.out.size)); clear hb7))
      | (go_at_call 15; refine (lives_true _).mono ?_; rintro e w10 ⟨rfl, hb10⟩; have HB10 := Lib.hid (HB9.out.trans (hb10.mono HB9.out.size)); clear hb10))
    go_ret
    exact ⟨rfl, HB10.out⟩
  · have hne := h
    generalize lbChk l = C at *
    have i1 : (C != 0) = true := bne_iff_ne.2 h
    have i2 : (C == 0) = false := beq_eq_false_iff_ne.2 h
    clear h hne hA hV hf
    go_enter Tryd.func9, Tryd.ntmps9
    go_wp2_with (first
      | (go_at_call 13; refine HC.out.mono ?_; rintro e w1 ⟨rfl, hb1⟩; have HB1 := Lib.hid hb1; clear hb1)
      | (go_at_call 15; refine (lives_true _).mono ?_; rintro e w2 ⟨rfl, hb2⟩; have HB2 := Lib.hid (HB1.out.trans (hb2.mono HB1.out.size)); clear hb2))
    go_ret
    exact ⟨rfl, HB2.out⟩
end Go.Proofs.YtgiclapgilppgaaDoor
