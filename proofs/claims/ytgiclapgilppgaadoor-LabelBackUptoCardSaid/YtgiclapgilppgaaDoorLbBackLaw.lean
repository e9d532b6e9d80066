/- LabelBack's walk. -/
import Derived.Test.YtgiclapgilppgaaDoorLbParseBack
import Derived.Test.YtgiclapgilppgaaDoorLbLives
namespace Go.Proofs.YtgiclapgilppgaaDoor
open Go.RowKit Go.Maps
set_option linter.unusedVariables false

theorem at_eq' (l : List Lbl) {i : Nat} (h : i < l.length) : l[i].1 = nmOf l i ∧ l[i].2 = vlOf l i := by
  unfold nmOf vlOf
  rw [List.getD_eq_getElem?_getD, List.getElem?_eq_getElem h]
  exact ⟨rfl, rfl⟩
set_option maxHeartbeats 1000000 in
theorem labelBack_walk (w : World) (hsm : 0 < w.heap.size ∧ ∃ m, w.cell? ⟨0, 0, none⟩ = some (.int .i64 m)) (A : Option Addr) (l : List Lbl) (c : Nat) (hA : Lbls w A l) (hf : LFits l) (hr : l.length * 32 ≤ 140737488351232) (hlc : l.length ≤ c)
    (B : Option Addr) (b : List UInt8) (d : Nat) (hB : Bys w B b) (hb : b.length ≤ 1048576) (hbd : b.length ≤ d) (C : Option Addr) (mo : List UInt8) (e0 : Nat) (hC : Bys w C mo) (hmo : mo.length ≤ 1048576) (hme : mo.length ≤ e0) :
    Calls Tryd.prog 10 #[.slice A l.length c, .slice B b.length d, .slice C mo.length e0] w fun e w' => e = .returned (.bool true) ∧ Below w.heap.size w w' := by
  obtain ⟨hw, m, hm⟩ := hsm
  have HK := Lib.hid (fun W (h : Below w.heap.size w W) => lbchk_prog A l c W (hA.below h) (by omega))
  by_cases h : lbChk l = 0
  · have h8 := (lbChk_ok.1 h).1
    have hct := cost_right h
    have hbl : (bytesL l).length ≤ 1000 := bytesF_small h (Nat.le_refl _)
    have HPU := Lib.hid (put_yes B A b d l c w hB hA (by omega) h)
    have HPR := Lib.hid (fun W (hW : Below w.heap.size w W) => print_prog A l c W (hA.below hW) (by omega) (by omega))
    have HPA := Lib.hid (fun W (hW : Below w.heap.size w W) => parse_back l h m W (Nat.lt_of_lt_of_le hw hW.size) ((hW.cell (p := ⟨0, 0, none⟩) hw).trans hm))
    obtain ⟨y, hy⟩ : ∃ y, b ++ bytesL l = y := ⟨_, rfl⟩
    obtain ⟨z, hz⟩ : ∃ z, y ++ mo = z := ⟨_, rfl⟩
    have hylen : y.length ≤ 1050000 := by rw [← hy, List.length_append]; omega
    have hzlen : z.length ≤ 3000000 := by rw [← hz, List.length_append]; omega
    have hz1 : z = b ++ (uintL l.length ++ (lblB l ++ mo)) := by rw [← hz, ← hy, bytes_all]; simp only [List.append_assoc]
    have hz2 : z = (b ++ uintL l.length) ++ (lblB l ++ mo) := by rw [hz1]; simp only [List.append_assoc]
    have hgx := gx_of b (lblB l ++ mo) l.length (by omega)
    rw [← hz1] at hgx
    have hrl := rl_of l (fun x hx => by
      obtain ⟨k, hk, rfl⟩ := List.mem_iff_getElem.1 hx
      have h1 := right_at h hk
      obtain ⟨e1, e2⟩ := at_eq' l hk
      rw [e1, e2]
      omega) (b ++ uintL l.length) mo
    rw [← hz2, List.length_append] at hrl
    have hpl : b.length + (uintL l.length).length + (lblB l).length = y.length := by rw [← hy, bytes_all]; simp only [List.length_append]; omega
    rw [hpl] at hrl
    have HRD := Lib.hid (fun P q W (hP : Bys W P z) (hq : z.length ≤ q) => read_told hgx h8 (by exact_mod_cast hrl) P q W hP hq (by omega))
    have HSM := Lib.hid (fun P q W (h1 : Lbls W P l) (h2 : Below w.heap.size w W) => same_ref P A l l q c W h1 (hA.below h2) (by omega) (by omega))
    rw [show decide (l = l) = true from decide_eq_true rfl] at HSM
    rw [hy] at HPU
    have HH := Lib.hid h
    have HC := Lib.hid hC
    have HZ := Lib.hid hz
    have HYL := Lib.hid hylen
    have HZL := Lib.hid hzlen
    have q1 : ((y.length : Int) == (y.length : Int)) = true := by simp
    clear hA hB hC hf hr hm hct hbl hy hz hylen hzlen hz1 hz2 hgx hrl hpl h h8
    go_enter Tryd.func10, Tryd.ntmps10
    go_upto_region 5 with (first
      | (go_at_call 30; refine HPU.out.mono ?_; rintro e w1 ⟨v1, rfl, ho1, hb1⟩; obtain ⟨P1, d1, hv1, hP1, _⟩ := own_slice' ho1; subst hv1; have HP1 := Lib.hid hP1; have HB1 := Lib.hid hb1; clear ho1 hb1 hP1)
      | (go_at_call 28; refine (HPR.out _ HB1.out).mono ?_; rintro e w2 ⟨rfl, hb2⟩; have HP2 := Lib.hid (HP1.out.below hb2); have HB2 := Lib.hid (HB1.out.trans (hb2.mono HB1.out.size)); clear hb2)
      | (go_at_call 26; refine (HPA.out _ HB2.out).mono ?_; rintro e w3 ⟨v3, rfl, ho3, hb3⟩; obtain ⟨P3, d3, hv3, _, hL3, _⟩ := ownl_slice ho3; subst hv3; have HL3 := Lib.hid hL3; have HP3 := Lib.hid (HP2.out.below hb3); have HB3 := Lib.hid (HB2.out.trans (hb3.mono HB2.out.size)); clear ho3 hb3 hL3))
    go_wp2_with (first
      | (at_builtin; refine app_u8 rfl (.tmp 41) (.tmp 42) rfl w3.heap.size _ [] rfl (own_empty (Row.new _ _ _) (Nat.le_refl _)) P1 y d1 rfl (HP3.out.alloc _) (by have := HYL.out; simp only [List.length_nil]; omega) (by simp) ?_; intro v4 w4 hown4 hb4' _; rw [List.nil_append] at hown4; have HO4 := Lib.hid hown4; have HB4x := Lib.hid ((below_one w3 (.cells #[] 5)).trans hb4'); have HB4 := Lib.hid (HB3.out.trans (HB4x.out.mono HB3.out.size)); clear hown4 hb4')
      | (at_builtin; refine app_u8 rfl (.tmp 43) (.tmp 44) rfl w3.heap.size _ y rfl HO4.out C mo e0 rfl (HC.out.below HB4.out) (by have := HYL.out; omega) HB4x.out.size ?_; intro v5 w5 hown5 hb5' _; rw [HZ.out] at hown5; obtain ⟨P5, d5, hv5, hP5, _, hcap5, _⟩ := own_cap hown5; subst hv5; have HP5 := Lib.hid hP5; have HCP := Lib.hid hcap5; have HB5x := Lib.hid (HB4x.out.trans hb5'); have HB5 := Lib.hid (HB3.out.trans (HB5x.out.mono HB3.out.size)); clear hown5 hb5' hP5 hcap5)
      | (go_at_call 32; refine (HRD.out _ _ _ HP5.out HCP.out).mono ?_; rintro e w6 ⟨hb6, ⟨h1, _⟩ | ⟨_, h1, _⟩ | ⟨_, _, v6, rfl, ho6⟩⟩; exact absurd rfl h1; exact absurd HH.out h1; obtain ⟨P6, d6, hv6, _, hL6, _⟩ := ownl_slice ho6; subst hv6; have HL6 := Lib.hid hL6; have HL36 := Lib.hid ((HL3.out.below HB5x.out).below hb6); have HB6 := Lib.hid (HB5.out.trans (hb6.mono HB5.out.size)); clear ho6 hb6 hL6)
      | (go_at_call_of 19 (Value.slice P3 l.length d3); refine (HSM.out _ _ _ HL36.out HB6.out).mono ?_; rintro e w7 ⟨rfl, hb7⟩; have HL7 := Lib.hid (HL6.out.below hb7); have HB7 := Lib.hid (HB6.out.trans (hb7.mono HB6.out.size)); clear hb7)
      | (go_at_call_of 19 (Value.slice P6 l.length d6); refine (HSM.out _ _ _ HL7.out HB7.out).mono ?_; rintro e w8 ⟨rfl, hb8⟩; have HB8 := Lib.hid (HB7.out.trans (hb8.mono HB7.out.size)); clear hb8)
      | (go_at_call 15; refine (lives_true _).mono ?_; rintro e w9 ⟨rfl, hb9⟩; have HB9 := Lib.hid (HB8.out.trans (hb9.mono HB8.out.size)); clear hb9))
    go_ret
    exact ⟨rfl, HB9.out⟩
  · have HPU := Lib.hid (put_no B A b.length d l c w hA (by omega) h)
    have hne := h
    obtain ⟨X, hX⟩ : ∃ X, lbChk l = X := ⟨_, rfl⟩
    rw [hX] at HPU HK hne
    have i1 : (X != 0) = true := bne_iff_ne.2 hne
    have i2 : (X == 0) = false := beq_eq_false_iff_ne.2 hne
    have i3 : (X == X) = true := by simp
    clear h hne hX hA hB hC hf
    go_enter Tryd.func10, Tryd.ntmps10
    go_wp2_with (first
      | (go_at_call 30; refine HPU.out.mono ?_; rintro e w1 ⟨rfl, hb1⟩; have HB1 := Lib.hid hb1; clear hb1)
      | (go_at_call 13; refine (HK.out _ HB1.out).mono ?_; rintro e w2 ⟨rfl, hb2⟩; have HB2 := Lib.hid (HB1.out.trans (hb2.mono HB1.out.size)); clear hb2)
      | (go_at_call 15; refine (lives_true _).mono ?_; rintro e w3 ⟨rfl, hb3⟩; have HB3 := Lib.hid (HB2.out.trans (hb3.mono HB2.out.size)); clear hb3))
    go_ret
    exact ⟨rfl, HB3.out⟩
end Go.Proofs.YtgiclapgilppgaaDoor
