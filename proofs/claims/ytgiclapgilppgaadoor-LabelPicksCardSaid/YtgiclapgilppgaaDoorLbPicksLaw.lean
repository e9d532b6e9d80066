/- LabelPicks' walk. -/
import Derived.Test.YtgiclapgilppgaaDoorLbLives
import Derived.Test.YtgiclapgilppgaaDoorLbPick2
namespace Go.Proofs.YtgiclapgilppgaaDoor
open Go.RowKit Go.Maps
set_option linter.unusedVariables false

theorem filter_len32 (l : List Lbl) (st : Lbl → Bool) (h : l.length * 32 ≤ 140737488351232) : (l.filter st).length ≤ 100000000000000 := by
  have := List.length_filter_le st l
  omega
theorem labelPicks_walk (w : World) (A : Option Addr) (l : List Lbl) (c : Nat) (hA : Lbls w A l) (hf : LFits l) (hr : l.length * 32 ≤ 140737488351232) (hlc : l.length ≤ c)
    (V : Option Addr) (ns : List ByteArray) (nc : Nat) (hV : Nms w V ns) (_ : True) (hq : ns.length * 16 ≤ 140737488351232) (hnc : ns.length ≤ nc) (name : ByteArray) (hname : name.size ≤ 140737488351232) :
    Calls Tryd.prog 4 #[.slice A l.length c, .slice V ns.length nc, .string name] w fun e w' => e = .returned (.bool true) ∧ Below w.heap.size w w' := by
  have HA := Lib.hid hA
  have HV := Lib.hid hV
  have HL := Lib.hid hr
  have HN := Lib.hid (show ns.length ≤ 100000000000000 by omega)
  have HL2 := Lib.hid (show l.length ≤ 100000000000000 by omega)
  have q0 : ((getF l name l.length 0).toList == (getF l name l.length 0).toList) = true := by simp
  have HFK := Lib.hid (fun (st : Lbl → Bool) => filter_len32 l st hr)
  obtain ⟨lk, hlk⟩ : ∃ lk, l.filter (fun x => hasB ns x.1) = lk := ⟨_, rfl⟩
  obtain ⟨ld, hld⟩ : ∃ ld, l.filter (fun x => !hasB ns x.1) = ld := ⟨_, rfl⟩
  have HFK1 := Lib.hid (show lk.length ≤ 100000000000000 by rw [← hlk]; exact HFK.out _)
  have HFK2 := Lib.hid (show ld.length ≤ 100000000000000 by rw [← hld]; exact HFK.out _)
  have HLK := Lib.hid hlk
  have HLD := Lib.hid hld
  have HEQ := Lib.hid (show (l.filter fun x => hasB ns x.1 == true) = lk by rw [← hlk]; congr 1; funext x; simp)
  have HEQ2 := Lib.hid (show (l.filter fun x => hasB ns x.1 == false) = ld by rw [← hld]; congr 1; funext x; simp)
  clear hlk hld HFK
  clear hA hV hf hr hq
  have HG := Lib.hid (fun W P k (h : Lbls W P l) => get_prog P l k name W h HL2.out)
  have HGR := Lib.hid (fun W (h : Below w.heap.size w W) => get_ref A l c name W (HA.out.below h) HL2.out)
  generalize getF l name l.length 0 = GV at *
  go_enter Tryd.func4, Tryd.ntmps4
  go_wp2_with (first
    | (go_at_call 16; refine (own_law A l c _ HA.out HL.out).mono ?_; rintro e w1 ⟨G, cap, rfl, hG1, hcap, hG0, hb1⟩; have HG1 := Lib.hid hG1; have HGI := Lib.hid (show Lbls w1 (some ⟨G, 0, none⟩) l by have := hG1.front l.length; simpa using this); have HB1 := Lib.hid hb1; have HCAP := Lib.hid hcap; clear hG1 hb1 hcap hG0)
    | (go_at_call 17; refine (HG.out _ _ _ HGI.out).mono ?_; rintro e w2 ⟨rfl, hb2⟩; have HB12 := Lib.hid hb2; have HB2 := Lib.hid (HB1.out.trans (hb2.mono HB1.out.size)); clear hb2)
    | (go_at_call 18; refine (HGR.out _ HB2.out).mono ?_; rintro e w3 ⟨rfl, hw3⟩; subst hw3)
    | (go_at_call 20; refine (keep_prog _ V l _ ns nc _ (HGI.out.below HB12.out) (HV.out.below HB2.out) HL.out HN.out).mono ?_; rintro e w4 ⟨v4, rfl, ho4, hb4⟩; rw [HLK.out] at ho4; obtain ⟨P4, c4, rfl, _, hL4, _⟩ := ownl_slice ho4; have HO4 := Lib.hid hL4; have HB14 := Lib.hid (HB12.out.trans (hb4.mono HB12.out.size)); have HB4 := Lib.hid (HB2.out.trans (hb4.mono HB2.out.size)); clear ho4 hb4 hL4)
    | (go_at_call_of 21 (Value.bool true); refine (pick_ref A V l c ns nc true _ (HA.out.below HB4.out) (HV.out.below HB4.out) HL.out HN.out).mono ?_; rintro e w5 ⟨v5, rfl, ho5, hb5⟩; rw [HEQ.out] at ho5; obtain ⟨P5, c5, rfl, _, hL5, _⟩ := ownl_slice ho5; have HO5 := Lib.hid hL5; have HO45 := Lib.hid (HO4.out.below hb5); have HB15 := Lib.hid (HB14.out.trans (hb5.mono HB14.out.size)); have HB5 := Lib.hid (HB4.out.trans (hb5.mono HB4.out.size)); clear ho5 hb5 hL5)
    | (go_at_call_of 19 (Value.slice P4 lk.length c4); refine (same_ref P4 P5 lk lk c4 c5 _ HO45.out HO5.out HFK1.out HFK1.out).mono ?_; rintro e w6 ⟨rfl, hb6⟩; rw [decide_eq_true rfl]; have HB16 := Lib.hid (HB15.out.trans (hb6.mono HB15.out.size)); have HB6 := Lib.hid (HB5.out.trans (hb6.mono HB5.out.size)); clear hb6)
    | (go_at_call 22; refine (drop_prog _ V l _ ns nc _ (HGI.out.below HB16.out) (HV.out.below HB6.out) HL.out HN.out).mono ?_; rintro e w7 ⟨v7, rfl, ho7, hb7⟩; rw [HLD.out] at ho7; obtain ⟨P7, c7, rfl, _, hL7, _⟩ := ownl_slice ho7; have HO7 := Lib.hid hL7; have HB17 := Lib.hid (HB16.out.trans (hb7.mono HB16.out.size)); have HB7 := Lib.hid (HB6.out.trans (hb7.mono HB6.out.size)); clear ho7 hb7 hL7)
    | (go_at_call_of 21 (Value.bool false); refine (pick_ref A V l c ns nc false _ (HA.out.below HB7.out) (HV.out.below HB7.out) HL.out HN.out).mono ?_; rintro e w8 ⟨v8, rfl, ho8, hb8⟩; rw [HEQ2.out] at ho8; obtain ⟨P8, c8, rfl, _, hL8, _⟩ := ownl_slice ho8; have HO8 := Lib.hid hL8; have HO78 := Lib.hid (HO7.out.below hb8); have HB18 := Lib.hid (HB17.out.trans (hb8.mono HB17.out.size)); have HB8 := Lib.hid (HB7.out.trans (hb8.mono HB7.out.size)); clear ho8 hb8 hL8)
    | (go_at_call_of 19 (Value.slice P7 ld.length c7); refine (same_ref P7 P8 ld ld c7 c8 _ HO78.out HO8.out HFK2.out HFK2.out).mono ?_; rintro e w9 ⟨rfl, hb9⟩; rw [decide_eq_true rfl]; have HB19 := Lib.hid (HB18.out.trans (hb9.mono HB18.out.size)); have HB9 := Lib.hid (HB8.out.trans (hb9.mono HB8.out.size)); clear hb9)
    | (go_at_call 23; refine (kept_law A l c G cap _ (HA.out.below HB9.out) HL.out (HG1.out.below HB19.out) HCAP.out).mono ?_; rintro e w10 ⟨rfl, hb10⟩; have HB10 := Lib.hid (HB9.out.trans (hb10.mono HB9.out.size)); clear hb10)
    | (go_at_call 15; refine (lives_true _).mono ?_; rintro e w11 ⟨rfl, hb11⟩; have HB11 := Lib.hid (HB10.out.trans (hb11.mono HB10.out.size)); clear hb11))
  go_ret
  exact ⟨rfl, HB11.out⟩
end Go.Proofs.YtgiclapgilppgaaDoor
