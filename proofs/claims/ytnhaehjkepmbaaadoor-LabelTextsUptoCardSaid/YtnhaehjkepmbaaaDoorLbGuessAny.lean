/- A value at the front of any text, and what is taken for labels of any text: as the program does it. -/
import Derived.Test.YtnhaehjkepmbaaaDoorLbPuErr
import Derived.Test.YtnhaehjkepmbaaaDoorLbGuess
import Derived.Test.YtnhaehjkepmbaaaDoorLbRefParse
namespace Go.Proofs.YtnhaehjkepmbaaaDoor
open Go.RowKit Go.Maps
set_option linter.unusedVariables false
def UnesTold (s : ByteArray) (w : World) (e : Ending) (w' : World) : Prop := (∃ v r : ByteArray, e = .returned (.tuple #[.string v, .string r]) ∧ v.size ≤ s.size ∧ r.size ≤ s.size) ∧ Below w.heap.size w w'
theorem txt_size (l : List UInt8) : (txt l).size = l.length := by rw [← strL_length, strL_txt]
set_option maxHeartbeats 1000000 in
theorem unesc_any (s : ByteArray) (hsz : s.size ≤ 100000000) (w : World) (hg : ErrAt w) : Calls Tryd.prog 19 #[.string s] w (UnesTold s w) := by
  have HG := Lib.hid hg
  clear hg
  go_enter Tryd.func19, Tryd.ntmps19
  go_wp2_with fail
  go_loopw [5, 4] (fun i u wr => ∃ (p : Nat) (x : List UInt8), p ≤ s.size ∧ i = .int .i64 (p : Int) ∧ x.length ≤ p ∧ Own wr w.heap.size u x ∧ Below w.heap.size w wr) (fun i _ _ => s.size - (intOf i).toNat)
  case atStart => exact ⟨0, [], Nat.zero_le _, rfl, Nat.le_refl _, own_nil _ _, Below.refl _ _⟩
  case round =>
    obtain ⟨p, x, hp, rfl, hx, ho, hbr⟩ := hrel
    have HO := Lib.hid ho
    have HBR := Lib.hid hbr
    have HTL := Lib.hid (show x.length + 1 ≤ 211106232532992 by omega)
    by_cases hlt : p < s.size
    rotate_left
    · obtain rfl : p = s.size := by omega
      obtain ⟨B, d, hu, hB, _⟩ := own_slice' ho
      subst hu
      have i4 : decide ((s.size : Int) < (s.size : Int)) = false := decide_eq_false (by omega)
      have hcv := conv_bys wr B x d hB
      clear ho hB hbr
      go_wp2_with fail
      go_ret2
      exact ⟨⟨txt x, ⟨#[]⟩, rfl, by rw [txt_size]; exact hx, Nat.zero_le _⟩, HBR.out⟩
    have i4 : (p : Int) < (s.size : Int) := by omega
    have l3 : (p : Int) + 1 ≤ (s.size : Int) := by omega
    have l2' : p + 1 ≤ s.size := by omega
    have i5 : IntKind.i64.wrap ((p : Int) + 1) = (p : Int) + 1 := IntWalk.i64_in _ (by omega)
    by_cases g1 : s[p].toNat = 34
    · have i1 : ((s[p].toNat : Int) == 34) = true := by rw [g1]; rfl
      obtain ⟨B, d, hu, hB, _⟩ := own_slice' ho
      subst hu
      have hcv := conv_bys wr B x d hB
      have hcv2 := conv_bys wr.drew B x d (hB.below ((Below.refl wr.heap.size wr).drew))
      have HBD := Lib.hid hbr.drew
      clear g1 ho hB hbr
      go_wp2_with fail
      go_region
      all_goals
        go_wp2_with fail
        go_ret2
        exact ⟨⟨txt x, s.extract (p + 1) s.size, rfl, by rw [txt_size]; omega, ext_size s _ _⟩, by first | exact HBR.out | exact HBD.out⟩
    have i1 : ((s[p].toNat : Int) == 34) = false := beq_eq_false_iff_ne.2 (by omega)
    by_cases g2 : s[p].toNat = 92
    rotate_left
    · have i2 : ((s[p].toNat : Int) != 92) = true := bne_iff_ne.2 (by omega)
      have i3 : ((s[p].toNat : Int) == 92) = false := beq_eq_false_iff_ne.2 (by omega)
      clear g1 g2 ho hbr
      go_wp2_with (first
        | (at_builtin; refine app_u8 rfl (.tmp 28) (.tmp 32) rfl w.heap.size _ _ rfl (own_alloc HO.out _) _ [s[p]] 1 rfl (row_bys1 (Row.new _ _ _)) HTL.out (Nat.le_trans HBR.out.size (by simp)) ?_; intro v3 w3 hown3 hb3 _; have HO3 := Lib.hid hown3; have HB3 := Lib.hid ((HBR.out.alloc HBR.out.size _).trans hb3); clear hown3 hb3))
      go_roundw
      case rel => exact ⟨p + 1, x ++ [s[p]], by omega, by go_num, by simp; omega, HO3.out, HB3.out⟩
      case measure => simp [intOf]; omega
    have i2 : ((s[p].toNat : Int) != 92) = false := by rw [g2]; rfl
    have i3 : ((s[p].toNat : Int) == 92) = true := by rw [g2]; rfl
    have HB := Lib.hid (behind_any (s.extract (p + 1) s.size) wr (HG.out.below hbr))
    have hes : (s.extract (p + 1) s.size).size = s.size - (p + 1) := by rw [← strL_length, strL_ext, List.length_take, List.length_drop, strL_length]; omega
    clear g1 g2 ho hbr
    go_wp2_with fail
    refine HB.out.mono ?_
    rintro e w2 ⟨⟨c, m, rfl, hm⟩, hb2⟩
    have HB2 := Lib.hid (HBR.out.trans (hb2.mono HBR.out.size))
    have HO2 := Lib.hid (own_below HO.out hb2)
    have hpm : p + m + 1 ≤ s.size := by omega
    have i6 : IntKind.i64.wrap ((p : Int) + (m : Int)) = ((p + m : Nat) : Int) := by rw [IntKind.wrap_i64]; omega
    clear hb2 hm hes
    go_wp2_with (first
      | (at_builtin; refine app_u8 rfl (.tmp 42) (.tmp 44) rfl w.heap.size _ _ rfl (own_alloc HO2.out _) _ [c] 1 rfl (row_bys1 (Row.new _ _ _)) HTL.out (Nat.le_trans HB2.out.size (by simp)) ?_; intro v3 w3 hown3 hb3 _; have HO3 := Lib.hid hown3; have HB3 := Lib.hid ((HB2.out.alloc HB2.out.size _).trans hb3); clear hown3 hb3))
    go_roundw
    case rel => exact ⟨p + m + 1, x ++ [c], by omega, by go_num, by simp; omega, HO3.out, HB3.out⟩
    case measure => simp [intOf]; omega
theorem cut_less {X A B : List UInt8} (h : Lib.cut X [61, 34] = (A, B, true)) : A.length ≤ X.length ∧ B.length + 1 ≤ X.length := by
  unfold Lib.cut at h
  split at h
  · rename_i h0
    simp only [Prod.mk.injEq, and_true] at h
    obtain ⟨rfl, rfl⟩ := h
    have hx : X ≠ [] := by rintro rfl; simp [Lib.index] at h0
    have : 0 < X.length := List.length_pos_iff.2 hx
    simp only [List.length_take, List.length_drop, List.length_cons, List.length_nil]
    omega
  · simp at h
theorem trim_le (X Y : List UInt8) : (Lib.trimPrefix X Y).length ≤ X.length := by
  unfold Lib.trimPrefix
  split
  · simp
  · exact Nat.le_refl _
theorem trim_str (t : ByteArray) (Y : List UInt8) (w : World) : Calls Tryd.prog 17 #[.string t, .string (txt Y)] w fun e w' => (∃ r : ByteArray, e = .returned (.string r) ∧ r.size ≤ t.size) ∧ w' = w := by
  have := trim_txt (strL t) Y _ rfl w
  rw [txt_strL] at this
  refine this.mono ?_
  rintro e w' ⟨rfl, h⟩
  refine ⟨⟨_, rfl, ?_⟩, h⟩
  rw [txt_size, ← strL_length]
  exact trim_le _ _
def GuessTold (s : ByteArray) (w : World) (e : Ending) (w' : World) : Prop := (∃ v l, e = .returned v ∧ OwnL w' w.heap.size v l ∧ l.length ≤ s.size ∧ LSz s.size l) ∧ Below w.heap.size w w'
set_option maxHeartbeats 1000000 in
theorem guess_any (s : ByteArray) (hsz : s.size ≤ 10000000) (m : Int) (w : World) (hw : 0 < w.heap.size) (hm : w.cell? ⟨0, 0, none⟩ = some (.int .i64 m)) (hg : ErrAt w) : Calls Tryd.prog 10 #[.string s] w (GuessTold s w) := by
  have hb1 : txt [123] = ⟨#[123]⟩ := rfl
  have hb2 : txt [61, 34] = ⟨#[61, 34]⟩ := rfl
  have hb3 : txt [44, 32] = ⟨#[44, 32]⟩ := rfl
  have hT0 := trim_str s [123] w
  rw [hb1] at hT0
  have HT0 := Lib.hid hT0
  have hTS := fun (t : ByteArray) (W : World) => trim_str t [44, 32] W
  rw [hb3] at hTS
  have HTS := Lib.hid hTS
  have HMM := Lib.hid (fun W (h : Below w.heap.size w W) => (h.cell (p := ⟨0, 0, none⟩) hw).trans hm)
  have HG := Lib.hid (fun W (h : Below w.heap.size w W) => hg.below h)
  clear hm hg hT0 hTS hb1 hb3
  go_enter Tryd.func10, Tryd.ntmps10
  go_wp2_with fail
  refine HT0.out.mono ?_
  rintro e w1 ⟨⟨t0, rfl, ht0⟩, hw1⟩
  rw [hw1]
  have HT1 := Lib.hid ht0
  clear hw1 ht0
  go_wp2_with fail
  go_loopw [4, 3] (fun t u wr => ∃ (t1 : ByteArray) (l : List Lbl), t = .string t1 ∧ OwnL wr w.heap.size u l ∧ l.length + t1.size ≤ s.size ∧ LSz s.size l ∧ Below w.heap.size w wr) (fun t _ _ => sizeOfS t)
  case atStart => exact ⟨t0, [], rfl, ownl_nil _ _, by simpa using HT1.out, (fun x hx => by cases hx), Below.refl _ _⟩
  case round =>
    obtain ⟨t1, l, rfl, ho, hl, hz, hbr⟩ := hrel
    have HBR := Lib.hid hbr
    have HO := Lib.hid ho
    have HZ := Lib.hid hz
    obtain ⟨A, B, f, hc⟩ : ∃ A B f, Lib.cut (strL t1) [61, 34] = (A, B, f) := ⟨_, _, _, rfl⟩
    have hC := cut_txt (strL t1) [61, 34] A B f hc m wr (by rw [strL_length]; omega) (HMM.out _ hbr)
    rw [txt_strL, hb2] at hC
    have HC := Lib.hid hC
    have HG1 := Lib.hid (HG.out wr hbr)
    clear ho hz hbr hC hb2
    cases f with
    | false =>
      clear hc
      go_wp2_with fail
      refine HC.out.mono ?_
      rintro e w2 ⟨rfl, n2, hw2⟩
      rw [hw2]
      clear hw2
      have HB2 := Lib.hid (below_drewN' HBR.out n2)
      have HO2 := Lib.hid (ownl_below HO.out (below_drewN' (Below.refl wr.heap.size wr) n2))
      go_wp2_with fail
      go_ret
      exact ⟨⟨_, l, rfl, HO2.out, by omega, HZ.out⟩, HB2.out⟩
    | true =>
      obtain ⟨c1, c2⟩ := cut_less hc
      rw [strL_length] at c1 c2
      have hA : (txt A).size ≤ s.size := by rw [txt_size]; omega
      have hB : (txt B).size + 1 ≤ t1.size := by rw [txt_size]; omega
      clear hc c1 c2
      generalize txt A = nm at *
      generalize txt B = af at *
      go_wp2_with fail
      refine HC.out.mono ?_
      rintro e w2 ⟨rfl, n2, hw2⟩
      rw [hw2]
      have HB2 := Lib.hid (below_drewN' HBR.out n2)
      have hbd := below_drewN' (Below.refl wr.heap.size wr) n2
      have HO2 := Lib.hid (ownl_below HO.out hbd)
      have HU := Lib.hid (unesc_any af (by omega) (wr.drewN n2) (HG1.out.below hbd))
      clear hw2 hbd
      go_wp2_with fail
      refine HU.out.mono ?_
      rintro e w3 ⟨⟨v, r, rfl, hv, hr⟩, hb3⟩
      have HB3 := Lib.hid (HB2.out.trans (hb3.mono HB2.out.size))
      have HO3 := Lib.hid (ownl_below HO2.out hb3)
      have HLZ := Lib.hid (show LSz s.size (l ++ [(nm, v)]) from fun y hy => by
        rcases List.mem_append.1 hy with hy | hy
        · exact HZ.out y hy
        · obtain rfl := List.mem_singleton.1 hy
          exact ⟨hA, by dsimp only; omega⟩)
      have HLN := Lib.hid (show (l.length + [(nm, v)].length) * 32 ≤ 140737488355328 by simp only [List.length_singleton]; omega)
      clear hb3
      go_wp2_with (first
        | (at_builtin; refine app_lbls rfl (.tmp 26) (.tmp 30) rfl w.heap.size _ l rfl (ownl_below HO3.out (below_one _ _)) _ [(nm, v)] 1 rfl (lbls_cell (Row.new _ _ _)) HLN.out (Nat.le_trans HB3.out.size (by simp)) ?_; intro v4 w4 hown4 hb4 _; have HO4 := Lib.hid hown4; have HB4 := Lib.hid ((HB3.out.alloc HB3.out.size _).trans hb4); clear hown4 hb4)
        | fail)
      refine (HTS.out _ _).mono ?_
      rintro e w5 ⟨⟨t5, rfl, ht5⟩, hw5⟩
      rw [hw5]
      clear hw5
      have HQ := Lib.hid (show (l ++ [(nm, v)]).length + t5.size ≤ s.size by simp; omega)
      have HM := Lib.hid (show t5.size < t1.size by omega)
      clear ht5 hv hr hA hB
      go_wp2_with fail
      go_roundw
      case rel => exact ⟨t5, _, rfl, HO4.out, HQ.out, HLZ.out, HB4.out⟩
      case measure => have := HM.out; simpa [sizeOfS] using this
theorem parse_no (s : ByteArray) (hsz : s.size ≤ 10000000) (hno : ∀ l0, lbChk l0 = 0 → printL l0 ≠ strL s) (m : Int) (w : World) (hw : 0 < w.heap.size) (hm : w.cell? ⟨0, 0, none⟩ = some (.int .i64 m)) (hg : ErrAt w) :
    Calls Tryd.prog 4 #[.string s] w fun e w' => e = .returned (.tuple #[.slice none 0 0, .int .i64 14]) ∧ Below w.heap.size w w' := by
  have HGS := Lib.hid (guess_any s hsz m w hw hm hg)
  have HNO := Lib.hid hno
  clear hno hm hg
  go_enter Tryd.func4, Tryd.ntmps4
  go_wp2_with fail
  refine HGS.out.mono ?_
  rintro e w1 ⟨⟨v, l, rfl, ho, hl, hz⟩, hb1⟩
  obtain ⟨P, c, hv, _, hLb, _⟩ := ownl_slice ho
  subst hv
  have HB1 := Lib.hid hb1
  have HCK := Lib.hid (lbchk_prog P l c w1 hLb (by omega))
  have HPR := Lib.hid (fun (h0 : lbChk l = 0) (x : World) (hx : Below w1.heap.size w1 x) => print_prog P l c x (hLb.below hx) (by omega) (by have := right_cost h0; omega))
  clear ho hz hb1 hLb
  by_cases g1 : lbChk l = 0
  · have hne := HNO.out l g1
    have key : ((txt (printL l)).toList == s.toList) = false := by
      rw [beq_eq_false_iff_ne, ByteArray.toList_eq, ByteArray.toList_eq]
      have h2 : (txt (printL l)).data.toList = printL l := strL_txt _
      rw [h2]
      exact hne
    have key2 : ((txt (printL l)).toList != s.toList) = true := by rw [bne, key]; rfl
    have HP := Lib.hid (HPR.out g1)
    rw [g1] at HCK
    clear HPR g1 hne
    generalize txt (printL l) = pl at *
    go_wp2_with (first
      | (go_at_call 11; refine HCK.out.mono ?_; rintro e w2 ⟨rfl, hb2⟩; have HC2 := Lib.hid hb2; have HB2 := Lib.hid (below_then HB1.out hb2); clear hb2)
      | (go_at_call 6; refine (HP.out _ HC2.out).mono ?_; rintro e w3 ⟨rfl, hb3⟩; have HB3 := Lib.hid (below_then HB2.out hb3); clear hb3))
    go_ret2
    exact ⟨rfl, HB3.out⟩
  · have q1 : (lbChk l != 0) = true := bne_iff_ne.2 g1
    clear HPR g1
    generalize lbChk l = E at *
    go_wp2_with (first
      | (go_at_call 11; refine HCK.out.mono ?_; rintro e w2 ⟨rfl, hb2⟩; have HB2 := Lib.hid (below_then HB1.out hb2); clear hb2))
    go_ret2
    exact ⟨rfl, HB2.out⟩
end Go.Proofs.YtnhaehjkepmbaaaDoor
