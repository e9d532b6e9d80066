/- What is laid down is read, and what is read was laid down so: WalBack's walk. -/
import Derived.Test.YtmgolnlkepiocaaWaLives
import Derived.Test.YtmgolnlkepiocaaWaLotX
import Derived.Test.YtmgolnlkepiocaaWaOpen
namespace Go.Proofs.Ytmgolnlkepiocaa
open Go.RowKit Go.Maps
set_option linter.unusedVariables false

theorem txt_neq (l : List UInt8) : ((txt l).toList != (txt l).toList) = false := by simp
theorem txt_eql (l : List UInt8) : ((txt l).toList == (txt l).toList) = true := by simp
set_option maxRecDepth 20000 in
set_option maxHeartbeats 1000000 in
theorem walBack_yy (w : World) (p : Pl) (hp : RecIn w p.1 p.2) (hf : RecFit p.1) (A : Option Addr) (l : List UInt8) (c : Nat) (hA : Bys w A l) (hl : l.length ≤ 140737488351232) (hlc : l.length ≤ c) (S : RecV) (hS : IsRec l S) (hr : recChk p.1 = 0) :
    Calls Try.prog 4 #[.agg (plE p).toArray, .slice A l.length c] w fun e w' => e = .returned (.bool true) ∧ Below w.heap.size w w' := by
  obtain ⟨⟨k, la, ro, ids, lo, hi⟩, ⟨A1, ca, B1, cb, C1, cc⟩⟩ := p
  simp only [plE, recC]
  have HX := Lib.hid (fun W (hW : Below (w.heap.size + 1) (w.alloc (.cells #[.int .i64 k, .slice A1 la.length ca, .slice B1 ro.length cb, .slice C1 ids.length cc, .int .i64 lo, .int .i64 hi] 26)) W) => rec_cells ((Row.new w 26 #[.int .i64 k, .slice A1 la.length ca, .slice B1 ro.length cb, .slice C1 ids.length cc, .int .i64 lo, .int .i64 hi]).below hW (by omega)) rfl)
  have HB0 := Lib.hid (below_one w (.cells #[.int .i64 k, .slice A1 la.length ca, .slice B1 ro.length cb, .slice C1 ids.length cc, .int .i64 lo, .int .i64 hi] 26))
  obtain ⟨x0, x1, x2, x3, x4, x5⟩ := HX.out _ (Below.refl _ _)
  have HA := Lib.hid (fun W (hW : Below w.heap.size w W) => hA.below hW)
  have HP := Lib.hid (fun W (hW : Below w.heap.size w W) => hp.below hW)
  have HLC := Lib.hid hlc
  have HOF := Lib.hid (fun W (hW : Below w.heap.size w W) => of_yes hS A c W (hA.below hW) hlc (by omega))
  have HSB := Lib.hid (fun m W (h : RecIn W S m) => wbytes_yes S m W h hS.1)
  rw [hS.2] at HSB
  have HRB := Lib.hid (fun W (hW : Below w.heap.size w W) => wbytes_yes ⟨k, la, ro, ids, lo, hi⟩ ⟨A1, ca, B1, cb, C1, cc⟩ W (hp.below hW) hr)
  have HOX := Lib.hid (fun P d W (hP : Bys W P (recL ⟨k, la, ro, ids, lo, hi⟩)) (hd : (recL ⟨k, la, ro, ids, lo, hi⟩).length ≤ d) => of_yes ⟨hr, rfl⟩ P d W hP hd (by have := recL_len hr; omega))
  have HSM := Lib.hid (fun m W (h : RecIn W ⟨k, la, ro, ids, lo, hi⟩ m) (hW : Below w.heap.size w W) => recsame_prog ⟨k, la, ro, ids, lo, hi⟩ m ⟨A1, ca, B1, cb, C1, cc⟩ W h (hp.below hW) hf)
  generalize recL ⟨k, la, ro, ids, lo, hi⟩ = rl at *
  obtain ⟨sk, sl, sr, si, so, sh⟩ := S
  clear hp hf hr hS hA hl hlc
  simp only [recC] at *
  have j1 := txt_neq l
  have j2 := txt_eql l
  go_enter Try.func4, Try.ntmps4
  go_wp2_with (first
    | (go_at_call 13; (with_reducible refine (HOF.out _ HB0.out).mono ?_); rintro e w1 ⟨m1, rfl, ho1, hb1⟩
       have HB1 := Lib.hid (below_then HB0.out hb1)
       have HX1 := Lib.hid (hb1.mono (show w.heap.size + 1 ≤ _ by simp))
       have HZ1 := Lib.hid (show w.heap.size + 1 ≤ w1.heap.size by have := hb1.size; simp at this; omega)
       have HO1 := Lib.hid ho1.in_
       obtain ⟨P1, a1, P2, a2, P3, a3⟩ := m1
       simp only [] at *
       clear ho1 hb1)
    | (go_at_call 8; (with_reducible refine (HSB.out ⟨P1, a1, P2, a2, P3, a3⟩ _ (HO1.out.alloc _)).mono ?_); rintro e w2 ⟨v2, rfl, ho2, hb2⟩
       obtain ⟨Q2, q2, hv2, hQ2, _⟩ := own_slice' ho2
       subst hv2
       have HB2 := Lib.hid (below_on2 HB1.out HB1.out.size hb2)
       have HX2 := Lib.hid (below_on2 HX1.out HZ1.out hb2)
       have HZ2 := Lib.hid (Nat.le_trans HZ1.out (Nat.le_trans (by simp) hb2.size))
       have c1 : (convert 27 9 (.slice Q2 l.length q2)).run Try.prog w2 = .ok (.string (txt l)) w2 := conv_bys w2 Q2 l q2 hQ2
       have c2 : (convert 27 9 (.slice A l.length c)).run Try.prog w2 = .ok (.string (txt l)) w2 := conv_bys w2 A l c (HA.out _ HB2.out)
       obtain ⟨y0, y1, y2, y3, y4, y5⟩ := HX.out _ HX2.out
       clear ho2 hb2 hQ2)
    | (go_at_call 8; (with_reducible refine (HRB.out _ HB2.out).mono ?_); rintro e w3 ⟨v3, rfl, ho3, hb3⟩
       obtain ⟨Q3, q3, hv3, hQ3, _, hq3, _⟩ := own_cap ho3
       subst hv3
       have HB3 := Lib.hid (below_then HB2.out hb3)
       have HX3 := Lib.hid (HX2.out.trans (hb3.mono HZ2.out))
       have HZ3 := Lib.hid (Nat.le_trans HZ2.out hb3.size)
       have HQ3 := Lib.hid hQ3
       have HQC := Lib.hid hq3
       clear ho3 hb3 hQ3 hq3)
    | (go_at_call 13; (with_reducible refine (HOX.out _ _ _ HQ3.out HQC.out).mono ?_); rintro e w4 ⟨m4, rfl, ho4, hb4⟩
       obtain ⟨R1, r1, R2, r2, R3, r3⟩ := m4
       simp only [] at *
       have HO4 := Lib.hid ho4.in_
       have HB4 := Lib.hid ((below_then HB3.out hb4).alloc (below_then HB3.out hb4).size (.cells #[.int .i64 k, .slice R1 la.length r1, .slice R2 ro.length r2, .slice R3 ids.length r3, .int .i64 lo, .int .i64 hi] 26))
       have HX4 := Lib.hid ((HX3.out.trans (hb4.mono HZ3.out)).alloc (Nat.le_trans HZ3.out hb4.size) (.cells #[.int .i64 k, .slice R1 la.length r1, .slice R2 ro.length r2, .slice R3 ids.length r3, .int .i64 lo, .int .i64 hi] 26))
       obtain ⟨u0, u1, u2, u3, u4, u5⟩ := HX.out _ HX4.out
       clear ho4 hb4)
    | (go_at_call 12; refine (HSM.out ⟨R1, r1, R2, r2, R3, r3⟩ _ (HO4.out.alloc _) HB4.out).mono ?_; rintro e w5 ⟨rfl, hb5⟩; have HB5 := Lib.hid (below_then HB4.out hb5); clear hb5)
    | (go_at_call 15; refine (waLives_true _).mono ?_; rintro e w9 ⟨rfl, hb9⟩; have HB9 := Lib.hid (below_then HB5.out hb9); clear hb9))
  go_ret
  exact ⟨rfl, HB9.out⟩
set_option maxRecDepth 20000 in
set_option maxHeartbeats 1000000 in
theorem walBack_yn (w : World) (p : Pl) (hp : RecIn w p.1 p.2) (hf : RecFit p.1) (A : Option Addr) (l : List UInt8) (c : Nat) (hA : Bys w A l) (hl : l.length ≤ 140737488351232) (hlc : l.length ≤ c) (S : RecV) (hS : IsRec l S) (hr : recChk p.1 ≠ 0) :
    Calls Try.prog 4 #[.agg (plE p).toArray, .slice A l.length c] w fun e w' => e = .returned (.bool true) ∧ Below w.heap.size w w' := by
  obtain ⟨⟨k, la, ro, ids, lo, hi⟩, ⟨A1, ca, B1, cb, C1, cc⟩⟩ := p
  simp only [plE, recC]
  have HX := Lib.hid (fun W (hW : Below (w.heap.size + 1) (w.alloc (.cells #[.int .i64 k, .slice A1 la.length ca, .slice B1 ro.length cb, .slice C1 ids.length cc, .int .i64 lo, .int .i64 hi] 26)) W) => rec_cells ((Row.new w 26 #[.int .i64 k, .slice A1 la.length ca, .slice B1 ro.length cb, .slice C1 ids.length cc, .int .i64 lo, .int .i64 hi]).below hW (by omega)) rfl)
  have HB0 := Lib.hid (below_one w (.cells #[.int .i64 k, .slice A1 la.length ca, .slice B1 ro.length cb, .slice C1 ids.length cc, .int .i64 lo, .int .i64 hi] 26))
  obtain ⟨x0, x1, x2, x3, x4, x5⟩ := HX.out _ (Below.refl _ _)
  have HA := Lib.hid (fun W (hW : Below w.heap.size w W) => hA.below hW)
  have HP := Lib.hid (fun W (hW : Below w.heap.size w W) => hp.below hW)
  have HLC := Lib.hid hlc
  have HOF := Lib.hid (fun W (hW : Below w.heap.size w W) => of_yes hS A c W (hA.below hW) hlc (by omega))
  have HSB := Lib.hid (fun m W (h : RecIn W S m) => wbytes_yes S m W h hS.1)
  rw [hS.2] at HSB
  have HRB := Lib.hid (fun W (hW : Below w.heap.size w W) => wbytes_no ⟨k, la, ro, ids, lo, hi⟩ ⟨A1, ca, B1, cb, C1, cc⟩ W (hp.below hW) hf hr)
  have HRC := Lib.hid (fun W (hW : Below w.heap.size w W) => wchk_prog ⟨k, la, ro, ids, lo, hi⟩ ⟨A1, ca, B1, cb, C1, cc⟩ W (hp.below hW) hf)
  obtain ⟨X, hX⟩ : ∃ X, recChk ⟨k, la, ro, ids, lo, hi⟩ = X := ⟨_, rfl⟩
  simp only at hr
  rw [hX] at HRB HRC hr
  have i2 : (X != 0) = true := bne_iff_ne.2 hr
  have i3 : (X == 0) = false := beq_eq_false_iff_ne.2 hr
  have i4 : (X == X) = true := by simp
  clear hX
  obtain ⟨sk, sl, sr, si, so, sh⟩ := S
  clear hp hf hr hS hA hl hlc
  simp only [recC] at *
  have j1 := txt_neq l
  have j2 := txt_eql l
  go_enter Try.func4, Try.ntmps4
  go_wp2_with (first
    | (go_at_call 13; (with_reducible refine (HOF.out _ HB0.out).mono ?_); rintro e w1 ⟨m1, rfl, ho1, hb1⟩
       have HB1 := Lib.hid (below_then HB0.out hb1)
       have HX1 := Lib.hid (hb1.mono (show w.heap.size + 1 ≤ _ by simp))
       have HZ1 := Lib.hid (show w.heap.size + 1 ≤ w1.heap.size by have := hb1.size; simp at this; omega)
       have HO1 := Lib.hid ho1.in_
       obtain ⟨P1, a1, P2, a2, P3, a3⟩ := m1
       simp only [] at *
       clear ho1 hb1)
    | (go_at_call 8; (with_reducible refine (HSB.out ⟨P1, a1, P2, a2, P3, a3⟩ _ (HO1.out.alloc _)).mono ?_); rintro e w2 ⟨v2, rfl, ho2, hb2⟩
       obtain ⟨Q2, q2, hv2, hQ2, _⟩ := own_slice' ho2
       subst hv2
       have HB2 := Lib.hid (below_on2 HB1.out HB1.out.size hb2)
       have HX2 := Lib.hid (below_on2 HX1.out HZ1.out hb2)
       have HZ2 := Lib.hid (Nat.le_trans HZ1.out (Nat.le_trans (by simp) hb2.size))
       have c1 : (convert 27 9 (.slice Q2 l.length q2)).run Try.prog w2 = .ok (.string (txt l)) w2 := conv_bys w2 Q2 l q2 hQ2
       have c2 : (convert 27 9 (.slice A l.length c)).run Try.prog w2 = .ok (.string (txt l)) w2 := conv_bys w2 A l c (HA.out _ HB2.out)
       obtain ⟨y0, y1, y2, y3, y4, y5⟩ := HX.out _ HX2.out
       clear ho2 hb2 hQ2)
    | (go_at_call 8; (with_reducible refine (HRB.out _ HB2.out).mono ?_); rintro e w3 ⟨rfl, hb3⟩
       have HB3 := Lib.hid (below_then HB2.out hb3)
       have HX3 := Lib.hid (HX2.out.trans (hb3.mono HZ2.out))
       obtain ⟨z0, z1, z2, z3, z4, z5⟩ := HX.out _ HX3.out
       clear hb3)
    | (go_at_call 10; refine (HRC.out _ HB3.out).mono ?_; rintro e w4 ⟨rfl, hb4⟩; have HB4 := Lib.hid (below_then HB3.out hb4); clear hb4)
    | (go_at_call 15; refine (waLives_true _).mono ?_; rintro e w9 ⟨rfl, hb9⟩; have HB9 := Lib.hid (below_then HB4.out hb9); clear hb9))
  go_ret
  exact ⟨rfl, HB9.out⟩
set_option maxRecDepth 20000 in
set_option maxHeartbeats 1000000 in
theorem walBack_ny (w : World) (p : Pl) (hp : RecIn w p.1 p.2) (hf : RecFit p.1) (A : Option Addr) (l : List UInt8) (c : Nat) (hA : Bys w A l) (hl : l.length ≤ 140737488351232) (hlc : l.length ≤ c) (hS : ∀ S, ¬ IsRec l S) (hr : recChk p.1 = 0) :
    Calls Try.prog 4 #[.agg (plE p).toArray, .slice A l.length c] w fun e w' => e = .returned (.bool true) ∧ Below w.heap.size w w' := by
  obtain ⟨⟨k, la, ro, ids, lo, hi⟩, ⟨A1, ca, B1, cb, C1, cc⟩⟩ := p
  simp only [plE, recC]
  have HX := Lib.hid (fun W (hW : Below (w.heap.size + 1) (w.alloc (.cells #[.int .i64 k, .slice A1 la.length ca, .slice B1 ro.length cb, .slice C1 ids.length cc, .int .i64 lo, .int .i64 hi] 26)) W) => rec_cells ((Row.new w 26 #[.int .i64 k, .slice A1 la.length ca, .slice B1 ro.length cb, .slice C1 ids.length cc, .int .i64 lo, .int .i64 hi]).below hW (by omega)) rfl)
  have HB0 := Lib.hid (below_one w (.cells #[.int .i64 k, .slice A1 la.length ca, .slice B1 ro.length cb, .slice C1 ids.length cc, .int .i64 lo, .int .i64 hi] 26))
  obtain ⟨x0, x1, x2, x3, x4, x5⟩ := HX.out _ (Below.refl _ _)
  have HA := Lib.hid (fun W (hW : Below w.heap.size w W) => hA.below hW)
  have HP := Lib.hid (fun W (hW : Below w.heap.size w W) => hp.below hW)
  have HLC := Lib.hid hlc
  have HOF := Lib.hid (fun W (hW : Below w.heap.size w W) => of_no hS A c W (hA.below hW) hlc (by omega))
  have HRB := Lib.hid (fun W (hW : Below w.heap.size w W) => wbytes_yes ⟨k, la, ro, ids, lo, hi⟩ ⟨A1, ca, B1, cb, C1, cc⟩ W (hp.below hW) hr)
  have HOX := Lib.hid (fun P d W (hP : Bys W P (recL ⟨k, la, ro, ids, lo, hi⟩)) (hd : (recL ⟨k, la, ro, ids, lo, hi⟩).length ≤ d) => of_yes ⟨hr, rfl⟩ P d W hP hd (by have := recL_len hr; omega))
  have HSM := Lib.hid (fun m W (h : RecIn W ⟨k, la, ro, ids, lo, hi⟩ m) (hW : Below w.heap.size w W) => recsame_prog ⟨k, la, ro, ids, lo, hi⟩ m ⟨A1, ca, B1, cb, C1, cc⟩ W h (hp.below hW) hf)
  generalize recL ⟨k, la, ro, ids, lo, hi⟩ = rl at *
  clear hp hf hr hS hA hl hlc
  simp only [recC] at *
  have j1 := txt_neq l
  have j2 := txt_eql l
  go_enter Try.func4, Try.ntmps4
  go_wp2_with (first
    | (go_at_call 13; (with_reducible refine (HOF.out _ HB0.out).mono ?_); rintro e w1 ⟨rfl, hb1⟩
       have HB2 := Lib.hid ((below_then HB0.out hb1).alloc (below_then HB0.out hb1).size (.cells #[.int .i64 0, .slice none 0 0, .slice none 0 0, .slice none 0 0, .int .i64 0, .int .i64 0] 26))
       have HX2 := Lib.hid ((hb1.mono (show w.heap.size + 1 ≤ _ by simp)).alloc (by have := hb1.size; simp at this; omega) (.cells #[.int .i64 0, .slice none 0 0, .slice none 0 0, .slice none 0 0, .int .i64 0, .int .i64 0] 26))
       have HZ2 := Lib.hid (show w.heap.size + 1 ≤ (w1.alloc (.cells #[.int .i64 0, .slice none 0 0, .slice none 0 0, .slice none 0 0, .int .i64 0, .int .i64 0] 26)).heap.size by have := hb1.size; simp at this; simp; omega)
       obtain ⟨y0, y1, y2, y3, y4, y5⟩ := HX.out _ HX2.out
       clear hb1)
    | (go_at_call 8; (with_reducible refine (HRB.out _ HB2.out).mono ?_); rintro e w3 ⟨v3, rfl, ho3, hb3⟩
       obtain ⟨Q3, q3, hv3, hQ3, _, hq3, _⟩ := own_cap ho3
       subst hv3
       have HB3 := Lib.hid (below_then HB2.out hb3)
       have HX3 := Lib.hid (HX2.out.trans (hb3.mono HZ2.out))
       have HZ3 := Lib.hid (Nat.le_trans HZ2.out hb3.size)
       have HQ3 := Lib.hid hQ3
       have HQC := Lib.hid hq3
       clear ho3 hb3 hQ3 hq3)
    | (go_at_call 13; (with_reducible refine (HOX.out _ _ _ HQ3.out HQC.out).mono ?_); rintro e w4 ⟨m4, rfl, ho4, hb4⟩
       obtain ⟨R1, r1, R2, r2, R3, r3⟩ := m4
       simp only [] at *
       have HO4 := Lib.hid ho4.in_
       have HB4 := Lib.hid ((below_then HB3.out hb4).alloc (below_then HB3.out hb4).size (.cells #[.int .i64 k, .slice R1 la.length r1, .slice R2 ro.length r2, .slice R3 ids.length r3, .int .i64 lo, .int .i64 hi] 26))
       have HX4 := Lib.hid ((HX3.out.trans (hb4.mono HZ3.out)).alloc (Nat.le_trans HZ3.out hb4.size) (.cells #[.int .i64 k, .slice R1 la.length r1, .slice R2 ro.length r2, .slice R3 ids.length r3, .int .i64 lo, .int .i64 hi] 26))
       obtain ⟨u0, u1, u2, u3, u4, u5⟩ := HX.out _ HX4.out
       clear ho4 hb4)
    | (go_at_call 12; refine (HSM.out ⟨R1, r1, R2, r2, R3, r3⟩ _ (HO4.out.alloc _) HB4.out).mono ?_; rintro e w5 ⟨rfl, hb5⟩; have HB5 := Lib.hid (below_then HB4.out hb5); clear hb5)
    | (go_at_call 15; refine (waLives_true _).mono ?_; rintro e w9 ⟨rfl, hb9⟩; have HB9 := Lib.hid (below_then HB5.out hb9); clear hb9))
  go_ret
  exact ⟨rfl, HB9.out⟩
set_option maxRecDepth 20000 in
set_option maxHeartbeats 1000000 in
theorem walBack_nn (w : World) (p : Pl) (hp : RecIn w p.1 p.2) (hf : RecFit p.1) (A : Option Addr) (l : List UInt8) (c : Nat) (hA : Bys w A l) (hl : l.length ≤ 140737488351232) (hlc : l.length ≤ c) (hS : ∀ S, ¬ IsRec l S) (hr : recChk p.1 ≠ 0) :
    Calls Try.prog 4 #[.agg (plE p).toArray, .slice A l.length c] w fun e w' => e = .returned (.bool true) ∧ Below w.heap.size w w' := by
  obtain ⟨⟨k, la, ro, ids, lo, hi⟩, ⟨A1, ca, B1, cb, C1, cc⟩⟩ := p
  simp only [plE, recC]
  have HX := Lib.hid (fun W (hW : Below (w.heap.size + 1) (w.alloc (.cells #[.int .i64 k, .slice A1 la.length ca, .slice B1 ro.length cb, .slice C1 ids.length cc, .int .i64 lo, .int .i64 hi] 26)) W) => rec_cells ((Row.new w 26 #[.int .i64 k, .slice A1 la.length ca, .slice B1 ro.length cb, .slice C1 ids.length cc, .int .i64 lo, .int .i64 hi]).below hW (by omega)) rfl)
  have HB0 := Lib.hid (below_one w (.cells #[.int .i64 k, .slice A1 la.length ca, .slice B1 ro.length cb, .slice C1 ids.length cc, .int .i64 lo, .int .i64 hi] 26))
  obtain ⟨x0, x1, x2, x3, x4, x5⟩ := HX.out _ (Below.refl _ _)
  have HA := Lib.hid (fun W (hW : Below w.heap.size w W) => hA.below hW)
  have HP := Lib.hid (fun W (hW : Below w.heap.size w W) => hp.below hW)
  have HLC := Lib.hid hlc
  have HOF := Lib.hid (fun W (hW : Below w.heap.size w W) => of_no hS A c W (hA.below hW) hlc (by omega))
  have HRB := Lib.hid (fun W (hW : Below w.heap.size w W) => wbytes_no ⟨k, la, ro, ids, lo, hi⟩ ⟨A1, ca, B1, cb, C1, cc⟩ W (hp.below hW) hf hr)
  have HRC := Lib.hid (fun W (hW : Below w.heap.size w W) => wchk_prog ⟨k, la, ro, ids, lo, hi⟩ ⟨A1, ca, B1, cb, C1, cc⟩ W (hp.below hW) hf)
  obtain ⟨X, hX⟩ : ∃ X, recChk ⟨k, la, ro, ids, lo, hi⟩ = X := ⟨_, rfl⟩
  simp only at hr
  rw [hX] at HRB HRC hr
  have i2 : (X != 0) = true := bne_iff_ne.2 hr
  have i3 : (X == 0) = false := beq_eq_false_iff_ne.2 hr
  have i4 : (X == X) = true := by simp
  clear hX
  clear hp hf hr hS hA hl hlc
  simp only [recC] at *
  have j1 := txt_neq l
  have j2 := txt_eql l
  go_enter Try.func4, Try.ntmps4
  go_wp2_with (first
    | (go_at_call 13; (with_reducible refine (HOF.out _ HB0.out).mono ?_); rintro e w1 ⟨rfl, hb1⟩
       have HB2 := Lib.hid ((below_then HB0.out hb1).alloc (below_then HB0.out hb1).size (.cells #[.int .i64 0, .slice none 0 0, .slice none 0 0, .slice none 0 0, .int .i64 0, .int .i64 0] 26))
       have HX2 := Lib.hid ((hb1.mono (show w.heap.size + 1 ≤ _ by simp)).alloc (by have := hb1.size; simp at this; omega) (.cells #[.int .i64 0, .slice none 0 0, .slice none 0 0, .slice none 0 0, .int .i64 0, .int .i64 0] 26))
       have HZ2 := Lib.hid (show w.heap.size + 1 ≤ (w1.alloc (.cells #[.int .i64 0, .slice none 0 0, .slice none 0 0, .slice none 0 0, .int .i64 0, .int .i64 0] 26)).heap.size by have := hb1.size; simp at this; simp; omega)
       obtain ⟨y0, y1, y2, y3, y4, y5⟩ := HX.out _ HX2.out
       clear hb1)
    | (go_at_call 8; (with_reducible refine (HRB.out _ HB2.out).mono ?_); rintro e w3 ⟨rfl, hb3⟩
       have HB3 := Lib.hid (below_then HB2.out hb3)
       have HX3 := Lib.hid (HX2.out.trans (hb3.mono HZ2.out))
       obtain ⟨z0, z1, z2, z3, z4, z5⟩ := HX.out _ HX3.out
       clear hb3)
    | (go_at_call 10; refine (HRC.out _ HB3.out).mono ?_; rintro e w4 ⟨rfl, hb4⟩; have HB4 := Lib.hid (below_then HB3.out hb4); clear hb4)
    | (go_at_call 15; refine (waLives_true _).mono ?_; rintro e w9 ⟨rfl, hb9⟩; have HB9 := Lib.hid (below_then HB4.out hb9); clear hb9))
  go_ret
  exact ⟨rfl, HB9.out⟩
theorem walBack_walk (w : World) (p : Pl) (hp : RecIn w p.1 p.2) (hf : RecFit p.1) (A : Option Addr) (l : List UInt8) (c : Nat) (hA : Bys w A l) (hl : l.length ≤ 140737488351232) (hlc : l.length ≤ c) :
    Calls Try.prog 4 #[.agg (plE p).toArray, .slice A l.length c] w fun e w' => e = .returned (.bool true) ∧ Below w.heap.size w w' := by
  by_cases h1 : ∃ S, IsRec l S
  · obtain ⟨S, hS⟩ := h1
    by_cases h2 : recChk p.1 = 0
    · exact walBack_yy w p hp hf A l c hA hl hlc S hS h2
    · exact walBack_yn w p hp hf A l c hA hl hlc S hS h2
  · have hS : ∀ S, ¬ IsRec l S := fun S h => h1 ⟨S, h⟩
    by_cases h2 : recChk p.1 = 0
    · exact walBack_ny w p hp hf A l c hA hl hlc hS h2
    · exact walBack_nn w p hp hf A l c hA hl hlc hS h2
end Go.Proofs.Ytmgolnlkepiocaa
