/- The record of bytes, as the document says it (gaugeref11.Of). -/
import Derived.Test.YtmgolnlkepiocaaWaRefRead3
import Derived.Test.YtmgolnlkepiocaaWaRefBytes
import Derived.Test.YtmgolnlkepiocaaWaBack
namespace Go.Proofs.Ytmgolnlkepiocaa
open Go.RowKit Go.Maps
set_option linter.unusedVariables false

theorem refread_prog {l : List UInt8} {R : RecV} {p : Int} {E : Nat} (hd : RD l R p E) (A : Option Addr) (c : Nat) (w : World) (hA : Bys w A l) (hlc : l.length ≤ c) (hl : l.length ≤ 140737488355328) :
    Calls Try.prog 44 #[.slice A l.length c] w (RefTold w R E) := by
  have hfit := fun (h : E = 0) => rd_fit (show RD l R p 0 by rw [← h]; exact hd)
  obtain ⟨n, nx, e, hg, h⟩ := hd
  rcases h with ⟨h1, _, rfl⟩ | ⟨rfl, rfl, ls, hx, rfl⟩ | ⟨rfl, rfl, rs, hx, rfl⟩ | ⟨rfl, rfl, ids, q, E1, hp, h⟩ | ⟨rfl, h1, h2, h3, _, _, rfl⟩
  · exact refread_0 hg h1 R A c w hA hlc hl
  · exact refread_1 hg hx A c w hA hlc hl
  · obtain ⟨n2, nx2, e2, hg2, h⟩ := hx
    rcases h with ⟨h1, rfl, _⟩ | ⟨rfl, h1, rfl, _⟩ | ⟨rfl, h1, xs, hs, hr, _⟩
    · exact refread_2a hg hg2 h1 _ _ h1 A c w hA hlc hl
    · exact refread_2b hg hg2 h1 _ _ (by decide) A c w hA hlc hl
    · exact refread_2c hg hg2 h1 hs hr A c w hA hlc hl
  · rcases h with ⟨h1, _, rfl⟩ | ⟨rfl, xs, hs, rfl⟩
    · exact refread_3n hg hp h1 R E h1 A c w hA hlc hl
    · by_cases hE : E = 0
      · subst hE
        have h2 := (gs_len hs).1 rfl
        match xs, h2 with
        | [x, y], _ => exact refread_3y hg hp hs (hfit rfl) A c w hA hlc hl
      · exact refread_3e hg hp hs hE _ E hE A c w hA hlc hl
  · exact refread_4 hg h1 h2 h3 _ rfl _ A c w hA hlc hl
theorem isrec_known {b : List UInt8} {R : RecV} (h : IsRec b R) : Known R := by
  rcases recChk_zero.1 h.1 with h | h | h
  · exact .inl h.1
  · exact .inr (.inl h.1)
  · exact .inr (.inr h.1)
theorem txt_nee {a b : List UInt8} (h : a ≠ b) : ((txt a).toList == (txt b).toList) = false ∧ ((txt a).toList != (txt b).toList) = true := by
  have h1 : ((txt a).toList == (txt b).toList) = false := by rw [beq_eq_false_iff_ne]; simpa [txt, ByteArray.toList_eq] using h
  exact ⟨h1, by rw [bne, h1]; rfl⟩
set_option maxRecDepth 20000 in
set_option maxHeartbeats 2000000 in
theorem refof_yes {l : List UInt8} {S : RecV} (h : IsRec l S) (A : Option Addr) (c : Nat) (w : World) (hA : Bys w A l) (hlc : l.length ≤ c) (hl : l.length ≤ 140737488355328) :
    Calls Try.prog 14 #[.slice A l.length c] w fun e w' => ∃ m, e = .returned (.tuple #[.agg (recC S m).toArray, .int .i64 0]) ∧ OwnRec w' w.heap.size S m ∧ Below w.heap.size w w' := by
  have HZ := Lib.hid (Row.new w 26 #[.int .i64 0, .slice none 0 0, .slice none 0 0, .slice none 0 0, .int .i64 0, .int .i64 0])
  have HB0 := Lib.hid (below_one w (.cells #[.int .i64 0, .slice none 0 0, .slice none 0 0, .slice none 0 0, .int .i64 0, .int .i64 0] 26))
  have HR := Lib.hid (refread_prog (rd_yes h) A c (w.alloc (.cells #[.int .i64 0, .slice none 0 0, .slice none 0 0, .slice none 0 0, .int .i64 0, .int .i64 0] 26)) (hA.alloc _) hlc hl)
  have HKN := Lib.hid (isrec_known h)
  have HA := Lib.hid hA
  have HBY := Lib.hid (fun m W (hR : RecIn W S m) => refbytes_yes S m W hR h.1)
  rw [h.2] at HBY
  have j1 := txt_neq l
  have j2 := txt_eql l
  clear h hA
  obtain ⟨k, la, ro, ids, lo, hi⟩ := S
  simp only [recC] at HBY
  go_enter Try.func14, Try.ntmps14
  go_wp2_with (first
    | (go_at_call 44; refine HR.out.mono ?_; rintro e w2 ⟨R', m', ok, rfl, ho2, _, hb2, hy, _⟩
       obtain ⟨rfl, rfl⟩ := hy ⟨rfl, HKN.out⟩
       obtain ⟨A1, ca, B1, cb, C1, cc⟩ := m'
       simp only [recC] at *
       have HO2 := Lib.hid (ho2.lower HB0.out.size)
       have HB2 := Lib.hid (below_then HB0.out hb2)
       have HZ2 := Lib.hid (HZ.out.below hb2 HZ.out.lt)
       have HBX := Lib.hid (Row.new w2 26 #[.int .i64 k, .slice A1 la.length ca, .slice B1 ro.length cb, .slice C1 ids.length cc, .int .i64 lo, .int .i64 hi])
       obtain ⟨q0, q1, q2, q3, q4, q5⟩ := rec_cells HBX.out rfl
       clear ho2 hb2 hy)
    | (go_at_call 9; refine (HBY.out ⟨A1, ca, B1, cb, C1, cc⟩ _ (HO2.out.in_.alloc _)).mono ?_; rintro e w3 ⟨v3, rfl, ho3, hb3⟩
       obtain ⟨Q3, q3', hv3, hQ3, _, _, _⟩ := own_cap ho3
       subst hv3
       have HB3 := Lib.hid ((HB2.out.alloc HB2.out.size (.cells #[.int .i64 k, .slice A1 la.length ca, .slice B1 ro.length cb, .slice C1 ids.length cc, .int .i64 lo, .int .i64 hi] 26)).trans (hb3.mono (by have := HB2.out.size; simp; omega)))
       have HO3 := Lib.hid ((HO2.out.below (below_one _ _)).below hb3)
       have HZ3 := Lib.hid ((HZ2.out.alloc (.cells #[.int .i64 k, .slice A1 la.length ca, .slice B1 ro.length cb, .slice C1 ids.length cc, .int .i64 lo, .int .i64 hi] 26)).below hb3 (Nat.lt_of_lt_of_le HZ2.out.lt (by simp)))
       have HBX3 := Lib.hid (HBX.out.below hb3 (by simp))
       have c1 : (convert 27 9 (.slice Q3 l.length q3')).run Try.prog w3 = .ok (.string (txt l)) w3 := conv_bys _ Q3 l q3' hQ3
       have c2 : (convert 27 9 (.slice A l.length c)).run Try.prog w3 = .ok (.string (txt l)) w3 := conv_bys _ A l c (HA.out.below HB3.out)
       obtain ⟨u0, u1, u2, u3, u4, u5⟩ := rec_cells HBX3.out rfl
       obtain ⟨z0, z1, z2, z3, z4, z5⟩ := rec_cells HZ3.out rfl
       have f0 := HZ3.out.frozen 0
       have f1 := HZ3.out.frozen 1
       have f2 := HZ3.out.frozen 2
       have f3 := HZ3.out.frozen 3
       have f4 := HZ3.out.frozen 4
       have f5 := HZ3.out.frozen 5
       clear ho3 hb3 hQ3))
  try simp only [Exit.inBlock, Exit.then]
  refine bodyPost_ret (ret_rec2 rfl _ _ _ _ rfl (put6_row HZ3.out _ _ _ _ _ _) rfl) rfl ?_
  exact ⟨⟨A1, ca, B1, cb, C1, cc⟩, rfl, OwnRec.far HO3.out HZ3.out (by simp [World.setCell]) (put6_far _ _ _ _ _ _), put6_below HB3.out (Nat.le_refl _) _ _ _ _ _ _⟩
def ZR : Value := .agg #[.int .i64 0, .slice none 0 0, .slice none 0 0, .slice none 0 0, .int .i64 0, .int .i64 0]
set_option maxRecDepth 20000 in
set_option maxHeartbeats 2000000 in
theorem refof_no {l : List UInt8} (h : ∀ S, ¬ IsRec l S) (A : Option Addr) (c : Nat) (w : World) (hA : Bys w A l) (hlc : l.length ≤ c) (hl : l.length ≤ 140737488355328) :
    Calls Try.prog 14 #[.slice A l.length c] w fun e w' => e = .returned (.tuple #[.agg #[.int .i64 0, .slice none 0 0, .slice none 0 0, .slice none 0 0, .int .i64 0, .int .i64 0], .int .i64 5]) ∧ Below w.heap.size w w' := by
  obtain ⟨R, p, E, hd⟩ := rd_total l
  have HZ := Lib.hid (Row.new w 26 #[.int .i64 0, .slice none 0 0, .slice none 0 0, .slice none 0 0, .int .i64 0, .int .i64 0])
  have HB0 := Lib.hid (below_one w (.cells #[.int .i64 0, .slice none 0 0, .slice none 0 0, .slice none 0 0, .int .i64 0, .int .i64 0] 26))
  have HR := Lib.hid (refread_prog hd A c (w.alloc (.cells #[.int .i64 0, .slice none 0 0, .slice none 0 0, .slice none 0 0, .int .i64 0, .int .i64 0] 26)) (hA.alloc _) hlc hl)
  have HA := Lib.hid hA
  clear hd
  by_cases hok : E = 0 ∧ Known R
  · obtain ⟨rfl, hkn⟩ := hok
    have HKN := Lib.hid hkn
    by_cases hc : recChk R = 0
    · have hne : recL R ≠ l := fun e => h R ⟨hc, e⟩
      have HBY := Lib.hid (fun m W (hR : RecIn W R m) => refbytes_yes R m W hR hc)
      obtain ⟨j2, j1⟩ := txt_nee hne
      clear h hA hc hkn hne
      generalize recL R = rl at *
      obtain ⟨k, la, ro, ids, lo, hi⟩ := R
      simp only [recC] at HBY
      go_enter Try.func14, Try.ntmps14
      go_wp2_with (first
        | (go_at_call 44; refine HR.out.mono ?_; rintro e w2 ⟨R', m', ok, rfl, ho2, _, hb2, hy, _⟩
           obtain ⟨rfl, rfl⟩ := hy ⟨rfl, HKN.out⟩
           obtain ⟨A1, ca, B1, cb, C1, cc⟩ := m'
           simp only [recC] at *
           have HO2 := Lib.hid (ho2.lower HB0.out.size)
           have HB2 := Lib.hid (below_then HB0.out hb2)
           have HZ2 := Lib.hid (HZ.out.below hb2 HZ.out.lt)
           obtain ⟨q0, q1, q2, q3, q4, q5⟩ := rec_cells (Row.new w2 26 #[.int .i64 k, .slice A1 la.length ca, .slice B1 ro.length cb, .slice C1 ids.length cc, .int .i64 lo, .int .i64 hi]) rfl
           clear ho2 hb2 hy)
        | (go_at_call 9; refine (HBY.out ⟨A1, ca, B1, cb, C1, cc⟩ _ (HO2.out.in_.alloc _)).mono ?_; rintro e w3 ⟨v3, rfl, ho3, hb3⟩
           obtain ⟨Q3, q3', hv3, hQ3, _, _, _⟩ := own_cap ho3
           subst hv3
           have HB3 := Lib.hid ((HB2.out.alloc HB2.out.size (.cells #[.int .i64 k, .slice A1 la.length ca, .slice B1 ro.length cb, .slice C1 ids.length cc, .int .i64 lo, .int .i64 hi] 26)).trans (hb3.mono (by have := HB2.out.size; simp; omega)))
           have HZ3 := Lib.hid ((HZ2.out.alloc (.cells #[.int .i64 k, .slice A1 la.length ca, .slice B1 ro.length cb, .slice C1 ids.length cc, .int .i64 lo, .int .i64 hi] 26)).below hb3 (Nat.lt_of_lt_of_le HZ2.out.lt (by simp)))
           have c1 : (convert 27 9 (.slice Q3 rl.length q3')).run Try.prog w3 = .ok (.string (txt rl)) w3 := conv_bys _ Q3 rl q3' hQ3
           have c2 : (convert 27 9 (.slice A l.length c)).run Try.prog w3 = .ok (.string (txt l)) w3 := conv_bys _ A l c (HA.out.below HB3.out)
           obtain ⟨z0, z1, z2, z3, z4, z5⟩ := rec_cells HZ3.out rfl
           have f0 := HZ3.out.frozen 0
           have f1 := HZ3.out.frozen 1
           have f2 := HZ3.out.frozen 2
           have f3 := HZ3.out.frozen 3
           have f4 := HZ3.out.frozen 4
           have f5 := HZ3.out.frozen 5
           clear ho3 hb3 hQ3))
      try simp only [Exit.inBlock, Exit.then]
      refine bodyPost_ret (ret_rec2 rfl _ _ _ _ rfl (put6_row HZ3.out _ _ _ _ _ _) rfl) rfl ?_
      exact ⟨rfl, put6_below HB3.out (Nat.le_refl _) _ _ _ _ _ _⟩
    · have HBN := Lib.hid (fun m W (hR : RecIn W R m) (hf : RecFit R) => refbytes_no R m W hR hf hc)
      obtain ⟨X, hX⟩ : ∃ X, recChk R = X := ⟨_, rfl⟩
      rw [hX] at HBN hc
      have i2 : (X != 0) = true := bne_iff_ne.2 hc
      have i3 : (X == 0) = false := beq_eq_false_iff_ne.2 hc
      clear h hA hc hkn hX
      obtain ⟨k, la, ro, ids, lo, hi⟩ := R
      simp only [recC] at HBN
      go_enter Try.func14, Try.ntmps14
      go_wp2_with (first
        | (go_at_call 44; refine HR.out.mono ?_; rintro e w2 ⟨R', m', ok, rfl, ho2, hf2, hb2, hy, _⟩
           obtain ⟨rfl, rfl⟩ := hy ⟨rfl, HKN.out⟩
           obtain ⟨A1, ca, B1, cb, C1, cc⟩ := m'
           simp only [recC] at *
           have HF2 := Lib.hid hf2
           have HO2 := Lib.hid (ho2.lower HB0.out.size)
           have HB2 := Lib.hid (below_then HB0.out hb2)
           have HZ2 := Lib.hid (HZ.out.below hb2 HZ.out.lt)
           obtain ⟨q0, q1, q2, q3, q4, q5⟩ := rec_cells (Row.new w2 26 #[.int .i64 k, .slice A1 la.length ca, .slice B1 ro.length cb, .slice C1 ids.length cc, .int .i64 lo, .int .i64 hi]) rfl
           clear ho2 hb2 hy hf2)
        | (go_at_call 9; refine (HBN.out ⟨A1, ca, B1, cb, C1, cc⟩ _ (HO2.out.in_.alloc _) HF2.out).mono ?_; rintro e w3 ⟨rfl, hb3⟩
           have HB3 := Lib.hid ((HB2.out.alloc HB2.out.size (.cells #[.int .i64 k, .slice A1 la.length ca, .slice B1 ro.length cb, .slice C1 ids.length cc, .int .i64 lo, .int .i64 hi] 26)).trans (hb3.mono (by have := HB2.out.size; simp; omega)))
           have HZ3 := Lib.hid ((HZ2.out.alloc (.cells #[.int .i64 k, .slice A1 la.length ca, .slice B1 ro.length cb, .slice C1 ids.length cc, .int .i64 lo, .int .i64 hi] 26)).below hb3 (Nat.lt_of_lt_of_le HZ2.out.lt (by simp)))
           obtain ⟨z0, z1, z2, z3, z4, z5⟩ := rec_cells HZ3.out rfl
           have f0 := HZ3.out.frozen 0
           have f1 := HZ3.out.frozen 1
           have f2 := HZ3.out.frozen 2
           have f3 := HZ3.out.frozen 3
           have f4 := HZ3.out.frozen 4
           have f5 := HZ3.out.frozen 5
           clear hb3))
      try simp only [Exit.inBlock, Exit.then]
      refine bodyPost_ret (ret_rec2 rfl _ _ _ _ rfl (put6_row HZ3.out _ _ _ _ _ _) rfl) rfl ?_
      exact ⟨rfl, put6_below HB3.out (Nat.le_refl _) _ _ _ _ _ _⟩
  · have HOK := Lib.hid hok
    clear h hA hok
    go_enter Try.func14, Try.ntmps14
    go_wp2_with (first
      | (go_at_call 44; refine HR.out.mono ?_; rintro e w2 ⟨R', m', ok, rfl, ho2, _, hb2, _, hn⟩
         obtain rfl := hn HOK.out
         obtain ⟨k, la, ro, ids, lo, hi⟩ := R'
         obtain ⟨A1, ca, B1, cb, C1, cc⟩ := m'
         simp only [recC] at *
         have HB2 := Lib.hid (below_then HB0.out hb2)
         have HZ2 := Lib.hid ((HZ.out.below hb2 HZ.out.lt).alloc (.cells #[.int .i64 k, .slice A1 la.length ca, .slice B1 ro.length cb, .slice C1 ids.length cc, .int .i64 lo, .int .i64 hi] 26))
         obtain ⟨z0, z1, z2, z3, z4, z5⟩ := rec_cells HZ2.out rfl
         have f0 := HZ2.out.frozen 0
         have f1 := HZ2.out.frozen 1
         have f2 := HZ2.out.frozen 2
         have f3 := HZ2.out.frozen 3
         have f4 := HZ2.out.frozen 4
         have f5 := HZ2.out.frozen 5
         clear ho2 hb2 hn))
    try simp only [Exit.inBlock, Exit.then]
    refine bodyPost_ret (ret_rec2 rfl _ _ _ _ rfl (put6_row HZ2.out _ _ _ _ _ _) rfl) rfl ?_
    exact ⟨rfl, put6_below (HB2.out.alloc HB2.out.size _) (Nat.le_refl _) _ _ _ _ _ _⟩
end Go.Proofs.Ytmgolnlkepiocaa
