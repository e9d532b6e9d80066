/- The record of bytes, as the program tells it (wal.Of). -/
import Derived.Test.YtmgolnlkepiocaaWaRead
namespace Go.Proofs.Ytmgolnlkepiocaa
open Go.RowKit Go.Maps
set_option linter.unusedVariables false

theorem own_form6 {w : World} {b : Nat} {R : RecV} {m : RecM} (h : OwnRec w b R m) : True := trivial
set_option maxRecDepth 20000 in
set_option maxHeartbeats 1000000 in
theorem of_err {l : List UInt8} {R : RecV} {p : Int} {E : Nat} (hd : RD l R p E) (hE : E ≠ 0) (A : Option Addr) (c : Nat) (w : World) (hA : Bys w A l) (hlc : l.length ≤ c) (hl : l.length ≤ 140737488355328) :
    Calls Try.prog 13 #[.slice A l.length c] w fun e' w' => e' = .returned (.tuple #[.agg #[.int .i64 0, .slice none 0 0, .slice none 0 0, .slice none 0 0, .int .i64 0, .int .i64 0], .int .i64 5]) ∧ Below w.heap.size w w' := by
  have hr := Row.new w 26 #[.int .i64 0, .slice none 0 0, .slice none 0 0, .slice none 0 0, .int .i64 0, .int .i64 0]
  have HR := Lib.hid (read_rec hd A c (w.alloc (.cells #[.int .i64 0, .slice none 0 0, .slice none 0 0, .slice none 0 0, .int .i64 0, .int .i64 0] 26)) (hA.alloc _) hlc hl)
  have HZ := Lib.hid hr
  have HB0 := Lib.hid (below_one w (.cells #[.int .i64 0, .slice none 0 0, .slice none 0 0, .slice none 0 0, .int .i64 0, .int .i64 0] 26))
  have i2 : ((E : Int) != 0) = true := bne_iff_ne.2 (by omega)
  have i3 : ((E : Int) == 0) = false := beq_eq_false_iff_ne.2 (by omega)
  clear hE hd
  clear hr hA
  go_enter Try.func13, Try.ntmps13
  go_upto_region 3 with (first
    | (go_at_call 43; refine HR.out.mono ?_; rintro e w2 ⟨R', m', rfl, heq, ho2, hb2⟩; have HQ := Lib.hid heq; have HO2 := Lib.hid ho2; have HB2 := Lib.hid (below_then HB0.out hb2); have HZ2 := Lib.hid (HZ.out.below hb2 HZ.out.lt); have HS2 := Lib.hid hb2.size; clear heq ho2 hb2; obtain ⟨k, la, ro, ids, lo, hi⟩ := R'; obtain ⟨A1, ca, B1, cb, C1, cc⟩ := m'; simp only [recC]; generalize hna : la.length = na; generalize hnr : ro.length = nr; generalize hni : ids.length = ni; have HNA := Lib.hid hna; have HNR := Lib.hid hnr; have HNI := Lib.hid hni; clear hna hnr hni))
  have HZ4 := Lib.hid (HZ2.out.alloc (.cells #[.int .i64 k, .slice A1 na ca, .slice B1 nr cb, .slice C1 ni cc, .int .i64 lo, .int .i64 hi] 26))
  obtain ⟨z0, z1, z2, z3, z4, z5⟩ := rec_cells HZ4.out rfl
  have f0 := HZ4.out.frozen 0
  have f1 := HZ4.out.frozen 1
  have f2 := HZ4.out.frozen 2
  have f3 := HZ4.out.frozen 3
  have f4 := HZ4.out.frozen 4
  have f5 := HZ4.out.frozen 5
  go_wp2_with fail
  try simp only [Exit.inBlock, Exit.then]
  refine bodyPost_ret (ret_rec2 rfl _ _ _ _ rfl (put6_row HZ4.out _ _ _ _ _ _) rfl) rfl ?_
  exact ⟨rfl, put6_below (HB2.out.alloc HB2.out.size _) (Nat.le_refl _) _ _ _ _ _ _⟩
set_option maxRecDepth 20000 in
set_option maxHeartbeats 1000000 in
theorem of_part {l : List UInt8} {R : RecV} {p : Int} {E : Nat} (hd : RD l R p E) (hE : E = 0) (hp : p ≠ l.length) (A : Option Addr) (c : Nat) (w : World) (hA : Bys w A l) (hlc : l.length ≤ c) (hl : l.length ≤ 140737488355328) :
    Calls Try.prog 13 #[.slice A l.length c] w fun e' w' => e' = .returned (.tuple #[.agg #[.int .i64 0, .slice none 0 0, .slice none 0 0, .slice none 0 0, .int .i64 0, .int .i64 0], .int .i64 5]) ∧ Below w.heap.size w w' := by
  have hr := Row.new w 26 #[.int .i64 0, .slice none 0 0, .slice none 0 0, .slice none 0 0, .int .i64 0, .int .i64 0]
  have HR := Lib.hid (read_rec hd A c (w.alloc (.cells #[.int .i64 0, .slice none 0 0, .slice none 0 0, .slice none 0 0, .int .i64 0, .int .i64 0] 26)) (hA.alloc _) hlc hl)
  have HZ := Lib.hid hr
  have HB0 := Lib.hid (below_one w (.cells #[.int .i64 0, .slice none 0 0, .slice none 0 0, .slice none 0 0, .int .i64 0, .int .i64 0] 26))
  subst hE
  have i2 : (p != (l.length : Int)) = true := bne_iff_ne.2 hp
  have i3 : (p == (l.length : Int)) = false := beq_eq_false_iff_ne.2 hp
  clear hd hp
  clear hr hA
  go_enter Try.func13, Try.ntmps13
  go_upto_region 3 with (first
    | (go_at_call 43; refine HR.out.mono ?_; rintro e w2 ⟨R', m', rfl, heq, ho2, hb2⟩; have HQ := Lib.hid heq; have HO2 := Lib.hid ho2; have HB2 := Lib.hid (below_then HB0.out hb2); have HZ2 := Lib.hid (HZ.out.below hb2 HZ.out.lt); have HS2 := Lib.hid hb2.size; clear heq ho2 hb2; obtain ⟨k, la, ro, ids, lo, hi⟩ := R'; obtain ⟨A1, ca, B1, cb, C1, cc⟩ := m'; simp only [recC]; generalize hna : la.length = na; generalize hnr : ro.length = nr; generalize hni : ids.length = ni; have HNA := Lib.hid hna; have HNR := Lib.hid hnr; have HNI := Lib.hid hni; clear hna hnr hni))
  have HZ4 := Lib.hid (HZ2.out.alloc (.cells #[.int .i64 k, .slice A1 na ca, .slice B1 nr cb, .slice C1 ni cc, .int .i64 lo, .int .i64 hi] 26))
  obtain ⟨z0, z1, z2, z3, z4, z5⟩ := rec_cells HZ4.out rfl
  have f0 := HZ4.out.frozen 0
  have f1 := HZ4.out.frozen 1
  have f2 := HZ4.out.frozen 2
  have f3 := HZ4.out.frozen 3
  have f4 := HZ4.out.frozen 4
  have f5 := HZ4.out.frozen 5
  go_wp2_with fail
  try simp only [Exit.inBlock, Exit.then]
  refine bodyPost_ret (ret_rec2 rfl _ _ _ _ rfl (put6_row HZ4.out _ _ _ _ _ _) rfl) rfl ?_
  exact ⟨rfl, put6_below (HB2.out.alloc HB2.out.size _) (Nat.le_refl _) _ _ _ _ _ _⟩
set_option maxRecDepth 20000 in
set_option maxHeartbeats 1000000 in
theorem of_bad {l : List UInt8} {R : RecV} (hd : RD l R (l.length : Int) 0) (hc : recChk R ≠ 0) (A : Option Addr) (c : Nat) (w : World) (hA : Bys w A l) (hlc : l.length ≤ c) (hl : l.length ≤ 140737488355328) :
    Calls Try.prog 13 #[.slice A l.length c] w fun e' w' => e' = .returned (.tuple #[.agg #[.int .i64 0, .slice none 0 0, .slice none 0 0, .slice none 0 0, .int .i64 0, .int .i64 0], .int .i64 5]) ∧ Below w.heap.size w w' := by
  have hr := Row.new w 26 #[.int .i64 0, .slice none 0 0, .slice none 0 0, .slice none 0 0, .int .i64 0, .int .i64 0]
  have HR := Lib.hid (read_rec hd A c (w.alloc (.cells #[.int .i64 0, .slice none 0 0, .slice none 0 0, .slice none 0 0, .int .i64 0, .int .i64 0] 26)) (hA.alloc _) hlc hl)
  have HZ := Lib.hid hr
  have HB0 := Lib.hid (below_one w (.cells #[.int .i64 0, .slice none 0 0, .slice none 0 0, .slice none 0 0, .int .i64 0, .int .i64 0] 26))
  have i0 : ((l.length : Int) != (l.length : Int)) = false := by simp
  have i1 : ((l.length : Int) == (l.length : Int)) = true := by simp
  have hfit := rd_fit hd
  obtain ⟨k, la, ro, ids, lo, hi⟩ := R
  have HK := Lib.hid (fun m W (h : RecIn W ⟨k, la, ro, ids, lo, hi⟩ m) => wchk_prog ⟨k, la, ro, ids, lo, hi⟩ m W h hfit)
  obtain ⟨X, hX⟩ : ∃ X, recChk ⟨k, la, ro, ids, lo, hi⟩ = X := ⟨_, rfl⟩
  rw [hX] at HK hc
  have i2 : (X != 0) = true := bne_iff_ne.2 hc
  have i3 : (X == 0) = false := beq_eq_false_iff_ne.2 hc
  clear hX hc
  clear hr hA hfit hd
  go_enter Try.func13, Try.ntmps13
  go_upto_region 3 with (first
    | (go_at_call 43; refine HR.out.mono ?_; rintro e w2 ⟨R', m', rfl, heq, ho2, hb2⟩; have hq : R' = ⟨k, la, ro, ids, lo, hi⟩ := heq rfl; subst hq; have HO2 := Lib.hid ho2; have HB2 := Lib.hid (below_then HB0.out hb2); have HZ2 := Lib.hid (HZ.out.below hb2 HZ.out.lt); have HS2 := Lib.hid hb2.size; obtain ⟨A1, ca, B1, cb, C1, cc⟩ := m'; simp only [recC] at *; obtain ⟨q0, q1, q2, q3, q4, q5⟩ := rec_cells (Row.new w2 26 #[.int .i64 k, .slice A1 la.length ca, .slice B1 ro.length cb, .slice C1 ids.length cc, .int .i64 lo, .int .i64 hi]) rfl; clear heq ho2 hb2)
    | (go_at_call 10; refine (HK.out ⟨A1, ca, B1, cb, C1, cc⟩ _ (HO2.out.in_.alloc _)).mono ?_; rintro e w3 ⟨rfl, hb3⟩; have HB3 := Lib.hid (below_on2 HB2.out HB2.out.size hb3); have HZ3 := Lib.hid ((HZ2.out.alloc (.cells #[.int .i64 k, .slice A1 la.length ca, .slice B1 ro.length cb, .slice C1 ids.length cc, .int .i64 lo, .int .i64 hi] 26)).below hb3 (Nat.lt_of_lt_of_le HZ2.out.lt (by simp))); have HX3 := Lib.hid ((Row.new w2 26 #[.int .i64 k, .slice A1 la.length ca, .slice B1 ro.length cb, .slice C1 ids.length cc, .int .i64 lo, .int .i64 hi]).below hb3 (by simp)); have HO3 := Lib.hid ((HO2.out.below (below_one _ _)).below hb3); clear hb3))
  obtain ⟨z0, z1, z2, z3, z4, z5⟩ := rec_cells HZ3.out rfl
  obtain ⟨u0, u1, u2, u3, u4, u5⟩ := rec_cells HX3.out rfl
  have f0 := HZ3.out.frozen 0
  have f1 := HZ3.out.frozen 1
  have f2 := HZ3.out.frozen 2
  have f3 := HZ3.out.frozen 3
  have f4 := HZ3.out.frozen 4
  have f5 := HZ3.out.frozen 5
  go_wp2_with fail
  try simp only [Exit.inBlock, Exit.then]
  refine bodyPost_ret (ret_rec2 rfl _ _ _ _ rfl (put6_row HZ3.out _ _ _ _ _ _) rfl) rfl ?_
  exact ⟨rfl, put6_below HB3.out (Nat.le_refl _) _ _ _ _ _ _⟩
set_option maxRecDepth 20000 in
set_option maxHeartbeats 1000000 in
theorem of_good {l : List UInt8} {R : RecV} (hd : RD l R (l.length : Int) 0) (hc : recChk R = 0) (A : Option Addr) (c : Nat) (w : World) (hA : Bys w A l) (hlc : l.length ≤ c) (hl : l.length ≤ 140737488355328) :
    Calls Try.prog 13 #[.slice A l.length c] w fun e' w' => ∃ m, e' = .returned (.tuple #[.agg (recC R m).toArray, .int .i64 0]) ∧ OwnRec w' w.heap.size R m ∧ Below w.heap.size w w' := by
  have hr := Row.new w 26 #[.int .i64 0, .slice none 0 0, .slice none 0 0, .slice none 0 0, .int .i64 0, .int .i64 0]
  have HR := Lib.hid (read_rec hd A c (w.alloc (.cells #[.int .i64 0, .slice none 0 0, .slice none 0 0, .slice none 0 0, .int .i64 0, .int .i64 0] 26)) (hA.alloc _) hlc hl)
  have HZ := Lib.hid hr
  have HB0 := Lib.hid (below_one w (.cells #[.int .i64 0, .slice none 0 0, .slice none 0 0, .slice none 0 0, .int .i64 0, .int .i64 0] 26))
  have i0 : ((l.length : Int) != (l.length : Int)) = false := by simp
  have i1 : ((l.length : Int) == (l.length : Int)) = true := by simp
  have hfit := rd_fit hd
  obtain ⟨k, la, ro, ids, lo, hi⟩ := R
  have HK := Lib.hid (fun m W (h : RecIn W ⟨k, la, ro, ids, lo, hi⟩ m) => wchk_prog ⟨k, la, ro, ids, lo, hi⟩ m W h hfit)
  rw [hc] at HK
  clear hc
  clear hr hA hfit hd
  go_enter Try.func13, Try.ntmps13
  go_upto_region 4 with (first
    | (go_at_call 43; refine HR.out.mono ?_; rintro e w2 ⟨R', m', rfl, heq, ho2, hb2⟩; have hq : R' = ⟨k, la, ro, ids, lo, hi⟩ := heq rfl; subst hq; have HO2 := Lib.hid ho2; have HB2 := Lib.hid (below_then HB0.out hb2); have HZ2 := Lib.hid (HZ.out.below hb2 HZ.out.lt); have HS2 := Lib.hid hb2.size; obtain ⟨A1, ca, B1, cb, C1, cc⟩ := m'; simp only [recC] at *; obtain ⟨q0, q1, q2, q3, q4, q5⟩ := rec_cells (Row.new w2 26 #[.int .i64 k, .slice A1 la.length ca, .slice B1 ro.length cb, .slice C1 ids.length cc, .int .i64 lo, .int .i64 hi]) rfl; clear heq ho2 hb2)
    | (go_at_call 10; refine (HK.out ⟨A1, ca, B1, cb, C1, cc⟩ _ (HO2.out.in_.alloc _)).mono ?_; rintro e w3 ⟨rfl, hb3⟩; have HB3 := Lib.hid (below_on2 HB2.out HB2.out.size hb3); have HZ3 := Lib.hid ((HZ2.out.alloc (.cells #[.int .i64 k, .slice A1 la.length ca, .slice B1 ro.length cb, .slice C1 ids.length cc, .int .i64 lo, .int .i64 hi] 26)).below hb3 (Nat.lt_of_lt_of_le HZ2.out.lt (by simp))); have HX3 := Lib.hid ((Row.new w2 26 #[.int .i64 k, .slice A1 la.length ca, .slice B1 ro.length cb, .slice C1 ids.length cc, .int .i64 lo, .int .i64 hi]).below hb3 (by simp)); have HO3 := Lib.hid ((HO2.out.below (below_one _ _)).below hb3); clear hb3))
  obtain ⟨z0, z1, z2, z3, z4, z5⟩ := rec_cells HZ3.out rfl
  obtain ⟨u0, u1, u2, u3, u4, u5⟩ := rec_cells HX3.out rfl
  have f0 := HZ3.out.frozen 0
  have f1 := HZ3.out.frozen 1
  have f2 := HZ3.out.frozen 2
  have f3 := HZ3.out.frozen 3
  have f4 := HZ3.out.frozen 4
  have f5 := HZ3.out.frozen 5
  go_wp2_with fail
  try simp only [Exit.inBlock, Exit.then]
  refine bodyPost_ret (ret_rec2 rfl _ _ _ _ rfl (put6_row HZ3.out _ _ _ _ _ _) rfl) rfl ?_
  exact ⟨⟨A1, ca, B1, cb, C1, cc⟩, rfl, OwnRec.far (HO3.out.lower HB0.out.size) HZ3.out (by simp [World.setCell]) (put6_far _ _ _ _ _ _), put6_below HB3.out (Nat.le_refl _) _ _ _ _ _ _⟩
theorem of_yes {l : List UInt8} {R : RecV} (h : IsRec l R) (A : Option Addr) (c : Nat) (w : World) (hA : Bys w A l) (hlc : l.length ≤ c) (hl : l.length ≤ 140737488355328) :
    Calls Try.prog 13 #[.slice A l.length c] w fun e' w' => ∃ m, e' = .returned (.tuple #[.agg (recC R m).toArray, .int .i64 0]) ∧ OwnRec w' w.heap.size R m ∧ Below w.heap.size w w' :=
  of_good (rd_yes h) h.1 A c w hA hlc hl
theorem of_no {l : List UInt8} (h : ∀ R, ¬ IsRec l R) (A : Option Addr) (c : Nat) (w : World) (hA : Bys w A l) (hlc : l.length ≤ c) (hl : l.length ≤ 140737488355328) :
    Calls Try.prog 13 #[.slice A l.length c] w fun e' w' => e' = .returned (.tuple #[.agg #[.int .i64 0, .slice none 0 0, .slice none 0 0, .slice none 0 0, .int .i64 0, .int .i64 0], .int .i64 5]) ∧ Below w.heap.size w w' := by
  obtain ⟨R, p, E, hd⟩ := rd_total l
  by_cases hE : E = 0
  · by_cases hp : p = l.length
    · subst hE
      subst hp
      by_cases hc : recChk R = 0
      · exact absurd ⟨hc, rd_one hd hc⟩ (h R)
      · exact of_bad hd hc A c w hA hlc hl
    · exact of_part hd hE hp A c w hA hlc hl
  · exact of_err hd hE A c w hA hlc hl
end Go.Proofs.Ytmgolnlkepiocaa
