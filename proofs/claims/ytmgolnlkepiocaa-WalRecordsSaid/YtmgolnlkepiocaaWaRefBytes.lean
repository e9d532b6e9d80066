/- A record's bytes, as the document says them (gaugeref11.Bytes). -/
import Derived.Test.YtmgolnlkepiocaaWaRefChk
import Derived.Test.YtmgolnlkepiocaaWaBytes
import Derived.Test.YtmgolnlkepiocaaWaLotG
import Derived.Test.YtmgolnlkepiocaaPoPutRef
namespace Go.Proofs.Ytmgolnlkepiocaa
open Go.RowKit Go.Maps
set_option linter.unusedVariables false

theorem refbytes_no (R : RecV) (m : RecM) (w : World) (h : RecIn w R m) (hf : RecFit R) (hno : recChk R ≠ 0) :
    Calls Try.prog 9 #[.agg (recC R m).toArray] w fun e w' => e = .returned (.tuple #[.slice none 0 0, .int .i64 (recChk R)]) ∧ Below w.heap.size w w' := by
  have HB0 := Lib.hid (below_one w (.cells (recC R m).toArray 26))
  have HK := Lib.hid (refcheck_prog R m _ (h.below HB0.out) hf)
  obtain ⟨E, hE⟩ : ∃ E, recChk R = E := ⟨_, rfl⟩
  rw [hE] at HK hno ⊢
  have i0 : (E != 0) = true := bne_iff_ne.2 hno
  have i1 : (E == 0) = false := beq_eq_false_iff_ne.2 hno
  obtain ⟨k, la, ro, ids, lo, hi⟩ := R
  obtain ⟨A, ca, B, cb, C, cc⟩ := m
  simp only [recC] at *
  obtain ⟨x0, x1, x2, x3, x4, x5⟩ := rec_cells (Row.new w 26 #[.int .i64 k, .slice A la.length ca, .slice B ro.length cb, .slice C ids.length cc, .int .i64 lo, .int .i64 hi]) rfl
  clear h hf hE hno
  generalize la.length = na at *
  generalize ro.length = nr at *
  generalize ids.length = ni at *
  go_enter Try.func9, Try.ntmps9
  go_wp2_with fail
  refine HK.out.mono ?_
  rintro e w1 ⟨rfl, hb1⟩
  have HB1 := Lib.hid (below_then HB0.out hb1)
  clear hb1
  go_wp2
  go_ret2
  exact ⟨rfl, HB1.out⟩
theorem uint_1 : uintL 1 = [1] := by rw [uintL_small (by decide)]; rfl
theorem uint_2 : uintL 2 = [2] := by rw [uintL_small (by decide)]; rfl
theorem uint_3 : uintL 3 = [3] := by rw [uintL_small (by decide)]; rfl
set_option maxRecDepth 20000 in
set_option maxHeartbeats 2000000 in
theorem refbytes_1 (R : RecV) (m : RecM) (w : World) (h : RecIn w R m) (hyes : recChk R = 0) (hk : R.kind = 1) :
    Calls Try.prog 9 #[.agg (recC R m).toArray] w fun e w' => ∃ v, e = .returned (.tuple #[v, .int .i64 0]) ∧ Own w' w.heap.size v (recL R) ∧ Below w.heap.size w w' := by
  have HB0 := Lib.hid (below_one w (.cells (recC R m).toArray 26))
  have HK := Lib.hid (refcheck_prog R m _ (h.below HB0.out) (right_fit hyes))
  rw [hyes] at HK
  have hl : lbChk R.labels = 0 := by rcases recChk_zero.1 hyes with h | h | h <;> first | exact h.2.2.2.2.2 | omega
  have HBY := Lib.hid (fun W (hW : Below w.heap.size w W) => bytes_ref m.la R.labels m.lc W (h.labels.below hW) hl)
  have HLN := Lib.hid (show (bytesL R.labels).length ≤ 1000 from bytesF_small hl (Nat.le_refl _))
  have HRE := Lib.hid (show recL R = [1] ++ bytesL R.labels by unfold recL; rw [hk, if_pos rfl, show uintL (Int.toNat 1) = [1] from uint_1])
  have HX := Lib.hid (fun W (hW : Below (w.heap.size + 1) (w.alloc (.cells (recC R m).toArray 26)) W) => rec_cells ((Row.new w 26 (recC R m).toArray).below hW (by simp)) rfl)
  generalize recL R = X at *
  obtain ⟨k, la, ro, ids, lo, hi⟩ := R
  obtain ⟨A, ca, B, cb, C, cc⟩ := m
  simp only [recC] at *
  subst hk
  obtain ⟨x0, x1, x2, x3, x4, x5⟩ := HX.out _ (Below.refl _ _)
  generalize bytesL la = bl at *
  clear h hyes hl
  generalize la.length = na at *
  generalize ro.length = nr at *
  generalize ids.length = ni at *
  go_enter Try.func9, Try.ntmps9
  go_wp2_with (first
    | (go_at_call 11; refine HK.out.mono ?_; rintro e w1 ⟨rfl, hb1⟩
       have HB1 := Lib.hid (below_then HB0.out hb1)
       have HB1' := Lib.hid (hb1.mono (show w.heap.size + 1 ≤ _ by simp))
       have HS1 := Lib.hid (show w.heap.size + 1 ≤ w1.heap.size by have := hb1.size; simp at this; omega)
       obtain ⟨y0, y1, y2, y3, y4, y5⟩ := HX.out _ HB1'.out
       clear hb1)
    | (go_at_call 29; refine (uint_ref 1 _ (by decide)).mono ?_; rintro e w2 ⟨v2, rfl, ho2, hb2⟩
       rw [uint_1] at ho2
       have HO2 := Lib.hid ho2
       have HB2 := Lib.hid (below_then HB1.out hb2)
       have HB2' := Lib.hid (HB1'.out.trans (hb2.mono HS1.out))
       obtain ⟨z0, z1, z2, z3, z4, z5⟩ := HX.out _ HB2'.out
       clear ho2 hb2)
    | (go_at_call 30; refine (HBY.out _ HB2.out).mono ?_; rintro e w3 ⟨v3, rfl, ho3, hb3⟩
       obtain ⟨P3, d3, hv3, hP3, _⟩ := own_slice' ho3
       have HP3 := Lib.hid hP3
       have HB3 := Lib.hid (below_then HB2.out hb3)
       have HO3 := Lib.hid (own_lower (own_below HO2.out hb3) HB1.out.size)
       subst hv3
       clear ho3 hb3 hP3)
    | (at_builtin; refine app_u8 rfl (.tmp 19) (.tmp 22) rfl w.heap.size v2 [1] rfl HO3.out P3 bl d3 rfl HP3.out (by have := HLN.out; simp; omega) HB3.out.size ?_; intro v4 w4 ho4 hb4 _; have HO4 := Lib.hid ho4; have HB4 := Lib.hid (HB3.out.trans hb4); clear ho4 hb4))
  go_ret2
  exact ⟨_, rfl, by rw [HRE.out]; exact HO4.out, HB4.out⟩
theorem app_len {x y : List UInt8} {a b : Nat} (h1 : x.length ≤ a) (h2 : y.length ≤ b) (h : a + b ≤ 211106232532992) : x.length + y.length ≤ 211106232532992 := by omega
set_option maxRecDepth 20000 in
set_option maxHeartbeats 2000000 in
theorem refbytes_3 (R : RecV) (m : RecM) (w : World) (h : RecIn w R m) (hyes : recChk R = 0) (hk : R.kind = 3) :
    Calls Try.prog 9 #[.agg (recC R m).toArray] w fun e w' => ∃ v, e = .returned (.tuple #[v, .int .i64 0]) ∧ Own w' w.heap.size v (recL R) ∧ Below w.heap.size w w' := by
  have HB0 := Lib.hid (below_one w (.cells (recC R m).toArray 26))
  have HK := Lib.hid (refcheck_prog R m _ (h.below HB0.out) (right_fit hyes))
  rw [hyes] at HK
  have hd := delChk_zero.1 (show delChk R.ids R.low R.high = 0 by rcases recChk_zero.1 hyes with h | h | h <;> first | exact h.2.2.2 | omega)
  obtain ⟨hd1, hd2, hd3, hd4, hd5⟩ := hd
  have HBY := Lib.hid (fun W (hW : Below w.heap.size w W) => po_bytes_ref m.ia R.ids m.ic W (h.ids.below hW) hd1)
  obtain ⟨a, ha⟩ : ∃ a : Nat, R.low = (a : Int) := ⟨R.low.toNat, by omega⟩
  obtain ⟨b, hb⟩ : ∃ b : Nat, R.high = (b : Int) := ⟨R.high.toNat, by omega⟩
  have HRE := Lib.hid (show recL R = (([3] ++ postL R.ids) ++ uintL a) ++ uintL b by
    unfold recL
    rw [hk, if_neg (by decide), if_neg (by decide), show uintL (Int.toNat 3) = [3] from uint_3, ha, hb, Int.toNat_natCast, Int.toNat_natCast]
    simp only [List.append_assoc])
  have HAN := Lib.hid (show a ≤ 9223372036854775807 by omega)
  have HBN := Lib.hid (show b ≤ 9223372036854775807 by omega)
  have HL0 := Lib.hid (show ([3] : List UInt8).length + (postL R.ids).length ≤ 211106232532992 by have := postL_len hd1; simp; omega)
  have HL1 := Lib.hid (show (([3] : List UInt8) ++ postL R.ids).length + (uintL a).length ≤ 211106232532992 by have := postL_len hd1; have := uintL_9 (n := a) (by omega); simp; omega)
  have HL2 := Lib.hid (show ((([3] : List UInt8) ++ postL R.ids) ++ uintL a).length + (uintL b).length ≤ 211106232532992 by have := postL_len hd1; have := uintL_9 (n := a) (by omega); have := uintL_9 (n := b) (by omega); simp; omega)
  have HX := Lib.hid (fun W (hW : Below (w.heap.size + 1) (w.alloc (.cells (recC R m).toArray 26)) W) => rec_cells ((Row.new w 26 (recC R m).toArray).below hW (by simp)) rfl)
  generalize recL R = X at *
  obtain ⟨k, la, ro, ids, lo, hi⟩ := R
  obtain ⟨A, ca, B, cb, C, cc⟩ := m
  simp only [recC] at *
  subst hk ha hb
  obtain ⟨x0, x1, x2, x3, x4, x5⟩ := HX.out _ (Below.refl _ _)
  generalize postL ids = pl at *
  have HUA := Lib.hid (fun W => uint_ref a W HAN.out)
  have HUB := Lib.hid (fun W => uint_ref b W HBN.out)
  clear h hyes hd1 hd2 hd3 hd4 hd5
  generalize uintL a = ua at *
  generalize uintL b = ub at *
  generalize la.length = na at *
  generalize ro.length = nr at *
  generalize ids.length = ni at *
  obtain ⟨i0, hi0, hz0, hz1, hz2⟩ := info_parts u8_info
  go_enter Try.func9, Try.ntmps9
  go_upto_region 15 with (first
    | (go_at_call 11; refine HK.out.mono ?_; rintro e w1 ⟨rfl, hb1⟩
       have HB1 := Lib.hid (below_then HB0.out hb1)
       have HB1' := Lib.hid (hb1.mono (show w.heap.size + 1 ≤ _ by simp))
       have HS1 := Lib.hid (show w.heap.size + 1 ≤ w1.heap.size by have := hb1.size; simp at this; omega)
       obtain ⟨y0, y1, y2, y3, y4, y5⟩ := HX.out _ HB1'.out
       clear hb1)
    | (go_at_call 29; refine (uint_ref 3 _ (by decide)).mono ?_; rintro e w2 ⟨v2, rfl, ho2, hb2⟩
       rw [uint_3] at ho2
       have HO2 := Lib.hid (own_lower ho2 HS1.out)
       have HB2 := Lib.hid (below_then HB1.out hb2)
       have HB2' := Lib.hid (HB1'.out.trans (hb2.mono HS1.out))
       have HS2 := Lib.hid (Nat.le_trans HS1.out hb2.size)
       obtain ⟨z0, z1, z2, z3, z4, z5⟩ := HX.out _ HB2'.out
       clear ho2 hb2))
  have HD2 := Lib.hid HB2.out.drew
  have HD2' := Lib.hid HB2'.out.drew
  have HOD2 : Hid (Own w2.drew (w.heap.size + 1) v2 [3]) := Lib.hid (own_below HO2.out ((Below.refl w2.heap.size w2).drew))
  go_region_held3 (fun w' => w'.cell? ⟨w.heap.size, 3, none⟩ = some (.slice C ni cc) ∧ w'.cell? ⟨w.heap.size, 4, none⟩ = some (.int .i64 (a : Int)) ∧ w'.cell? ⟨w.heap.size, 5, none⟩ = some (.int .i64 (b : Int)))
    (first | exact ⟨z3, z4, z5⟩ | exact ⟨p3, p4, p5⟩ | exact ⟨q3, q4, q5⟩ | exact ⟨r3, r4, r5⟩ | exact ⟨s3, s4, s5⟩ | exact ⟨t3, t4, t5⟩ | exact ⟨u3, u4, u5⟩ | go_keep)
    (first
      | (go_at_call 32; refine (HBY.out _ HD2.out).mono ?_; rintro e w3 ⟨v3, rfl, ho3, hb3⟩
         obtain ⟨P3, d3, hv3, hP3, _⟩ := own_slice' ho3
         subst hv3
         have HB3 := Lib.hid (HD2'.out.trans (hb3.mono HS2.out))
         have HS3 := Lib.hid (Nat.le_trans HS2.out hb3.size)
         have HO3 := Lib.hid (own_below HOD2.out hb3)
         have HP3 := Lib.hid hP3
         obtain ⟨p0, p1, p2, p3, p4, p5⟩ := HX.out _ HB3.out
         clear ho3 hb3 hP3)
      | (refine step_app _ rfl (.tmp 68) (.tmp 71) 27 rfl (w.heap.size + 1) i0 Try.underlying27 hi0 hz0 hz1 hz2 v2 [3] rfl HO3.out P3 pl d3 rfl HP3.out HL0.out HS3.out ?_
         intro v4 w4 ho4 hg4 _
         have HB4 := Lib.hid (Below.grown HB3.out hg4 HS3.out (fun k hk => (World.ownsRow.lt HO3.out _ hk).1))
         have HS4 := Lib.hid (Nat.le_trans HS3.out hg4.size)
         have HO4 := Lib.hid ho4
         obtain ⟨q0, q1, q2, q3, q4, q5⟩ := HX.out _ HB4.out
         clear ho4 hg4)
      | (go_at_call_of 29 (Value.int IntKind.i64 (a : Int)); refine (HUA.out _).mono ?_; rintro e w5 ⟨v5, rfl, ho5, hb5⟩
         obtain ⟨P5, d5, hv5, hP5, _⟩ := own_slice' ho5
         subst hv5
         have HB5 := Lib.hid (HB4.out.trans (hb5.mono HS4.out))
         have HS5 := Lib.hid (Nat.le_trans HS4.out hb5.size)
         have HO5 := Lib.hid (own_below HO4.out hb5)
         have HP5 := Lib.hid hP5
         obtain ⟨r0, r1, r2, r3, r4, r5⟩ := HX.out _ HB5.out
         clear ho5 hb5 hP5)
      | (refine step_app _ rfl (.tmp 72) (.tmp 75) 27 rfl (w.heap.size + 1) i0 Try.underlying27 hi0 hz0 hz1 hz2 v4 ([3] ++ pl) rfl HO5.out P5 ua d5 rfl HP5.out HL1.out HS5.out ?_
         intro v6 w6 ho6 hg6 _
         have HB6 := Lib.hid (Below.grown HB5.out hg6 HS5.out (fun k hk => (World.ownsRow.lt HO5.out _ hk).1))
         have HS6 := Lib.hid (Nat.le_trans HS5.out hg6.size)
         have HO6 := Lib.hid ho6
         obtain ⟨s0, s1, s2, s3, s4, s5⟩ := HX.out _ HB6.out
         clear ho6 hg6)
      | (go_at_call_of 29 (Value.int IntKind.i64 (b : Int)); refine (HUB.out _).mono ?_; rintro e w7 ⟨v7, rfl, ho7, hb7⟩
         obtain ⟨P7, d7, hv7, hP7, _⟩ := own_slice' ho7
         subst hv7
         have HB7 := Lib.hid (HB6.out.trans (hb7.mono HS6.out))
         have HS7 := Lib.hid (Nat.le_trans HS6.out hb7.size)
         have HO7 := Lib.hid (own_below HO6.out hb7)
         have HP7 := Lib.hid hP7
         obtain ⟨t0, t1, t2, t3, t4, t5⟩ := HX.out _ HB7.out
         clear ho7 hb7 hP7)
      | (refine step_app _ rfl (.tmp 76) (.tmp 79) 27 rfl (w.heap.size + 1) i0 Try.underlying27 hi0 hz0 hz1 hz2 v6 (([3] ++ pl) ++ ua) rfl HO7.out P7 ub d7 rfl HP7.out HL2.out HS7.out ?_
         intro v8 w8 ho8 hg8 _
         have HB8 := Lib.hid (Below.grown HB7.out hg8 HS7.out (fun k hk => (World.ownsRow.lt HO7.out _ hk).1))
         have HO8 := Lib.hid ho8
         obtain ⟨u0, u1, u2, u3, u4, u5⟩ := HX.out _ HB8.out
         clear ho8 hg8))
  all_goals
    go_wp2_with fail
    go_ret2
    exact ⟨_, rfl, by rw [HRE.out]; exact own_lower HO8.out (Nat.le_succ _), (below_one w _).trans (HB8.out.mono (Nat.le_succ _))⟩
set_option maxRecDepth 20000 in
set_option maxHeartbeats 2000000 in
theorem refbytes_2 (R : RecV) (m : RecM) (w : World) (h : RecIn w R m) (hyes : recChk R = 0) (hk : R.kind = 2) :
    Calls Try.prog 9 #[.agg (recC R m).toArray] w fun e w' => ∃ v, e = .returned (.tuple #[v, .int .i64 0]) ∧ Own w' w.heap.size v (recL R) ∧ Below w.heap.size w w' := by
  have HB0 := Lib.hid (below_one w (.cells (recC R m).toArray 26))
  have HK := Lib.hid (refcheck_prog R m _ (h.below HB0.out) (right_fit hyes))
  rw [hyes] at HK
  have hd := rowsChk_zero.1 (show rowsChk R.rows = 0 by rcases recChk_zero.1 hyes with h | h | h <;> first | exact h.2.2.2.2.2 | omega)
  have hl := h.rows
  have hrec : recL R = ([2] ++ uintL R.rows.length) ++ rowsL R.rows := by
    unfold recL
    rw [hk, if_neg (by decide), if_pos rfl, show uintL (Int.toNat 2) = [2] from uint_2, List.append_assoc]
  obtain ⟨X, hX⟩ : ∃ X, recL R = X := ⟨_, rfl⟩
  rw [hX] at hrec ⊢
  have HRE := Lib.hid hrec
  clear hX
  have HX := Lib.hid (fun W (hW : Below (w.heap.size + 1) (w.alloc (.cells (recC R m).toArray 26)) W) => rec_cells ((Row.new w 26 (recC R m).toArray).below hW (by simp)) rfl)
  obtain ⟨k, la, ro, ids, lo, hi⟩ := R
  obtain ⟨A, ca, B, cb, C, cc⟩ := m
  simp only [recC] at *
  subst hk
  obtain ⟨x0, x1, x2, x3, x4, x5⟩ := HX.out _ (Below.refl _ _)
  obtain ⟨hd1, hd2, hd3⟩ := hd
  obtain ⟨gb, go, rfl, hgb, hcell⟩ := hl.all hd1
  have HCL := Lib.hid hcell
  have HD3 := Lib.hid (fun k (hk : k < ro.length) => wrowErr_zero.1 (hd3 (ro.getD k wrow0) (by rw [List.getD_eq_getElem?_getD, List.getElem?_eq_getElem hk]; exact List.getElem_mem hk)))
  have HUL := Lib.hid (uintL_9 (n := ro.length) (by omega))
  have HRL := Lib.hid (fun k => Nat.le_trans (rowsL_len (ro.take k) fun x hx => hd3 x (List.mem_of_mem_take hx)) (show 27 * (ro.take k).length ≤ 1728 by rw [List.length_take]; omega))
  have HNX := Lib.hid (fun k (hk : k < ro.length) => show rowsL (ro.take (k + 1)) = rowsL (ro.take k) ++ wrowL (ro.getD k wrow0) by
    rw [List.take_succ_eq_append_getElem hk, List.getD_eq_getElem?_getD, List.getElem?_eq_getElem hk]
    unfold rowsL
    rw [List.flatMap_append]
    simp)
  have HUN := Lib.hid (fun W => uint_ref ro.length W (by omega))
  have HNL := Lib.hid (show ([2] : List UInt8).length + (uintL ro.length).length ≤ 211106232532992 by have := HUL.out; simp; omega)
  clear hl hd3 hcell
  clear h hyes hrec
  generalize la.length = na at *
  generalize ids.length = ni at *
  obtain ⟨i0, hi0, hz0, hz1, hz2⟩ := info_parts u8_info
  go_enter Try.func9, Try.ntmps9
  go_wp2_with (first
    | (go_at_call 11; refine HK.out.mono ?_; rintro e w1 ⟨rfl, hb1⟩
       have HB1 := Lib.hid (below_then HB0.out hb1)
       have HB1' := Lib.hid (hb1.mono (show w.heap.size + 1 ≤ _ by simp))
       have HS1 := Lib.hid (show w.heap.size + 1 ≤ w1.heap.size by have := hb1.size; simp at this; omega)
       obtain ⟨y0, y1, y2, y3, y4, y5⟩ := HX.out _ HB1'.out
       clear hb1)
    | (go_at_call_of 29 (Value.int IntKind.i64 2); refine (uint_ref 2 _ (by decide)).mono ?_; rintro e w2 ⟨v2, rfl, ho2, hb2⟩
       rw [uint_2] at ho2
       have HO2 := Lib.hid (own_lower ho2 HS1.out)
       have HB2' := Lib.hid (HB1'.out.trans (hb2.mono HS1.out))
       have HS2 := Lib.hid (Nat.le_trans HS1.out hb2.size)
       have HB2 := Lib.hid (below_then HB1.out hb2)
       obtain ⟨z0, z1, z2, z3, z4, z5⟩ := HX.out _ HB2'.out
       clear ho2 hb2)
    | (go_at_call 29; refine (HUN.out _).mono ?_; rintro e w3 ⟨v3, rfl, ho3, hb3⟩
       obtain ⟨P3, d3, hv3, hP3, _⟩ := own_slice' ho3
       subst hv3
       have HP3 := Lib.hid hP3
       have HO3 := Lib.hid (own_below HO2.out hb3)
       have HB3' := Lib.hid (HB2'.out.trans (hb3.mono HS2.out))
       have HS3 := Lib.hid (Nat.le_trans HS2.out hb3.size)
       clear ho3 hb3 hP3)
    | (at_builtin; refine app_u8 rfl (.tmp 26) (.tmp 30) rfl (w.heap.size + 1) v2 [2] rfl HO3.out P3 (uintL ro.length) d3 rfl HP3.out HNL.out HS3.out ?_
       intro v4 w4 ho4 hb4 _
       have HO4 := Lib.hid ho4
       have HB4' := Lib.hid (HB3'.out.trans hb4)
       have HX4 := Lib.hid (show ([2] ++ uintL ro.length).length ≤ 10 by rw [List.length_append]; have := HUL.out; simp; omega)
       obtain ⟨u0, u1, u2, u3, u4, u5⟩ := HX.out _ HB4'.out
       clear ho4 hb4))
  generalize hx4 : [2] ++ uintL ro.length = x4' at *
  clear hx4
  go_loopw [5, 6] (fun u i wr => ∃ k : Nat, k ≤ ro.length ∧ i = .int .i64 (k : Int) ∧ Own wr (w.heap.size + 1) u (x4' ++ rowsL (ro.take k)) ∧ Below (w.heap.size + 1) (w.alloc (.cells #[.int .i64 2, .slice A na ca, .slice (some ⟨gb, go, none⟩) ro.length cb, .slice C ni cc, .int .i64 lo, .int .i64 hi] 26)) wr) (fun _ i _ => ro.length - (intOf i).toNat)
  case atStart => exact ⟨0, Nat.zero_le _, rfl, by rw [List.take_zero]; simpa [rowsL] using HO4.out, HB4'.out⟩
  case round =>
    obtain ⟨k, hk, rfl, ho, hbr⟩ := hrel
    have HO1 := Lib.hid ho
    have HBR := Lib.hid hbr
    obtain ⟨q0, q1, q2, q3, q4, q5⟩ := HX.out _ hbr
    have HSR := Lib.hid (show w.heap.size + 1 ≤ wr.heap.size by have := hbr.size; simp at this; omega)
    by_cases hlt : k < ro.length
    · obtain ⟨g0, g1, g2⟩ := HCL.out k hlt
      have HC := Lib.hid (fun W (hW : Below (w.heap.size + 1) (w.alloc (.cells #[.int .i64 2, .slice A na ca, .slice (some ⟨gb, go, none⟩) ro.length cb, .slice C ni cc, .int .i64 lo, .int .i64 hi] 26)) W) => And.intro (((below_one w (.cells #[.int .i64 2, .slice A na ca, .slice (some ⟨gb, go, none⟩) ro.length cb, .slice C ni cc, .int .i64 lo, .int .i64 hi] 26)).trans (hW.mono (Nat.le_succ _))).cell (p := ⟨gb, go + k * 3, none⟩) hgb |>.trans g0) (And.intro (((below_one w (.cells #[.int .i64 2, .slice A na ca, .slice (some ⟨gb, go, none⟩) ro.length cb, .slice C ni cc, .int .i64 lo, .int .i64 hi] 26)).trans (hW.mono (Nat.le_succ _))).cell (p := ⟨gb, go + k * 3 + 1, none⟩) hgb |>.trans g1) (((below_one w (.cells #[.int .i64 2, .slice A na ca, .slice (some ⟨gb, go, none⟩) ro.length cb, .slice C ni cc, .int .i64 lo, .int .i64 hi] 26)).trans (hW.mono (Nat.le_succ _))).cell (p := ⟨gb, go + k * 3 + 2, none⟩) hgb |>.trans g2)))
      have i1 : (k : Int) < (ro.length : Int) := by omega
      have hd := HD3.out k hlt
      have HN := Lib.hid (HNX.out k hlt)
      obtain ⟨y, hy⟩ : ∃ y, x4' ++ rowsL (ro.take k) = y := ⟨_, rfl⟩
      have HYL := Lib.hid (show y.length ≤ 2000 by rw [← hy, List.length_append]; have := HRL.out k; have := HX4.out; omega)
      rw [hy] at HO1
      have HY := Lib.hid hy
      clear ho hy g0 g1 g2
      generalize ro.getD k wrow0 = x at *
      obtain ⟨id, t, v⟩ := x
      simp only at HC hd
      obtain ⟨a, rfl⟩ : ∃ a : Nat, id = (a : Int) := ⟨id.toNat, by omega⟩
      obtain ⟨b, rfl⟩ : ∃ b : Nat, t = (b : Int) := ⟨t.toNat, by omega⟩
      have hzv : zigV v < 9223372036854775808 := by unfold zigV; split <;> omega
      have HUA := Lib.hid (fun W => uint_ref a W (by omega))
      have HUB := Lib.hid (fun W => uint_ref b W (by omega))
      have HUZ := Lib.hid (fun W => uint_ref (zigV v) W (by omega))
      have HZ := Lib.hid (fun W => zig_ref v (by omega) W)
      have HWL := Lib.hid (show y ++ wrowL ((a : Int), (b : Int), v) = ((y ++ uintL a) ++ uintL b) ++ uintL (zigV v) by unfold wrowL; simp)
      have HL0 := Lib.hid (show y.length + (uintL a).length ≤ 211106232532992 by have := HYL.out; have := uintL_9 (n := a) (by omega); omega)
      have HL1 := Lib.hid (show (y ++ uintL a).length + (uintL b).length ≤ 211106232532992 by have := HYL.out; have := uintL_9 (n := a) (by omega); have := uintL_9 (n := b) (by omega); simp; omega)
      have HL2 := Lib.hid (show ((y ++ uintL a) ++ uintL b).length + (uintL (zigV v)).length ≤ 211106232532992 by have := HYL.out; have := uintL_9 (n := a) (by omega); have := uintL_9 (n := b) (by omega); have := uintL_9 hzv; simp; omega)
      clear hd hzv
      generalize zigV v = z at *
      generalize uintL a = ua at *
      generalize uintL b = ub at *
      generalize uintL z = uz at *
      obtain ⟨c0, c1, c2⟩ := HC.out _ hbr
      obtain ⟨P1, d1, hv1, _, _⟩ := own_slice' HO1.out
      generalize hyl : y.length = yl at hv1
      subst hv1
      have HOD := Lib.hid (own_below HO1.out ((Below.refl wr.heap.size wr).drew))
      have HBD := Lib.hid hbr.drew
      have i2 : k < ro.length := hlt
      clear hyl hbr
      go_upto_region 13 with fail
      go_region_held3 (fun w' => w'.cell? ⟨w.heap.size, 2, none⟩ = some (.slice (some ⟨gb, go, none⟩) ro.length cb) ∧ w'.cell? ⟨gb, go + k * 3, none⟩ = some (.int .i64 (a : Int)) ∧ w'.cell? ⟨gb, go + k * 3 + 1, none⟩ = some (.int .i64 (b : Int)) ∧ w'.cell? ⟨gb, go + k * 3 + 2, none⟩ = some (.int .i64 v))
        (first | exact ⟨q2, c0, c1, c2⟩ | exact ⟨e2, f0, f1, f2⟩ | exact ⟨h2, j0, j1, j2⟩ | exact ⟨l2, m0, m1, m2⟩ | exact ⟨n2, o0, o1, o2⟩ | exact ⟨r2, s0, s1, s2⟩ | exact ⟨t2, p0, p1, p2⟩ | go_keep)
        (first
          | (go_at_call_of 29 (Value.int IntKind.i64 (a : Int)); refine (HUA.out _).mono ?_; rintro e w3 ⟨v3, rfl, ho3, hb3⟩
             obtain ⟨P3, d3, hv3, hP3, _⟩ := own_slice' ho3
             subst hv3
             have HB3 := Lib.hid (HBD.out.trans (hb3.mono HSR.out))
             have HO3 := Lib.hid (own_below HOD.out hb3)
             have HP3 := Lib.hid hP3
             have HS3 := Lib.hid (Nat.le_trans HSR.out hb3.size)
             obtain ⟨e0, e1, e2, e3, e4, e5⟩ := HX.out _ HB3.out
             obtain ⟨f0, f1, f2⟩ := HC.out _ HB3.out
             clear ho3 hb3 hP3)
          | (refine step_app _ rfl (.tmp 39) (.tmp 46) 27 rfl (w.heap.size + 1) i0 Try.underlying27 hi0 hz0 hz1 hz2 (.slice P1 yl d1) y rfl HO3.out P3 ua d3 rfl HP3.out HL0.out HS3.out ?_
             intro v4 w4 ho4 hg4 _
             have HB4 := Lib.hid (Below.grown HB3.out hg4 HS3.out (fun k hk => (World.ownsRow.lt HO3.out _ hk).1))
             have HO4 := Lib.hid ho4
             have HS4 := Lib.hid (Nat.le_trans HS3.out hg4.size)
             obtain ⟨h0, h1, h2, h3, h4, h5⟩ := HX.out _ HB4.out
             obtain ⟨j0, j1, j2⟩ := HC.out _ HB4.out
             clear ho4 hg4)
          | (go_at_call_of 29 (Value.int IntKind.i64 (b : Int)); refine (HUB.out _).mono ?_; rintro e w5 ⟨v5, rfl, ho5, hb5⟩
             obtain ⟨P5, d5, hv5, hP5, _⟩ := own_slice' ho5
             subst hv5
             have HB5 := Lib.hid (HB4.out.trans (hb5.mono HS4.out))
             have HO5 := Lib.hid (own_below HO4.out hb5)
             have HP5 := Lib.hid hP5
             have HS5 := Lib.hid (Nat.le_trans HS4.out hb5.size)
             obtain ⟨l0, l1, l2, l3, l4, l5⟩ := HX.out _ HB5.out
             obtain ⟨m0, m1, m2⟩ := HC.out _ HB5.out
             clear ho5 hb5 hP5)
          | (refine step_app _ rfl (.tmp 47) (.tmp 55) 27 rfl (w.heap.size + 1) i0 Try.underlying27 hi0 hz0 hz1 hz2 v4 (y ++ ua) rfl HO5.out P5 ub d5 rfl HP5.out HL1.out HS5.out ?_
             intro v6 w6 ho6 hg6 _
             have HB6 := Lib.hid (Below.grown HB5.out hg6 HS5.out (fun k hk => (World.ownsRow.lt HO5.out _ hk).1))
             have HO6 := Lib.hid ho6
             have HS6 := Lib.hid (Nat.le_trans HS5.out hg6.size)
             obtain ⟨n0, n1, n2, n3, n4, n5⟩ := HX.out _ HB6.out
             obtain ⟨o0, o1, o2⟩ := HC.out _ HB6.out
             clear ho6 hg6)
          | (go_at_call 31; refine (HZ.out _).mono ?_; rintro e w6' ⟨rfl, hw6⟩; subst hw6)
          | (go_at_call_of 29 (Value.int IntKind.i64 (z : Int)); refine (HUZ.out _).mono ?_; rintro e w7 ⟨v7, rfl, ho7, hb7⟩
             obtain ⟨P7, d7, hv7, hP7, _⟩ := own_slice' ho7
             subst hv7
             have HB7 := Lib.hid (HB6.out.trans (hb7.mono HS6.out))
             have HO7 := Lib.hid (own_below HO6.out hb7)
             have HP7 := Lib.hid hP7
             have HS7 := Lib.hid (Nat.le_trans HS6.out hb7.size)
             obtain ⟨r0, r1, r2, r3, r4, r5⟩ := HX.out _ HB7.out
             obtain ⟨s0, s1, s2⟩ := HC.out _ HB7.out
             clear ho7 hb7 hP7)
          | (refine step_app _ rfl (.tmp 56) (.tmp 65) 27 rfl (w.heap.size + 1) i0 Try.underlying27 hi0 hz0 hz1 hz2 v6 ((y ++ ua) ++ ub) rfl HO7.out P7 uz d7 rfl HP7.out HL2.out HS7.out ?_
             intro v8 w8 ho8 hg8 _
             have HB8 := Lib.hid (Below.grown HB7.out hg8 HS7.out (fun k hk => (World.ownsRow.lt HO7.out _ hk).1))
             have HO8 := Lib.hid ho8
             obtain ⟨t0, t1, t2, t3, t4, t5⟩ := HX.out _ HB8.out
             obtain ⟨p0, p1, p2⟩ := HC.out _ HB8.out
             clear ho8 hg8))
      all_goals
        go_wp2_with fail
        go_roundw
        case rel => exact ⟨k + 1, hlt, by go_num, by rw [HN.out, ← List.append_assoc, HY.out, HWL.out]; exact HO8.out, HB8.out⟩
        case measure => simp [intOf]; omega
    · obtain rfl : k = ro.length := by omega
      rw [List.take_length] at HO1
      obtain ⟨P1, d1, hv1, _, _⟩ := own_slice' HO1.out
      generalize hyl : (x4' ++ rowsL ro).length = yl at hv1
      subst hv1
      clear ho hbr hyl
      go_wp2_with fail
      go_ret2
      exact ⟨_, rfl, by rw [HRE.out]; exact own_lower HO1.out (Nat.le_succ _), (below_one w _).trans (HBR.out.mono (Nat.le_succ _))⟩
theorem refbytes_yes (R : RecV) (m : RecM) (w : World) (h : RecIn w R m) (hyes : recChk R = 0) :
    Calls Try.prog 9 #[.agg (recC R m).toArray] w fun e w' => ∃ v, e = .returned (.tuple #[v, .int .i64 0]) ∧ Own w' w.heap.size v (recL R) ∧ Below w.heap.size w w' := by
  rcases recChk_zero.1 hyes with h1 | h1 | h1
  · exact refbytes_1 R m w h hyes h1.1
  · exact refbytes_2 R m w h hyes h1.1
  · exact refbytes_3 R m w h hyes h1.1
end Go.Proofs.Ytmgolnlkepiocaa
