/- A record's bytes, as the program tells them (wal.Bytes). -/
import Derived.Test.YtmgolnlkepiocaaWaLotM
import Derived.Test.YtmgolnlkepiocaaWaLotJ
import Derived.Test.YtmgolnlkepiocaaWaLotG
import Derived.Test.YtmgolnlkepiocaaWaLotI
namespace Go.Proofs.Ytmgolnlkepiocaa
open Go.RowKit Go.Maps
set_option linter.unusedVariables false

theorem wbytes_no (R : RecV) (m : RecM) (w : World) (h : RecIn w R m) (hf : RecFit R) (hno : recChk R ≠ 0) :
    Calls Try.prog 8 #[.agg (recC R m).toArray] w fun e w' => e = .returned (.tuple #[.slice none 0 0, .int .i64 (recChk R)]) ∧ Below w.heap.size w w' := by
  have HB0 := Lib.hid (below_one w (.cells (recC R m).toArray 26))
  have HK := Lib.hid (wchk_prog R m _ (h.below HB0.out) hf)
  obtain ⟨E, hE⟩ : ∃ E, recChk R = E := ⟨_, rfl⟩
  rw [hE] at HK hno ⊢
  have i0 : (E != 0) = true := bne_iff_ne.2 hno
  have i1 : (E == 0) = false := beq_eq_false_iff_ne.2 hno
  obtain ⟨k, la, ro, ids, lo, hi⟩ := R
  obtain ⟨A, ca, B, cb, C, cc⟩ := m
  simp only [recC] at *
  obtain ⟨x0, x1, x2, x3, x4, x5⟩ := rec_cells (Row.new w 26 #[.int .i64 k, .slice A la.length ca, .slice B ro.length cb, .slice C ids.length cc, .int .i64 lo, .int .i64 hi]) rfl
  clear h hf hE hno
  generalize la.length = na at *
  generalize ro.length = nr at *
  generalize ids.length = ni at *
  go_enter Try.func8, Try.ntmps8
  go_wp2_with fail
  refine HK.out.mono ?_
  rintro e w1 ⟨rfl, hb1⟩
  have HB1 := Lib.hid (below_then HB0.out hb1)
  clear hb1
  go_wp2
  go_ret2
  exact ⟨rfl, HB1.out⟩
theorem nat1 (n : Nat) : ([n] : List Nat).flatMap uintL = uintL n := by simp
theorem nat2 (a b : Nat) : ([a, b] : List Nat).flatMap uintL = uintL a ++ uintL b := by simp
theorem nat3 (a b c : Nat) : ([a, b, c] : List Nat).flatMap uintL = uintL a ++ (uintL b ++ uintL c) := by simp
theorem num_1 : ([] : List UInt8) ++ ([1] : List Nat).flatMap uintL = [1] := by rw [nat1, uintL_small (by decide)]; rfl
theorem num_2 : ([] : List UInt8) ++ ([2] : List Nat).flatMap uintL = [2] := by rw [nat1, uintL_small (by decide)]; rfl
theorem num_3 : ([] : List UInt8) ++ ([3] : List Nat).flatMap uintL = [3] := by rw [nat1, uintL_small (by decide)]; rfl
set_option maxRecDepth 20000 in
set_option maxHeartbeats 2000000 in
theorem wbytes_1 (R : RecV) (m : RecM) (w : World) (h : RecIn w R m) (hyes : recChk R = 0) (hk : R.kind = 1) :
    Calls Try.prog 8 #[.agg (recC R m).toArray] w fun e w' => ∃ v, e = .returned (.tuple #[v, .int .i64 0]) ∧ Own w' w.heap.size v (recL R) ∧ Below w.heap.size w w' := by
  have HB0 := Lib.hid (below_one w (.cells (recC R m).toArray 26))
  have HK := Lib.hid (wchk_prog R m _ (h.below HB0.out) (right_fit hyes))
  rw [hyes] at HK
  have hlb : lbChk R.labels = 0 := by rcases recChk_zero.1 hyes with h | h | h <;> first | exact h.2.2.2.2.2 | omega
  have hl := h.labels
  have hrec : recL R = [1] ++ bytesL R.labels := by
    unfold recL
    rw [hk, if_pos rfl, show uintL (Int.toNat 1) = [1] from (by rw [uintL_small (by decide)]; rfl)]
  obtain ⟨X, hX⟩ : ∃ X, recL R = X := ⟨_, rfl⟩
  rw [hX] at hrec ⊢
  have HRE := Lib.hid hrec
  clear hX
  have HX := Lib.hid (fun W (hW : Below (w.heap.size + 1) (w.alloc (.cells (recC R m).toArray 26)) W) => rec_cells ((Row.new w 26 (recC R m).toArray).below hW (by simp)) rfl)
  obtain ⟨k, la, ro, ids, lo, hi⟩ := R
  obtain ⟨A, ca, B, cb, C, cc⟩ := m
  simp only [recC] at *
  subst hk

  obtain ⟨x0, x1, x2, x3, x4, x5⟩ := HX.out _ (Below.refl _ _)
  have HP := Lib.hid (fun P c W (hP : Bys W P [1]) (hW : Below w.heap.size w W) => put_yes P A [1] c la ca W hP (hl.below hW) (by simp) hlb)
  clear hl hlb
  clear h hyes hrec
  generalize ro.length = nr at *
  generalize ids.length = ni at *
  generalize bytesL la = bl at *
  generalize la.length = na at *
  go_enter Try.func8, Try.ntmps8
  go_wp2_with (first
    | (go_at_call 10; refine HK.out.mono ?_; rintro e w1 ⟨rfl, hb1⟩
       have HB1' := Lib.hid (hb1.mono (show w.heap.size + 1 ≤ _ by simp))
       have HB1 := Lib.hid (below_then HB0.out hb1)
       have HS1 := Lib.hid (show w.heap.size + 1 ≤ w1.heap.size by have := hb1.size; simp at this; omega)
       obtain ⟨y0, y1, y2, y3, y4, y5⟩ := HX.out _ HB1'.out
       clear hb1)
    | (go_at_call_of 25 (Value.slice none 0 0); refine (put_nums _ [] _ [1] 1 (w1.alloc (.cells #[.int .i64 1] 3)).heap.size _ (own_nil _ _) (Row.new w1 3 (natC [1])) (by simp) (by simp) (by simp) (Nat.le_refl _)).mono ?_; rintro e w2 ⟨v2, rfl, ho2, hb2⟩
       rw [num_1] at ho2
       obtain ⟨P2, d2, hv2, hP2, _⟩ := own_slice' ho2
       have HP2 := Lib.hid hP2
       have HO2 := Lib.hid ho2
       have HB2 := Lib.hid (below_then (HB1.out.alloc HB1.out.size _) hb2)
       have HB2' := Lib.hid (below_on2 HB1'.out HS1.out hb2)
       have HS2 := Lib.hid (show w.heap.size + 2 ≤ (w1.alloc (.cells #[.int .i64 1] 3)).heap.size by have := HS1.out; simp; omega)
       have HZ2 := Lib.hid hb2.size
       obtain ⟨z0, z1, z2, z3, z4, z5⟩ := HX.out _ HB2'.out
       subst hv2
       clear ho2 hb2 hP2)
    | (go_at_call 26; refine (HP.out _ _ _ HP2.out HB2.out).mono ?_; rintro e w3 ⟨v3, rfl, ho3, hb3⟩
       have HO3 := Lib.hid (own_lower ho3 HB2.out.size)
       have HB3 := Lib.hid (below_then HB2.out hb3)
       obtain ⟨P3, d3, hv3, _, _⟩ := own_slice' ho3
       generalize ([1] ++ bl).length = l3 at hv3
       subst hv3
       clear ho3 hb3))
  go_ret2
  exact ⟨_, rfl, by rw [HRE.out]; exact HO3.out, HB3.out⟩
set_option maxRecDepth 20000 in
set_option maxHeartbeats 2000000 in
theorem wbytes_3 (R : RecV) (m : RecM) (w : World) (h : RecIn w R m) (hyes : recChk R = 0) (hk : R.kind = 3) :
    Calls Try.prog 8 #[.agg (recC R m).toArray] w fun e w' => ∃ v, e = .returned (.tuple #[v, .int .i64 0]) ∧ Own w' w.heap.size v (recL R) ∧ Below w.heap.size w w' := by
  have HB0 := Lib.hid (below_one w (.cells (recC R m).toArray 26))
  have HK := Lib.hid (wchk_prog R m _ (h.below HB0.out) (right_fit hyes))
  rw [hyes] at HK
  have hd := delChk_zero.1 (show delChk R.ids R.low R.high = 0 by rcases recChk_zero.1 hyes with h | h | h <;> first | exact h.2.2.2 | omega)
  have hl := h.ids
  have hrec : recL R = ([3] ++ postL R.ids) ++ (uintL R.low.toNat ++ uintL R.high.toNat) := by
    unfold recL
    rw [hk, if_neg (by decide), if_neg (by decide), show uintL (Int.toNat 3) = [3] from (by rw [uintL_small (by decide)]; rfl), List.append_assoc]
  obtain ⟨X, hX⟩ : ∃ X, recL R = X := ⟨_, rfl⟩
  rw [hX] at hrec ⊢
  have HRE := Lib.hid hrec
  clear hX
  have HX := Lib.hid (fun W (hW : Below (w.heap.size + 1) (w.alloc (.cells (recC R m).toArray 26)) W) => rec_cells ((Row.new w 26 (recC R m).toArray).below hW (by simp)) rfl)
  obtain ⟨k, la, ro, ids, lo, hi⟩ := R
  obtain ⟨A, ca, B, cb, C, cc⟩ := m
  simp only [recC] at *
  subst hk

  obtain ⟨x0, x1, x2, x3, x4, x5⟩ := HX.out _ (Below.refl _ _)
  obtain ⟨a, rfl⟩ : ∃ a : Nat, lo = (a : Int) := ⟨lo.toNat, by omega⟩
  obtain ⟨b, rfl⟩ : ∃ b : Nat, hi = (b : Int) := ⟨hi.toNat, by omega⟩
  simp only [Int.toNat_natCast] at HRE
  have HAB := Lib.hid (show ∀ n ∈ [a, b], n < 9223372036854775808 by intro n hn; simp at hn; omega)
  have HP := Lib.hid (fun P c W (hP : Bys W P [3]) (hW : Below w.heap.size w W) => po_put_yes P C [3] c ids cc W hP (hl.below hW) (by simp) hd.1)
  have HPL := Lib.hid (postL_len hd.1)
  clear hl hd
  clear h hyes hrec
  generalize ro.length = nr at *
  generalize la.length = na at *
  generalize postL ids = pl at *
  generalize ids.length = ni at *
  go_enter Try.func8, Try.ntmps8
  go_wp2_with (first
    | (go_at_call 10; refine HK.out.mono ?_; rintro e w1 ⟨rfl, hb1⟩
       have HB1' := Lib.hid (hb1.mono (show w.heap.size + 1 ≤ _ by simp))
       have HB1 := Lib.hid (below_then HB0.out hb1)
       have HS1 := Lib.hid (show w.heap.size + 1 ≤ w1.heap.size by have := hb1.size; simp at this; omega)
       obtain ⟨y0, y1, y2, y3, y4, y5⟩ := HX.out _ HB1'.out
       clear hb1)
    | (go_at_call_of 25 (Value.slice none 0 0); refine (put_nums _ [] _ [3] 1 (w1.alloc (.cells #[.int .i64 3] 3)).heap.size _ (own_nil _ _) (Row.new w1 3 (natC [3])) (by simp) (by simp) (by simp) (Nat.le_refl _)).mono ?_; rintro e w2 ⟨v2, rfl, ho2, hb2⟩
       rw [num_3] at ho2
       obtain ⟨P2, d2, hv2, hP2, _⟩ := own_slice' ho2
       have HP2 := Lib.hid hP2
       have HO2 := Lib.hid ho2
       have HB2 := Lib.hid (below_then (HB1.out.alloc HB1.out.size _) hb2)
       have HB2' := Lib.hid (below_on2 HB1'.out HS1.out hb2)
       have HS2 := Lib.hid (show w.heap.size + 2 ≤ (w1.alloc (.cells #[.int .i64 3] 3)).heap.size by have := HS1.out; simp; omega)
       have HZ2 := Lib.hid hb2.size
       obtain ⟨z0, z1, z2, z3, z4, z5⟩ := HX.out _ HB2'.out
       subst hv2
       clear ho2 hb2 hP2)
    | (go_at_call 28; refine (HP.out _ _ _ HP2.out HB2.out).mono ?_; rintro e w3 ⟨v3, rfl, ho3, hb3⟩
       have HO3 := Lib.hid ho3
       have HB3 := Lib.hid (below_then HB2.out hb3)
       have HS3 := Lib.hid (Nat.le_trans HS2.out HZ2.out)
       have HB3' := Lib.hid (below_on HB2'.out (by have := HS3.out; omega) hb3)
       have HZ3 := Lib.hid hb3.size
       obtain ⟨u0, u1, u2, u3, u4, u5⟩ := HX.out _ HB3'.out
       obtain ⟨P3, d3, hv3, _, _⟩ := own_slice' ho3
       have HX3 := Lib.hid (show ([3] ++ pl).length ≤ 10000 by rw [List.length_append]; have := HPL.out; simp; omega)
       generalize [3] ++ pl = x3 at *
       generalize x3.length = l3 at hv3
       subst hv3
       clear ho3 hb3)
    | (go_at_call 25; refine (put_nums _ x3 _ [a, b] 2 w2.heap.size _ (own_alloc HO3.out _) (Row.new w3 3 (natC [a, b])) (by simp) (by have := HX3.out; omega) HAB.out (by simp; exact Nat.le_succ_of_le HZ3.out)).mono ?_; rintro e w4 ⟨v4, rfl, ho4, hb4⟩
       rw [nat2] at ho4
       have HO4 := Lib.hid (own_lower ho4 HB2.out.size)
       have HB4 := Lib.hid (HB3.out.trans (((below_one w3 _).mono HB3.out.size).trans (hb4.mono HB2.out.size)))
       obtain ⟨P4, d4, hv4, _, _⟩ := own_slice' ho4
       generalize (x3 ++ (uintL a ++ uintL b)).length = l4 at hv4
       subst hv4
       clear ho4 hb4))
  go_ret2
  exact ⟨_, rfl, by rw [HRE.out]; exact HO4.out, HB4.out⟩
set_option maxRecDepth 20000 in
set_option maxHeartbeats 2000000 in
theorem wbytes_2 (R : RecV) (m : RecM) (w : World) (h : RecIn w R m) (hyes : recChk R = 0) (hk : R.kind = 2) :
    Calls Try.prog 8 #[.agg (recC R m).toArray] w fun e w' => ∃ v, e = .returned (.tuple #[v, .int .i64 0]) ∧ Own w' w.heap.size v (recL R) ∧ Below w.heap.size w w' := by
  have HB0 := Lib.hid (below_one w (.cells (recC R m).toArray 26))
  have HK := Lib.hid (wchk_prog R m _ (h.below HB0.out) (right_fit hyes))
  rw [hyes] at HK
  have hd := rowsChk_zero.1 (show rowsChk R.rows = 0 by rcases recChk_zero.1 hyes with h | h | h <;> first | exact h.2.2.2.2.2 | omega)
  have hl := h.rows
  have hrec : recL R = ([2] ++ uintL R.rows.length) ++ rowsL R.rows := by
    unfold recL
    rw [hk, if_neg (by decide), if_pos rfl, show uintL (Int.toNat 2) = [2] from (by rw [uintL_small (by decide)]; rfl), List.append_assoc]
  obtain ⟨X, hX⟩ : ∃ X, recL R = X := ⟨_, rfl⟩
  rw [hX] at hrec ⊢
  have HRE := Lib.hid hrec
  clear hX
  have HX := Lib.hid (fun W (hW : Below (w.heap.size + 1) (w.alloc (.cells (recC R m).toArray 26)) W) => rec_cells ((Row.new w 26 (recC R m).toArray).below hW (by simp)) rfl)
  obtain ⟨k, la, ro, ids, lo, hi⟩ := R
  obtain ⟨A, ca, B, cb, C, cc⟩ := m
  simp only [recC] at *
  subst hk

  obtain ⟨x0, x1, x2, x3, x4, x5⟩ := HX.out _ (Below.refl _ _)
  obtain ⟨hd1, hd2, hd3⟩ := hd
  obtain ⟨gb, go, rfl, hgb, hcell⟩ := hl.all hd1
  have HCL := Lib.hid hcell
  have HD3 := Lib.hid (fun k (hk : k < ro.length) => wrowErr_zero.1 (hd3 (ro.getD k wrow0) (by rw [List.getD_eq_getElem?_getD, List.getElem?_eq_getElem hk]; exact List.getElem_mem hk)))
  have HUL := Lib.hid (uintL_9 (n := ro.length) (by omega))
  have HRL := Lib.hid (fun k => Nat.le_trans (rowsL_len (ro.take k) fun x hx => hd3 x (List.mem_of_mem_take hx)) (show 27 * (ro.take k).length ≤ 1728 by rw [List.length_take]; omega))
  have HNX := Lib.hid (fun k (hk : k < ro.length) => show rowsL (ro.take (k + 1)) = rowsL (ro.take k) ++ wrowL (ro.getD k wrow0) by
    rw [List.take_succ_eq_append_getElem hk, List.getD_eq_getElem?_getD, List.getElem?_eq_getElem hk]
    unfold rowsL
    rw [List.flatMap_append]
    simp)
  clear hl hd3 hcell
  clear h hyes hrec
  generalize la.length = na at *
  generalize ids.length = ni at *
  go_enter Try.func8, Try.ntmps8
  go_wp2_with (first
    | (go_at_call 10; refine HK.out.mono ?_; rintro e w1 ⟨rfl, hb1⟩
       have HB1' := Lib.hid (hb1.mono (show w.heap.size + 1 ≤ _ by simp))
       have HB1 := Lib.hid (below_then HB0.out hb1)
       have HS1 := Lib.hid (show w.heap.size + 1 ≤ w1.heap.size by have := hb1.size; simp at this; omega)
       obtain ⟨y0, y1, y2, y3, y4, y5⟩ := HX.out _ HB1'.out
       clear hb1)
    | (go_at_call_of 25 (Value.slice none 0 0); refine (put_nums _ [] _ [2] 1 (w1.alloc (.cells #[.int .i64 2] 3)).heap.size _ (own_nil _ _) (Row.new w1 3 (natC [2])) (by simp) (by simp) (by simp) (Nat.le_refl _)).mono ?_; rintro e w2 ⟨v2, rfl, ho2, hb2⟩
       rw [num_2] at ho2
       obtain ⟨P2, d2, hv2, hP2, _⟩ := own_slice' ho2
       have HP2 := Lib.hid hP2
       have HO2 := Lib.hid ho2
       have HB2 := Lib.hid (below_then (HB1.out.alloc HB1.out.size _) hb2)
       have HB2' := Lib.hid (below_on2 HB1'.out HS1.out hb2)
       have HS2 := Lib.hid (show w.heap.size + 2 ≤ (w1.alloc (.cells #[.int .i64 2] 3)).heap.size by have := HS1.out; simp; omega)
       have HZ2 := Lib.hid hb2.size
       have HSZ : Hid (w.heap.size + 2 ≤ w2.heap.size) := Lib.hid (Nat.le_trans HS2.out HZ2.out)
       obtain ⟨z0, z1, z2, z3, z4, z5⟩ := HX.out _ HB2'.out
       subst hv2
       clear ho2 hb2 hP2)
    | (go_at_call 25; refine (put_nums _ [2] _ [ro.length] 1 (w.heap.size + 1) _ (own_alloc (own_lower HO2.out (by have := HS2.out; omega)) _) (Row.new w2 3 (natC [ro.length])) (by simp) (by simp) (by simp; omega) (alloc_le (by have := HSZ.out; omega) _)).mono ?_; rintro e w3 ⟨v3, rfl, ho3, hb3⟩
       rw [nat1] at ho3
       have HO3 := Lib.hid (own_lower ho3 (Nat.le_succ w.heap.size))
       have hb3x := (Below.alloc (Below.refl (w.heap.size + 1) w2) (by have := HSZ.out; omega) (.cells (natC [ro.length]) 3)).trans hb3
       have HB3 := Lib.hid (HB2.out.trans (hb3x.mono (Nat.le_succ _)))
       have HB3' := Lib.hid (HB2'.out.trans hb3x)
       clear hb3x
       obtain ⟨u0, u1, u2, u3, u4, u5⟩ := HX.out _ HB3'.out
       obtain ⟨P3, d3, hv3, _, _⟩ := own_slice' ho3
       have HX3 := Lib.hid (show ([2] ++ uintL ro.length).length ≤ 10 by rw [List.length_append]; have := HUL.out; simp; omega)
       generalize [2] ++ uintL ro.length = x3 at *
       generalize x3.length = l3 at hv3
       subst hv3
       clear ho3 hb3))
  go_loopw [5, 39] (fun u i wr => ∃ k : Nat, k ≤ ro.length ∧ i = .int .i64 (k : Int) ∧ Own wr w.heap.size u (x3 ++ rowsL (ro.take k)) ∧ Below w.heap.size w wr) (fun _ i _ => ro.length - (intOf i).toNat)
  case atStart => exact ⟨0, Nat.zero_le _, rfl, by rw [List.take_zero]; simpa [rowsL] using HO3.out, HB3.out⟩
  case round =>
    obtain ⟨k, hk, rfl, ho, hbr⟩ := hrel
    have HO1 := Lib.hid ho
    have HB1 := Lib.hid hbr
    by_cases hlt : k < ro.length
    · obtain ⟨g0, g1, g2⟩ := HCL.out k hlt
      have c0 := (hbr.cell (p := ⟨gb, go + k * 3, none⟩) hgb).trans g0
      have c1 := (hbr.cell (p := ⟨gb, go + k * 3 + 1, none⟩) hgb).trans g1
      have c2 := (hbr.cell (p := ⟨gb, go + k * 3 + 2, none⟩) hgb).trans g2
      have i1 : (k : Int) < (ro.length : Int) := by omega
      have hd := HD3.out k hlt
      have HN := Lib.hid (HNX.out k hlt)
      obtain ⟨y, hy⟩ : ∃ y, x3 ++ rowsL (ro.take k) = y := ⟨_, rfl⟩
      have HYL := Lib.hid (show y.length ≤ 2000 by rw [← hy, List.length_append]; have := HRL.out k; have := HX3.out; omega)
      rw [hy] at HO1
      have HY := Lib.hid hy
      clear ho hbr hy g0 g1 g2
      generalize ro.getD k wrow0 = x at *
      obtain ⟨id, t, v⟩ := x
      simp only at c0 c1 c2 hd
      obtain ⟨a, rfl⟩ : ∃ a : Nat, id = (a : Int) := ⟨id.toNat, by omega⟩
      obtain ⟨b, rfl⟩ : ∃ b : Nat, t = (b : Int) := ⟨t.toNat, by omega⟩
      have hzv : zigV v < 9223372036854775808 := by unfold zigV; split <;> omega
      have HAB := Lib.hid (show ∀ n ∈ [a, b, zigV v], n < 9223372036854775808 by intro n hn; simp at hn; omega)
      have HZ := Lib.hid (zig_prog v (by omega))
      have HWL := Lib.hid (show wrowL ((a : Int), (b : Int), v) = uintL a ++ (uintL b ++ uintL (zigV v)) by unfold wrowL; simp)
      clear hd hzv
      generalize zigV v = z at *
      have HRW := Lib.hid (Row.new wr 62 #[.int .i64 (a : Int), .int .i64 (b : Int), .int .i64 v])
      have r0 : (wr.alloc (.cells #[.int .i64 (a : Int), .int .i64 (b : Int), .int .i64 v] 62)).cell? ⟨wr.heap.size, 0, none⟩ = some (.int .i64 (a : Int)) := HRW.out.cell 0
      have r1 : (wr.alloc (.cells #[.int .i64 (a : Int), .int .i64 (b : Int), .int .i64 v] 62)).cell? ⟨wr.heap.size, 1, none⟩ = some (.int .i64 (b : Int)) := HRW.out.cell 1
      have r2 : (wr.alloc (.cells #[.int .i64 (a : Int), .int .i64 (b : Int), .int .i64 v] 62)).cell? ⟨wr.heap.size, 2, none⟩ = some (.int .i64 v) := HRW.out.cell 2
      obtain ⟨P1, d1, hv1, _, _⟩ := own_slice' HO1.out
      generalize hyl : y.length = yl at hv1
      have HYLE := Lib.hid hyl
      subst hv1
      have HOW := Lib.hid (fun W (hW : Below wr.heap.size wr W) => own_below HO1.out hW)
      have HBW := Lib.hid (fun W (hW : Below wr.heap.size wr W) => hW.mono HB1.out.size)
      clear hyl
      have HRWD := Lib.hid (fun W (hW : Below (wr.heap.size + 1) (wr.alloc (.cells #[.int .i64 (a : Int), .int .i64 (b : Int), .int .i64 v] 62)) W) => HRW.out.below hW (Nat.lt_succ_self _))
      go_upto_region 13 with fail
      first
        | (go_region_held3 (fun w' => w'.cell? ⟨wr.heap.size, 0, none⟩ = some (.int .i64 (a : Int)) ∧ w'.cell? ⟨wr.heap.size, 1, none⟩ = some (.int .i64 (b : Int)) ∧ w'.cell? ⟨wr.heap.size, 2, none⟩ = some (.int .i64 v))
        (first | exact ⟨r0, r1, r2⟩ | exact ⟨y0, y1, y2⟩ | go_keep)
        (first
          | (go_at_call 27; refine (HZ.out _).mono ?_; rintro e w5 ⟨rfl, hw5⟩; subst hw5)
          | (go_at_call 25; refine (put_nums' _ y (wr.heap.size + 1) [a, b, z] 3 w.heap.size _ ?_ ?_ (by simp) (by have := HYL.out; omega) HAB.out ?_).mono ?_
             exact HOW.out _ (by repeat (first | exact Below.refl _ _ | refine Below.drew ?_ | refine Below.alloc ?_ (by simp) _))
             exact (heap_alloc2_new wr _ _)
             exact Nat.le_trans HB1.out.size (by simp <;> omega)
             rintro e w6 ⟨v6, rfl, ho6, hb6, hk6⟩
             rw [nat3] at ho6
             have hr6 := hk6 _ _ _ (by decide) (HRWD.out _ (by repeat (first | exact Below.refl _ _ | refine Below.drew ?_ | refine Below.alloc ?_ (by simp) _)))
             have y0 : w6.cell? ⟨wr.heap.size, 0, none⟩ = some (.int .i64 (a : Int)) := hr6.cell 0
             have y1 : w6.cell? ⟨wr.heap.size, 1, none⟩ = some (.int .i64 (b : Int)) := hr6.cell 1
             have y2 : w6.cell? ⟨wr.heap.size, 2, none⟩ = some (.int .i64 v) := hr6.cell 2
             have HO6 := Lib.hid ho6
             have HB6 := Lib.hid (HB1.out.trans ((HBW.out _ (by repeat (first | exact Below.refl _ _ | refine Below.drew ?_ | refine Below.alloc ?_ (by simp) _))).trans hb6))
             clear ho6 hb6 hk6 hr6)))
      all_goals
        go_wp2_with fail
        go_roundw
        case rel => exact ⟨k + 1, hlt, by go_num, by rw [HN.out, HWL.out, ← List.append_assoc, HY.out]; exact HO6.out, HB6.out⟩
        case measure => simp [intOf]; omega
    · obtain rfl : k = ro.length := by omega
      rw [List.take_length] at HO1
      obtain ⟨P1, d1, hv1, _, _⟩ := own_slice' HO1.out
      generalize hyl : (x3 ++ rowsL ro).length = yl at hv1
      subst hv1
      clear ho hbr hyl
      go_wp2_with fail
      go_ret2
      exact ⟨_, rfl, by rw [HRE.out]; exact HO1.out, HB1.out⟩
theorem wbytes_yes (R : RecV) (m : RecM) (w : World) (h : RecIn w R m) (hyes : recChk R = 0) :
    Calls Try.prog 8 #[.agg (recC R m).toArray] w fun e w' => ∃ v, e = .returned (.tuple #[v, .int .i64 0]) ∧ Own w' w.heap.size v (recL R) ∧ Below w.heap.size w w' := by
  rcases recChk_zero.1 hyes with h1 | h1 | h1
  · exact wbytes_1 R m w h hyes h1.1
  · exact wbytes_2 R m w h hyes h1.1
  · exact wbytes_3 R m w h hyes h1.1
end Go.Proofs.Ytmgolnlkepiocaa
