/- In one text, written by lotify.py: WaOwn. -/
import Derived.Test.YtmgolnlkepiocaaWaRead
/- A record in memory of its own (gaugelaw11.own). -/
namespace Go.Proofs.Ytmgolnlkepiocaa
open Go.RowKit Go.Maps
set_option linter.unusedVariables false

theorem put1_row {w : World} {g : Nat} {t : TypeId} {u0 u1 u2 u3 u4 u5 : Value} (h : Row w g t #[u0, u1, u2, u3, u4, u5]) (v : Value) : Row (w.setCell ⟨g, 1, none⟩ v) g t #[u0, v, u2, u3, u4, u5] := by
  have := h.setAt 1 v
  simpa only [List.setIfInBounds_toArray, List.set_cons_zero, List.set_cons_succ] using this
theorem put2_row {w : World} {g : Nat} {t : TypeId} {u0 u1 u2 u3 u4 u5 : Value} (h : Row w g t #[u0, u1, u2, u3, u4, u5]) (v : Value) : Row (w.setCell ⟨g, 2, none⟩ v) g t #[u0, u1, v, u3, u4, u5] := by
  have := h.setAt 2 v
  simpa only [List.setIfInBounds_toArray, List.set_cons_zero, List.set_cons_succ] using this
theorem put3_row {w : World} {g : Nat} {t : TypeId} {u0 u1 u2 u3 u4 u5 : Value} (h : Row w g t #[u0, u1, u2, u3, u4, u5]) (v : Value) : Row (w.setCell ⟨g, 3, none⟩ v) g t #[u0, u1, u2, v, u4, u5] := by
  have := h.setAt 3 v
  simpa only [List.setIfInBounds_toArray, List.set_cons_zero, List.set_cons_succ] using this
theorem set_far {w : World} {p : Addr} {v : Value} (k : Nat) (hk : k ≠ p.block) : (w.setCell p v).heap[k]? = w.heap[k]? := Below.heap_setCell _ _ _ _ hk
theorem row_stay {w w' : World} {g : Nat} {t : TypeId} {cs : Array Value} (h : Row w g t cs) (hb : w'.heap[g]? = w.heap[g]?) : Row w' g t cs := hb.trans h
theorem rows_stay {w w' : World} {base e size n : Nat} {v : Value} {xs : List Value} (h : w.ownsRow base e size v n xs) (hb : ∀ k, v.ownBlock = some k → w'.heap[k]? = w.heap[k]?) : w'.ownsRow base e size v n xs := by
  refine ⟨h.1, ?_⟩
  rcases h.2 with h1 | ⟨g, cap, cur, rfl, hg, hh, r⟩
  · exact .inl h1
  · exact .inr ⟨g, cap, cur, rfl, hg, (hb g rfl).trans hh, r⟩
/-- A record's box, and the box of what is handed back, behind it. -/
structure OwnSt (w x : World) (c : Array Value) : Prop where
  box : Row x w.heap.size 26 c
  res : Row x (w.heap.size + 1) 26 #[.int .i64 0, .slice none 0 0, .slice none 0 0, .slice none 0 0, .int .i64 0, .int .i64 0]
  bel : Below w.heap.size w x
  sz : w.heap.size + 2 ≤ x.heap.size
theorem OwnSt.step {w x x' : World} {c : Array Value} (h : OwnSt w x c) (hb : Below (w.heap.size + 2) x x') : OwnSt w x' c :=
  ⟨h.box.below hb (by omega), h.res.below hb (by omega), h.bel.trans (hb.mono (by omega)), Nat.le_trans h.sz hb.size⟩
theorem OwnSt.set {w x : World} {c c' : Array Value} (h : OwnSt w x c) (i : Nat) (v : Value) (hr : Row (x.setCell ⟨w.heap.size, i, none⟩ v) w.heap.size 26 c') : OwnSt w (x.setCell ⟨w.heap.size, i, none⟩ v) c' :=
  ⟨hr, row_stay h.res (set_far (p := ⟨w.heap.size, i, none⟩) _ (by simp)), h.bel.setCell (p := ⟨w.heap.size, i, none⟩) (Nat.le_refl _) v, Nat.le_trans h.sz (by simp [World.setCell])⟩
theorem rows_set {w x : World} {base e size n i : Nat} {v u : Value} {xs : List Value} (h : x.ownsRow base e size v n xs) (hb : w.heap.size < base) : (x.setCell ⟨w.heap.size, i, none⟩ u).ownsRow base e size v n xs :=
  rows_stay h fun k hk => set_far k (by have := (World.ownsRow.lt h k hk).1; show k ≠ w.heap.size; omega)
set_option maxRecDepth 20000 in
set_option maxHeartbeats 2000000 in
theorem own_prog (R : RecV) (m : RecM) (w : World) (h : RecIn w R m) (hf : RecFit R) :
    Calls Try.prog 7 #[.agg (recC R m).toArray] w fun e w' => ∃ m', e = .returned (.agg (recC R m').toArray) ∧ OwnRec w' w.heap.size R m' ∧ Below w.heap.size w w' := by
  obtain ⟨k, la, ro, ids, lo, hi⟩ := R
  obtain ⟨A, ca, B, cb, C, cc⟩ := m
  simp only [recC] at *
  have HLA := Lib.hid (fun W (hW : Below w.heap.size w W) => h.labels.below hW)
  have HRO := Lib.hid (fun W (hW : Below w.heap.size w W) => h.rows.below hW)
  have HID := Lib.hid (fun W (hW : Below w.heap.size w W) => h.ids.below hW)
  have HL1 := Lib.hid (show (([] : List Lbl).length + la.length) * 32 ≤ 140737488355328 by have := hf.labels; simp at this ⊢; omega)
  have HL2 := Lib.hid (show (([] : List Wrow).length + ro.length) * 24 ≤ 140737488355328 by have := hf.rows; simp at this ⊢; omega)
  have HL3 := Lib.hid (show (([] : List Int).length + ids.length) * 8 ≤ 140737488355328 by have := hf.ids; simp at this ⊢; omega)
  have HS0 := Lib.hid (OwnSt.mk (w := w) (c := #[.int .i64 k, .slice A la.length ca, .slice B ro.length cb, .slice C ids.length cc, .int .i64 lo, .int .i64 hi])
    ((Row.new w 26 #[.int .i64 k, .slice A la.length ca, .slice B ro.length cb, .slice C ids.length cc, .int .i64 lo, .int .i64 hi]).alloc (.cells #[.int .i64 0, .slice none 0 0, .slice none 0 0, .slice none 0 0, .int .i64 0, .int .i64 0] 26))
    (heap_alloc2_new w _ _) ((below_one _ _).alloc (by simp) _) (by simp))
  clear h hf
  go_enter Try.func7, Try.ntmps7
  go_upto_region 1 with fail
  generalize hx0 : (w.alloc (.cells #[.int .i64 k, .slice A la.length ca, .slice B ro.length cb, .slice C ids.length cc, .int .i64 lo, .int .i64 hi] 26)).alloc (.cells #[.int .i64 0, .slice none 0 0, .slice none 0 0, .slice none 0 0, .int .i64 0, .int .i64 0] 26) = x0 at *
  clear hx0
  obtain ⟨c0, c1, c2, c3, c4, c5⟩ := rec_cells ((HS0.out.step ((Below.refl (w.heap.size + 2) x0).alloc HS0.out.sz (.cells #[] 108))).box) rfl
  have HOE := Lib.hid (ownl_empty (Row.new x0 108 #[]) (Nat.le_refl _))
  go_upto_region 2 with (first
    | (at_builtin; refine app_lbls rfl (.tmp 3) (.tmp 5) rfl x0.heap.size (.slice (some ⟨x0.heap.size, 0, none⟩) 0 0) [] rfl HOE.out A la ca rfl (HLA.out _ (HS0.out.bel.alloc HS0.out.bel.size _)) HL1.out (by simp) ?_
       intro v1 w1 ho hb _
       rw [List.nil_append] at ho
       have hbb := (below_one x0 (.cells #[] 108)).trans hb
       have HBB1 := Lib.hid hbb
       have HQ := Lib.hid (HS0.out.step (hbb.mono HS0.out.sz))
       obtain ⟨p0, p1, p2, p3, p4, p5⟩ := rec_cells (HS0.out.step (hbb.mono HS0.out.sz)).box rfl
       have f1 := (HS0.out.step (hbb.mono HS0.out.sz)).box.frozen 1
       obtain ⟨P1, d1, hv1, _, _, _⟩ := ownl_slice ho
       subst hv1
       have HO1 := Lib.hid ho
       clear ho hb hbb))
  have HS1 := Lib.hid (HQ.out.set 1 (.slice P1 la.length d1) (put1_row HQ.out.box _))
  have HO1 := Lib.hid (rows_set (w := w) (i := 1) (u := .slice P1 la.length d1) HO1.out (by have := HS0.out.sz; omega))
  have HG1 := Lib.hid (show w.heap.size < x0.heap.size by have := HS0.out.sz; omega)
  clear c0 c1 c2 c3 c4 c5 HOE
  generalize hx1 : w1.setCell ⟨w.heap.size, 1, none⟩ (.slice P1 la.length d1) = x1 at *
  clear hx1 HQ
  obtain ⟨c0, c1, c2, c3, c4, c5⟩ := rec_cells ((HS1.out.step ((Below.refl (w.heap.size + 2) x1).alloc HS1.out.sz (.cells #[] 62))).box) rfl
  have HOE := Lib.hid (ownw_empty (Row.new x1 62 #[]) (Nat.le_refl _))
  go_upto_region 3 with (first
    | (at_builtin; refine app_wrows rfl (.tmp 8) (.tmp 10) rfl x1.heap.size (.slice (some ⟨x1.heap.size, 0, none⟩) 0 0) [] rfl HOE.out B ro cb rfl (HRO.out _ (HS1.out.bel.alloc HS1.out.bel.size _)) HL2.out (by simp) ?_
       intro v2 w2 ho hb _
       rw [List.nil_append] at ho
       have hbb := (below_one x1 (.cells #[] 62)).trans hb
       have HBB2 := Lib.hid hbb
       have HQ := Lib.hid (HS1.out.step (hbb.mono HS1.out.sz))
       obtain ⟨p0, p1, p2, p3, p4, p5⟩ := rec_cells (HS1.out.step (hbb.mono HS1.out.sz)).box rfl
       have f2 := (HS1.out.step (hbb.mono HS1.out.sz)).box.frozen 2
       obtain ⟨P2, d2, hv2, _, _, _⟩ := ownw_slice ho
       subst hv2
       have HO2 := Lib.hid ho
       clear ho hb hbb))
  have HS2 := Lib.hid (HQ.out.set 2 (.slice P2 ro.length d2) (put2_row HQ.out.box _))
  have HO2 := Lib.hid (rows_set (w := w) (i := 2) (u := .slice P2 ro.length d2) HO2.out (by have := HS1.out.sz; omega))
  have HO1 := Lib.hid (rows_set (w := w) (i := 2) (u := .slice P2 ro.length d2) (rows_below HO1.out HBB2.out) HG1.out)
  have HG2 := Lib.hid (show w.heap.size < x1.heap.size by have := HS1.out.sz; omega)
  clear c0 c1 c2 c3 c4 c5 HOE
  generalize hx2 : w2.setCell ⟨w.heap.size, 2, none⟩ (.slice P2 ro.length d2) = x2 at *
  clear hx2 HQ
  obtain ⟨c0, c1, c2, c3, c4, c5⟩ := rec_cells ((HS2.out.step ((Below.refl (w.heap.size + 2) x2).alloc HS2.out.sz (.cells #[] 3))).box) rfl
  have HOE := Lib.hid (ownz_empty (Row.new x2 3 #[]) (Nat.le_refl _))
  go_upto_region 4 with (first
    | (at_builtin; refine app_zs rfl (.tmp 13) (.tmp 15) rfl x2.heap.size (.slice (some ⟨x2.heap.size, 0, none⟩) 0 0) [] rfl HOE.out C ids cc rfl (HID.out _ (HS2.out.bel.alloc HS2.out.bel.size _)) HL3.out (by simp) ?_
       intro v3 w3 ho hb _
       rw [List.nil_append] at ho
       have hbb := (below_one x2 (.cells #[] 3)).trans hb
       have HBB3 := Lib.hid hbb
       have HQ := Lib.hid (HS2.out.step (hbb.mono HS2.out.sz))
       obtain ⟨p0, p1, p2, p3, p4, p5⟩ := rec_cells (HS2.out.step (hbb.mono HS2.out.sz)).box rfl
       have f3 := (HS2.out.step (hbb.mono HS2.out.sz)).box.frozen 3
       obtain ⟨P3, d3, hv3, _, _, _⟩ := ownz_slice ho
       subst hv3
       have HO3 := Lib.hid ho
       clear ho hb hbb))
  have HS3 := Lib.hid (HQ.out.set 3 (.slice P3 ids.length d3) (put3_row HQ.out.box _))
  have HO3 := Lib.hid (rows_set (w := w) (i := 3) (u := .slice P3 ids.length d3) HO3.out (by have := HS2.out.sz; omega))
  have HO1 := Lib.hid (rows_set (w := w) (i := 3) (u := .slice P3 ids.length d3) (rows_below HO1.out HBB3.out) HG1.out)
  have HO2 := Lib.hid (rows_set (w := w) (i := 3) (u := .slice P3 ids.length d3) (rows_below HO2.out HBB3.out) HG2.out)
  have HG3 := Lib.hid (show w.heap.size < x2.heap.size by have := HS2.out.sz; omega)
  clear c0 c1 c2 c3 c4 c5 HOE
  generalize hx3 : w3.setCell ⟨w.heap.size, 3, none⟩ (.slice P3 ids.length d3) = x3 at *
  clear hx3 HQ
  obtain ⟨c0, c1, c2, c3, c4, c5⟩ := rec_cells HS3.out.box rfl
  obtain ⟨s0, s1, s2, s3, s4, s5⟩ := rec_cells HS3.out.res rfl
  have r0 := HS3.out.res.frozen 0
  have r1 := HS3.out.res.frozen 1
  have r2 := HS3.out.res.frozen 2
  have r3 := HS3.out.res.frozen 3
  have r4 := HS3.out.res.frozen 4
  have r5 := HS3.out.res.frozen 5
  go_wp2_with fail
  try simp only [Exit.inBlock, Exit.then]
  refine bodyPost_ret (ret_rec rfl _ _ _ _ rfl (put6_row HS3.out.res _ _ _ _ _ _) rfl) rfl ?_
  refine ⟨⟨P1, d1, P2, d2, P3, d3⟩, rfl, ?_, put6_below HS3.out.bel (by omega) _ _ _ _ _ _⟩
  exact OwnRec.far ⟨ownl_lower HO1.out (Nat.le_of_lt HG1.out), ownw_lower HO2.out (Nat.le_of_lt HG2.out), ownz_lower HO3.out (Nat.le_of_lt HG3.out)⟩ HS3.out.res (by simp [World.setCell]) (put6_far _ _ _ _ _ _)
end Go.Proofs.Ytmgolnlkepiocaa
