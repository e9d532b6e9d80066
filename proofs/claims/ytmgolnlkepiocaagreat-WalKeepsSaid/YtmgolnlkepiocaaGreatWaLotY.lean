/- In one text, written by lotify.py: WaActs, WaOwn. -/
import Derived.Test.YtmgolnlkepiocaaGreatWaLotT
import Derived.Test.YtmgolnlkepiocaaGreatWaOpen
import Derived.Test.YtmgolnlkepiocaaGreatWaRead
namespace Go.Proofs.YtmgolnlkepiocaaGreat
open Go.ChangeShapes Go.WideShapes Go.ChangeAt Go.RowKit Go.Joins Go.Maps
set_option linter.unusedVariables false

structure WAct where
  kind : Int
  r : RecV
  m : RecM
  A : Option Addr
  b : List UInt8
  bc : Nat
  n : Int
  V : Option Addr
  ks : List Int
  kc : Nat
instance : Inhabited WAct := ⟨⟨0, rec0, recM0, none, [], 0, 0, none, [], 0⟩⟩
def wactC (a : WAct) : List Value := [.int .i64 a.kind, .int .i64 a.r.kind, .slice a.m.la a.r.labels.length a.m.lc, .slice a.m.ra a.r.rows.length a.m.rc, .slice a.m.ia a.r.ids.length a.m.ic, .int .i64 a.r.low, .int .i64 a.r.high, .slice a.A a.b.length a.bc, .int .i64 a.n, .slice a.V a.ks.length a.kc]
structure WActOk (W : World) (a : WAct) : Prop where
  kind : -9223372036854775808 ≤ a.kind ∧ a.kind ≤ 9223372036854775807
  rc : RecIn W a.r a.m
  fit : RecFit a.r
  b : Bys W a.A a.b
  bl : a.b.length ≤ 140737488351232
  bc : a.b.length ≤ a.bc
  n : -9223372036854775808 ≤ a.n ∧ a.n ≤ 9223372036854775807
  ks : Ints W a.V a.ks
  kl : a.ks.length ≤ 17592186044416
  kb : ∀ i, i < a.ks.length → -9223372036854775808 ≤ a.ks.getD i 0 ∧ a.ks.getD i 0 ≤ 9223372036854775807
theorem WActOk.below {W W' : World} {a : WAct} (h : WActOk W a) (hb : Below W.heap.size W W') : WActOk W' a := ⟨h.kind, h.rc.below hb, h.fit, h.b.below hb, h.bl, h.bc, h.n, h.ks.below hb, h.kl, h.kb⟩
theorem ten_of {α : Type} {l : List α} (h : l.length = 10) : ∃ c0 c1 c2 c3 c4 c5 c6 c7 c8 c9, l = [c0, c1, c2, c3, c4, c5, c6, c7, c8, c9] := by
  match l, h with
  | [c0, c1, c2, c3, c4, c5, c6, c7, c8, c9], _ => exact ⟨c0, c1, c2, c3, c4, c5, c6, c7, c8, c9, rfl⟩
section
variable {H : Type} {enc : TypeId × Value → H} {W : World} {base : Nat} {sp : Nat → Bool} {held : Bool}
theorem wact_cells : Tryz.prog.cellsOf 50 = 10 := by kernel_rfl
theorem u8s_cells1 : Tryz.prog.cellsOf 48 = 1 := by kernel_rfl
theorem ints_cells1 : Tryz.prog.cellsOf 45 = 1 := by kernel_rfl
theorem wact_form : ∃ f0 f1 f2 f3 f4 : Field, Tryz.prog.underlying 50 = some (.struct #[f0, f1, f2, f3, f4]) ∧ [f0.type, f1.type, f2.type, f3.type, f4.type] = [3, 47, 48, 3, 45] ∧ [f0.offset, f1.offset, f2.offset, f3.offset, f4.offset] = [0, 1, 7, 8, 9] :=
  ⟨_, _, _, _, _, Tryz.underlying50, rfl, rfl⟩
theorem trod_struct5 {P : Program} {w : World} {t : TypeId} {f0 f1 f2 f3 f4 : Field} {fuel : Nat} {cs : List Value} {x : DataW H × List MemPlace} (ht : P.underlying t = some (.struct #[f0, f1, f2, f3, f4])) (h : DataW.trod enc P w base sp held fuel t cs = some x) :
    ∃ y0 y1 y2 y3 y4 n, x.1 = .agg [y0.1, y1.1, y2.1, y3.1, y4.1] ∧ cs.length = P.cellsOf t ∧ DataW.trod enc P w base sp held n f0.type ((cs.drop f0.offset).take (P.cellsOf f0.type)) = some y0 ∧
      DataW.trod enc P w base sp held n f1.type ((cs.drop f1.offset).take (P.cellsOf f1.type)) = some y1 ∧ DataW.trod enc P w base sp held n f2.type ((cs.drop f2.offset).take (P.cellsOf f2.type)) = some y2 ∧
      DataW.trod enc P w base sp held n f3.type ((cs.drop f3.offset).take (P.cellsOf f3.type)) = some y3 ∧ DataW.trod enc P w base sp held n f4.type ((cs.drop f4.offset).take (P.cellsOf f4.type)) = some y4 := by
  obtain ⟨xs, n, _, rfl, hl, hlen, hf⟩ := DataW.trod_struct ht h
  match xs, hlen with
  | [y0, y1, y2, y3, y4], _ => exact ⟨y0, y1, y2, y3, y4, n, by simp, hl, by simpa using hf 0 f0 rfl, by simpa using hf 1 f1 rfl, by simpa using hf 2 f2 rfl, by simpa using hf 3 f3 rfl, by simpa using hf 4 f4 rfl⟩
theorem open_wact {fuel : Nat} {cs : List Value} {x : DataW H × List MemPlace} (h : DataW.trod enc Tryz.prog W base sp held fuel 50 cs = some x) (hw : ∀ n ∈ x.1.weights Tryz.prog 50, n ≤ reachBytes) : ∃ a : WAct, cs = wactC a ∧ WActOk W a := by
  obtain ⟨f0, f1, f2, f3, f4, hu, hty, hof⟩ := wact_form
  simp only [List.cons.injEq, and_true] at hty hof
  obtain ⟨e0, e1, e2, e3, e4⟩ := hty
  obtain ⟨o0, o1, o2, o3, o4⟩ := hof
  obtain ⟨y0, y1, y2, y3, y4, n, hx, hl, h0, h1, h2, h3, h4⟩ := trod_struct5 hu h
  rw [wact_cells] at hl
  obtain ⟨c0, c1, c2, c3, c4, c5, c6, c7, c8, c9, rfl⟩ := ten_of hl
  rw [e0, o0, int_cells] at h0
  rw [e1, o1, rec_cells6] at h1
  rw [e2, o2, u8s_cells1] at h2
  rw [e3, o3, int_cells] at h3
  rw [e4, o4, ints_cells1] at h4
  have h0' : DataW.trod enc Tryz.prog W base sp held n 3 [c0] = some y0 := h0
  have h1' : DataW.trod enc Tryz.prog W base sp held n 47 [c1, c2, c3, c4, c5, c6] = some y1 := h1
  have h2' : DataW.trod enc Tryz.prog W base sp held n 48 [c7] = some y2 := h2
  have h3' : DataW.trod enc Tryz.prog W base sp held n 3 [c8] = some y3 := h3
  have h4' : DataW.trod enc Tryz.prog W base sp held n 45 [c9] = some y4 := h4
  rw [hx] at hw
  have hwe : ∀ n ∈ DataW.weightsEach Tryz.prog [3, 47, 48, 3, 45] [y0.1, y1.1, y2.1, y3.1, y4.1], n ≤ reachBytes := by
    intro m hm
    refine hw m ?_
    unfold DataW.weights
    rw [hu]
    show m ∈ DataW.weightsEach Tryz.prog ([f0, f1, f2, f3, f4].map (·.type)) _
    rw [show [f0, f1, f2, f3, f4].map (fun x : Field => x.type) = [3, 47, 48, 3, 45] from by simp [e0, e1, e2, e3, e4]]
    exact hm
  have hsz : (DataW.weightsEach Tryz.prog [3, 47, 48, 3, 45] [y0.1, y1.1, y2.1, y3.1, y4.1]).all (· ≤ reachBytes) = true := List.all_eq_true.2 fun m hm => by simpa using hwe m hm
  obtain ⟨z0, g0, _, w0⟩ := DataW.trod_int Tryz.underlying3 h0'
  obtain ⟨p, g1, b1, ft1⟩ := open_rec h1' (fun m hm => hwe m (DataW.weights_mem_each (j := 1) rfl rfl m hm))
  obtain ⟨A2, l2, c2', g2, b2, lc2, _, d2⟩ := open_u8s h2'
  have r2 := reach_u8s hsz (j := 2) rfl rfl d2
  obtain ⟨z3, g3, _, w3⟩ := DataW.trod_int Tryz.underlying3 h3'
  obtain ⟨V4, k4, c4', g4, b4, w4, d4⟩ := open_ks h4'
  have r4 := reach_i64s hsz (j := 4) rfl rfl d4
  simp only [List.cons.injEq, and_true] at g0 g3
  obtain ⟨R, m⟩ := p
  simp only [plE, recC, List.cons.injEq, and_true] at g1
  obtain ⟨q1, q2, q3, q4, q5, q6⟩ := g1
  refine ⟨⟨z0, R, m, A2, l2, c2', z3, V4, k4, c4'⟩, ?_, bounds_i64 w0, b1, ft1, b2, r2, lc2, bounds_i64 w3, b4, r4, w4⟩
  rw [g0, q1, q2, q3, q4, q5, q6, g2, g3, g4]
  rfl

/-- Calls that stand in memory one behind the other. -/
def WActs (W : World) (V : Option Addr) (ac : List WAct) : Prop :=
  ac = [] ∨ ∃ b o, V = some ⟨b, o, none⟩ ∧ b < W.heap.size ∧ ∀ i, i < ac.length → WActOk W (ac.getD i default) ∧ ∀ j v, (wactC (ac.getD i default))[j]? = some v → W.cell? ⟨b, o + i * 10 + j, none⟩ = some v
theorem open_acts11 {fuel : Nat} {v : Value} {x : DataW H × List MemPlace} (hf : DataW.trod enc Tryz.prog W base sp held fuel 22 [v] = some x) (hw : ∀ n ∈ x.1.weights Tryz.prog 22, n ≤ reachBytes) :
    ∃ (V : Option Addr) (ac : List WAct) (c : Nat), v = .slice V ac.length c ∧ WActs W V ac ∧ ac.length ≤ 140737488351232 ∧ ac.length ≤ 140737488351232 ∧ ac.length ≤ c := by
  rcases Go.Deep.open_slice Tryz.underlying22 hf with ⟨hcs, hx⟩ | ⟨a, len, cap, m, n, D, Pl, hcs, hb, hl, hm, hmm, hx, hcell⟩
  · simp only [List.cons.injEq, and_true] at hcs
    subst hcs
    exact ⟨none, [], 0, rfl, .inl rfl, by simp, by simp, Nat.le_refl _⟩
  · simp only [List.cons.injEq, and_true] at hcs
    subst hcs
    rw [wact_cells] at hcell
    have hml : len ≤ m := by rw [hmm]; split <;> omega
    rw [hx] at hw
    simp only [DataW.weights, Tryz.underlying22] at hw
    have hbytes : Tryz.prog.bytesOf 50 = 160 := by kernel_rfl
    have hlenB := hw ((((List.range len).map D).length + ((List.range (m - len)).map fun j => D (len + j)).length) * Tryz.prog.bytesOf 50) (by simp)
    rw [hbytes] at hlenB
    simp only [List.length_map, List.length_range] at hlenB
    rw [reach_is] at hlenB
    have each : ∀ i, i < len → ∃ y : WAct, WActOk W y ∧ W.cells? base (a.add (i * 10)) 10 = some (wactC y) := by
      intro i hi
      obtain ⟨cs', h1, h2⟩ := hcell i (by omega)
      obtain ⟨y, rfl, hy⟩ := open_wact h2 (fun q hq => hw q (by
        simp only [List.mem_cons, List.mem_append]
        exact .inr (.inl (weights_all (List.mem_map.2 ⟨i, List.mem_range.2 hi, rfl⟩) q hq))))
      exact ⟨y, hy, h1⟩
    obtain ⟨y, hy⟩ := Go.Deep.choose_lt each
    have hlen : ((List.range len).map y).length = len := by simp
    have hget : ∀ i, i < len → ((List.range len).map y).getD i default = y i := by
      intro i hi
      simp [List.getD_eq_getElem?_getD, hi]
    refine ⟨some a, (List.range len).map y, cap, by rw [hlen], ?_, by rw [hlen]; omega, by rw [hlen]; omega, by rw [hlen]; exact hl⟩
    rcases Nat.eq_zero_or_pos len with h0 | h0
    · exact .inl (List.eq_nil_of_length_eq_zero (by rw [hlen]; exact h0))
    · obtain ⟨b, o, spot⟩ := a
      obtain ⟨_, hcs0⟩ := hy 0 h0
      obtain ⟨_, _, hc0⟩ := World.cells?_some hcs0
      have hc := hc0 0 (by omega)
      have hspot : spot = none := by
        have := World.cell?_spot (hc.trans rfl)
        simpa [Addr.add] using this
      subst hspot
      have hc00 : W.cell? ⟨b, o, none⟩ = some (.int .i64 (y 0).kind) := by
        have : (wactC (y 0))[0]? = some (.int .i64 (y 0).kind) := rfl
        rw [this] at hc
        simpa [Addr.add] using hc
      refine .inr ⟨b, o, rfl, cell_lt hc00, fun i hi => ?_⟩
      rw [hlen] at hi
      rw [hget i hi]
      obtain ⟨hok, hcs⟩ := hy i hi
      refine ⟨hok, fun j v hj => ?_⟩
      obtain ⟨_, hl6, hcj⟩ := World.cells?_some hcs
      have hj6 : j < 10 := by
        have := (List.getElem?_eq_some_iff.1 hj).1
        rw [hl6] at this
        exact this
      have := hcj j hj6
      rw [hj, add_at, add_at] at this
      exact this
end
end Go.Proofs.YtmgolnlkepiocaaGreat

namespace Go.Proofs.YtmgolnlkepiocaaGreat
open Go.RowKit Go.Maps
set_option linter.unusedVariables false

theorem put1_row {w : World} {g : Nat} {t : TypeId} {u0 u1 u2 u3 u4 u5 : Value} (h : Row w g t #[u0, u1, u2, u3, u4, u5]) (v : Value) : Row (w.setCell ⟨g, 1, none⟩ v) g t #[u0, v, u2, u3, u4, u5] := by
  have := h.setAt 1 v
  simpa only [List.setIfInBounds_toArray, List.set_cons_zero, List.set_cons_succ] using this
theorem put2_row {w : World} {g : Nat} {t : TypeId} {u0 u1 u2 u3 u4 u5 : Value} (h : Row w g t #[u0, u1, u2, u3, u4, u5]) (v : Value) : Row (w.setCell ⟨g, 2, none⟩ v) g t #[u0, u1, v, u3, u4, u5] := by
  have := h.setAt 2 v
  simpa only [List.setIfInBounds_toArray, List.set_cons_zero, List.set_cons_succ] using this
theorem put3_row {w : World} {g : Nat} {t : TypeId} {u0 u1 u2 u3 u4 u5 : Value} (h : Row w g t #[u0, u1, u2, u3, u4, u5]) (v : Value) : Row (w.setCell ⟨g, 3, none⟩ v) g t #[u0, u1, u2, v, u4, u5] := by
  have := h.setAt 3 v
  simpa only [List.setIfInBounds_toArray, List.set_cons_zero, List.set_cons_succ] using this
theorem set_far {w : World} {p : Addr} {v : Value} (k : Nat) (hk : k ≠ p.block) : (w.setCell p v).heap[k]? = w.heap[k]? := Below.heap_setCell _ _ _ _ hk
theorem row_stay {w w' : World} {g : Nat} {t : TypeId} {cs : Array Value} (h : Row w g t cs) (hb : w'.heap[g]? = w.heap[g]?) : Row w' g t cs := hb.trans h
theorem rows_stay {w w' : World} {base e size n : Nat} {v : Value} {xs : List Value} (h : w.ownsRow base e size v n xs) (hb : ∀ k, v.ownBlock = some k → w'.heap[k]? = w.heap[k]?) : w'.ownsRow base e size v n xs := by
  refine ⟨h.1, ?_⟩
  rcases h.2 with h1 | ⟨g, cap, cur, rfl, hg, hh, r⟩
  · exact .inl h1
  · exact .inr ⟨g, cap, cur, rfl, hg, (hb g rfl).trans hh, r⟩
/-- A record's box, and the box of what is handed back, behind it. -/
structure OwnSt (w x : World) (c : Array Value) : Prop where
  box : Row x w.heap.size 47 c
  res : Row x (w.heap.size + 1) 47 #[.int .i64 0, .slice none 0 0, .slice none 0 0, .slice none 0 0, .int .i64 0, .int .i64 0]
  bel : Below w.heap.size w x
  sz : w.heap.size + 2 ≤ x.heap.size
theorem OwnSt.step {w x x' : World} {c : Array Value} (h : OwnSt w x c) (hb : Below (w.heap.size + 2) x x') : OwnSt w x' c :=
  ⟨h.box.below hb (by omega), h.res.below hb (by omega), h.bel.trans (hb.mono (by omega)), Nat.le_trans h.sz hb.size⟩
theorem OwnSt.set {w x : World} {c c' : Array Value} (h : OwnSt w x c) (i : Nat) (v : Value) (hr : Row (x.setCell ⟨w.heap.size, i, none⟩ v) w.heap.size 47 c') : OwnSt w (x.setCell ⟨w.heap.size, i, none⟩ v) c' :=
  ⟨hr, row_stay h.res (set_far (p := ⟨w.heap.size, i, none⟩) _ (by simp)), h.bel.setCell (p := ⟨w.heap.size, i, none⟩) (Nat.le_refl _) v, Nat.le_trans h.sz (by simp [World.setCell])⟩
theorem rows_set {w x : World} {base e size n i : Nat} {v u : Value} {xs : List Value} (h : x.ownsRow base e size v n xs) (hb : w.heap.size < base) : (x.setCell ⟨w.heap.size, i, none⟩ u).ownsRow base e size v n xs :=
  rows_stay h fun k hk => set_far k (by have := (World.ownsRow.lt h k hk).1; show k ≠ w.heap.size; omega)
set_option maxRecDepth 20000 in
set_option maxHeartbeats 2000000 in
theorem own_prog (R : RecV) (m : RecM) (w : World) (h : RecIn w R m) (hf : RecFit R) :
    Calls Tryz.prog 15 #[.agg (recC R m).toArray] w fun e w' => ∃ m', e = .returned (.agg (recC R m').toArray) ∧ OwnRec w' w.heap.size R m' ∧ Below w.heap.size w w' := by
  obtain ⟨k, la, ro, ids, lo, hi⟩ := R
  obtain ⟨A, ca, B, cb, C, cc⟩ := m
  simp only [recC] at *
  have HLA := Lib.hid (fun W (hW : Below w.heap.size w W) => h.labels.below hW)
  have HRO := Lib.hid (fun W (hW : Below w.heap.size w W) => h.rows.below hW)
  have HID := Lib.hid (fun W (hW : Below w.heap.size w W) => h.ids.below hW)
  have HL1 := Lib.hid (show (([] : List Lbl).length + la.length) * 32 ≤ 140737488355328 by have := hf.labels; simp at this ⊢; omega)
  have HL2 := Lib.hid (show (([] : List Wrow).length + ro.length) * 24 ≤ 140737488355328 by have := hf.rows; simp at this ⊢; omega)
  have HL3 := Lib.hid (show (([] : List Int).length + ids.length) * 8 ≤ 140737488355328 by have := hf.ids; simp at this ⊢; omega)
  have HS0 := Lib.hid (OwnSt.mk (w := w) (c := #[.int .i64 k, .slice A la.length ca, .slice B ro.length cb, .slice C ids.length cc, .int .i64 lo, .int .i64 hi])
    ((Row.new w 47 #[.int .i64 k, .slice A la.length ca, .slice B ro.length cb, .slice C ids.length cc, .int .i64 lo, .int .i64 hi]).alloc (.cells #[.int .i64 0, .slice none 0 0, .slice none 0 0, .slice none 0 0, .int .i64 0, .int .i64 0] 47))
    (heap_alloc2_new w _ _) ((below_one _ _).alloc (by simp) _) (by simp))
  clear h hf
  go_enter Tryz.func15, Tryz.ntmps15
  go_upto_region 1 with fail
  generalize hx0 : (w.alloc (.cells #[.int .i64 k, .slice A la.length ca, .slice B ro.length cb, .slice C ids.length cc, .int .i64 lo, .int .i64 hi] 47)).alloc (.cells #[.int .i64 0, .slice none 0 0, .slice none 0 0, .slice none 0 0, .int .i64 0, .int .i64 0] 47) = x0 at *
  clear hx0
  obtain ⟨c0, c1, c2, c3, c4, c5⟩ := rec_cells ((HS0.out.step ((Below.refl (w.heap.size + 2) x0).alloc HS0.out.sz (.cells #[] 156))).box) rfl
  have HOE := Lib.hid (ownl_empty (Row.new x0 156 #[]) (Nat.le_refl _))
  go_upto_region 2 with (first
    | (at_builtin; refine app_lbls rfl (.tmp 3) (.tmp 5) rfl x0.heap.size (.slice (some ⟨x0.heap.size, 0, none⟩) 0 0) [] rfl HOE.out A la ca rfl (HLA.out _ (HS0.out.bel.alloc HS0.out.bel.size _)) HL1.out (by simp) ?_
       intro v1 w1 ho hb _
       rw [List.nil_append] at ho
       have hbb := (below_one x0 (.cells #[] 156)).trans hb
       have HBB1 := Lib.hid hbb
       have HQ := Lib.hid (HS0.out.step (hbb.mono HS0.out.sz))
       obtain ⟨p0, p1, p2, p3, p4, p5⟩ := rec_cells (HS0.out.step (hbb.mono HS0.out.sz)).box rfl
       have f1 := (HS0.out.step (hbb.mono HS0.out.sz)).box.frozen 1
       obtain ⟨P1, d1, hv1, _, _, _⟩ := ownl_slice ho
       subst hv1
       have HO1 := Lib.hid ho
       clear ho hb hbb))
  have HS1 := Lib.hid (HQ.out.set 1 (.slice P1 la.length d1) (put1_row HQ.out.box _))
  have HO1 := Lib.hid (rows_set (w := w) (i := 1) (u := .slice P1 la.length d1) HO1.out (by have := HS0.out.sz; omega))
  have HG1 := Lib.hid (show w.heap.size < x0.heap.size by have := HS0.out.sz; omega)
  clear c0 c1 c2 c3 c4 c5 HOE
  generalize hx1 : w1.setCell ⟨w.heap.size, 1, none⟩ (.slice P1 la.length d1) = x1 at *
  clear hx1 HQ
  obtain ⟨c0, c1, c2, c3, c4, c5⟩ := rec_cells ((HS1.out.step ((Below.refl (w.heap.size + 2) x1).alloc HS1.out.sz (.cells #[] 76))).box) rfl
  have HOE := Lib.hid (ownw_empty (Row.new x1 76 #[]) (Nat.le_refl _))
  go_upto_region 3 with (first
    | (at_builtin; refine app_wrows rfl (.tmp 8) (.tmp 10) rfl x1.heap.size (.slice (some ⟨x1.heap.size, 0, none⟩) 0 0) [] rfl HOE.out B ro cb rfl (HRO.out _ (HS1.out.bel.alloc HS1.out.bel.size _)) HL2.out (by simp) ?_
       intro v2 w2 ho hb _
       rw [List.nil_append] at ho
       have hbb := (below_one x1 (.cells #[] 76)).trans hb
       have HBB2 := Lib.hid hbb
       have HQ := Lib.hid (HS1.out.step (hbb.mono HS1.out.sz))
       obtain ⟨p0, p1, p2, p3, p4, p5⟩ := rec_cells (HS1.out.step (hbb.mono HS1.out.sz)).box rfl
       have f2 := (HS1.out.step (hbb.mono HS1.out.sz)).box.frozen 2
       obtain ⟨P2, d2, hv2, _, _, _⟩ := ownw_slice ho
       subst hv2
       have HO2 := Lib.hid ho
       clear ho hb hbb))
  have HS2 := Lib.hid (HQ.out.set 2 (.slice P2 ro.length d2) (put2_row HQ.out.box _))
  have HO2 := Lib.hid (rows_set (w := w) (i := 2) (u := .slice P2 ro.length d2) HO2.out (by have := HS1.out.sz; omega))
  have HO1 := Lib.hid (rows_set (w := w) (i := 2) (u := .slice P2 ro.length d2) (rows_below HO1.out HBB2.out) HG1.out)
  have HG2 := Lib.hid (show w.heap.size < x1.heap.size by have := HS1.out.sz; omega)
  clear c0 c1 c2 c3 c4 c5 HOE
  generalize hx2 : w2.setCell ⟨w.heap.size, 2, none⟩ (.slice P2 ro.length d2) = x2 at *
  clear hx2 HQ
  obtain ⟨c0, c1, c2, c3, c4, c5⟩ := rec_cells ((HS2.out.step ((Below.refl (w.heap.size + 2) x2).alloc HS2.out.sz (.cells #[] 3))).box) rfl
  have HOE := Lib.hid (ownz_empty (Row.new x2 3 #[]) (Nat.le_refl _))
  go_upto_region 4 with (first
    | (at_builtin; refine app_zs rfl (.tmp 13) (.tmp 15) rfl x2.heap.size (.slice (some ⟨x2.heap.size, 0, none⟩) 0 0) [] rfl HOE.out C ids cc rfl (HID.out _ (HS2.out.bel.alloc HS2.out.bel.size _)) HL3.out (by simp) ?_
       intro v3 w3 ho hb _
       rw [List.nil_append] at ho
       have hbb := (below_one x2 (.cells #[] 3)).trans hb
       have HBB3 := Lib.hid hbb
       have HQ := Lib.hid (HS2.out.step (hbb.mono HS2.out.sz))
       obtain ⟨p0, p1, p2, p3, p4, p5⟩ := rec_cells (HS2.out.step (hbb.mono HS2.out.sz)).box rfl
       have f3 := (HS2.out.step (hbb.mono HS2.out.sz)).box.frozen 3
       obtain ⟨P3, d3, hv3, _, _, _⟩ := ownz_slice ho
       subst hv3
       have HO3 := Lib.hid ho
       clear ho hb hbb))
  have HS3 := Lib.hid (HQ.out.set 3 (.slice P3 ids.length d3) (put3_row HQ.out.box _))
  have HO3 := Lib.hid (rows_set (w := w) (i := 3) (u := .slice P3 ids.length d3) HO3.out (by have := HS2.out.sz; omega))
  have HO1 := Lib.hid (rows_set (w := w) (i := 3) (u := .slice P3 ids.length d3) (rows_below HO1.out HBB3.out) HG1.out)
  have HO2 := Lib.hid (rows_set (w := w) (i := 3) (u := .slice P3 ids.length d3) (rows_below HO2.out HBB3.out) HG2.out)
  have HG3 := Lib.hid (show w.heap.size < x2.heap.size by have := HS2.out.sz; omega)
  clear c0 c1 c2 c3 c4 c5 HOE
  generalize hx3 : w3.setCell ⟨w.heap.size, 3, none⟩ (.slice P3 ids.length d3) = x3 at *
  clear hx3 HQ
  obtain ⟨c0, c1, c2, c3, c4, c5⟩ := rec_cells HS3.out.box rfl
  obtain ⟨s0, s1, s2, s3, s4, s5⟩ := rec_cells HS3.out.res rfl
  have r0 := HS3.out.res.frozen 0
  have r1 := HS3.out.res.frozen 1
  have r2 := HS3.out.res.frozen 2
  have r3 := HS3.out.res.frozen 3
  have r4 := HS3.out.res.frozen 4
  have r5 := HS3.out.res.frozen 5
  go_wp2_with fail
  try simp only [Exit.inBlock, Exit.then]
  refine bodyPost_ret (ret_rec rfl _ _ _ _ rfl (put6_row HS3.out.res _ _ _ _ _ _) rfl) rfl ?_
  refine ⟨⟨P1, d1, P2, d2, P3, d3⟩, rfl, ?_, put6_below HS3.out.bel (by omega) _ _ _ _ _ _⟩
  exact OwnRec.far ⟨ownl_lower HO1.out (Nat.le_of_lt HG1.out), ownw_lower HO2.out (Nat.le_of_lt HG2.out), ownz_lower HO3.out (Nat.le_of_lt HG3.out)⟩ HS3.out.res (by simp [World.setCell]) (put6_far _ _ _ _ _ _)
end Go.Proofs.YtmgolnlkepiocaaGreat
