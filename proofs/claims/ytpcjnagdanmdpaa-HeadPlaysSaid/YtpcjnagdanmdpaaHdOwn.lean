/- A record in memory of the law's own; and how it is written over. -/
import Derived.Test.YtpcjnagdanmdpaaHdLotC
namespace Go.Proofs.Ytpcjnagdanmdpaa
open Go.RowKit Go.Maps
open Ch
set_option linter.unusedVariables false
set_option linter.unusedSimpArgs false
set_option maxRecDepth 100000
def set6 (w : World) (g : Nat) (a0 a1 a2 a3 a4 a5 : Value) : World := ((((((w.setCell ⟨g, 0, none⟩ a0).setCell ⟨g, 1, none⟩ a1).setCell ⟨g, 2, none⟩ a2).setCell ⟨g, 3, none⟩ a3).setCell ⟨g, 4, none⟩ a4).setCell ⟨g, 5, none⟩ a5)
theorem set6_heap (w : World) (g : Nat) (a0 a1 a2 a3 a4 a5 : Value) {k : Nat} (hk : k ≠ g) : (set6 w g a0 a1 a2 a3 a4 a5).heap[k]? = w.heap[k]? := by
  unfold set6
  rw [Below.heap_setCell _ ⟨g, 5, none⟩ _ _ hk, Below.heap_setCell _ ⟨g, 4, none⟩ _ _ hk, Below.heap_setCell _ ⟨g, 3, none⟩ _ _ hk, Below.heap_setCell _ ⟨g, 2, none⟩ _ _ hk, Below.heap_setCell _ ⟨g, 1, none⟩ _ _ hk, Below.heap_setCell _ ⟨g, 0, none⟩ _ _ hk]
theorem set6_below {B : Nat} {w0 w : World} (hb : Below B w0 w) (g : Nat) (hg : B ≤ g) (a0 a1 a2 a3 a4 a5 : Value) : Below B w0 (set6 w g a0 a1 a2 a3 a4 a5) := by
  unfold set6
  exact (((((hb.setCell hg _).setCell hg _).setCell hg _).setCell hg _).setCell hg _).setCell hg _
theorem rows_set6 {w : World} {g base e n size : Nat} {t : TypeId} {cs : Array Value} {v : Value} {xs : List Value} (hv : w.ownsRow base e size v n xs) (hg : Row w g t cs) (ht : t ≠ e) (a0 a1 a2 a3 a4 a5 : Value) : (set6 w g a0 a1 a2 a3 a4 a5).ownsRow base e size v n xs :=
  rows_move hv fun k hk => set6_heap w g _ _ _ _ _ _ fun e => rows_ne hg hv ht (by rw [hk, e])
set_option maxHeartbeats 1000000 in
theorem hdown_prog (R : RecV) (m : RecM) (w : World) (hR : RecIn w R m) (hl : R.labels.length * 32 ≤ 140737488355328) (hr : R.rows.length * 24 ≤ 140737488355328) (hz : R.ids.length * 8 ≤ 140737488355328) :
    Calls Try.prog 7 #[.agg (recC R m).toArray] w fun e w' => ∃ m' : RecM, e = .returned (.agg (recC R m').toArray) ∧ OwnL w' w.heap.size (.slice m'.la R.labels.length m'.lc) R.labels ∧ OwnW w' w.heap.size (.slice m'.ra R.rows.length m'.rc) R.rows ∧ OwnZ w' w.heap.size (.slice m'.ia R.ids.length m'.ic) R.ids ∧ Below w.heap.size w w' := by
  have HRI := Lib.hid hR
  obtain ⟨kd, la, ro, ids, lo, hi⟩ := R
  obtain ⟨A, ca, Bb, cb, C, cc⟩ := m
  simp only [recC] at *
  obtain ⟨z, hzz⟩ : ∃ z, (w.alloc (.cells #[.int .i64 kd, .slice A la.length ca, .slice Bb ro.length cb, .slice C ids.length cc, .int .i64 lo, .int .i64 hi] 30)).alloc (.cells #[.int .i64 0, .slice none 0 0, .slice none 0 0, .slice none 0 0, .int .i64 0, .int .i64 0] 30) = z := ⟨_, rfl⟩
  have hb : Below w.heap.size w z := by rw [← hzz]; exact (below_one w _).alloc (by simp) _
  have hzs : z.heap.size = w.heap.size + 2 := by rw [← hzz]; simp
  have hr1 : Row z w.heap.size 30 #[.int .i64 kd, .slice A la.length ca, .slice Bb ro.length cb, .slice C ids.length cc, .int .i64 lo, .int .i64 hi] := by rw [← hzz]; exact (Row.new w _ _).alloc _
  have hr2 : Row z (w.heap.size + 1) 30 #[.int .i64 0, .slice none 0 0, .slice none 0 0, .slice none 0 0, .int .i64 0, .int .i64 0] := by rw [← hzz]; exact row_at w _ _ _
  have HZ := Lib.hid hzz
  obtain ⟨G, hG⟩ : ∃ G, w.heap.size = G := ⟨_, rfl⟩
  have HG := Lib.hid hG
  rw [hG] at hzs hr1 hr2
  have x1 : (z.alloc (.cells #[] 69)).cell? ⟨G, 1, none⟩ = some (.slice A la.length ca) := (hr1.alloc (.cells #[] 69)).cell 1
  have HB := Lib.hid hb
  have HS := Lib.hid hzs
  have HR1 := Lib.hid hr1
  have HR2 := Lib.hid hr2
  have HO1 := Lib.hid (ownl_empty (base := z.heap.size) (Row.new z 69 #[]) (Nat.le_refl _))
  have HL1 := Lib.hid (show Lbls (z.alloc (.cells #[] 69)) A la from (hR.labels.below hb).alloc (.cells #[] 69))
  clear hzz hb hzs hr1 hr2 hR
  go_enter Try.func7, Try.ntmps7
  go_upto_region 1 with fail
  rw [HZ.out]
  go_upto_region 2 with (at_builtin; refine app_lbls rfl (.tmp 3) (.tmp 5) rfl z.heap.size _ [] rfl HO1.out A la ca rfl HL1.out (by simp only [List.length_nil]; omega) (by simp) ?_; intro v2 w2 ho2 hb2 hg2; rw [List.nil_append] at ho2; obtain ⟨P2, c2, hv2, _⟩ := ownl_slice ho2; subst hv2; have HO2 := Lib.hid ho2; have HB2 := Lib.hid ((below_one z _).trans hb2); have hrow := HR1.out.below HB2.out HR1.out.lt; have t1 : w2.cell? ⟨G, 1, none⟩ = some (.slice A la.length ca) := hrow.cell 1; have f1 := hrow.frozen 1; have HR3 := Lib.hid hrow; clear ho2 hb2 hg2 hrow)
  obtain ⟨y2, hy2⟩ : ∃ y2, w2.setCell ⟨G, 1, none⟩ (.slice P2 la.length c2) = y2 := ⟨_, rfl⟩
  have hbz2 : Below w.heap.size w y2 := by rw [← hy2]; exact ((HB.out.trans (HB2.out.mono HB.out.size))).setCell (by rw [hG]; exact Nat.le_refl _) _
  have hrA2 : Row y2 G 30 #[.int .i64 kd, .slice P2 la.length c2, .slice Bb ro.length cb, .slice C ids.length cc, .int .i64 lo, .int .i64 hi] := by rw [← hy2]; exact HR3.out.setAt 1 _
  have hrB2 : Row y2 (G + 1) 30 #[.int .i64 0, .slice none 0 0, .slice none 0 0, .slice none 0 0, .int .i64 0, .int .i64 0] := by rw [← hy2]; exact row_move (HR2.out.below HB2.out HR2.out.lt) (Below.heap_setCell _ _ _ _ (by simp))
  have hoL2 : OwnL y2 z.heap.size (.slice P2 la.length c2) la := by rw [← hy2]; exact ownl_move HO2.out fun k hk => Below.heap_setCell _ _ _ _ (by have := (World.ownsRow.lt HO2.out k hk).1; rw [HS.out] at this; simp; omega)
  have x2 : (y2.alloc (.cells #[] 65)).cell? ⟨G, 2, none⟩ = some (.slice Bb ro.length cb) := (hrA2.alloc (.cells #[] 65)).cell 2
  have HBZ2 := Lib.hid hbz2
  have HRA2 := Lib.hid hrA2
  have HRB2 := Lib.hid hrB2
  have HOL2 := Lib.hid hoL2
  have HO3 := Lib.hid (ownw_empty (base := y2.heap.size) (Row.new y2 65 #[]) (Nat.le_refl _))
  have HL3 := Lib.hid (show Wrows (y2.alloc (.cells #[] 65)) Bb ro from (HRI.out.rows.below hbz2).alloc (.cells #[] 65))
  rw [hy2]
  clear hbz2 hrA2 hrB2 hoL2 hy2 t1 f1 x1
  go_upto_region 3 with (at_builtin; refine app_wrows rfl (.tmp 8) (.tmp 10) rfl y2.heap.size _ [] rfl HO3.out Bb ro cb rfl HL3.out (by simp only [List.length_nil]; omega) (by simp) ?_; intro v3 w3 ho3 hb3 hg3; rw [List.nil_append] at ho3; obtain ⟨P3, c3, hv3, _⟩ := ownw_slice ho3; subst hv3; have HOW3 := Lib.hid ho3; have HB3 := Lib.hid ((below_one y2 _).trans hb3); have hrow := HRA2.out.below HB3.out HRA2.out.lt; have t1 : w3.cell? ⟨G, 2, none⟩ = some (.slice Bb ro.length cb) := hrow.cell 2; have f1 := hrow.frozen 2; have HR4 := Lib.hid hrow; clear ho3 hb3 hg3 hrow)
  obtain ⟨y3, hy3⟩ : ∃ y3, w3.setCell ⟨G, 2, none⟩ (.slice P3 ro.length c3) = y3 := ⟨_, rfl⟩
  have hbz3 : Below w.heap.size w y3 := by rw [← hy3]; exact ((HBZ2.out.trans (HB3.out.mono HBZ2.out.size))).setCell (by rw [hG]; exact Nat.le_refl _) _
  have hrA3 : Row y3 G 30 #[.int .i64 kd, .slice P2 la.length c2, .slice P3 ro.length c3, .slice C ids.length cc, .int .i64 lo, .int .i64 hi] := by rw [← hy3]; exact HR4.out.setAt 2 _
  have hrB3 : Row y3 (G + 1) 30 #[.int .i64 0, .slice none 0 0, .slice none 0 0, .slice none 0 0, .int .i64 0, .int .i64 0] := by rw [← hy3]; exact row_move (HRB2.out.below HB3.out HRB2.out.lt) (Below.heap_setCell _ _ _ _ (by simp))
  have hoL3 : OwnL y3 z.heap.size (.slice P2 la.length c2) la := by rw [← hy3]; exact ownl_move (ownl_below HOL2.out HB3.out) fun k hk => Below.heap_setCell _ _ _ _ (by have := (World.ownsRow.lt HOL2.out k hk).1; rw [HS.out] at this; simp; omega)
  have hoW3 : OwnW y3 y2.heap.size (.slice P3 ro.length c3) ro := by rw [← hy3]; exact rows_move HOW3.out fun k hk => Below.heap_setCell _ _ _ _ (by have := (World.ownsRow.lt HOW3.out k hk).1; have := HRA2.out.lt; simp; omega)
  have x3 : (y3.alloc (.cells #[] 3)).cell? ⟨G, 3, none⟩ = some (.slice C ids.length cc) := (hrA3.alloc (.cells #[] 3)).cell 3
  have HBZ3 := Lib.hid hbz3
  have HRA3 := Lib.hid hrA3
  have HRB3 := Lib.hid hrB3
  have HOL3 := Lib.hid hoL3
  have HOW4 := Lib.hid hoW3
  have HO5 := Lib.hid (ownz_empty (base := y3.heap.size) (Row.new y3 3 #[]) (Nat.le_refl _))
  have HL5 := Lib.hid (show Zi (y3.alloc (.cells #[] 3)) C ids from At.alloc (At.below HRI.out.ids hbz3) (.cells #[] 3))
  rw [hy3]
  clear hbz3 hrA3 hrB3 hoL3 hoW3 hy3 t1 f1 x2
  go_upto_region 4 with (at_builtin; refine app_zs rfl (.tmp 13) (.tmp 15) rfl y3.heap.size _ [] rfl HO5.out C ids cc rfl HL5.out (by simp only [List.length_nil]; omega) (by simp) ?_; intro v4 w4 ho4 hb4 hg4; rw [List.nil_append] at ho4; obtain ⟨P4, c4, hv4, _⟩ := ownz_slice ho4; subst hv4; have HOZ4 := Lib.hid ho4; have HB4 := Lib.hid ((below_one y3 _).trans hb4); have hrow := HRA3.out.below HB4.out HRA3.out.lt; have t1 : w4.cell? ⟨G, 3, none⟩ = some (.slice C ids.length cc) := hrow.cell 3; have f1 := hrow.frozen 3; have HR5 := Lib.hid hrow; clear ho4 hb4 hg4 hrow)
  obtain ⟨y4, hy4⟩ : ∃ y4, w4.setCell ⟨G, 3, none⟩ (.slice P4 ids.length c4) = y4 := ⟨_, rfl⟩
  have hbz4 : Below w.heap.size w y4 := by rw [← hy4]; exact ((HBZ3.out.trans (HB4.out.mono HBZ3.out.size))).setCell (by rw [hG]; exact Nat.le_refl _) _
  have hrA4 : Row y4 G 30 #[.int .i64 kd, .slice P2 la.length c2, .slice P3 ro.length c3, .slice P4 ids.length c4, .int .i64 lo, .int .i64 hi] := by rw [← hy4]; exact HR5.out.setAt 3 _
  have hrB4 : Row y4 (G + 1) 30 #[.int .i64 0, .slice none 0 0, .slice none 0 0, .slice none 0 0, .int .i64 0, .int .i64 0] := by rw [← hy4]; exact (HRB3.out.below HB4.out HRB3.out.lt).setFar (by simp) _
  have hoL4 : OwnL y4 z.heap.size (.slice P2 la.length c2) la := by rw [← hy4]; exact rows_setFar (ownl_below HOL3.out HB4.out) HR5.out (by decide) 3 _
  have hoW4 : OwnW y4 y2.heap.size (.slice P3 ro.length c3) ro := by rw [← hy4]; exact rows_setFar (ownw_below HOW4.out HB4.out) HR5.out (by decide) 3 _
  have hoZ4 : OwnZ y4 y3.heap.size (.slice P4 ids.length c4) ids := by rw [← hy4]; exact rows_setFar HOZ4.out HR5.out (by decide) 3 _
  rw [hy4]
  obtain ⟨a0, a1, a2, a3, a4, a5⟩ := rec_cells hrA4 rfl
  obtain ⟨b0, b1, b2, b3, b4, b5⟩ := rec_cells hrB4 rfl
  have HRBX := Lib.hid hrB4
  have q0 := (hrB4).frozen 0
  have q1 := (Row.setAt (hrB4) 0 (.int .i64 kd)).frozen 1
  have q2 := (Row.setAt (Row.setAt (hrB4) 0 (.int .i64 kd)) 1 (.slice P2 la.length c2)).frozen 2
  have q3 := (Row.setAt (Row.setAt (Row.setAt (hrB4) 0 (.int .i64 kd)) 1 (.slice P2 la.length c2)) 2 (.slice P3 ro.length c3)).frozen 3
  have q4 := (Row.setAt (Row.setAt (Row.setAt (Row.setAt (hrB4) 0 (.int .i64 kd)) 1 (.slice P2 la.length c2)) 2 (.slice P3 ro.length c3)) 3 (.slice P4 ids.length c4)).frozen 4
  have q5 := (Row.setAt (Row.setAt (Row.setAt (Row.setAt (Row.setAt (hrB4) 0 (.int .i64 kd)) 1 (.slice P2 la.length c2)) 2 (.slice P3 ro.length c3)) 3 (.slice P4 ids.length c4)) 4 (.int .i64 lo)).frozen 5
  have HRB4 := Lib.hid (Row.setAt (Row.setAt (Row.setAt (Row.setAt (Row.setAt (Row.setAt (hrB4) 0 (.int .i64 kd)) 1 (.slice P2 la.length c2)) 2 (.slice P3 ro.length c3)) 3 (.slice P4 ids.length c4)) 4 (.int .i64 lo)) 5 (.int .i64 hi))
  have HBZ4 := Lib.hid hbz4
  have HOL4 := Lib.hid hoL4
  have HOW5 := Lib.hid hoW4
  have HOZ5 := Lib.hid hoZ4
  have HRA4 := Lib.hid hrA4
  clear hbz4 hrA4 hrB4 hoL4 hoW4 hoZ4 hy4 t1 f1 x3
  go_wp2_with fail
  (try simp only [Exit.inBlock, Exit.then])
  have hge : ∀ {B : Nat}, B ≤ w.heap.size → B ≤ G + 1 := fun h => by omega
  have z1 := HB.out.size
  have z2 := HBZ2.out.size
  have z3 := HBZ3.out.size
  refine bodyPost_ret (ret_rec rfl _ _ _ _ rfl HRB4.out rfl) rfl ⟨⟨P2, c2, P3, c3, P4, c4⟩, rfl, ?_, ?_, ?_, ?_⟩
  · exact ownl_lower (rows_set6 HOL4.out HRBX.out (by decide) _ _ _ _ _ _) z1
  · exact ownw_lower (rows_set6 HOW5.out HRBX.out (by decide) _ _ _ _ _ _) z2
  · exact ownz_lower (rows_set6 HOZ5.out HRBX.out (by decide) _ _ _ _ _ _) z3
  · exact set6_below HBZ4.out (G + 1) (by omega) _ _ _ _ _ _
/-- A block of so many cells that may be written. -/
def Cel (w : World) (g : Nat) (t : TypeId) (n : Nat) : Prop := ∃ cs, Row w g t cs ∧ n ≤ cs.size
theorem Cel.at_ {w : World} {g n : Nat} {t : TypeId} (h : Cel w g t n) {i : Nat} (hi : i < n) : ∃ u, w.cell? ⟨g, i, none⟩ = some u ∧ w.frozen? ⟨g, i, none⟩ = false := by
  obtain ⟨cs, hr, hn⟩ := h
  exact ⟨cs[i]'(by omega), by rw [hr.cell i]; exact Array.getElem?_eq_getElem (by omega), hr.frozen i⟩
theorem Cel.set {w : World} {g n : Nat} {t : TypeId} (h : Cel w g t n) (i : Nat) (u : Value) : Cel (w.setCell ⟨g, i, none⟩ u) g t n := by
  obtain ⟨cs, hr, hn⟩ := h
  exact ⟨_, hr.setAt i u, by simpa using hn⟩
theorem Cel.move {w w' : World} {g n : Nat} {t : TypeId} (h : Cel w g t n) (hb : w'.heap[g]? = w.heap[g]?) : Cel w' g t n := by
  obtain ⟨cs, hr, hn⟩ := h
  exact ⟨cs, row_move hr hb, hn⟩
theorem Cel.lt {w : World} {g n : Nat} {t : TypeId} (h : Cel w g t n) : g < w.heap.size := by
  obtain ⟨cs, hr, _⟩ := h
  exact hr.lt
theorem own_cel {w : World} {base e size n : Nat} {v : Value} {xs : List Value} (h : w.ownsRow base e size v n xs) : n = 0 ∨ ∃ g cap, v = .slice (some ⟨g, 0, none⟩) n cap ∧ n ≤ cap ∧ Cel w g e (n * size) := by
  rcases h.2 with ⟨_, h0⟩ | ⟨g, cap, cur, hv, _, hh, hn, _, hs, _⟩
  · exact .inl h0
  · exact .inr ⟨g, cap, hv, hn, cur, hh, by rw [hs]; exact Nat.mul_le_mul_right _ hn⟩
theorem Cel.any {w : World} {g n : Nat} {t : TypeId} (h : Cel w g t n) (g' i : Nat) (u : Value) : Cel (w.setCell ⟨g', i, none⟩ u) g t n := by
  by_cases e : g = g'
  · subst e
    exact h.set i u
  · exact h.move (Below.heap_setCell _ _ _ _ e)
/-- The two rows that are written over. -/
def Cels (A Bb : Option Addr) (n1 n2 : Nat) (w : World) : Prop := (∀ g, A = some ⟨g, 0, none⟩ → 0 < n1 → Cel w g 69 (n1 * 2)) ∧ ∀ g, Bb = some ⟨g, 0, none⟩ → 0 < n2 → Cel w g 65 (n2 * 3)
theorem Cels.any {A Bb : Option Addr} {n1 n2 : Nat} {w : World} (h : Cels A Bb n1 n2 w) (g i : Nat) (u : Value) : Cels A Bb n1 n2 (w.setCell ⟨g, i, none⟩ u) :=
  ⟨fun g' e hn => (h.1 g' e hn).any g i u, fun g' e hn => (h.2 g' e hn).any g i u⟩
theorem Cels.below {A Bb : Option Addr} {n1 n2 : Nat} {w w' : World} (h : Cels A Bb n1 n2 w) (hb : Below w.heap.size w w') : Cels A Bb n1 n2 w' :=
  ⟨fun g' e hn => (h.1 g' e hn).move (hb.block _ (h.1 g' e hn).lt), fun g' e hn => (h.2 g' e hn).move (hb.block _ (h.2 g' e hn).lt)⟩
set_option maxHeartbeats 1000000 in
theorem hdspoil_prog (R : RecV) (m : RecM) (base : Nat) (w : World) (hl : OwnL w base (.slice m.la R.labels.length m.lc) R.labels) (hr : OwnW w base (.slice m.ra R.rows.length m.rc) R.rows) (b1 : R.labels.length ≤ 100000000000000) (b2 : R.rows.length ≤ 100000000000000) :
    Calls Try.prog 10 #[.agg (recC R m).toArray] w fun e w' => e = .returned (.tuple #[]) ∧ Kept (fun k => (Value.slice m.la R.labels.length m.lc).ownBlock = some k ∨ (Value.slice m.ra R.rows.length m.rc).ownBlock = some k) w w' := by
  obtain ⟨kd, la, ro, ids, lo, hi⟩ := R
  obtain ⟨A, ca, Bb, cb, C, cc⟩ := m
  simp only [recC] at *
  obtain ⟨n1, hn1⟩ : ∃ n1, la.length = n1 := ⟨_, rfl⟩
  obtain ⟨n2, hn2⟩ : ∃ n2, ro.length = n2 := ⟨_, rfl⟩
  have q1 := own_cel hl
  have q2 := own_cel hr
  have hlt : ∀ k, ((Value.slice A la.length ca).ownBlock = some k ∨ (Value.slice Bb ro.length cb).ownBlock = some k) → k < w.heap.size := fun k hk => hk.elim (fun h => (World.ownsRow.lt hl k h).2) fun h => (World.ownsRow.lt hr k h).2
  rw [hn1, hn2] at hlt
  rw [hn1] at q1 b1 ⊢
  rw [hn2] at q2 b2 ⊢
  clear hl hr hn1 hn2
  obtain ⟨S, hS⟩ : ∃ S : Nat → Prop, S = fun k => (Value.slice A n1 ca).ownBlock = some k ∨ (Value.slice Bb n2 cb).ownBlock = some k := ⟨_, rfl⟩
  have hlt' : ∀ k, S k → k < w.heap.size := by rw [hS]; exact hlt
  rw [← hS]
  have HS1 := Lib.hid (show ∀ g, A = some ⟨g, 0, none⟩ → S g from fun g e => by rw [hS, e]; exact .inl rfl)
  have HS2 := Lib.hid (show ∀ g, Bb = some ⟨g, 0, none⟩ → S g from fun g e => by rw [hS, e]; exact .inr rfl)
  have hc0 : Cels A Bb n1 n2 w := by
    refine ⟨fun g e hn => ?_, fun g e hn => ?_⟩
    · rcases q1 with q1 | ⟨g', cap, hv, _, hc⟩
      · omega
      · rw [e] at hv
        injection hv with h1
        injection h1 with h1
        injection h1 with h1
        rw [h1]
        exact hc
    · rcases q2 with q2 | ⟨g', cap, hv, _, hc⟩
      · omega
      · rw [e] at hv
        injection hv with h1
        injection h1 with h1
        injection h1 with h1
        rw [h1]
        exact hc
  have HA1 := Lib.hid (show 0 < n1 → ∃ g, A = some ⟨g, 0, none⟩ from fun hn => by
    rcases q1 with q1 | ⟨g, cap, hv, _, _⟩
    · omega
    · exact ⟨g, (Value.slice.inj hv).1⟩)
  have HA2 := Lib.hid (show 0 < n2 → ∃ g, Bb = some ⟨g, 0, none⟩ from fun hn => by
    rcases q2 with q2 | ⟨g, cap, hv, _, _⟩
    · omega
    · exact ⟨g, (Value.slice.inj hv).1⟩)
  obtain ⟨z, hz⟩ : ∃ z, w.alloc (.cells #[.int .i64 kd, .slice A n1 ca, .slice Bb n2 cb, .slice C ids.length cc, .int .i64 lo, .int .i64 hi] 30) = z := ⟨_, rfl⟩
  have hbz : Below w.heap.size w z := by rw [← hz]; exact below_one w _
  have hrz : Row z w.heap.size 30 #[.int .i64 kd, .slice A n1 ca, .slice Bb n2 cb, .slice C ids.length cc, .int .i64 lo, .int .i64 hi] := by rw [← hz]; exact Row.new w _ _
  have HZ := Lib.hid hz
  have HBZ := Lib.hid hbz
  have HC := Lib.hid (hc0.below hbz)
  have HRZ := Lib.hid (fun (x : World) (hx : Kept S z x) => row_move hrz (hx.block _ hrz.lt fun h => Nat.lt_irrefl _ (hlt' _ h)))
  clear q1 q2 hlt hS hlt' hc0 hz hbz hrz
  go_enter Try.func10, Try.ntmps10
  go_upto_region 1 with fail
  rw [HZ.out]
  go_wp2_with fail
  go_loopw [2] (fun i wr => ∃ k : Nat, k ≤ n1 ∧ i = .int .i64 (k : Int) ∧ Kept S z wr ∧ Cels A Bb n1 n2 wr) (fun i _ => n1 - (intOf i).toNat)
  case atStart => exact ⟨0, Nat.zero_le _, rfl, Kept.refl _ _, HC.out⟩
  case round =>
    obtain ⟨k, hk, rfl, hkp, hce⟩ := hrel
    have hrow := HRZ.out _ hkp
    have x1 : wr.cell? ⟨w.heap.size, 1, none⟩ = some (.slice A n1 ca) := hrow.cell 1
    by_cases hlt : k < n1
    · obtain ⟨g, rfl⟩ := HA1.out (by omega)
      have i1 : decide ((k : Int) < (n1 : Int)) = true := decide_eq_true (by omega)
      have i2 : (k : Int) < (n1 : Int) := by omega
      have hc1 := hce.1 g rfl (by omega)
      obtain ⟨u0, c0, f0⟩ := hc1.at_ (i := k * 2) (by omega)
      obtain ⟨u1, c1, f1⟩ := (hc1.any g (k * 2) (.string ⟨#[122, 122]⟩)).at_ (i := k * 2 + 1) (by omega)
      have HKP := Lib.hid ((hkp.set (p := ⟨g, k * 2, none⟩) (.inl (HS1.out g rfl)) (.string ⟨#[122, 122]⟩)).set (p := ⟨g, k * 2 + 1, none⟩) (.inl (HS1.out g rfl)) (.string ⟨#[115, 112, 111, 105, 108, 116]⟩))
      have HCE := Lib.hid ((hce.any g (k * 2) (.string ⟨#[122, 122]⟩)).any g (k * 2 + 1) (.string ⟨#[115, 112, 111, 105, 108, 116]⟩))
      clear hkp hce hrow hc1
      go_wp2_with fail
      go_roundw
      case rel => exact ⟨k + 1, by omega, by go_num, HKP.out, HCE.out⟩
      case measure => simp [intOf]; omega
    · obtain rfl : k = n1 := by omega
      have i1 : decide ((k : Int) < (k : Int)) = false := decide_eq_false (by omega)
      have HKP := Lib.hid hkp
      have HCE := Lib.hid hce
      clear hkp hce hrow
      go_wp2_with fail
      go_loopw [3] (fun i wr => ∃ j : Nat, j ≤ n2 ∧ i = .int .i64 (j : Int) ∧ Kept S z wr ∧ Cels A Bb k n2 wr) (fun i _ => n2 - (intOf i).toNat)
      case atStart => exact ⟨0, Nat.zero_le _, rfl, HKP.out, HCE.out⟩
      case round =>
        obtain ⟨j, hj, rfl, hkp, hce⟩ := hrel
        have hrow := HRZ.out _ hkp
        have x2 : wr.cell? ⟨w.heap.size, 2, none⟩ = some (.slice Bb n2 cb) := hrow.cell 2
        by_cases hlt : j < n2
        · obtain ⟨g, rfl⟩ := HA2.out (by omega)
          have i1 : decide ((j : Int) < (n2 : Int)) = true := decide_eq_true (by omega)
          have i2 : (j : Int) < (n2 : Int) := by omega
          have hc1 := hce.2 g rfl (by omega)
          obtain ⟨u0, c0, f0⟩ := hc1.at_ (i := j * 3) (by omega)
          obtain ⟨u1, c1, f1⟩ := (hc1.any g (j * 3) (.int .i64 9)).at_ (i := j * 3 + 1) (by omega)
          obtain ⟨u2, c2, f2⟩ := ((hc1.any g (j * 3) (.int .i64 9)).any g (j * 3 + 1) (.int .i64 9)).at_ (i := j * 3 + 2) (by omega)
          have HKQ := Lib.hid (((hkp.set (p := ⟨g, j * 3, none⟩) (.inl (HS2.out g rfl)) (.int .i64 9)).set (p := ⟨g, j * 3 + 1, none⟩) (.inl (HS2.out g rfl)) (.int .i64 9)).set (p := ⟨g, j * 3 + 2, none⟩) (.inl (HS2.out g rfl)) (.int .i64 9))
          have HCQ := Lib.hid (((hce.any g (j * 3) (.int .i64 9)).any g (j * 3 + 1) (.int .i64 9)).any g (j * 3 + 2) (.int .i64 9))
          clear hkp hce hrow hc1
          go_wp2_with fail
          go_roundw
          case rel => exact ⟨j + 1, by omega, by go_num, HKQ.out, HCQ.out⟩
          case measure => simp [intOf]; omega
        · obtain rfl : j = n2 := by omega
          have i1 : decide ((j : Int) < (j : Int)) = false := decide_eq_false (by omega)
          have HKQ := Lib.hid hkp
          clear hkp hce hrow
          go_wp2_with fail
          go_end0
          exact ⟨rfl, (Kept.below HBZ.out).trans HKQ.out fun i hi => .inl hi⟩
end Go.Proofs.Ytpcjnagdanmdpaa
