/- A record read of bytes, as the program does it (wal.read, wal.Of). -/
import Derived.Test.YtmgolnlkepiocaaWaLotM
import Derived.Test.YtmgolnlkepiocaaWaLotI
namespace Go.Proofs.Ytmgolnlkepiocaa
open Go.RowKit Go.Maps
set_option linter.unusedVariables false

theorem put6_row {w : World} {g : Nat} {t : TypeId} {u0 u1 u2 u3 u4 u5 : Value} (h : Row w g t #[u0, u1, u2, u3, u4, u5]) (v0 v1 v2 v3 v4 v5 : Value) :
    Row ((((((w.setCell ⟨g, 0, none⟩ v0).setCell ⟨g, 1, none⟩ v1).setCell ⟨g, 2, none⟩ v2).setCell ⟨g, 3, none⟩ v3).setCell ⟨g, 4, none⟩ v4).setCell ⟨g, 5, none⟩ v5) g t #[v0, v1, v2, v3, v4, v5] := by
  have := (((((h.setAt 0 v0).setAt 1 v1).setAt 2 v2).setAt 3 v3).setAt 4 v4).setAt 5 v5
  simpa only [List.setIfInBounds_toArray, List.set_cons_zero, List.set_cons_succ] using this
theorem put6_below {w : World} {B g : Nat} {w0 : World} (h : Below B w0 w) (hg : B ≤ g) (v0 v1 v2 v3 v4 v5 : Value) :
    Below B w0 ((((((w.setCell ⟨g, 0, none⟩ v0).setCell ⟨g, 1, none⟩ v1).setCell ⟨g, 2, none⟩ v2).setCell ⟨g, 3, none⟩ v3).setCell ⟨g, 4, none⟩ v4).setCell ⟨g, 5, none⟩ v5) :=
  (((((h.setCell (p := ⟨g, 0, none⟩) hg v0).setCell (p := ⟨g, 1, none⟩) hg v1).setCell (p := ⟨g, 2, none⟩) hg v2).setCell (p := ⟨g, 3, none⟩) hg v3).setCell (p := ⟨g, 4, none⟩) hg v4).setCell (p := ⟨g, 5, none⟩) hg v5
theorem put6_far {w : World} {g : Nat} (v0 v1 v2 v3 v4 v5 : Value) (k : Nat) (hk : k ≠ g) :
    ((((((w.setCell ⟨g, 0, none⟩ v0).setCell ⟨g, 1, none⟩ v1).setCell ⟨g, 2, none⟩ v2).setCell ⟨g, 3, none⟩ v3).setCell ⟨g, 4, none⟩ v4).setCell ⟨g, 5, none⟩ v5).heap[k]? = w.heap[k]? := by
  rw [Below.heap_setCell _ _ _ _ hk, Below.heap_setCell _ _ _ _ hk, Below.heap_setCell _ _ _ _ hk, Below.heap_setCell _ _ _ _ hk, Below.heap_setCell _ _ _ _ hk, Below.heap_setCell _ _ _ _ hk]
theorem intL_at (xs : List Nat) (k : Nat) : (intL xs).getD k 0 = ((xs.getD k 0 : Nat) : Int) := by
  unfold intL
  simp only [List.getD_eq_getElem?_getD, List.getElem?_map]
  cases xs[k]? <;> rfl
/-- A record whose slices are rows of the call's own. -/
structure OwnRec (w : World) (base : Nat) (R : RecV) (m : RecM) : Prop where
  labels : OwnL w base (.slice m.la R.labels.length m.lc) R.labels
  rows : OwnW w base (.slice m.ra R.rows.length m.rc) R.rows
  ids : OwnZ w base (.slice m.ia R.ids.length m.ic) R.ids
section
variable {w w' : World} {base : Nat} {R : RecV} {m : RecM}
theorem OwnRec.in_ (h : OwnRec w base R m) : RecIn w R m := by
  obtain ⟨P1, c1, e1, l1, h1, _⟩ := ownl_slice h.labels
  obtain ⟨P2, c2, e2, l2, h2, _⟩ := ownw_slice h.rows
  obtain ⟨P3, c3, e3, l3, h3, _⟩ := ownz_slice h.ids
  injection e1 with a1 _ b1
  injection e2 with a2 _ b2
  injection e3 with a3 _ b3
  rw [← a1] at h1
  rw [← a2] at h2
  rw [← a3] at h3
  exact ⟨h1, h2, h3, by omega, by omega, by omega⟩
theorem OwnRec.below (h : OwnRec w base R m) (hb : Below w.heap.size w w') : OwnRec w' base R m := ⟨ownl_below h.labels hb, ownw_below h.rows hb, ownz_below h.ids hb⟩
theorem OwnRec.lower {base' : Nat} (h : OwnRec w base R m) (hb : base' ≤ base) : OwnRec w base' R m := ⟨ownl_lower h.labels hb, ownw_lower h.rows hb, ownz_lower h.ids hb⟩
theorem OwnRec.far (h : OwnRec w base R m) {g : Nat} {cs : Array Value} (hg : Row w g 26 cs) (hs : w.heap.size ≤ w'.heap.size) (hb : ∀ k, k ≠ g → w'.heap[k]? = w.heap[k]?) : OwnRec w' base R m :=
  ⟨rows_move h.labels fun k hk => hb k fun e => rows_ne hg h.labels (by decide) (by rw [hk, e]), rows_move h.rows fun k hk => hb k fun e => rows_ne hg h.rows (by decide) (by rw [hk, e]), rows_move h.ids fun k hk => hb k fun e => rows_ne hg h.ids (by decide) (by rw [hk, e])⟩
theorem OwnRec.nil (w : World) (base : Nat) (k lo hi : Int) : OwnRec w base ⟨k, [], [], [], lo, hi⟩ recM0 := ⟨ownl_nil _ _, ownw_nil _ _, ownz_nil _ _⟩
/-- No row of records lies where the record's own slices lie. -/
theorem OwnRec.apart (h : OwnRec w base R m) {b2 : Nat} {v : Value} {n : Nat} {xs : List Value} (hv : w.ownsRow b2 26 6 v n xs) : ∀ k, v.ownBlock = some k → Apart k (R, m) := by
  intro k hk
  have key : ∀ {A : Option Addr} {n c e sz : Nat} {ys : List Value}, w.ownsRow base e sz (.slice A n c) n ys → e ≠ 26 → ∀ ad, A = some ad → ad.block ≠ k := by
    intro A n c e sz ys h1 hne ad ha hk2
    rcases h1.2 with ⟨e1, _⟩ | ⟨g, cap, cur, e1, _, hh, _⟩
    · injection e1 with e1 _ _; rw [e1] at ha; cases ha
    · injection e1 with e1 _ _
      rw [e1] at ha
      injection ha with ha
      subst ha
      simp only at hk2
      subst hk2
      have hr : Row w g e cur := hh
      exact rows_ne hr hv hne hk
  exact ⟨fun ad ha => .inl (key h.labels (by decide) ad ha), fun ad ha => .inl (key h.rows (by decide) ad ha), fun ad ha => .inl (key h.ids (by decide) ad ha)⟩
end
def LabTold (w : World) (ls : List Lbl) (p : Int) (E : Nat) (e' : Ending) (w' : World) : Prop := ∃ v, e' = .returned (.tuple #[v, .int .i64 p, .int .i64 E]) ∧ OwnL w' w.heap.size v ls ∧ Below w.heap.size w w'
theorem labread_prog {l : List UInt8} {a : Int} {ls : List Lbl} {p : Int} {E : Nat} (h : LX l a ls p E) (A : Option Addr) (c : Nat) (w : World) (hA : Bys w A l) (hlc : l.length ≤ c) (hl : l.length ≤ 140737488355328) :
    Calls Try.prog 68 #[.slice A l.length c, .int .i64 a] w (LabTold w ls p E) := by
  obtain ⟨n, nx, e, hg, h⟩ := h
  rcases h with ⟨h1, rfl, rfl, rfl⟩ | ⟨rfl, h1, rfl, rfl, rfl⟩ | ⟨rfl, h1, LS, P, E1, hr, h⟩
  · exact (read_no hg h1 A c w hA hlc hl).mono fun e' w' h => ⟨_, h.1, ownl_nil _ _, h.2⟩
  · exact (read_big hg h1 A c w hA hlc hl).mono fun e' w' h => ⟨_, h.1, ownl_nil _ _, h.2⟩
  · refine (read_told hg h1 hr A c w hA hlc hl).mono fun e' w' hh => ?_
    obtain ⟨hb, hh⟩ := hh
    rcases h with ⟨h2, rfl, rfl, rfl⟩ | ⟨rfl, h2, rfl, rfl, rfl⟩ | ⟨rfl, h2, rfl, rfl, rfl⟩
    · rcases hh with ⟨_, h3⟩ | ⟨h3, _⟩ | ⟨h3, _⟩
      · exact ⟨_, h3, ownl_nil _ _, hb⟩
      · exact absurd h3 h2
      · exact absurd h3 h2
    · rcases hh with ⟨h3, _⟩ | ⟨_, _, h3⟩ | ⟨_, h3, _⟩
      · exact absurd rfl h3
      · exact ⟨_, h3, ownl_nil _ _, hb⟩
      · exact absurd h3 h2
    · rcases hh with ⟨h3, _⟩ | ⟨_, h3, _⟩ | ⟨_, _, v, h3, h4⟩
      · exact absurd rfl h3
      · exact absurd h2 h3
      · exact ⟨v, h3, h4, hb⟩
def IdsTold (w : World) (ls : List Int) (p : Nat) (E : Nat) (e' : Ending) (w' : World) : Prop := ∃ v, e' = .returned (.tuple #[v, .int .i64 p, .int .i64 E]) ∧ OwnZ w' w.heap.size v ls ∧ Below w.heap.size w w'
theorem idsread_prog {l : List UInt8} {a : Int} {ls : List Int} {p : Nat} {E : Nat} (h : PY l a ls p E) (A : Option Addr) (c : Nat) (w : World) (hA : Bys w A l) (hlc : l.length ≤ c) (hl : l.length ≤ 140737488355328) :
    Calls Try.prog 70 #[.slice A l.length c, .int .i64 a] w (IdsTold w ls p E) := by
  refine (read_prog h A c w hA hlc hl).mono fun e' w' hh => ?_
  obtain ⟨hb, hh⟩ := hh
  rcases hh with ⟨h1, h2⟩ | ⟨rfl, v, h2, h3⟩
  · obtain ⟨e1, e2⟩ := (py_err h).1 h1
    rw [e1, e2]
    exact ⟨_, h2, ownz_nil _ _, hb⟩
  · exact ⟨v, h2, h3, hb⟩
theorem rd_fit {b : List UInt8} {R : RecV} {p : Int} (h : RD b R p 0) : RecFit R := by
  have lb : ∀ {l : List Lbl}, lbChk l = 0 → LFits l ∧ l.length * 32 ≤ 140737488351232 := fun {l} h => by
    refine ⟨fun i hi => ?_, by have := (lbChk_ok.1 h).1; omega⟩
    have := right_at h hi
    omega
  obtain ⟨n, nx, e, hg, h⟩ := h
  rcases h with ⟨h1, _, h2⟩ | ⟨rfl, rfl, ls, hl, rfl⟩ | ⟨rfl, rfl, rs, hl, rfl⟩ | ⟨rfl, rfl, ids, q, E1, hp, h⟩ | ⟨rfl, h1, h2, h3, _, _, rfl⟩
  · exact absurd h2.symm h1
  · have := lb (lx_cov hl).2
    exact ⟨this.1, this.2, by simp, by simp⟩
  · refine ⟨fun i hi => by simp at hi, by simp, ?_, by simp⟩
    obtain ⟨n, nx, e, hg, h⟩ := hl
    rcases h with ⟨h1, h2, _⟩ | ⟨_, _, h2, _⟩ | ⟨rfl, hn, xs, hs, hr, _⟩
    · exact absurd h2.symm h1
    · cases h2
    · have := rows3_len n xs ((gs_len hs).1 rfl)
      show rs.length * 24 ≤ _
      rw [hr rfl, this]
      omega
  · rcases h with ⟨h1, _, h2⟩ | ⟨rfl, xs, hs, rfl⟩
    · exact absurd h2.symm h1
    · have := (py_err hp).2
      exact ⟨fun i hi => by simp at hi, by simp, by simp, by show ids.length ≤ _; omega⟩
  · exact ⟨fun i hi => by simp at hi, by simp, by simp, by simp⟩

def RecTold (w : World) (R : RecV) (p : Int) (E : Nat) (e' : Ending) (w' : World) : Prop :=
  ∃ (R' : RecV) (m : RecM), e' = .returned (.tuple #[.agg (recC R' m).toArray, .int .i64 p, .int .i64 E]) ∧ (E = 0 → R' = R) ∧ OwnRec w' w.heap.size R' m ∧ Below w.heap.size w w'
set_option maxRecDepth 20000 in
set_option maxHeartbeats 1000000 in
theorem read_0 {l : List UInt8} {n nx e : Nat} (h : GX l 0 n nx e) (he : e ≠ 0) (R : RecV) (p : Int) (E : Nat) (hp : p = 0) (hE : E = e) (A : Option Addr) (c : Nat) (w : World) (hA : Bys w A l) (hlc : l.length ≤ c) (hl : l.length ≤ 140737488355328) :
    Calls Try.prog 43 #[.slice A l.length c] w (RecTold w R p E) := by
  have hW : Below w.heap.size w (((w.alloc (.cells #[.int .i64 0, .slice none 0 0, .slice none 0 0, .slice none 0 0, .int .i64 0, .int .i64 0] 26)).alloc (.cells #[.int .i64 0, .slice none 0 0, .slice none 0 0, .slice none 0 0, .int .i64 0, .int .i64 0] 26)).alloc (.cells #[ptr (w.heap.size + 1) 0] 121)) := ((below_one _ _).alloc (by simp) _).alloc (by simp; omega) _
  have hr1 : Row (((w.alloc (.cells #[.int .i64 0, .slice none 0 0, .slice none 0 0, .slice none 0 0, .int .i64 0, .int .i64 0] 26)).alloc (.cells #[.int .i64 0, .slice none 0 0, .slice none 0 0, .slice none 0 0, .int .i64 0, .int .i64 0] 26)).alloc (.cells #[ptr (w.heap.size + 1) 0] 121)) (w.heap.size + 1) 26 #[.int .i64 0, .slice none 0 0, .slice none 0 0, .slice none 0 0, .int .i64 0, .int .i64 0] := Row.alloc (show Row ((w.alloc (.cells #[.int .i64 0, .slice none 0 0, .slice none 0 0, .slice none 0 0, .int .i64 0, .int .i64 0] 26)).alloc (.cells #[.int .i64 0, .slice none 0 0, .slice none 0 0, .slice none 0 0, .int .i64 0, .int .i64 0] 26)) (w.heap.size + 1) 26 #[.int .i64 0, .slice none 0 0, .slice none 0 0, .slice none 0 0, .int .i64 0, .int .i64 0] from heap_alloc2_new w _ _) _
  have hr0 : Row (((w.alloc (.cells #[.int .i64 0, .slice none 0 0, .slice none 0 0, .slice none 0 0, .int .i64 0, .int .i64 0] 26)).alloc (.cells #[.int .i64 0, .slice none 0 0, .slice none 0 0, .slice none 0 0, .int .i64 0, .int .i64 0] 26)).alloc (.cells #[ptr (w.heap.size + 1) 0] 121)) w.heap.size 26 #[.int .i64 0, .slice none 0 0, .slice none 0 0, .slice none 0 0, .int .i64 0, .int .i64 0] := ((Row.new w 26 #[.int .i64 0, .slice none 0 0, .slice none 0 0, .slice none 0 0, .int .i64 0, .int .i64 0]).alloc _).alloc _
  have hrp : Row (((w.alloc (.cells #[.int .i64 0, .slice none 0 0, .slice none 0 0, .slice none 0 0, .int .i64 0, .int .i64 0] 26)).alloc (.cells #[.int .i64 0, .slice none 0 0, .slice none 0 0, .slice none 0 0, .int .i64 0, .int .i64 0] 26)).alloc (.cells #[ptr (w.heap.size + 1) 0] 121)) (w.heap.size + 2) 121 #[ptr (w.heap.size + 1) 0] := by have := Row.new ((w.alloc (.cells #[.int .i64 0, .slice none 0 0, .slice none 0 0, .slice none 0 0, .int .i64 0, .int .i64 0] 26)).alloc (.cells #[.int .i64 0, .slice none 0 0, .slice none 0 0, .slice none 0 0, .int .i64 0, .int .i64 0] 26)) 121 #[ptr (w.heap.size + 1) 0]; simpa using this
  have HG := Lib.hid (wget_prog A l c 0 (w.heap.size + 2) [(w.heap.size + 1, 0)] 1 (w.heap.size + 1) (((w.alloc (.cells #[.int .i64 0, .slice none 0 0, .slice none 0 0, .slice none 0 0, .int .i64 0, .int .i64 0] 26)).alloc (.cells #[.int .i64 0, .slice none 0 0, .slice none 0 0, .slice none 0 0, .int .i64 0, .int .i64 0] 26)).alloc (.cells #[ptr (w.heap.size + 1) 0] 121)) (TK (w.heap.size + 2) (w.heap.size + 1))
    (fun W hWW => hA.below (hW.trans (hWW.mono (Nat.le_succ _)))) hlc hl (by simp <;> omega) (by simp) ⟨by simp, hrp, hr1⟩ (tk_ok _ _ _ (Nat.le_refl _)) (show GS l 1 0 [] 0 e from .bad 0 0 n nx e h he))
  have HW := Lib.hid hW
  have HR0 := Lib.hid hr0
  have HA := Lib.hid hA
  subst hp
  subst hE
  have i2 : ((E : Int) != 0) = true := bne_iff_ne.2 (by omega)
  have i3 : ((E : Int) == 0) = false := beq_eq_false_iff_ne.2 (by omega)
  have HE := Lib.hid he
  clear h he hW hr1 hr0 hrp hA
  go_enter Try.func43, Try.ntmps43
  go_upto_region 4 with (go_at_call 67; refine HG.out.mono ?_; rintro e w2 ⟨rfl, _, hb2⟩; have HB2 := Lib.hid (HW.out.trans (hb2.mono (Nat.le_succ _))); have HZ4 := Lib.hid (HR0.out.below hb2 (Nat.lt_succ_self _)); clear hb2)
  obtain ⟨z0, z1, z2, z3, z4, z5⟩ := rec_cells HZ4.out rfl
  have f0 := HZ4.out.frozen 0
  have f1 := HZ4.out.frozen 1
  have f2 := HZ4.out.frozen 2
  have f3 := HZ4.out.frozen 3
  have f4 := HZ4.out.frozen 4
  have f5 := HZ4.out.frozen 5
  go_wp2_with fail
  try simp only [Exit.inBlock, Exit.then]
  refine bodyPost_ret (ret_rec3 rfl _ _ _ _ rfl (put6_row HZ4.out _ _ _ _ _ _) rfl) rfl ?_
  exact ⟨rec0, recM0, rfl, fun h => absurd h HE.out, OwnRec.far (OwnRec.nil _ _ _ _ _) HZ4.out (by simp [World.setCell]) (put6_far _ _ _ _ _ _), put6_below HB2.out (Nat.le_refl _) _ _ _ _ _ _⟩
set_option maxRecDepth 20000 in
set_option maxHeartbeats 1000000 in
theorem read_5 {l : List UInt8} {n nx : Nat} (h : GX l 0 n nx 0) (h1 : n ≠ 1) (h2 : n ≠ 2) (h3 : n ≠ 3) (R : RecV) (p : Int) (E : Nat) (hp : p = nx) (hE : E = 0) (hR : R = ⟨n, [], [], [], 0, 0⟩) (A : Option Addr) (c : Nat) (w : World) (hA : Bys w A l) (hlc : l.length ≤ c) (hl : l.length ≤ 140737488355328) :
    Calls Try.prog 43 #[.slice A l.length c] w (RecTold w R p E) := by
  have hW : Below w.heap.size w (((w.alloc (.cells #[.int .i64 0, .slice none 0 0, .slice none 0 0, .slice none 0 0, .int .i64 0, .int .i64 0] 26)).alloc (.cells #[.int .i64 0, .slice none 0 0, .slice none 0 0, .slice none 0 0, .int .i64 0, .int .i64 0] 26)).alloc (.cells #[ptr (w.heap.size + 1) 0] 121)) := ((below_one _ _).alloc (by simp) _).alloc (by simp; omega) _
  have hr1 : Row (((w.alloc (.cells #[.int .i64 0, .slice none 0 0, .slice none 0 0, .slice none 0 0, .int .i64 0, .int .i64 0] 26)).alloc (.cells #[.int .i64 0, .slice none 0 0, .slice none 0 0, .slice none 0 0, .int .i64 0, .int .i64 0] 26)).alloc (.cells #[ptr (w.heap.size + 1) 0] 121)) (w.heap.size + 1) 26 #[.int .i64 0, .slice none 0 0, .slice none 0 0, .slice none 0 0, .int .i64 0, .int .i64 0] := Row.alloc (show Row ((w.alloc (.cells #[.int .i64 0, .slice none 0 0, .slice none 0 0, .slice none 0 0, .int .i64 0, .int .i64 0] 26)).alloc (.cells #[.int .i64 0, .slice none 0 0, .slice none 0 0, .slice none 0 0, .int .i64 0, .int .i64 0] 26)) (w.heap.size + 1) 26 #[.int .i64 0, .slice none 0 0, .slice none 0 0, .slice none 0 0, .int .i64 0, .int .i64 0] from heap_alloc2_new w _ _) _
  have hr0 : Row (((w.alloc (.cells #[.int .i64 0, .slice none 0 0, .slice none 0 0, .slice none 0 0, .int .i64 0, .int .i64 0] 26)).alloc (.cells #[.int .i64 0, .slice none 0 0, .slice none 0 0, .slice none 0 0, .int .i64 0, .int .i64 0] 26)).alloc (.cells #[ptr (w.heap.size + 1) 0] 121)) w.heap.size 26 #[.int .i64 0, .slice none 0 0, .slice none 0 0, .slice none 0 0, .int .i64 0, .int .i64 0] := ((Row.new w 26 #[.int .i64 0, .slice none 0 0, .slice none 0 0, .slice none 0 0, .int .i64 0, .int .i64 0]).alloc _).alloc _
  have hrp : Row (((w.alloc (.cells #[.int .i64 0, .slice none 0 0, .slice none 0 0, .slice none 0 0, .int .i64 0, .int .i64 0] 26)).alloc (.cells #[.int .i64 0, .slice none 0 0, .slice none 0 0, .slice none 0 0, .int .i64 0, .int .i64 0] 26)).alloc (.cells #[ptr (w.heap.size + 1) 0] 121)) (w.heap.size + 2) 121 #[ptr (w.heap.size + 1) 0] := by have := Row.new ((w.alloc (.cells #[.int .i64 0, .slice none 0 0, .slice none 0 0, .slice none 0 0, .int .i64 0, .int .i64 0] 26)).alloc (.cells #[.int .i64 0, .slice none 0 0, .slice none 0 0, .slice none 0 0, .int .i64 0, .int .i64 0] 26)) 121 #[ptr (w.heap.size + 1) 0]; simpa using this
  have HG := Lib.hid (wget_prog A l c 0 (w.heap.size + 2) [(w.heap.size + 1, 0)] 1 (w.heap.size + 1) (((w.alloc (.cells #[.int .i64 0, .slice none 0 0, .slice none 0 0, .slice none 0 0, .int .i64 0, .int .i64 0] 26)).alloc (.cells #[.int .i64 0, .slice none 0 0, .slice none 0 0, .slice none 0 0, .int .i64 0, .int .i64 0] 26)).alloc (.cells #[ptr (w.heap.size + 1) 0] 121)) (TK (w.heap.size + 2) (w.heap.size + 1))
    (fun W hWW => hA.below (hW.trans (hWW.mono (Nat.le_succ _)))) hlc hl (by simp <;> omega) (by simp) ⟨by simp, hrp, hr1⟩ (tk_ok _ _ _ (Nat.le_refl _)) (show GS l 1 0 [n] nx 0 from .more 0 0 n nx [] nx 0 h (.done _)))
  have HW := Lib.hid hW
  have HR0 := Lib.hid hr0
  have HA := Lib.hid hA
  subst hp
  subst hE
  subst hR
  have i1 : ((n : Int) == 1) = false := beq_eq_false_iff_ne.2 (by omega)
  have i2 : ((n : Int) == 2) = false := beq_eq_false_iff_ne.2 (by omega)
  have i3 : ((n : Int) == 3) = false := beq_eq_false_iff_ne.2 (by omega)
  clear h h1 h2 h3 hW hr1 hr0 hrp hA
  go_enter Try.func43, Try.ntmps43
  go_upto_region 14 with (go_at_call_of 67 (Value.int IntKind.i64 0); refine HG.out.mono ?_; rintro e w2 ⟨rfl, ⟨vs, hT, hvs⟩, hb2⟩; obtain rfl := hvs rfl; obtain ⟨_, _, hX⟩ := hT; have HX2 : Hid (Row w2 (w.heap.size + 1) 26 #[.int .i64 (n : Int), .slice none 0 0, .slice none 0 0, .slice none 0 0, .int .i64 0, .int .i64 0]) := Lib.hid hX; have c0 : w2.cell? ⟨w.heap.size + 1, 0, none⟩ = some (.int .i64 (n : Int)) := hX.cell 0; have HB2 := Lib.hid (HW.out.trans (hb2.mono (Nat.le_succ _))); have HZ2 := Lib.hid (HR0.out.below hb2 (Nat.lt_succ_self _)); clear hX hb2)
  have HX4 := Lib.hid HX2.out
  have HZ4 := Lib.hid HZ2.out
  obtain ⟨y0, y1, y2, y3, y4, y5⟩ := rec_cells HX4.out rfl
  obtain ⟨z0, z1, z2, z3, z4, z5⟩ := rec_cells HZ4.out rfl
  have f0 := HZ4.out.frozen 0
  have f1 := HZ4.out.frozen 1
  have f2 := HZ4.out.frozen 2
  have f3 := HZ4.out.frozen 3
  have f4 := HZ4.out.frozen 4
  have f5 := HZ4.out.frozen 5
  go_wp2_with fail
  try simp only [Exit.inBlock, Exit.then]
  refine bodyPost_ret (ret_rec3 rfl _ _ _ _ rfl (put6_row HZ4.out _ _ _ _ _ _) rfl) rfl ?_
  exact ⟨⟨n, [], [], [], 0, 0⟩, recM0, rfl, fun _ => rfl, OwnRec.far (OwnRec.nil _ _ _ _ _) HZ4.out (by simp [World.setCell]) (put6_far _ _ _ _ _ _), put6_below HB2.out (Nat.le_refl _) _ _ _ _ _ _⟩
set_option maxRecDepth 20000 in
set_option maxHeartbeats 1000000 in
theorem read_lab {l : List UInt8} {nx : Nat} (h : GX l 0 1 nx 0) (ls : List Lbl) (p : Int) (E : Nat) (hx : LX l nx ls p E) (R : RecV) (hR : R = ⟨1, ls, [], [], 0, 0⟩) (A : Option Addr) (c : Nat) (w : World) (hA : Bys w A l) (hlc : l.length ≤ c) (hl : l.length ≤ 140737488355328) :
    Calls Try.prog 43 #[.slice A l.length c] w (RecTold w R p E) := by
  have hW : Below w.heap.size w (((w.alloc (.cells #[.int .i64 0, .slice none 0 0, .slice none 0 0, .slice none 0 0, .int .i64 0, .int .i64 0] 26)).alloc (.cells #[.int .i64 0, .slice none 0 0, .slice none 0 0, .slice none 0 0, .int .i64 0, .int .i64 0] 26)).alloc (.cells #[ptr (w.heap.size + 1) 0] 121)) := ((below_one _ _).alloc (by simp) _).alloc (by simp; omega) _
  have hr1 : Row (((w.alloc (.cells #[.int .i64 0, .slice none 0 0, .slice none 0 0, .slice none 0 0, .int .i64 0, .int .i64 0] 26)).alloc (.cells #[.int .i64 0, .slice none 0 0, .slice none 0 0, .slice none 0 0, .int .i64 0, .int .i64 0] 26)).alloc (.cells #[ptr (w.heap.size + 1) 0] 121)) (w.heap.size + 1) 26 #[.int .i64 0, .slice none 0 0, .slice none 0 0, .slice none 0 0, .int .i64 0, .int .i64 0] := Row.alloc (show Row ((w.alloc (.cells #[.int .i64 0, .slice none 0 0, .slice none 0 0, .slice none 0 0, .int .i64 0, .int .i64 0] 26)).alloc (.cells #[.int .i64 0, .slice none 0 0, .slice none 0 0, .slice none 0 0, .int .i64 0, .int .i64 0] 26)) (w.heap.size + 1) 26 #[.int .i64 0, .slice none 0 0, .slice none 0 0, .slice none 0 0, .int .i64 0, .int .i64 0] from heap_alloc2_new w _ _) _
  have hr0 : Row (((w.alloc (.cells #[.int .i64 0, .slice none 0 0, .slice none 0 0, .slice none 0 0, .int .i64 0, .int .i64 0] 26)).alloc (.cells #[.int .i64 0, .slice none 0 0, .slice none 0 0, .slice none 0 0, .int .i64 0, .int .i64 0] 26)).alloc (.cells #[ptr (w.heap.size + 1) 0] 121)) w.heap.size 26 #[.int .i64 0, .slice none 0 0, .slice none 0 0, .slice none 0 0, .int .i64 0, .int .i64 0] := ((Row.new w 26 #[.int .i64 0, .slice none 0 0, .slice none 0 0, .slice none 0 0, .int .i64 0, .int .i64 0]).alloc _).alloc _
  have hrp : Row (((w.alloc (.cells #[.int .i64 0, .slice none 0 0, .slice none 0 0, .slice none 0 0, .int .i64 0, .int .i64 0] 26)).alloc (.cells #[.int .i64 0, .slice none 0 0, .slice none 0 0, .slice none 0 0, .int .i64 0, .int .i64 0] 26)).alloc (.cells #[ptr (w.heap.size + 1) 0] 121)) (w.heap.size + 2) 121 #[ptr (w.heap.size + 1) 0] := by have := Row.new ((w.alloc (.cells #[.int .i64 0, .slice none 0 0, .slice none 0 0, .slice none 0 0, .int .i64 0, .int .i64 0] 26)).alloc (.cells #[.int .i64 0, .slice none 0 0, .slice none 0 0, .slice none 0 0, .int .i64 0, .int .i64 0] 26)) 121 #[ptr (w.heap.size + 1) 0]; simpa using this
  have HG := Lib.hid (wget_prog A l c 0 (w.heap.size + 2) [(w.heap.size + 1, 0)] 1 (w.heap.size + 1) (((w.alloc (.cells #[.int .i64 0, .slice none 0 0, .slice none 0 0, .slice none 0 0, .int .i64 0, .int .i64 0] 26)).alloc (.cells #[.int .i64 0, .slice none 0 0, .slice none 0 0, .slice none 0 0, .int .i64 0, .int .i64 0] 26)).alloc (.cells #[ptr (w.heap.size + 1) 0] 121)) (TK (w.heap.size + 2) (w.heap.size + 1))
    (fun W hWW => hA.below (hW.trans (hWW.mono (Nat.le_succ _)))) hlc hl (by simp <;> omega) (by simp) ⟨by simp, hrp, hr1⟩ (tk_ok _ _ _ (Nat.le_refl _)) (show GS l 1 0 [1] nx 0 from .more 0 0 1 nx [] nx 0 h (.done _)))
  have HW := Lib.hid hW
  have HR0 := Lib.hid hr0
  have HA := Lib.hid hA
  subst hR
  have HC := Lib.hid (fun W (hW : Below w.heap.size w W) => labread_prog hx A c W (HA.out.below hW) hlc hl)
  clear h hx hW hr1 hr0 hrp hA
  go_enter Try.func43, Try.ntmps43
  go_upto_region 14 with (first
    | (go_at_call_of 67 (Value.int IntKind.i64 0); refine HG.out.mono ?_; rintro e w2 ⟨rfl, ⟨vs, hT, hvs⟩, hb2⟩; obtain rfl := hvs rfl; obtain ⟨_, _, hX⟩ := hT; have HX2 : Hid (Row w2 (w.heap.size + 1) 26 #[.int .i64 1, .slice none 0 0, .slice none 0 0, .slice none 0 0, .int .i64 0, .int .i64 0]) := Lib.hid hX; have c0 : w2.cell? ⟨w.heap.size + 1, 0, none⟩ = some (.int .i64 1) := hX.cell 0; have HB2 := Lib.hid (HW.out.trans (hb2.mono (Nat.le_succ _))); have HZ2 := Lib.hid (HR0.out.below hb2 (Nat.lt_succ_self _)); clear hX hb2)
    | (go_at_call 68; refine (HC.out _ HB2.out).mono ?_; rintro e w3 ⟨v3, rfl, ho3, hb3⟩; obtain ⟨P3, c3, hv3, _, _, _⟩ := ownl_slice ho3; subst hv3; have HO3 := Lib.hid (ownl_lower ho3 HB2.out.size); have HB3 := Lib.hid (below_then HB2.out hb3); have HX3 := Lib.hid (HX2.out.below hb3 HX2.out.lt); have HZ3 := Lib.hid (HZ2.out.below hb3 HZ2.out.lt); have g1 := HX3.out.frozen 1; have d1 := HX3.out.cell 1; (simp only [List.getElem?_toArray, List.getElem?_cons_succ, List.getElem?_cons_zero] at d1); clear ho3 hb3))
  have HX4 := Lib.hid (show Row (w3.setCell ⟨w.heap.size + 1, 1, none⟩ (.slice P3 ls.length c3)) (w.heap.size + 1) 26 #[.int .i64 1, .slice P3 ls.length c3, .slice none 0 0, .slice none 0 0, .int .i64 0, .int .i64 0] from by have := HX3.out.setAt 1 (.slice P3 ls.length c3); simpa only [List.setIfInBounds_toArray, List.set_cons_zero, List.set_cons_succ] using this)
  have HZ4 := Lib.hid (show Row (w3.setCell ⟨w.heap.size + 1, 1, none⟩ (.slice P3 ls.length c3)) w.heap.size 26 #[.int .i64 0, .slice none 0 0, .slice none 0 0, .slice none 0 0, .int .i64 0, .int .i64 0] from HZ3.out.setFar (p := ⟨w.heap.size + 1, 1, none⟩) (by simp) _)
  have HB4 := Lib.hid (HB3.out.setCell (p := ⟨w.heap.size + 1, 1, none⟩) (Nat.le_succ _) (.slice P3 ls.length c3))
  have HO4 : Hid (OwnRec (w3.setCell ⟨w.heap.size + 1, 1, none⟩ (.slice P3 ls.length c3)) w.heap.size ⟨1, ls, [], [], 0, 0⟩ ⟨P3, c3, none, 0, none, 0⟩) := Lib.hid (OwnRec.far (w := w3) ⟨HO3.out, ownw_nil _ _, ownz_nil _ _⟩ HX3.out (by simp [World.setCell]) (fun k hk => Below.heap_setCell _ _ _ _ hk))
  obtain ⟨y0, y1, y2, y3, y4, y5⟩ := rec_cells HX4.out rfl
  obtain ⟨z0, z1, z2, z3, z4, z5⟩ := rec_cells HZ4.out rfl
  have f0 := HZ4.out.frozen 0
  have f1 := HZ4.out.frozen 1
  have f2 := HZ4.out.frozen 2
  have f3 := HZ4.out.frozen 3
  have f4 := HZ4.out.frozen 4
  have f5 := HZ4.out.frozen 5
  go_wp2_with fail
  try simp only [Exit.inBlock, Exit.then]
  refine bodyPost_ret (ret_rec3 rfl _ _ _ _ rfl (put6_row HZ4.out _ _ _ _ _ _) rfl) rfl ?_
  exact ⟨⟨1, ls, [], [], 0, 0⟩, ⟨P3, c3, none, 0, none, 0⟩, rfl, fun _ => rfl, OwnRec.far (HO4.out) HZ4.out (by simp [World.setCell]) (put6_far _ _ _ _ _ _), put6_below HB4.out (Nat.le_refl _) _ _ _ _ _ _⟩
set_option maxRecDepth 20000 in
set_option maxHeartbeats 1000000 in
theorem read_rows {l : List UInt8} {nx : Nat} (h : GX l 0 2 nx 0) (rs : List Wrow) (p : Int) (E : Nat) (hx : RX l nx rs p E) (R : RecV) (hR : R = ⟨2, [], rs, [], 0, 0⟩) (A : Option Addr) (c : Nat) (w : World) (hA : Bys w A l) (hlc : l.length ≤ c) (hl : l.length ≤ 140737488355328) :
    Calls Try.prog 43 #[.slice A l.length c] w (RecTold w R p E) := by
  have hW : Below w.heap.size w (((w.alloc (.cells #[.int .i64 0, .slice none 0 0, .slice none 0 0, .slice none 0 0, .int .i64 0, .int .i64 0] 26)).alloc (.cells #[.int .i64 0, .slice none 0 0, .slice none 0 0, .slice none 0 0, .int .i64 0, .int .i64 0] 26)).alloc (.cells #[ptr (w.heap.size + 1) 0] 121)) := ((below_one _ _).alloc (by simp) _).alloc (by simp; omega) _
  have hr1 : Row (((w.alloc (.cells #[.int .i64 0, .slice none 0 0, .slice none 0 0, .slice none 0 0, .int .i64 0, .int .i64 0] 26)).alloc (.cells #[.int .i64 0, .slice none 0 0, .slice none 0 0, .slice none 0 0, .int .i64 0, .int .i64 0] 26)).alloc (.cells #[ptr (w.heap.size + 1) 0] 121)) (w.heap.size + 1) 26 #[.int .i64 0, .slice none 0 0, .slice none 0 0, .slice none 0 0, .int .i64 0, .int .i64 0] := Row.alloc (show Row ((w.alloc (.cells #[.int .i64 0, .slice none 0 0, .slice none 0 0, .slice none 0 0, .int .i64 0, .int .i64 0] 26)).alloc (.cells #[.int .i64 0, .slice none 0 0, .slice none 0 0, .slice none 0 0, .int .i64 0, .int .i64 0] 26)) (w.heap.size + 1) 26 #[.int .i64 0, .slice none 0 0, .slice none 0 0, .slice none 0 0, .int .i64 0, .int .i64 0] from heap_alloc2_new w _ _) _
  have hr0 : Row (((w.alloc (.cells #[.int .i64 0, .slice none 0 0, .slice none 0 0, .slice none 0 0, .int .i64 0, .int .i64 0] 26)).alloc (.cells #[.int .i64 0, .slice none 0 0, .slice none 0 0, .slice none 0 0, .int .i64 0, .int .i64 0] 26)).alloc (.cells #[ptr (w.heap.size + 1) 0] 121)) w.heap.size 26 #[.int .i64 0, .slice none 0 0, .slice none 0 0, .slice none 0 0, .int .i64 0, .int .i64 0] := ((Row.new w 26 #[.int .i64 0, .slice none 0 0, .slice none 0 0, .slice none 0 0, .int .i64 0, .int .i64 0]).alloc _).alloc _
  have hrp : Row (((w.alloc (.cells #[.int .i64 0, .slice none 0 0, .slice none 0 0, .slice none 0 0, .int .i64 0, .int .i64 0] 26)).alloc (.cells #[.int .i64 0, .slice none 0 0, .slice none 0 0, .slice none 0 0, .int .i64 0, .int .i64 0] 26)).alloc (.cells #[ptr (w.heap.size + 1) 0] 121)) (w.heap.size + 2) 121 #[ptr (w.heap.size + 1) 0] := by have := Row.new ((w.alloc (.cells #[.int .i64 0, .slice none 0 0, .slice none 0 0, .slice none 0 0, .int .i64 0, .int .i64 0] 26)).alloc (.cells #[.int .i64 0, .slice none 0 0, .slice none 0 0, .slice none 0 0, .int .i64 0, .int .i64 0] 26)) 121 #[ptr (w.heap.size + 1) 0]; simpa using this
  have HG := Lib.hid (wget_prog A l c 0 (w.heap.size + 2) [(w.heap.size + 1, 0)] 1 (w.heap.size + 1) (((w.alloc (.cells #[.int .i64 0, .slice none 0 0, .slice none 0 0, .slice none 0 0, .int .i64 0, .int .i64 0] 26)).alloc (.cells #[.int .i64 0, .slice none 0 0, .slice none 0 0, .slice none 0 0, .int .i64 0, .int .i64 0] 26)).alloc (.cells #[ptr (w.heap.size + 1) 0] 121)) (TK (w.heap.size + 2) (w.heap.size + 1))
    (fun W hWW => hA.below (hW.trans (hWW.mono (Nat.le_succ _)))) hlc hl (by simp <;> omega) (by simp) ⟨by simp, hrp, hr1⟩ (tk_ok _ _ _ (Nat.le_refl _)) (show GS l 1 0 [2] nx 0 from .more 0 0 2 nx [] nx 0 h (.done _)))
  have HW := Lib.hid hW
  have HR0 := Lib.hid hr0
  have HA := Lib.hid hA
  subst hR
  have HC := Lib.hid (fun W (hW : Below w.heap.size w W) => readrows_prog hx A c W (HA.out.below hW) hlc hl)
  clear h hx hW hr1 hr0 hrp hA
  go_enter Try.func43, Try.ntmps43
  go_upto_region 14 with (first
    | (go_at_call_of 67 (Value.int IntKind.i64 0); refine HG.out.mono ?_; rintro e w2 ⟨rfl, ⟨vs, hT, hvs⟩, hb2⟩; obtain rfl := hvs rfl; obtain ⟨_, _, hX⟩ := hT; have HX2 : Hid (Row w2 (w.heap.size + 1) 26 #[.int .i64 2, .slice none 0 0, .slice none 0 0, .slice none 0 0, .int .i64 0, .int .i64 0]) := Lib.hid hX; have c0 : w2.cell? ⟨w.heap.size + 1, 0, none⟩ = some (.int .i64 2) := hX.cell 0; have HB2 := Lib.hid (HW.out.trans (hb2.mono (Nat.le_succ _))); have HZ2 := Lib.hid (HR0.out.below hb2 (Nat.lt_succ_self _)); clear hX hb2)
    | (go_at_call 69; refine (HC.out _ HB2.out).mono ?_; rintro e w3 ⟨v3, rfl, ho3, hb3⟩; obtain ⟨P3, c3, hv3, _, _, _⟩ := ownw_slice ho3; subst hv3; have HO3 := Lib.hid (ownw_lower ho3 HB2.out.size); have HB3 := Lib.hid (below_then HB2.out hb3); have HX3 := Lib.hid (HX2.out.below hb3 HX2.out.lt); have HZ3 := Lib.hid (HZ2.out.below hb3 HZ2.out.lt); have g2 := HX3.out.frozen 2; have d2 := HX3.out.cell 2; (simp only [List.getElem?_toArray, List.getElem?_cons_succ, List.getElem?_cons_zero] at d2); clear ho3 hb3))
  have HX4 := Lib.hid (show Row (w3.setCell ⟨w.heap.size + 1, 2, none⟩ (.slice P3 rs.length c3)) (w.heap.size + 1) 26 #[.int .i64 2, .slice none 0 0, .slice P3 rs.length c3, .slice none 0 0, .int .i64 0, .int .i64 0] from by have := HX3.out.setAt 2 (.slice P3 rs.length c3); simpa only [List.setIfInBounds_toArray, List.set_cons_zero, List.set_cons_succ] using this)
  have HZ4 := Lib.hid (show Row (w3.setCell ⟨w.heap.size + 1, 2, none⟩ (.slice P3 rs.length c3)) w.heap.size 26 #[.int .i64 0, .slice none 0 0, .slice none 0 0, .slice none 0 0, .int .i64 0, .int .i64 0] from HZ3.out.setFar (p := ⟨w.heap.size + 1, 2, none⟩) (by simp) _)
  have HB4 := Lib.hid (HB3.out.setCell (p := ⟨w.heap.size + 1, 2, none⟩) (Nat.le_succ _) (.slice P3 rs.length c3))
  have HO4 : Hid (OwnRec (w3.setCell ⟨w.heap.size + 1, 2, none⟩ (.slice P3 rs.length c3)) w.heap.size ⟨2, [], rs, [], 0, 0⟩ ⟨none, 0, P3, c3, none, 0⟩) := Lib.hid (OwnRec.far (w := w3) ⟨ownl_nil _ _, HO3.out, ownz_nil _ _⟩ HX3.out (by simp [World.setCell]) (fun k hk => Below.heap_setCell _ _ _ _ hk))
  obtain ⟨y0, y1, y2, y3, y4, y5⟩ := rec_cells HX4.out rfl
  obtain ⟨z0, z1, z2, z3, z4, z5⟩ := rec_cells HZ4.out rfl
  have f0 := HZ4.out.frozen 0
  have f1 := HZ4.out.frozen 1
  have f2 := HZ4.out.frozen 2
  have f3 := HZ4.out.frozen 3
  have f4 := HZ4.out.frozen 4
  have f5 := HZ4.out.frozen 5
  go_wp2_with fail
  try simp only [Exit.inBlock, Exit.then]
  refine bodyPost_ret (ret_rec3 rfl _ _ _ _ rfl (put6_row HZ4.out _ _ _ _ _ _) rfl) rfl ?_
  exact ⟨⟨2, [], rs, [], 0, 0⟩, ⟨none, 0, P3, c3, none, 0⟩, rfl, fun _ => rfl, OwnRec.far (HO4.out) HZ4.out (by simp [World.setCell]) (put6_far _ _ _ _ _ _), put6_below HB4.out (Nat.le_refl _) _ _ _ _ _ _⟩
set_option maxRecDepth 20000 in
set_option maxHeartbeats 1000000 in
theorem read_ids0 {l : List UInt8} {nx : Nat} (h : GX l 0 3 nx 0) (ids : List Int) (q E1 : Nat) (hx : PY l nx ids q E1) (hE1 : E1 ≠ 0) (R : RecV) (p : Int) (E : Nat) (hp : p = 0) (hE : E = E1) (A : Option Addr) (c : Nat) (w : World) (hA : Bys w A l) (hlc : l.length ≤ c) (hl : l.length ≤ 140737488355328) :
    Calls Try.prog 43 #[.slice A l.length c] w (RecTold w R p E) := by
  have hW : Below w.heap.size w (((w.alloc (.cells #[.int .i64 0, .slice none 0 0, .slice none 0 0, .slice none 0 0, .int .i64 0, .int .i64 0] 26)).alloc (.cells #[.int .i64 0, .slice none 0 0, .slice none 0 0, .slice none 0 0, .int .i64 0, .int .i64 0] 26)).alloc (.cells #[ptr (w.heap.size + 1) 0] 121)) := ((below_one _ _).alloc (by simp) _).alloc (by simp; omega) _
  have hr1 : Row (((w.alloc (.cells #[.int .i64 0, .slice none 0 0, .slice none 0 0, .slice none 0 0, .int .i64 0, .int .i64 0] 26)).alloc (.cells #[.int .i64 0, .slice none 0 0, .slice none 0 0, .slice none 0 0, .int .i64 0, .int .i64 0] 26)).alloc (.cells #[ptr (w.heap.size + 1) 0] 121)) (w.heap.size + 1) 26 #[.int .i64 0, .slice none 0 0, .slice none 0 0, .slice none 0 0, .int .i64 0, .int .i64 0] := Row.alloc (show Row ((w.alloc (.cells #[.int .i64 0, .slice none 0 0, .slice none 0 0, .slice none 0 0, .int .i64 0, .int .i64 0] 26)).alloc (.cells #[.int .i64 0, .slice none 0 0, .slice none 0 0, .slice none 0 0, .int .i64 0, .int .i64 0] 26)) (w.heap.size + 1) 26 #[.int .i64 0, .slice none 0 0, .slice none 0 0, .slice none 0 0, .int .i64 0, .int .i64 0] from heap_alloc2_new w _ _) _
  have hr0 : Row (((w.alloc (.cells #[.int .i64 0, .slice none 0 0, .slice none 0 0, .slice none 0 0, .int .i64 0, .int .i64 0] 26)).alloc (.cells #[.int .i64 0, .slice none 0 0, .slice none 0 0, .slice none 0 0, .int .i64 0, .int .i64 0] 26)).alloc (.cells #[ptr (w.heap.size + 1) 0] 121)) w.heap.size 26 #[.int .i64 0, .slice none 0 0, .slice none 0 0, .slice none 0 0, .int .i64 0, .int .i64 0] := ((Row.new w 26 #[.int .i64 0, .slice none 0 0, .slice none 0 0, .slice none 0 0, .int .i64 0, .int .i64 0]).alloc _).alloc _
  have hrp : Row (((w.alloc (.cells #[.int .i64 0, .slice none 0 0, .slice none 0 0, .slice none 0 0, .int .i64 0, .int .i64 0] 26)).alloc (.cells #[.int .i64 0, .slice none 0 0, .slice none 0 0, .slice none 0 0, .int .i64 0, .int .i64 0] 26)).alloc (.cells #[ptr (w.heap.size + 1) 0] 121)) (w.heap.size + 2) 121 #[ptr (w.heap.size + 1) 0] := by have := Row.new ((w.alloc (.cells #[.int .i64 0, .slice none 0 0, .slice none 0 0, .slice none 0 0, .int .i64 0, .int .i64 0] 26)).alloc (.cells #[.int .i64 0, .slice none 0 0, .slice none 0 0, .slice none 0 0, .int .i64 0, .int .i64 0] 26)) 121 #[ptr (w.heap.size + 1) 0]; simpa using this
  have HG := Lib.hid (wget_prog A l c 0 (w.heap.size + 2) [(w.heap.size + 1, 0)] 1 (w.heap.size + 1) (((w.alloc (.cells #[.int .i64 0, .slice none 0 0, .slice none 0 0, .slice none 0 0, .int .i64 0, .int .i64 0] 26)).alloc (.cells #[.int .i64 0, .slice none 0 0, .slice none 0 0, .slice none 0 0, .int .i64 0, .int .i64 0] 26)).alloc (.cells #[ptr (w.heap.size + 1) 0] 121)) (TK (w.heap.size + 2) (w.heap.size + 1))
    (fun W hWW => hA.below (hW.trans (hWW.mono (Nat.le_succ _)))) hlc hl (by simp <;> omega) (by simp) ⟨by simp, hrp, hr1⟩ (tk_ok _ _ _ (Nat.le_refl _)) (show GS l 1 0 [3] nx 0 from .more 0 0 3 nx [] nx 0 h (.done _)))
  have HW := Lib.hid hW
  have HR0 := Lib.hid hr0
  have HA := Lib.hid hA
  obtain ⟨hids, rfl⟩ := (py_err hx).1 hE1
  clear hids
  subst hp
  subst hE
  have HC := Lib.hid (fun W (hW : Below w.heap.size w W) => idsread_prog hx A c W (HA.out.below hW) hlc hl)
  have i2 : ((E : Int) != 0) = true := bne_iff_ne.2 (by omega)
  have i3 : ((E : Int) == 0) = false := beq_eq_false_iff_ne.2 (by omega)
  have HE := Lib.hid hE1
  clear h hx hW hr1 hr0 hrp hA hE1
  go_enter Try.func43, Try.ntmps43
  go_upto_region 14 with (first
    | (go_at_call_of 67 (Value.int IntKind.i64 0); refine HG.out.mono ?_; rintro e w2 ⟨rfl, ⟨vs, hT, hvs⟩, hb2⟩; obtain rfl := hvs rfl; obtain ⟨_, _, hX⟩ := hT; have HX2 : Hid (Row w2 (w.heap.size + 1) 26 #[.int .i64 3, .slice none 0 0, .slice none 0 0, .slice none 0 0, .int .i64 0, .int .i64 0]) := Lib.hid hX; have c0 : w2.cell? ⟨w.heap.size + 1, 0, none⟩ = some (.int .i64 3) := hX.cell 0; have HB2 := Lib.hid (HW.out.trans (hb2.mono (Nat.le_succ _))); have HZ2 := Lib.hid (HR0.out.below hb2 (Nat.lt_succ_self _)); clear hX hb2)
    | (go_at_call 70; refine (HC.out _ HB2.out).mono ?_; rintro e w3 ⟨v3, rfl, ho3, hb3⟩; obtain ⟨P3, c3, hv3, _, _, _⟩ := ownz_slice ho3; subst hv3; have HO3 := Lib.hid (ownz_lower ho3 HB2.out.size); have HB3 := Lib.hid (below_then HB2.out hb3); have HX3 := Lib.hid (HX2.out.below hb3 HX2.out.lt); have HZ3 := Lib.hid (HZ2.out.below hb3 HZ2.out.lt); have g3 := HX3.out.frozen 3; have d3 := HX3.out.cell 3; (simp only [List.getElem?_toArray, List.getElem?_cons_succ, List.getElem?_cons_zero] at d3); clear ho3 hb3))
  have HX4 := Lib.hid (show Row (w3.setCell ⟨w.heap.size + 1, 3, none⟩ (.slice P3 ids.length c3)) (w.heap.size + 1) 26 #[.int .i64 3, .slice none 0 0, .slice none 0 0, .slice P3 ids.length c3, .int .i64 0, .int .i64 0] from by have := HX3.out.setAt 3 (.slice P3 ids.length c3); simpa only [List.setIfInBounds_toArray, List.set_cons_zero, List.set_cons_succ] using this)
  have HZ4 := Lib.hid (show Row (w3.setCell ⟨w.heap.size + 1, 3, none⟩ (.slice P3 ids.length c3)) w.heap.size 26 #[.int .i64 0, .slice none 0 0, .slice none 0 0, .slice none 0 0, .int .i64 0, .int .i64 0] from HZ3.out.setFar (p := ⟨w.heap.size + 1, 3, none⟩) (by simp) _)
  have HB4 := Lib.hid (HB3.out.setCell (p := ⟨w.heap.size + 1, 3, none⟩) (Nat.le_succ _) (.slice P3 ids.length c3))
  have HO4 : Hid (OwnRec (w3.setCell ⟨w.heap.size + 1, 3, none⟩ (.slice P3 ids.length c3)) w.heap.size ⟨3, [], [], ids, 0, 0⟩ ⟨none, 0, none, 0, P3, c3⟩) := Lib.hid (OwnRec.far (w := w3) ⟨ownl_nil _ _, ownw_nil _ _, HO3.out⟩ HX3.out (by simp [World.setCell]) (fun k hk => Below.heap_setCell _ _ _ _ hk))
  obtain ⟨y0, y1, y2, y3, y4, y5⟩ := rec_cells HX4.out rfl
  obtain ⟨z0, z1, z2, z3, z4, z5⟩ := rec_cells HZ4.out rfl
  have f0 := HZ4.out.frozen 0
  have f1 := HZ4.out.frozen 1
  have f2 := HZ4.out.frozen 2
  have f3 := HZ4.out.frozen 3
  have f4 := HZ4.out.frozen 4
  have f5 := HZ4.out.frozen 5
  go_wp2_with fail
  try simp only [Exit.inBlock, Exit.then]
  refine bodyPost_ret (ret_rec3 rfl _ _ _ _ rfl (put6_row HZ4.out _ _ _ _ _ _) rfl) rfl ?_
  exact ⟨⟨3, [], [], ids, 0, 0⟩, ⟨none, 0, none, 0, P3, c3⟩, rfl, fun h => absurd h HE.out, OwnRec.far (HO4.out) HZ4.out (by simp [World.setCell]) (put6_far _ _ _ _ _ _), put6_below HB4.out (Nat.le_refl _) _ _ _ _ _ _⟩
set_option maxRecDepth 20000 in
set_option maxHeartbeats 1000000 in
theorem read_ids1 {l : List UInt8} {nx : Nat} (h : GX l 0 3 nx 0) (ids : List Int) (q : Nat) (hx : PY l nx ids q 0) (xs : List Nat) (p : Int) (E : Nat) (hg : GS l 2 q xs p E) (R : RecV) (hR : R = ⟨3, [], [], ids, ((xs.getD 0 0 : Nat) : Int), ((xs.getD 1 0 : Nat) : Int)⟩) (A : Option Addr) (c : Nat) (w : World) (hA : Bys w A l) (hlc : l.length ≤ c) (hl : l.length ≤ 140737488355328) :
    Calls Try.prog 43 #[.slice A l.length c] w (RecTold w R p E) := by
  have hW : Below w.heap.size w (((w.alloc (.cells #[.int .i64 0, .slice none 0 0, .slice none 0 0, .slice none 0 0, .int .i64 0, .int .i64 0] 26)).alloc (.cells #[.int .i64 0, .slice none 0 0, .slice none 0 0, .slice none 0 0, .int .i64 0, .int .i64 0] 26)).alloc (.cells #[ptr (w.heap.size + 1) 0] 121)) := ((below_one _ _).alloc (by simp) _).alloc (by simp; omega) _
  have hr1 : Row (((w.alloc (.cells #[.int .i64 0, .slice none 0 0, .slice none 0 0, .slice none 0 0, .int .i64 0, .int .i64 0] 26)).alloc (.cells #[.int .i64 0, .slice none 0 0, .slice none 0 0, .slice none 0 0, .int .i64 0, .int .i64 0] 26)).alloc (.cells #[ptr (w.heap.size + 1) 0] 121)) (w.heap.size + 1) 26 #[.int .i64 0, .slice none 0 0, .slice none 0 0, .slice none 0 0, .int .i64 0, .int .i64 0] := Row.alloc (show Row ((w.alloc (.cells #[.int .i64 0, .slice none 0 0, .slice none 0 0, .slice none 0 0, .int .i64 0, .int .i64 0] 26)).alloc (.cells #[.int .i64 0, .slice none 0 0, .slice none 0 0, .slice none 0 0, .int .i64 0, .int .i64 0] 26)) (w.heap.size + 1) 26 #[.int .i64 0, .slice none 0 0, .slice none 0 0, .slice none 0 0, .int .i64 0, .int .i64 0] from heap_alloc2_new w _ _) _
  have hr0 : Row (((w.alloc (.cells #[.int .i64 0, .slice none 0 0, .slice none 0 0, .slice none 0 0, .int .i64 0, .int .i64 0] 26)).alloc (.cells #[.int .i64 0, .slice none 0 0, .slice none 0 0, .slice none 0 0, .int .i64 0, .int .i64 0] 26)).alloc (.cells #[ptr (w.heap.size + 1) 0] 121)) w.heap.size 26 #[.int .i64 0, .slice none 0 0, .slice none 0 0, .slice none 0 0, .int .i64 0, .int .i64 0] := ((Row.new w 26 #[.int .i64 0, .slice none 0 0, .slice none 0 0, .slice none 0 0, .int .i64 0, .int .i64 0]).alloc _).alloc _
  have hrp : Row (((w.alloc (.cells #[.int .i64 0, .slice none 0 0, .slice none 0 0, .slice none 0 0, .int .i64 0, .int .i64 0] 26)).alloc (.cells #[.int .i64 0, .slice none 0 0, .slice none 0 0, .slice none 0 0, .int .i64 0, .int .i64 0] 26)).alloc (.cells #[ptr (w.heap.size + 1) 0] 121)) (w.heap.size + 2) 121 #[ptr (w.heap.size + 1) 0] := by have := Row.new ((w.alloc (.cells #[.int .i64 0, .slice none 0 0, .slice none 0 0, .slice none 0 0, .int .i64 0, .int .i64 0] 26)).alloc (.cells #[.int .i64 0, .slice none 0 0, .slice none 0 0, .slice none 0 0, .int .i64 0, .int .i64 0] 26)) 121 #[ptr (w.heap.size + 1) 0]; simpa using this
  have HG := Lib.hid (wget_prog A l c 0 (w.heap.size + 2) [(w.heap.size + 1, 0)] 1 (w.heap.size + 1) (((w.alloc (.cells #[.int .i64 0, .slice none 0 0, .slice none 0 0, .slice none 0 0, .int .i64 0, .int .i64 0] 26)).alloc (.cells #[.int .i64 0, .slice none 0 0, .slice none 0 0, .slice none 0 0, .int .i64 0, .int .i64 0] 26)).alloc (.cells #[ptr (w.heap.size + 1) 0] 121)) (TK (w.heap.size + 2) (w.heap.size + 1))
    (fun W hWW => hA.below (hW.trans (hWW.mono (Nat.le_succ _)))) hlc hl (by simp <;> omega) (by simp) ⟨by simp, hrp, hr1⟩ (tk_ok _ _ _ (Nat.le_refl _)) (show GS l 1 0 [3] nx 0 from .more 0 0 3 nx [] nx 0 h (.done _)))
  have HW := Lib.hid hW
  have HR0 := Lib.hid hr0
  have HA := Lib.hid hA
  subst hR
  have HC := Lib.hid (fun W (hW : Below w.heap.size w W) => idsread_prog hx A c W (HA.out.below hW) hlc hl)
  have HGS := Lib.hid hg
  clear h hx hW hr1 hr0 hrp hA hg
  go_enter Try.func43, Try.ntmps43
  go_upto_region 13 with (first
    | (go_at_call_of 67 (Value.int IntKind.i64 0); refine HG.out.mono ?_; rintro e w2 ⟨rfl, ⟨vs, hT, hvs⟩, hb2⟩; obtain rfl := hvs rfl; obtain ⟨_, _, hX⟩ := hT; have HX2 : Hid (Row w2 (w.heap.size + 1) 26 #[.int .i64 3, .slice none 0 0, .slice none 0 0, .slice none 0 0, .int .i64 0, .int .i64 0]) := Lib.hid hX; have c0 : w2.cell? ⟨w.heap.size + 1, 0, none⟩ = some (.int .i64 3) := hX.cell 0; have HB2 := Lib.hid (HW.out.trans (hb2.mono (Nat.le_succ _))); have HZ2 := Lib.hid (HR0.out.below hb2 (Nat.lt_succ_self _)); clear hX hb2)
    | (go_at_call 70; refine (HC.out _ HB2.out).mono ?_; rintro e w3 ⟨v3, rfl, ho3, hb3⟩; obtain ⟨P3, c3, hv3, _, _, _⟩ := ownz_slice ho3; subst hv3; have HO3 := Lib.hid (ownz_lower ho3 HB2.out.size); have HB3 := Lib.hid (below_then HB2.out hb3); have HX3 := Lib.hid (HX2.out.below hb3 HX2.out.lt); have HZ3 := Lib.hid (HZ2.out.below hb3 HZ2.out.lt); have g3 := HX3.out.frozen 3; have d3 := HX3.out.cell 3; (simp only [List.getElem?_toArray, List.getElem?_cons_succ, List.getElem?_cons_zero] at d3); clear ho3 hb3))
  have HX4 := Lib.hid (show Row (w3.setCell ⟨w.heap.size + 1, 3, none⟩ (.slice P3 ids.length c3)) (w.heap.size + 1) 26 #[.int .i64 3, .slice none 0 0, .slice none 0 0, .slice P3 ids.length c3, .int .i64 0, .int .i64 0] from by have := HX3.out.setAt 3 (.slice P3 ids.length c3); simpa only [List.setIfInBounds_toArray, List.set_cons_zero, List.set_cons_succ] using this)
  have HZ4 := Lib.hid (show Row (w3.setCell ⟨w.heap.size + 1, 3, none⟩ (.slice P3 ids.length c3)) w.heap.size 26 #[.int .i64 0, .slice none 0 0, .slice none 0 0, .slice none 0 0, .int .i64 0, .int .i64 0] from HZ3.out.setFar (p := ⟨w.heap.size + 1, 3, none⟩) (by simp) _)
  have HB4 := Lib.hid (HB3.out.setCell (p := ⟨w.heap.size + 1, 3, none⟩) (Nat.le_succ _) (.slice P3 ids.length c3))
  have HO4 : Hid (OwnRec (w3.setCell ⟨w.heap.size + 1, 3, none⟩ (.slice P3 ids.length c3)) w.heap.size ⟨3, [], [], ids, 0, 0⟩ ⟨none, 0, none, 0, P3, c3⟩) := Lib.hid (OwnRec.far (w := w3) ⟨ownl_nil _ _, ownw_nil _ _, HO3.out⟩ HX3.out (by simp [World.setCell]) (fun k hk => Below.heap_setCell _ _ _ _ hk))
  have HZ4' := Lib.hid (fun W (hW : Below (w.heap.size + 1) (w3.setCell ⟨w.heap.size + 1, 3, none⟩ (.slice P3 ids.length c3)) W) => HZ4.out.below hW (Nat.lt_succ_self _))
  have hs4 : w.heap.size + 2 ≤ (w3.setCell ⟨w.heap.size + 1, 3, none⟩ (.slice P3 ids.length c3)).heap.size := HX4.out.lt
  have HG5 := Lib.hid (fun G (hG : G = (w3.setCell ⟨w.heap.size + 1, 3, none⟩ (.slice P3 ids.length c3)).heap.size) => wget_prog A l c (q : Int) G [(w.heap.size + 1, 4), (w.heap.size + 1, 5)] 2 (w.heap.size + 1) ((w3.setCell ⟨w.heap.size + 1, 3, none⟩ (.slice P3 ids.length c3)).alloc (.cells #[ptr (w.heap.size + 1) 4, ptr (w.heap.size + 1) 5] 121)) (TL G (w.heap.size + 1) (.slice P3 ids.length c3) w.heap.size ids)
    (fun W hWW => HA.out.below (HB4.out.trans (((below_one _ _).mono (Nat.le_of_succ_le (Nat.le_of_succ_le hs4))).trans (hWW.mono (Nat.le_succ _))))) hlc hl (alloc_le (by omega) _) (by simp) ⟨by simp, by subst hG; exact Row.new _ _ _, HX4.out.alloc _, ownz_below HO4.out.ids (below_one _ _)⟩ (tl_ok _ _ _ _ _ _ (Nat.le_refl _)) HGS.out)
  have HO4' := Lib.hid (fun W (hW : Below (w3.setCell ⟨w.heap.size + 1, 3, none⟩ (.slice P3 ids.length c3)).heap.size (w3.setCell ⟨w.heap.size + 1, 3, none⟩ (.slice P3 ids.length c3)) W) => HO4.out.below hW)
  have HS4 := Lib.hid hs4
  clear hs4
  go_upto_region 14 with (go_at_call 67; refine (HG5.out _ (by simp [World.setCell])).mono ?_; rintro e w5 ⟨rfl, ⟨vs, hT, hvs⟩, hb5⟩; obtain ⟨_, _, hX, hZ⟩ := hT; have HX5 := Lib.hid hX; have HO5 := Lib.hid hZ; have HV5 := Lib.hid hvs; have hb5' := (Below.alloc (Below.refl (w.heap.size + 1) (w3.setCell ⟨w.heap.size + 1, 3, none⟩ (.slice P3 ids.length c3))) (Nat.le_of_succ_le HS4.out) (.cells #[ptr (w.heap.size + 1) 4, ptr (w.heap.size + 1) 5] 121)).trans hb5; have HB5 := Lib.hid (HB4.out.trans (hb5'.mono (Nat.le_succ _))); have HZ5 := Lib.hid (HZ4'.out _ hb5'); clear hX hZ hb5 hb5' hvs)
  obtain ⟨b0, hb0⟩ : ∃ b0, vs.getD 0 0 = b0 := ⟨_, rfl⟩
  obtain ⟨b1, hb1⟩ : ∃ b1, vs.getD 1 0 = b1 := ⟨_, rfl⟩
  have HVB := Lib.hid (show E = 0 → b0 = ((xs.getD 0 0 : Nat) : Int) ∧ b1 = ((xs.getD 1 0 : Nat) : Int) from fun h => by rw [← hb0, ← hb1, HV5.out h, intL_at, intL_at]; exact ⟨rfl, rfl⟩)
  rw [hb0, hb1] at HX5
  clear hb0 hb1 HV5
  obtain ⟨y0, y1, y2, y3, y4, y5⟩ := rec_cells HX5.out rfl
  obtain ⟨z0, z1, z2, z3, z4, z5⟩ := rec_cells HZ5.out rfl
  have f0 := HZ5.out.frozen 0
  have f1 := HZ5.out.frozen 1
  have f2 := HZ5.out.frozen 2
  have f3 := HZ5.out.frozen 3
  have f4 := HZ5.out.frozen 4
  have f5 := HZ5.out.frozen 5
  go_wp2_with fail
  try simp only [Exit.inBlock, Exit.then]
  refine bodyPost_ret (ret_rec3 rfl _ _ _ _ rfl (put6_row HZ5.out _ _ _ _ _ _) rfl) rfl ?_
  exact ⟨⟨3, [], [], ids, b0, b1⟩, ⟨none, 0, none, 0, P3, c3⟩, rfl, fun h => by rw [(HVB.out h).1, (HVB.out h).2], OwnRec.far ((⟨ownl_nil _ _, ownw_nil _ _, HO5.out⟩ : OwnRec w5 w.heap.size ⟨3, [], [], ids, b0, b1⟩ ⟨none, 0, none, 0, P3, c3⟩)) HZ5.out (by simp [World.setCell]) (put6_far _ _ _ _ _ _), put6_below HB5.out (Nat.le_refl _) _ _ _ _ _ _⟩
theorem read_rec {l : List UInt8} {R : RecV} {p : Int} {E : Nat} (h : RD l R p E) (A : Option Addr) (c : Nat) (w : World) (hA : Bys w A l) (hlc : l.length ≤ c) (hl : l.length ≤ 140737488355328) :
    Calls Try.prog 43 #[.slice A l.length c] w (RecTold w R p E) := by
  obtain ⟨n, nx, e, hg, h⟩ := h
  rcases h with ⟨h1, h2, h3⟩ | ⟨rfl, rfl, ls, hl', rfl⟩ | ⟨rfl, rfl, rs, hl', rfl⟩ | ⟨rfl, rfl, ids, q, E1, hp, h⟩ | ⟨rfl, h1, h2, h3, h4, h5, h6⟩
  · exact read_0 hg h1 R p E h2 h3 A c w hA hlc hl
  · exact read_lab hg ls p E hl' _ rfl A c w hA hlc hl
  · exact read_rows hg rs p E hl' _ rfl A c w hA hlc hl
  · rcases h with ⟨h1, h2, h3⟩ | ⟨rfl, xs, hs, h2⟩
    · exact read_ids0 hg ids q E1 hp h1 R p E h2 h3 A c w hA hlc hl
    · exact read_ids1 hg ids q hp xs p E hs R h2 A c w hA hlc hl
  · exact read_5 hg h1 h2 h3 R p E h4 h5 h6 A c w hA hlc hl
end Go.Proofs.Ytmgolnlkepiocaa
