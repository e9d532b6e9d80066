/- Records in memory: rows of a record's rows (three cells each), a record (a struct of six cells) and what its slices hold, rows of records; append of such rows to own ones. -/
import Derived.Test.YtpcjnagdanmdpaaHdLotQ
namespace Go.Proofs.Ytpcjnagdanmdpaa
open Go.RowKit Go.Maps
set_option linter.unusedVariables false
/-! ### a record's rows -/
def wrow0 : Wrow := (0, 0, 0)
def wrowE (x : Wrow) : List Value := [.int .i64 x.1, .int .i64 x.2.1, .int .i64 x.2.2]
theorem wrowE_len (x : Wrow) : (wrowE x).length = 3 := rfl
def Wrows (w : World) (A : Option Addr) (l : List Wrow) : Prop := At w A (l.flatMap wrowE)
theorem Wrows.below {w w' : World} {A : Option Addr} {l : List Wrow} (h : Wrows w A l) (hb : Below w.heap.size w w') : Wrows w' A l := At.below h hb
theorem Wrows.alloc {w : World} {A : Option Addr} {l : List Wrow} (h : Wrows w A l) (o : Obj) : Wrows (w.alloc o) A l := At.alloc h o
theorem Wrows.nil (w : World) (A : Option Addr) : Wrows w A [] := .inl rfl
theorem Wrows.all {w : World} {A : Option Addr} {l : List Wrow} (h : Wrows w A l) (hl : 0 < l.length) :
    ∃ b o, A = some ⟨b, o, none⟩ ∧ b < w.heap.size ∧ ∀ i, i < l.length → w.cell? ⟨b, o + i * 3, none⟩ = some (.int .i64 (l.getD i wrow0).1) ∧ w.cell? ⟨b, o + i * 3 + 1, none⟩ = some (.int .i64 (l.getD i wrow0).2.1) ∧ w.cell? ⟨b, o + i * 3 + 2, none⟩ = some (.int .i64 (l.getD i wrow0).2.2) := by
  have hlen := flat_len wrowE 3 wrowE_len l
  rcases h with h | ⟨b, o, rfl, hb, hc⟩
  · rw [h] at hlen; simp at hlen; omega
  · exact ⟨b, o, rfl, hb, fun i hi => ⟨hc (i * 3 + 0) _ (flat_get wrowE 3 wrowE_len l i _ 0 (getD_some l wrow0 hi) (by omega)), hc (i * 3 + 1) _ (flat_get wrowE 3 wrowE_len l i _ 1 (getD_some l wrow0 hi) (by omega)), hc (i * 3 + 2) _ (flat_get wrowE 3 wrowE_len l i _ 2 (getD_some l wrow0 hi) (by omega))⟩⟩
theorem wrows_cell {w : World} {g : Nat} {a b c : Int} (h : Row w g 65 #[.int .i64 a, .int .i64 b, .int .i64 c]) : Wrows w (some ⟨g, 0, none⟩) [(a, b, c)] := At.row h
def OwnW (w : World) (base : Nat) (v : Value) (l : List Wrow) : Prop := w.ownsRow base 65 3 v l.length (l.flatMap wrowE)
section
variable {w w' : World} {base : Nat} {v : Value} {l : List Wrow}
theorem ownw_empty {g : Nat} (h : Row w g 65 #[]) (hb : base ≤ g) : OwnW w base (.slice (some ⟨g, 0, none⟩) 0 0) [] :=
  ⟨rfl, .inr ⟨g, 0, #[], rfl, hb, h, Nat.le_refl _, by simp [maxLen], by simp, by simp⟩⟩
theorem ownw_below (h : OwnW w base v l) (hb : Below w.heap.size w w') : OwnW w' base v l := rows_below h hb
theorem ownw_lower {base' : Nat} (h : OwnW w base v l) (hb : base' ≤ base) : OwnW w base' v l := rows_lower h hb
theorem ownw_slice (h : OwnW w base v l) : ∃ P c, v = .slice P l.length c ∧ l.length ≤ c ∧ Wrows w P l ∧ ∀ ad, P = some ad → base ≤ ad.block := rows_slice h
end
theorem wrow_info : (Try.prog.info? 65).map (fun i => (i.zero, i.size, i.bytes)) = some (some (.agg #[.int .i64 0, .int .i64 0, .int .i64 0]), 3, 24) := by kernel_rfl
theorem wrow_one (l : List Wrow) : ∀ u ∈ l.flatMap wrowE, u.oneCell' = true := by
  intro u hu
  simp only [List.mem_flatMap, wrowE, List.mem_cons, List.not_mem_nil, or_false] at hu
  obtain ⟨x, _, rfl | rfl | rfl⟩ := hu <;> rfl
theorem app_wrows {w : World} {ops : Array Oper} {rest : List Oper} {o : Oper} {a : Act} {Q : Exit → Act → World → Prop} (hgd : o.guard = none) (s y : Operand)
    (ho : o.op = .call { callee := .builtin .append, args := #[s, y], argTypes := #[27, 27] })
    (base : Nat) (v : Value) (x : List Wrow) (hs : a.eval s = v) (hown : OwnW w base v x) (A : Option Addr) (l : List Wrow) (c : Nat) (hy : a.eval y = .slice A l.length c) (hA : Wrows w A l) (hn : (x.length + l.length) * 24 ≤ 140737488355328) (hbase : base ≤ w.heap.size)
    (h : ∀ v' w', OwnW w' base v' (x ++ l) → Below base w w' → w.grownBy w' v.ownBlock → wpList Try.prog ops Q rest (a.put o.dst v') w') : wpList Try.prog ops Q (o :: rest) a w := by
  obtain ⟨i0, hi, hz0, hz1, hz2⟩ := info_parts wrow_info
  refine wpList_app_at hgd s y 27 ho base 65 i0 _ 3 24 Try.underlying27 hi hz0 hz1 hz2 rfl (by omega) v x.length (x.flatMap wrowE) hs hown A l.length c (l.flatMap wrowE) hy (flat_len wrowE 3 wrowE_len l) hA (wrow_one l)
    (by simp only [maxLen]; omega) hn hbase ?_
  intro v' w' h1 h2 h3
  refine h v' w' ?_ h2 h3
  unfold OwnW
  rw [List.flatMap_append, List.length_append]
  exact h1
/-! ### a record -/
/-- Where a record's slices lie. -/
structure RecM where
  la : Option Addr
  lc : Nat
  ra : Option Addr
  rc : Nat
  ia : Option Addr
  ic : Nat
def recM0 : RecM := ⟨none, 0, none, 0, none, 0⟩
def recC (R : RecV) (m : RecM) : List Value := [.int .i64 R.kind, .slice m.la R.labels.length m.lc, .slice m.ra R.rows.length m.rc, .slice m.ia R.ids.length m.ic, .int .i64 R.low, .int .i64 R.high]
structure RecIn (w : World) (R : RecV) (m : RecM) : Prop where
  labels : Lbls w m.la R.labels
  rows : Wrows w m.ra R.rows
  ids : Zi w m.ia R.ids
  lc : R.labels.length ≤ m.lc
  rc : R.rows.length ≤ m.rc
  ic : R.ids.length ≤ m.ic
/-- No part of a record is longer than a law's argument may be. -/
structure RecFit (R : RecV) : Prop where
  fits : LFits R.labels
  labels : R.labels.length * 32 ≤ 140737488351232
  rows : R.rows.length * 24 ≤ 140737488351232
  ids : R.ids.length ≤ 17592186043904
theorem RecIn.below {w w' : World} {R : RecV} {m : RecM} (h : RecIn w R m) (hb : Below w.heap.size w w') : RecIn w' R m := ⟨h.labels.below hb, h.rows.below hb, h.ids.below hb, h.lc, h.rc, h.ic⟩
theorem rec_cells {w : World} {g : Nat} {cs : Array Value} (h : Row w g 30 cs) {v0 v1 v2 v3 v4 v5 : Value} (hc : cs = #[v0, v1, v2, v3, v4, v5]) :
    w.cell? ⟨g, 0, none⟩ = some v0 ∧ w.cell? ⟨g, 1, none⟩ = some v1 ∧ w.cell? ⟨g, 2, none⟩ = some v2 ∧ w.cell? ⟨g, 3, none⟩ = some v3 ∧ w.cell? ⟨g, 4, none⟩ = some v4 ∧ w.cell? ⟨g, 5, none⟩ = some v5 := by
  subst hc
  exact ⟨h.cell 0, h.cell 1, h.cell 2, h.cell 3, h.cell 4, h.cell 5⟩
/-- Where a right record is told, no part of it is long. -/
theorem right_fit {R : RecV} (h : recChk R = 0) : RecFit R := by
  have lb : ∀ {l : List Lbl}, lbChk l = 0 → LFits l ∧ l.length * 32 ≤ 140737488351232 := fun {l} h => by
    refine ⟨fun i hi => ?_, by have := (lbChk_ok.1 h).1; omega⟩
    have := right_at h hi
    omega
  obtain ⟨k, la, ro, ids, lo, hi⟩ := R
  rcases recChk_zero.1 h with ⟨h1, h2, h3, h4, h5, h6⟩ | ⟨h1, h2, h3, h4, h5, h6⟩ | ⟨h1, h2, h3, h4⟩ <;> simp only at *
  · subst h2 h3
    exact ⟨(lb h6).1, (lb h6).2, by simp, by simp⟩
  · subst h2 h3
    exact ⟨fun i hi => by simp at hi, by simp, by have := (rowsChk_zero.1 h6).2.1; show ro.length * 24 ≤ _; omega, by simp⟩
  · subst h2 h3
    exact ⟨fun i hi => by simp at hi, by simp, by simp, by have := (pchk_zero.1 (delChk_zero.1 h4).1).1; show ids.length ≤ _; omega⟩
/-! ### rows of records -/
abbrev Pl := RecV × RecM
def plE (x : Pl) : List Value := recC x.1 x.2
theorem plE_len (x : Pl) : (plE x).length = 6 := rfl
def pl0 : Pl := (rec0, recM0)
def Recs (w : World) (A : Option Addr) (ps : List Pl) : Prop := At w A (ps.flatMap plE) ∧ ∀ x ∈ ps, RecIn w x.1 x.2
theorem Recs.nil (w : World) (A : Option Addr) : Recs w A [] := ⟨.inl rfl, fun x hx => by cases hx⟩
theorem Recs.all {w : World} {A : Option Addr} {ps : List Pl} (h : Recs w A ps) (hl : 0 < ps.length) :
    ∃ b o, A = some ⟨b, o, none⟩ ∧ b < w.heap.size ∧ ∀ i, i < ps.length → RecIn w (ps.getD i pl0).1 (ps.getD i pl0).2 ∧ ∀ j u, (plE (ps.getD i pl0))[j]? = some u → w.cell? ⟨b, o + i * 6 + j, none⟩ = some u := by
  have hlen := flat_len plE 6 plE_len ps
  rcases h.1 with h1 | ⟨b, o, rfl, hb, hc⟩
  · rw [h1] at hlen; simp at hlen; omega
  · refine ⟨b, o, rfl, hb, fun i hi => ⟨h.2 _ ?_, fun j u hj => ?_⟩⟩
    · have := getD_some ps pl0 hi
      exact List.mem_of_getElem? this
    · have hj6 : j < 6 := by
        have := (List.getElem?_eq_some_iff.1 hj).1
        rw [plE_len] at this
        exact this
      have := hc (i * 6 + j) u ((flat_get plE 6 plE_len ps i _ j (getD_some ps pl0 hi) hj6).trans hj)
      rw [Nat.add_assoc]
      exact this
theorem at_block {w : World} {A : Option Addr} {xs : List Value} (h : At w A xs) (hx : xs ≠ []) : ∀ ad, A = some ad → ad.block < w.heap.size := by
  rcases h with h | ⟨b, o, rfl, hb, _⟩
  · exact absurd h hx
  · intro ad e
    injection e with e
    subst e
    exact hb
theorem at_move {w w' : World} {A : Option Addr} {xs : List Value} (h : At w A xs) (hs : w.heap.size ≤ w'.heap.size) (hb : xs = [] ∨ ∀ ad, A = some ad → w'.heap[ad.block]? = w.heap[ad.block]?) : At w' A xs := by
  rcases h with h | ⟨b, o, rfl, hlt, hc⟩
  · exact .inl h
  · rcases hb with h0 | hb
    · exact .inl h0
    · refine .inr ⟨b, o, rfl, by omega, fun j u hj => ?_⟩
      rw [← hc j u hj]
      exact World.cell?_of_block (w := w) (a := ⟨b, o + j, none⟩) (hb ⟨b, o, none⟩ rfl)
theorem flat_nil {α : Type} (f : α → List Value) (n : Nat) (hf : ∀ x, (f x).length = n + 1) {l : List α} : l.flatMap f = [] ↔ l = [] := by
  have := flat_len f (n + 1) hf l
  constructor
  · intro h
    rw [h] at this
    cases l with
    | nil => rfl
    | cons x r => simp [Nat.succ_mul] at this
  · rintro rfl
    rfl
section
variable {w w' : World} {base : Nat} {v : Value} {ps : List Pl}
end
end Go.Proofs.Ytpcjnagdanmdpaa
