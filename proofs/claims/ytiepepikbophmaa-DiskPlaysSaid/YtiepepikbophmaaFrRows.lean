/- Rows of bytes of the call's own, in a row of the call's own. For any seat. -/
import Derived.Test.YtiepepikbophmaaOwn
namespace Go.Proofs.Ytiepepikbophmaa
open Go.RowKit
set_option linter.unusedVariables false

/-- The value v is a row of slices of bytes of the call's own, from block base on. -/
def OwnV (w : World) (base : Nat) (v : Value) (vs : List Value) : Prop := w.ownsRow base 35 1 v vs.length vs
section
variable {w : World} {base : Nat} {v : Value} {vs : List Value}
theorem ownV_nil (w : World) (base : Nat) : OwnV w base (.slice none 0 0) [] := ⟨rfl, .inl ⟨rfl, rfl⟩⟩
theorem ownV_grown {w' : World} {row : Option Nat} (h : OwnV w base v vs) (hg : w.grownBy w' row) (hne : ∀ k, v.ownBlock = some k → some k ≠ row) : OwnV w' base v vs := by
  refine ⟨h.1, ?_⟩
  rcases h.2 with h2 | ⟨g, cap, cur, rfl, hb, hh, r⟩
  · exact .inl h2
  · exact .inr ⟨g, cap, cur, rfl, hb, (hg.block g (Row.lt (cs := cur) hh) (hne g rfl)).trans hh, r⟩
theorem ownV_below {w' : World} (h : OwnV w base v vs) (hb : Below w.heap.size w w') : OwnV w' base v vs := by
  refine ⟨h.1, ?_⟩
  rcases h.2 with h2 | ⟨g, cap, cur, hv, hg, hh, r⟩
  · exact .inl h2
  · exact .inr ⟨g, cap, cur, hv, hg, (hb.block g (Row.lt (cs := cur) hh)).trans hh, r⟩
theorem ownV_form (h : OwnV w base v vs) (hn : 0 < vs.length) : ∃ g cap, v = .slice (some ⟨g, 0, none⟩) vs.length cap ∧ base ≤ g ∧ g < w.heap.size ∧ vs.length ≤ cap ∧ ∀ i, i < vs.length → w.cell? ⟨g, i, none⟩ = some (vs.getD i undef) := by
  rcases h.2 with ⟨rfl, h0⟩ | ⟨g, cap, cur, rfl, hg, hh, hnc, hcm, hcs, htk⟩
  · omega
  · have hrow : Row w g 35 cur := hh
    refine ⟨g, cap, rfl, hg, hrow.lt, hnc, fun i hi => ?_⟩
    rw [hrow.cell i]
    have e : cur.toList[i]? = vs[i]? := by
      rw [← htk, List.getElem?_take, if_pos (by omega)]
    rw [← Array.getElem?_toList, e, List.getElem?_eq_getElem hi]
    congr 1
    rw [List.getD_eq_getElem?_getD, List.getElem?_eq_getElem hi]
    rfl
theorem ownV_slice (h : OwnV w base v vs) : ∃ B d, v = .slice B vs.length d ∧ ∀ ad, B = some ad → base ≤ ad.block := by
  rcases h.2 with ⟨rfl, h0⟩ | ⟨g, cap, cur, rfl, hg, _⟩
  · exact ⟨none, 0, by rw [h0], fun ad e => by cases e⟩
  · exact ⟨some ⟨g, 0, none⟩, cap, rfl, fun ad e => by injection e with e; subst e; exact hg⟩
theorem own_apart {base' : Nat} {a : Value} {x : List UInt8} (h : Own w base' a x) (hv : OwnV w base v vs) : ∀ k, a.ownBlock = some k → v.ownBlock ≠ some k := by
  intro k hk e
  rcases h.2 with ⟨rfl, _⟩ | ⟨g, cap, cur, rfl, _, hh, _⟩
  · cases hk
  · rcases hv.2 with ⟨rfl, _⟩ | ⟨g', cap', cur', rfl, _, hh', _⟩
    · cases e
    · simp only [Value.ownBlock, Option.some.injEq] at hk e
      subst hk
      subst e
      rw [hh] at hh'
      injection hh' with hh'
      injection hh' with _ h2 _
      exact absurd h2 (by decide)
end

/-- Such rows with what they hold, no two in one block. -/
structure Fs (w : World) (base : Nat) (v : Value) (vs : List Value) (xs : List (List UInt8)) : Prop where
  row : OwnV w base v vs
  len : vs.length = xs.length
  each : ∀ i, i < xs.length → Own w base (vs.getD i undef) (xs.getD i [])
  apart : ∀ i j, i < j → j < xs.length → ∀ k, (vs.getD i undef).ownBlock = some k → (vs.getD j undef).ownBlock ≠ some k
section
variable {w w' : World} {base : Nat} {v : Value} {vs : List Value} {xs : List (List UInt8)}
theorem Fs.none_ (w : World) (base : Nat) : Fs w base (.slice none 0 0) [] [] := ⟨ownV_nil w base, rfl, fun i h => absurd h (by simp), fun i j _ h => absurd h (by simp)⟩
theorem Fs.below (h : Fs w base v vs xs) (hb : Below w.heap.size w w') : Fs w' base v vs xs :=
  ⟨ownV_below h.row hb, h.len, fun i hi => own_below (h.each i hi) hb, h.apart⟩
theorem Fs.grown_low {row : Option Nat} (h : Fs w base v vs xs) (hg : w.grownBy w' row) (hr : ∀ k, row = some k → k < base) : Fs w' base v vs xs := by
  refine ⟨ownV_grown h.row hg ?_, h.len, fun i hi => own_grown (h.each i hi) hg ?_, h.apart⟩
  · intro k hk e
    have h1 := (World.ownsRow.lt h.row _ hk).1
    have h2 := hr k e.symm
    omega
  · intro k hk e
    have h1 := (World.ownsRow.lt (h.each i hi) _ hk).1
    have h2 := hr k e.symm
    omega
theorem getD_snoc_lt {α : Type} (l : List α) (x d : α) {i : Nat} (h : i < l.length) : (l ++ [x]).getD i d = l.getD i d := by
  simp [List.getD_eq_getElem?_getD, List.getElem?_append_left h]
theorem getD_snoc_eq {α : Type} (l : List α) (x d : α) : (l ++ [x]).getD l.length d = x := by
  simp [List.getD_eq_getElem?_getD]

theorem sl_info : (Try.prog.info? 35).map (fun i => (i.zero, i.size, i.bytes)) = some (some (.slice none 0 0), 1, 24) := by kernel_rfl

/-- append of one more such row, at a walk's built-in. -/
theorem app_fs {w0 : World} {ops : Array Oper} {rest : List Oper} {o : Oper} {a : Act} {Q : Exit → Act → World → Prop} (hgd : o.guard = none) (s y : Operand)
    (ho : o.op = .call { callee := .builtin .append, args := #[s, y], argTypes := #[132, 132] })
    (base : Nat) (v : Value) (vs : List Value) (xs : List (List UInt8)) (hs : a.eval s = v) (hF : Fs w0 base v vs xs) (B : Option Addr) (l : List UInt8) (d c : Nat) (hx : Own w0 base (.slice B l.length d) l)
    (hy : a.eval y = .slice (some ⟨w0.heap.size, 0, none⟩) 1 c) (hfresh : ∀ k, (Value.slice B l.length d).ownBlock = some k → ∀ i, i < xs.length → (vs.getD i undef).ownBlock ≠ some k) (hn : xs.length ≤ 4000000) (hbase : base ≤ w0.heap.size)
    (h : ∀ v' w', Fs w' base v' (vs ++ [.slice B l.length d]) (xs ++ [l]) → Below base w0 w' → wpList Try.prog ops Q rest (a.put o.dst v') w') :
    wpList Try.prog ops Q (o :: rest) a (w0.alloc (.cells #[.slice B l.length d] 35)) := by
  obtain ⟨i0, hi, hz0, hz1, hz2⟩ := info_parts sl_info
  have hA := below_one w0 (.cells #[.slice B l.length d] 35)
  have hF1 := hF.below hA
  have hx1 := own_below hx hA
  refine wpList_append_own_at _ hgd s y 132 ho base 35 i0 _ 1 24 Try.underlying132 hi hz0 hz1 hz2 rfl (by omega) v vs.length vs hs hF1.row _ 1 c [.slice B l.length d] hy rfl (cell_one_new w0 _ _) (by intro u hu; simp at hu; subst hu; rfl)
    (by have := hF.len; simp only [maxLen]; omega) (by have := hF.len; omega) (Nat.le_trans hbase hA.size) ?_
  intro v' w' h1 h2 _ _
  refine h v' w' ⟨by unfold OwnV; rw [List.length_append]; exact h1, by simp [hF.len], ?_, ?_⟩ (Below.grown (hA.mono hbase) h2 (Nat.le_trans hbase hA.size) (fun k hk => (World.ownsRow.lt hF1.row _ hk).1))
  · intro i hi2
    rw [List.length_append, List.length_singleton] at hi2
    by_cases he : i < xs.length
    · rw [getD_snoc_lt _ _ _ (by rw [hF.len]; exact he), getD_snoc_lt _ _ _ he]
      exact own_grown (hF1.each i he) h2 (fun k hk e => own_apart (hF1.each i he) hF1.row k hk e.symm)
    · obtain rfl : i = xs.length := by omega
      rw [getD_snoc_eq, ← hF.len, getD_snoc_eq]
      exact own_grown hx1 h2 (fun k hk e => own_apart hx1 hF1.row k hk e.symm)
  · intro i j hij hj k hk
    rw [List.length_append, List.length_singleton] at hj
    by_cases he : j < xs.length
    · rw [getD_snoc_lt _ _ _ (by rw [hF.len]; exact he)]
      rw [getD_snoc_lt _ _ _ (by rw [hF.len]; omega)] at hk
      exact hF.apart i j hij he k hk
    · obtain rfl : j = xs.length := by omega
      rw [← hF.len, getD_snoc_eq]
      rw [getD_snoc_lt _ _ _ (by rw [hF.len]; omega)] at hk
      intro e
      exact hfresh k e i (by omega) hk
end
end Go.Proofs.Ytiepepikbophmaa
