/- Rows of rows of names, apart from a disk that goes on. -/
import Derived.Test.YtnkbehjjblmihaaDkSame
import Derived.Maps.AppendAt
namespace Go.Proofs.Ytnkbehjjblmihaa
open Go.RowKit Go.Maps
set_option linter.unusedVariables false

theorem names_below {w w' : World} {base : Nat} {v : Value} {ns : List (List UInt8)} (h : Texts w base v ns) (hb : Below w.heap.size w w') : Texts w' base v ns := rows_move h fun k hk => hb.block k (World.ownsRow.lt h k hk).2
structure Nss (S : Nat → Prop) (w : World) (base : Nat) (v : Value) (vs : List Value) (nss : List (List (List UInt8))) : Prop where
  row : w.ownsRow base 57 1 v vs.length vs
  len : vs.length = nss.length
  each : ∀ i, i < nss.length → Texts w base (vs.getD i undef) (nss.getD i [])
  far : Far S v
  fars : ∀ i, i < nss.length → Far S (vs.getD i undef)
section
variable {S : Nat → Prop} {w w' : World} {base : Nat} {v : Value} {vs : List Value} {nss : List (List (List UInt8))}
theorem Nss.below (h : Nss S w base v vs nss) (hb : Below w.heap.size w w') : Nss S w' base v vs nss :=
  ⟨rows_move h.row fun k hk => hb.block k (World.ownsRow.lt h.row k hk).2, h.len, fun i hi => names_below (h.each i hi) hb, h.far, h.fars⟩
theorem Nss.more (h : Nss S w base v vs nss) (hK : Kept S w w') : Nss (more S w w') w' base v vs nss :=
  ⟨rows_kept h.row hK h.far, h.len, fun i hi => rows_kept (h.each i hi) hK (h.fars i hi), far_more h.row h.far, fun i hi => far_more (h.each i hi) (h.fars i hi)⟩
theorem Nss.at_ (h : Nss S w base v vs nss) : ∃ P c, v = .slice P nss.length c ∧ ∀ i, i < nss.length → ∃ g, P = some ⟨g, 0, none⟩ ∧ base ≤ g ∧ g < w.heap.size ∧ w.cell? ⟨g, i, none⟩ = some (vs.getD i undef) := by
  have hl := h.len
  rcases h.row.2 with ⟨rfl, h0⟩ | ⟨g, cap, cur, rfl, hg, hh, hnc, hcm, hcs, htk⟩
  · exact ⟨none, 0, by rw [← hl, h0], fun i hi => by omega⟩
  · refine ⟨some ⟨g, 0, none⟩, cap, by rw [hl], fun i hi => ⟨g, rfl, hg, (Row.lt (show Row w g _ cur from hh)), ?_⟩⟩
    rw [(show Row w g _ cur from hh).cell i]
    have e : cur.toList[i]? = vs[i]? := by
      rw [← htk, List.getElem?_take, if_pos (by omega)]
    rw [← Array.getElem?_toList, e, List.getElem?_eq_getElem (by omega)]
    congr 1
    rw [List.getD_eq_getElem?_getD, List.getElem?_eq_getElem (by omega)]
    rfl
theorem names_apart {b2 : Nat} {a : Value} {ns : List (List UInt8)} (h : Texts w b2 a ns) (hv : w.ownsRow base 57 1 v vs.length vs) : ∀ k, a.ownBlock = some k → v.ownBlock ≠ some k := by
  intro k hk e
  rcases h.2 with ⟨rfl, _⟩ | ⟨g, cap, cur, rfl, _, hh, _⟩
  · cases hk
  · rcases hv.2 with ⟨rfl, _⟩ | ⟨g', cap', cur', rfl, _, hh', _⟩
    · cases e
    · simp only [Value.ownBlock, Option.some.injEq] at hk e
      subst hk
      subst e
      rw [hh] at hh'
      injection hh' with hh'
      injection hh' with _ h2 _
      exact absurd h2 (by decide)
end
theorem DiskOf.move {B : Nat} {S : Nat → Prop} {w w' : World} {X : Nat} {d : Dsk} (h : DiskOf B S w X d) (hs : w.heap.size ≤ w'.heap.size) (hb : ∀ k, S k → w'.heap[k]? = w.heap[k]?) : DiskOf B S w' X d := by
  obtain ⟨dm, bm, wv, fb, vb, hin, hS⟩ := h.at_
  exact ⟨⟨dm, bm, wv, fb, vb, hin.move fun k hk => hb k (hS k hk), hS⟩, fun k hk => ⟨(h.own k hk).1, Nat.lt_of_lt_of_le (h.own k hk).2 hs⟩⟩
theorem names_info : (Try.prog.info? 57).map (fun i => (i.zero, i.size, i.bytes)) = some (some (.slice none 0 0), 1, 24) := by kernel_rfl
theorem getD_end_lt {α : Type} (l : List α) (x d : α) {i : Nat} (h : i < l.length) : (l ++ [x]).getD i d = l.getD i d := by
  simp [List.getD_eq_getElem?_getD, List.getElem?_append_left h]
theorem getD_end_eq {α : Type} (l : List α) (x d : α) : (l ++ [x]).getD l.length d = x := by
  simp [List.getD_eq_getElem?_getD]
/-- A new row of one row of names. -/
theorem nss_one {S : Nat → Prop} {w : World} {B X : Nat} {d : Dsk} (hD : DiskOf B S w X d) {base : Nat} (hbase : base ≤ w.heap.size) {x : Value} {ns : List (List UInt8)} (h : Texts w base x ns) (hf : Far S x) :
    Nss S (w.alloc (.cells #[x] 57)) base (.slice (some ⟨w.heap.size, 0, none⟩) 1 1) [x] [ns] := by
  have hh : (w.alloc (.cells #[x] 57)).heap[w.heap.size]? = some (.cells #[x] 57) := heap_alloc_new w _
  refine ⟨⟨rfl, .inr ⟨w.heap.size, 1, #[x], rfl, hbase, hh, Nat.le_refl _, by decide, rfl, rfl⟩⟩, rfl, ?_, ?_, ?_⟩
  · intro i hi
    simp only [List.length_singleton] at hi
    obtain rfl : i = 0 := by omega
    exact names_below h (below_one _ _)
  · intro k hk hs
    simp only [Value.ownBlock, Option.some.injEq] at hk
    have := (hD.own k hs).2
    omega
  · intro i hi
    simp only [List.length_singleton] at hi
    obtain rfl : i = 0 := by omega
    exact hf
/-- append of one more row of names, at a walk's built-in. -/
theorem app_nss {S : Nat → Prop} {B X : Nat} {d : Dsk} {w0 : World} {ops : Array Oper} {rest : List Oper} {o : Oper} {a : Act} {Q : Exit → Act → World → Prop} (hgd : o.guard = none) (s y : Operand)
    (ho : o.op = .call { callee := .builtin .append, args := #[s, y], argTypes := #[59, 59] })
    (base : Nat) (v : Value) (vs : List Value) (nss : List (List (List UInt8))) (hs : a.eval s = v) (hF : Nss S w0 base v vs nss) (hD : DiskOf B S w0 X d) (x : Value) (ns : List (List UInt8)) (hx : Texts w0 base x ns) (hxf : Far S x)
    (hx1 : x.oneCell' = true) (c : Nat) (hy : a.eval y = .slice (some ⟨w0.heap.size, 0, none⟩) 1 c) (hn : nss.length ≤ 4000000) (hbase : base ≤ w0.heap.size)
    (h : ∀ v' w', Nss S w' base v' (vs ++ [x]) (nss ++ [ns]) → DiskOf B S w' X d → Below base w0 w' → wpList Try.prog ops Q rest (a.put o.dst v') w') :
    wpList Try.prog ops Q (o :: rest) a (w0.alloc (.cells #[x] 57)) := by
  obtain ⟨i0, hi, hz0, hz1, hz2⟩ := info_parts names_info
  have hA := below_one w0 (.cells #[x] 57)
  have hF1 := hF.below hA
  have hxx := names_below hx hA
  have hD1 := hD.below hA
  refine wpList_append_own_at _ hgd s y 59 ho base 57 i0 _ 1 24 Try.underlying59 hi hz0 hz1 hz2 rfl (by omega) v vs.length vs hs hF1.row _ 1 c [x] hy rfl (cell_one_new w0 _ _) (by intro u hu; simp at hu; subst hu; exact hx1)
    (by have := hF.len; simp only [maxLen]; omega) (by have := hF.len; omega) (Nat.le_trans hbase hA.size) ?_
  intro v' w' h1 h2 _ h4
  have hgb : ∀ k, k < (w0.alloc (.cells #[x] 57)).heap.size → some k ≠ v.ownBlock → w'.heap[k]? = (w0.alloc (.cells #[x] 57)).heap[k]? := fun k hk hne => h2.block k hk hne
  refine h v' w' ⟨by rw [List.length_append]; exact h1, by simp [hF.len], ?_, ?_, ?_⟩ (hD1.move h2.size fun k hk => hgb k (hD1.own k hk).2 (fun e => hF.far k e.symm hk)) (Below.grown (hA.mono hbase) h2 (Nat.le_trans hbase hA.size) (fun k hk => (World.ownsRow.lt hF1.row _ hk).1))
  · intro i hi2
    rw [List.length_append, List.length_singleton] at hi2
    by_cases he : i < nss.length
    · rw [getD_end_lt _ _ _ (by rw [hF.len]; exact he), getD_end_lt _ _ _ he]
      exact rows_move (hF1.each i he) fun k hk => hgb k (World.ownsRow.lt (hF1.each i he) k hk).2 fun e => names_apart (hF1.each i he) hF1.row k hk e.symm
    · obtain rfl : i = nss.length := by omega
      rw [getD_end_eq, ← hF.len, getD_end_eq]
      exact rows_move hxx fun k hk => hgb k (World.ownsRow.lt hxx k hk).2 fun e => names_apart hxx hF1.row k hk e.symm
  · intro k hk hs2
    rcases h4 with h5 | h5
    · exact hF.far k (h5.symm.trans hk) hs2
    · rw [h5] at hk
      injection hk with hk
      have := (hD1.own k hs2).2
      omega
  · intro i hi2
    rw [List.length_append, List.length_singleton] at hi2
    by_cases he : i < nss.length
    · rw [getD_end_lt _ _ _ (by rw [hF.len]; exact he)]
      exact hF.fars i he
    · obtain rfl : i = nss.length := by omega
      rw [← hF.len, getD_end_eq]
      exact hxf
end Go.Proofs.Ytnkbehjjblmihaa
