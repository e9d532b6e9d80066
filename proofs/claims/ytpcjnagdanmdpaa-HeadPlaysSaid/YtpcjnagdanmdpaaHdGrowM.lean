/- Rows laid behind a head's series, and taken off again. No program. -/
import Derived.Test.YtpcjnagdanmdpaaWaRows
namespace Go.Proofs.Ytpcjnagdanmdpaa
open Ch
set_option linter.unusedVariables false
set_option linter.unusedSimpArgs false
def putsH (h : List Ser) (rows : List Wrow) : List Ser := rows.foldl putH h
theorem putH_len (h : List Ser) (x : Wrow) : (putH h x).length = h.length := by unfold putH; rw [List.length_set]
theorem putsH_len : ∀ (rows : List Wrow) (h : List Ser), (putsH h rows).length = h.length := by
  intro rows
  induction rows with
  | nil => intro h; rfl
  | cons x r ih => intro h; show (putsH (putH h x) r).length = _; rw [ih, putH_len]
theorem putsH_snoc (h : List Ser) (rows : List Wrow) (x : Wrow) : putsH h (rows ++ [x]) = putH (putsH h rows) x := by simp [putsH]
/-- How many of these rows are the series i's. -/
def cntI (i : Nat) (rows : List Wrow) : Nat := (rows.filter fun x => decide (x.1.toNat = i)).length
theorem cntI_cons (i : Nat) (x : Wrow) (r : List Wrow) : cntI i (x :: r) = (if x.1.toNat = i then 1 else 0) + cntI i r := by
  unfold cntI
  rw [List.filter_cons]
  by_cases e : x.1.toNat = i
  · simp [e]; omega
  · simp [e]
theorem cntI_drop (k j : Nat) (rows : List Wrow) : cntI k (rows.drop j) ≤ cntI k rows := by
  have e : cntI k rows = cntI k (rows.take j ++ rows.drop j) := by rw [List.take_append_drop]
  rw [e]
  unfold cntI
  rw [List.filter_append, List.length_append]
  omega
theorem putH_get (h : List Ser) (x : Wrow) (i : Nat) (hx : x.1.toNat < h.length) : ((putH h x).getD i ser0).1 = (h.getD i ser0).1 ∧ ((putH h x).getD i ser0).2 = (h.getD i ser0).2 ++ (if x.1.toNat = i then [(x.2.1, x.2.2)] else []) := by
  unfold putH
  by_cases e : x.1.toNat = i
  · subst e
    rw [if_pos rfl]
    have : ∀ s : Ser, (h.set x.1.toNat s).getD x.1.toNat ser0 = s := fun s => by simp [List.getD_eq_getElem?_getD, hx]
    rw [this]
    exact ⟨rfl, rfl⟩
  · rw [if_neg e, List.append_nil]
    have : ∀ s : Ser, (h.set x.1.toNat s).getD i ser0 = h.getD i ser0 := fun s => by
      rw [List.getD_eq_getElem?_getD, List.getElem?_set_ne e, ← List.getD_eq_getElem?_getD]
    rw [this]
    exact ⟨rfl, rfl⟩
theorem putsH_get : ∀ (rows : List Wrow) (h : List Ser), (∀ x ∈ rows, x.1.toNat < h.length) → ∀ i, ((putsH h rows).getD i ser0).1 = (h.getD i ser0).1 ∧ ∃ q, ((putsH h rows).getD i ser0).2 = (h.getD i ser0).2 ++ q ∧ q.length = cntI i rows := by
  intro rows
  induction rows with
  | nil => intro h _ i; exact ⟨rfl, [], by simp [putsH], rfl⟩
  | cons x r ih =>
    intro h hx i
    obtain ⟨g1, g2⟩ := putH_get h x i (hx x (by simp))
    obtain ⟨k1, q, k2, k3⟩ := ih (putH h x) (fun y hy => by rw [putH_len]; exact hx y (by simp [hy])) i
    refine ⟨k1.trans g1, (if x.1.toNat = i then [(x.2.1, x.2.2)] else []) ++ q, ?_, ?_⟩
    · show ((putsH (putH h x) r).getD i ser0).2 = _
      rw [k2, g2, List.append_assoc]
    · rw [List.length_append, k3, cntI_cons]
      split <;> rfl
/-- Of each series so many samples. -/
def tkH (h : List Ser) (L : Nat → Nat) : List Ser := (List.range h.length).map fun i => ((h.getD i ser0).1, (h.getD i ser0).2.take (L i))
theorem tkH_len (h : List Ser) (L : Nat → Nat) : (tkH h L).length = h.length := by simp [tkH]
theorem tkH_get (h : List Ser) (L : Nat → Nat) {i : Nat} (hi : i < h.length) : (tkH h L).getD i ser0 = ((h.getD i ser0).1, (h.getD i ser0).2.take (L i)) := by
  unfold tkH
  rw [List.getD_eq_getElem?_getD, List.getElem?_map, List.getElem?_range hi]
  rfl
theorem ext_ser {a b : List Ser} (hl : a.length = b.length) (h : ∀ i, i < a.length → a.getD i ser0 = b.getD i ser0) : a = b := by
  apply List.ext_getElem hl
  intro i h1 h2
  have := h i h1
  simpa [List.getD_eq_getElem?_getD, h1, h2] using this
theorem tkH_all {h : List Ser} {L : Nat → Nat} (hL : ∀ i, i < h.length → (h.getD i ser0).2.length ≤ L i) : tkH h L = h := by
  refine ext_ser (tkH_len _ _) fun i hi => ?_
  rw [tkH_len] at hi
  rw [tkH_get _ _ hi, List.take_of_length_le (hL i hi)]
/-- One sample of the series k less. -/
theorem tkH_pop {h : List Ser} {L M : Nat → Nat} {k : Nat} (hk : k < h.length) (h1 : L k = M k + 1) (h2 : ∀ i, i ≠ k → L i = M i) (h3 : L k ≤ (h.getD k ser0).2.length) :
    tkH h M = (tkH h L).set k (((tkH h L).getD k ser0).1, ((tkH h L).getD k ser0).2.take (((tkH h L).getD k ser0).2.length - 1)) ∧ 0 < ((tkH h L).getD k ser0).2.length := by
  rw [tkH_get _ _ hk]
  have hlen : ((h.getD k ser0).2.take (L k)).length = L k := by rw [List.length_take]; omega
  refine ⟨ext_ser (by rw [tkH_len, List.length_set, tkH_len]) fun i hi => ?_, by simp only [hlen]; omega⟩
  rw [tkH_len] at hi
  rw [tkH_get _ _ hi]
  by_cases e : i = k
  · subst e
    have : ∀ s : Ser, ((tkH h L).set i s).getD i ser0 = s := fun s => by simp [List.getD_eq_getElem?_getD, tkH_len, hi]
    rw [this]
    simp only [hlen, List.take_take]
    rw [show min (L i - 1) (L i) = M i by omega]
  · have : ∀ s : Ser, ((tkH h L).set k s).getD i ser0 = (tkH h L).getD i ser0 := fun s => by
      rw [List.getD_eq_getElem?_getD, List.getElem?_set_ne (fun e2 => e e2.symm), ← List.getD_eq_getElem?_getD]
    rw [this, tkH_get _ _ hi, h2 i e]
/-- How many samples each series has when the first j rows are taken off again. -/
def lenR (h : List Ser) (rows : List Wrow) (j : Nat) (i : Nat) : Nat := (h.getD i ser0).2.length + cntI i (rows.drop j)
theorem tk_start {h : List Ser} {rows : List Wrow} (hx : ∀ x ∈ rows, x.1.toNat < h.length) : tkH (putsH h rows) (lenR h rows 0) = putsH h rows := by
  refine tkH_all fun i _ => ?_
  obtain ⟨_, q, k2, k3⟩ := putsH_get rows h hx i
  rw [k2, List.length_append, k3]
  exact Nat.le_refl _
theorem tk_end {h : List Ser} {rows : List Wrow} (hx : ∀ x ∈ rows, x.1.toNat < h.length) : tkH (putsH h rows) (lenR h rows rows.length) = h := by
  refine ext_ser (by rw [tkH_len, putsH_len]) fun i hi => ?_
  rw [tkH_len] at hi
  obtain ⟨k1, q, k2, k3⟩ := putsH_get rows h hx i
  rw [tkH_get _ _ hi, k1, k2]
  unfold lenR
  rw [List.drop_length]
  simp [cntI]
theorem tk_step {h : List Ser} {rows : List Wrow} (hx : ∀ x ∈ rows, x.1.toNat < h.length) {j : Nat} (hj : j < rows.length) :
    tkH (putsH h rows) (lenR h rows (j + 1)) = (tkH (putsH h rows) (lenR h rows j)).set (rows.getD j wrow0).1.toNat (((tkH (putsH h rows) (lenR h rows j)).getD (rows.getD j wrow0).1.toNat ser0).1, ((tkH (putsH h rows) (lenR h rows j)).getD (rows.getD j wrow0).1.toNat ser0).2.take (((tkH (putsH h rows) (lenR h rows j)).getD (rows.getD j wrow0).1.toNat ser0).2.length - 1)) ∧
      0 < ((tkH (putsH h rows) (lenR h rows j)).getD (rows.getD j wrow0).1.toNat ser0).2.length := by
  have hd : rows.drop j = rows.getD j wrow0 :: rows.drop (j + 1) := by
    rw [List.getD_eq_getElem?_getD, List.getElem?_eq_getElem hj]
    exact List.drop_eq_getElem_cons hj
  have hm : rows.getD j wrow0 ∈ rows := by
    rw [List.getD_eq_getElem?_getD, List.getElem?_eq_getElem hj]
    exact List.getElem_mem hj
  have hlt := hx _ hm
  refine tkH_pop (by rw [putsH_len]; exact hlt) ?_ (fun i hi => ?_) ?_
  · unfold lenR
    rw [hd, cntI_cons, if_pos rfl]
    omega
  · unfold lenR
    rw [hd, cntI_cons, if_neg (fun e => hi e.symm)]
    omega
  · obtain ⟨_, q, k2, k3⟩ := putsH_get rows h hx (rows.getD j wrow0).1.toNat
    rw [k2, List.length_append, k3]
    unfold lenR
    have := cntI_drop (rows.getD j wrow0).1.toNat j rows
    omega
end Go.Proofs.Ytpcjnagdanmdpaa
