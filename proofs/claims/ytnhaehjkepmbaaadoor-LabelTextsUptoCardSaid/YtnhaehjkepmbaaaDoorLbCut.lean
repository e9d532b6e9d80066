/- The text of a right set, label by label, from the left: where its parts are cut. No program. -/
import Derived.Test.YtnhaehjkepmbaaaDoorLtLotL
import Derived.Lib.IndexMore
namespace Go.Proofs.YtnhaehjkepmbaaaDoor
open Go.RowKit
set_option linter.unusedVariables false

/-- The text of labels behind the opening brace. -/
def restL : List Lbl → List UInt8
  | [] => [125]
  | x :: r => lblT x ++ (match r with | [] => [125] | y :: r' => [44, 32] ++ restL (y :: r'))
/-- What stands behind a label. -/
def sepL : List Lbl → List UInt8
  | [] => [125]
  | y :: r => [44, 32] ++ restL (y :: r)
theorem restL_cons (x : Lbl) (r : List Lbl) : restL (x :: r) = lblT x ++ sepL r := by
  cases r <;> rfl
theorem sepL_drop (l : List Lbl) {k : Nat} (h : k < l.length) : sepL (l.drop k) = [44, 32] ++ (lblT (l.getD k lbl0) ++ sepL (l.drop (k + 1))) := by
  rw [List.drop_eq_getElem_cons h]
  show [44, 32] ++ restL (l[k] :: l.drop (k + 1)) = _
  rw [restL_cons, List.getD_eq_getElem?_getD, List.getElem?_eq_getElem h]
  rfl
theorem lbls_rest (l : List Lbl) : ∀ k, 0 < k → k ≤ l.length → lblsT l k ++ sepL (l.drop k) = restL l := by
  intro k
  induction k with
  | zero => intro h; omega
  | succ k ih =>
    intro _ hk
    rw [lblsT]
    rcases Nat.eq_zero_or_pos k with h0 | h0
    · subst h0
      cases l with
      | nil => simp at hk
      | cons x r =>
        rw [restL_cons]
        rfl
    · rw [if_pos h0, ← ih h0 (by omega), sepL_drop l (k := k) (by omega)]
      simp only [List.append_assoc]
theorem print_rest (l : List Lbl) : printL l = 123 :: restL l := by
  unfold printL
  cases l with
  | nil => rfl
  | cons x r =>
    have := lbls_rest (x :: r) (x :: r).length (by simp) (Nat.le_refl _)
    rw [List.drop_of_length_le (Nat.le_refl _)] at this
    rw [← this]
    simp [sepL]
theorem index_mark (n X : List UInt8) (h : ∀ c ∈ n, c ≠ 61) : Lib.index (n ++ 61 :: 34 :: X) [61, 34] = (n.length : Int) := by
  induction n with
  | nil => simp [Lib.index]
  | cons b r ih =>
    have h1 := ih fun c hc => h c (List.mem_cons_of_mem _ hc)
    have h2 : b ≠ 61 := h b (by simp)
    rw [List.cons_append, Lib.index, h1]
    have h3 : ([61, 34] : List UInt8).isPrefixOf (b :: (r ++ 61 :: 34 :: X)) = false := by
      simp [List.isPrefixOf]
      intro e
      exact absurd e.symm h2
    rw [h3]
    simp
theorem cut_mark (n X : List UInt8) (h : ∀ c ∈ n, c ≠ 61) : Lib.cut (n ++ 61 :: 34 :: X) [61, 34] = (n, X, true) := by
  unfold Lib.cut
  rw [index_mark n X h, if_pos (by omega)]
  simp
theorem cut_end : Lib.cut [125] [61, 34] = ([125], [], false) := by decide
theorem trim_front (l : List Lbl) : Lib.trimPrefix (printL l) [123] = restL l := by
  rw [print_rest]
  rfl
theorem trim_sep (r : List Lbl) : Lib.trimPrefix (sepL r) [44, 32] = restL r := by
  cases r <;> rfl
theorem name_no_mark {s : List UInt8} (h : nameB s = true) : ∀ c ∈ s, c ≠ 61 := by
  intro c hc e
  subst e
  unfold nameB at h
  simp only [Bool.and_eq_true] at h
  obtain ⟨i, hi, e⟩ := List.mem_iff_getElem.1 hc
  have key : ∀ n k, okF s n k = true → ∀ j, j < n → okB (s.getD (k + j) 0) (k + j) = true := by
    intro n
    induction n with
    | zero => intro k _ j hj; omega
    | succ n ih =>
      intro k hk j hj
      rw [okF] at hk
      by_cases h0 : okB (s.getD k 0) k = true
      · rw [if_pos h0] at hk
        cases j with
        | zero => exact h0
        | succ j => have := ih (k + 1) hk j (by omega); rwa [show k + (j + 1) = k + 1 + j from by omega]
      · rw [if_neg h0] at hk; cases hk
  have h1 := key s.length 0 h.2 i hi
  rw [Nat.zero_add, getD_in s 0 hi, e] at h1
  unfold okB letterB digitB at h1
  revert h1
  simp
end Go.Proofs.YtnhaehjkepmbaaaDoor
