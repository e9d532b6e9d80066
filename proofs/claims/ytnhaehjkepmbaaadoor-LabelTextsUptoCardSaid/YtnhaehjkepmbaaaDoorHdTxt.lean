/- Two right sets of labels with one text are one set. No program. -/
import Derived.Test.YtnhaehjkepmbaaaDoorLtLotL
namespace Go.Proofs.YtnhaehjkepmbaaaDoor
open Go.RowKit
set_option linter.unusedVariables false
set_option linter.unusedSimpArgs false

theorem hexD_inj {p q : Nat} (hp : p < 16) (hq : q < 16) (h : hexD p = hexD q) : p = q := by
  have h1 := hex_byte p hp
  have h2 := hex_byte q hq
  rw [h, h2] at h1
  split at h1 <;> split at h1 <;> omega
/-- What stands between a value's marks, and what stands behind it, is told apart. -/
theorem escB_cut {c d : UInt8} {A B : List UInt8} (h : escB c ++ A = escB d ++ B) : c = d ∧ A = B := by
  have e34 : (34 : UInt8).toNat = 34 := rfl
  have e92 : (92 : UInt8).toNat = 92 := rfl
  have e120 : (120 : UInt8).toNat = 120 := rfl
  unfold escB at h
  by_cases hc : c.toNat = 34 ∨ c.toNat = 92
  · rw [if_pos hc] at h
    by_cases hd : d.toNat = 34 ∨ d.toNat = 92
    · rw [if_pos hd] at h
      simp only [List.cons_append, List.nil_append, List.cons.injEq, true_and] at h
      exact h
    · rw [if_neg hd] at h
      by_cases hd2 : d.toNat < 32 ∨ 126 < d.toNat
      · rw [if_pos hd2] at h
        simp only [List.cons_append, List.nil_append, List.cons.injEq, true_and] at h
        rw [h.1] at hc
        omega
      · rw [if_neg hd2] at h
        simp only [List.cons_append, List.nil_append, List.cons.injEq, true_and] at h
        rw [← h.1] at hd
        omega
  · rw [if_neg hc] at h
    by_cases hc2 : c.toNat < 32 ∨ 126 < c.toNat
    · rw [if_pos hc2] at h
      by_cases hd : d.toNat = 34 ∨ d.toNat = 92
      · rw [if_pos hd] at h
        simp only [List.cons_append, List.nil_append, List.cons.injEq, true_and] at h
        rw [← h.1] at hd
        omega
      · rw [if_neg hd] at h
        by_cases hd2 : d.toNat < 32 ∨ 126 < d.toNat
        · rw [if_pos hd2] at h
          simp only [List.cons_append, List.nil_append, List.cons.injEq, true_and] at h
          obtain ⟨h1, h2, h3⟩ := h
          have lc := c.toNat_lt
          have ld := d.toNat_lt
          have k1 := hexD_inj (by omega) (by omega) h1
          have k2 := hexD_inj (by omega) (by omega) h2
          refine ⟨UInt8.toNat_inj.1 ?_, h3⟩
          omega
        · rw [if_neg hd2] at h
          simp only [List.cons_append, List.nil_append, List.cons.injEq, true_and] at h
          rw [← h.1] at hd
          omega
    · rw [if_neg hc2] at h
      by_cases hd : d.toNat = 34 ∨ d.toNat = 92
      · rw [if_pos hd] at h
        simp only [List.cons_append, List.nil_append, List.cons.injEq, true_and] at h
        rw [h.1] at hc
        omega
      · rw [if_neg hd] at h
        by_cases hd2 : d.toNat < 32 ∨ 126 < d.toNat
        · rw [if_pos hd2] at h
          simp only [List.cons_append, List.nil_append, List.cons.injEq, true_and] at h
          rw [h.1] at hc
          omega
        · rw [if_neg hd2] at h
          simp only [List.cons_append, List.nil_append, List.cons.injEq, true_and] at h
          exact h
theorem escB_head (c : UInt8) (A B : List UInt8) : escB c ++ A ≠ 34 :: B := by
  intro h
  have e34 : (34 : UInt8).toNat = 34 := rfl
  unfold escB at h
  split at h
  · simp only [List.cons_append, List.cons.injEq] at h
    exact absurd h.1 (by decide)
  · rename_i hc
    split at h
    · simp only [List.cons_append, List.cons.injEq] at h
      exact absurd h.1 (by decide)
    · simp only [List.cons_append, List.cons.injEq] at h
      rw [h.1] at hc
      omega
theorem escL_cut : ∀ {s t : List UInt8} {A B : List UInt8}, escL s ++ 34 :: A = escL t ++ 34 :: B → s = t ∧ A = B := by
  intro s
  induction s with
  | nil =>
    intro t A B h
    cases t with
    | nil =>
      simp only [escL, List.flatMap_nil, List.nil_append, List.cons.injEq, true_and] at h
      exact ⟨rfl, h⟩
    | cons d r =>
      simp only [escL, List.flatMap_nil, List.nil_append, List.flatMap_cons, List.append_assoc] at h
      exact absurd h.symm (escB_head _ _ _)
  | cons c s ih =>
    intro t A B h
    cases t with
    | nil =>
      simp only [escL, List.flatMap_nil, List.nil_append, List.flatMap_cons, List.append_assoc] at h
      exact absurd h (escB_head _ _ _)
    | cons d r =>
      simp only [escL, List.flatMap_cons, List.append_assoc] at h
      obtain ⟨rfl, h2⟩ := escB_cut h
      obtain ⟨rfl, h3⟩ := ih (t := r) h2
      exact ⟨rfl, h3⟩
/-- A name has no mark in it. -/
theorem name_cut : ∀ {s t : List UInt8} {A B : List UInt8}, (∀ c ∈ s, c ≠ 61) → (∀ c ∈ t, c ≠ 61) → s ++ 61 :: A = t ++ 61 :: B → s = t ∧ A = B := by
  intro s
  induction s with
  | nil =>
    intro t A B _ ht h
    cases t with
    | nil => simpa using h
    | cons d r =>
      simp only [List.nil_append, List.cons_append, List.cons.injEq] at h
      exact absurd h.1.symm (ht d (by simp))
  | cons c s ih =>
    intro t A B hs ht h
    cases t with
    | nil =>
      simp only [List.nil_append, List.cons_append, List.cons.injEq] at h
      exact absurd h.1 (hs c (by simp))
    | cons d r =>
      simp only [List.cons_append, List.cons.injEq] at h
      obtain ⟨rfl, h2⟩ := h
      obtain ⟨rfl, h3⟩ := ih (fun x hx => hs x (by simp [hx])) (fun x hx => ht x (by simp [hx])) h2
      exact ⟨rfl, h3⟩
theorem okF_all {s : List UInt8} : ∀ (n k : Nat), okF s n k = true → ∀ i, k ≤ i → i < k + n → okB (s.getD i 0) i = true := by
  intro n
  induction n with
  | zero => intro k _ i h1 h2; omega
  | succ n ih =>
    intro k h i h1 h2
    unfold okF at h
    split at h
    · rename_i hk
      rcases Nat.eq_or_lt_of_le h1 with rfl | h1
      · exact hk
      · exact ih (k + 1) h i h1 (by omega)
    · cases h
theorem okB_ne {c : UInt8} {k : Nat} (h : okB c k = true) : c ≠ 61 ∧ c ≠ 125 := by
  refine ⟨?_, ?_⟩ <;> (rintro rfl; revert h; simp [okB, letterB, digitB])
theorem name_bytes {s : List UInt8} (h : nameB s = true) : ∀ c ∈ s, c ≠ 61 ∧ c ≠ 125 := by
  intro c hc
  unfold nameB at h
  simp only [Bool.and_eq_true] at h
  obtain ⟨i, hi, rfl⟩ := List.getElem_of_mem hc
  have := okF_all s.length 0 h.2 i (Nat.zero_le _) (by omega)
  rw [getD_in _ 0 hi] at this
  exact okB_ne this
/-- The rest of a set's text, from a label on that is not the first one. -/
def remT : List Lbl → List UInt8
  | [] => [125]
  | x :: r => [44, 32] ++ lblT x ++ remT r
theorem lblsT_rest (l : List Lbl) : ∀ d k, k + d = l.length → 0 < k → lblsT l l.length ++ [125] = lblsT l k ++ remT (l.drop k) := by
  intro d
  induction d with
  | zero =>
    intro k hk _
    obtain rfl : k = l.length := by omega
    rw [List.drop_length]
    rfl
  | succ d ih =>
    intro k hk h0
    rw [ih (k + 1) (by omega) (by omega), lblsT, if_pos h0]
    have : l.drop k = l.getD k lbl0 :: l.drop (k + 1) := by
      rw [List.getD_eq_getElem?_getD, List.getElem?_eq_getElem (by omega)]
      exact List.drop_eq_getElem_cons (by omega)
    rw [this]
    simp only [remT, List.append_assoc]
theorem printL_front (l : List Lbl) : printL l = 123 :: (match l with | [] => [125] | x :: r => lblT x ++ remT r) := by
  cases l with
  | nil => rfl
  | cons x r =>
    unfold printL
    rw [List.append_assoc, lblsT_rest (x :: r) r.length 1 (by simp; omega) (by omega)]
    simp [lblsT]
theorem strL_inj {a b : ByteArray} (h : strL a = strL b) : a = b := by
  unfold strL at h
  cases a; cases b
  simp only [ByteArray.mk.injEq]
  exact Array.ext' h
theorem lblT_cut {x y : Lbl} {A B : List UInt8} (hx : nameB (strL x.1) = true) (hy : nameB (strL y.1) = true) (h : lblT x ++ A = lblT y ++ B) : x = y ∧ A = B := by
  unfold lblT at h
  simp only [List.append_assoc, List.cons_append, List.nil_append] at h
  obtain ⟨h1, h2⟩ := name_cut (fun c hc => (name_bytes hx c hc).1) (fun c hc => (name_bytes hy c hc).1) h
  simp only [List.cons.injEq, true_and] at h2
  obtain ⟨h3, h4⟩ := escL_cut h2
  exact ⟨Prod.ext (strL_inj h1) (strL_inj h3), h4⟩
theorem remT_inj : ∀ {l m : List Lbl}, (∀ x ∈ l, nameB (strL x.1) = true) → (∀ x ∈ m, nameB (strL x.1) = true) → remT l = remT m → l = m := by
  intro l
  induction l with
  | nil =>
    intro m _ _ h
    cases m with
    | nil => rfl
    | cons y s => simp [remT] at h
  | cons x r ih =>
    intro m hl hm h
    cases m with
    | nil => simp [remT] at h
    | cons y s =>
      simp only [remT, List.append_assoc, List.append_cancel_left_eq] at h
      obtain ⟨rfl, h2⟩ := lblT_cut (hl x (by simp)) (hm y (by simp)) h
      rw [ih (fun z hz => hl z (by simp [hz])) (fun z hz => hm z (by simp [hz])) h2]
theorem lblT_ne {x : Lbl} {A B : List UInt8} (hx : nameB (strL x.1) = true) : lblT x ++ A ≠ 125 :: B := by
  intro h
  unfold lblT at h
  simp only [List.append_assoc, List.cons_append, List.nil_append] at h
  cases hs : strL x.1 with
  | nil => rw [hs] at h; simp at h
  | cons c r =>
    rw [hs, List.cons_append, List.cons.injEq] at h
    exact (name_bytes hx c (by rw [hs]; simp)).2 h.1
theorem printL_names {l m : List Lbl} (hl : ∀ x ∈ l, nameB (strL x.1) = true) (hm : ∀ x ∈ m, nameB (strL x.1) = true) (h : printL l = printL m) : l = m := by
  rw [printL_front, printL_front] at h
  simp only [List.cons.injEq, true_and] at h
  cases l with
  | nil =>
    cases m with
    | nil => rfl
    | cons y s => exact absurd h.symm (lblT_ne (hm y (by simp)))
  | cons x r =>
    cases m with
    | nil => exact absurd h (lblT_ne (hl x (by simp)))
    | cons y s =>
      obtain ⟨rfl, h2⟩ := lblT_cut (hl x (by simp)) (hm y (by simp)) h
      rw [remT_inj (fun z hz => hl z (by simp [hz])) (fun z hz => hm z (by simp [hz])) h2]
theorem right_names {l : List Lbl} (h : lbChk l = 0) : ∀ x ∈ l, nameB (strL x.1) = true := by
  intro x hx
  obtain ⟨i, hi, rfl⟩ := List.getElem_of_mem hx
  have := (lbErrAt_zero.1 ((lbChk_ok.1 h).2 i hi)).1
  unfold nmOf at this
  rw [getD_in _ lbl0 hi] at this
  exact this
/-- A right set's text is short. -/
theorem right_cost {l : List Lbl} (h : lbChk l = 0) : costT l l.length ≤ 3000 := by
  obtain ⟨h8, he⟩ := lbChk_ok.1 h
  have key : ∀ k, k ≤ l.length → costT l k ≤ 1 + k * 300 := by
    intro k
    induction k with
    | zero => intro _; simp [costT]
    | succ k ih =>
      intro hk
      have h1 := ih (by omega)
      obtain ⟨e1, _, e3, _⟩ := lbErrAt_zero.1 (he k (by omega))
      have e4 : (nmOf l k).size ≤ 32 := by
        unfold nameB at e1
        simp only [Bool.and_eq_true, decide_eq_true_eq, strL_length] at e1
        exact e1.1.2
      rw [costT]
      omega
  have := key l.length (Nat.le_refl _)
  omega
theorem right_txt {l : List Lbl} (h : lbChk l = 0) : (printL l).length ≤ 3002 := by
  have h1 := lblsT_len l l.length
  have h2 := right_cost h
  unfold printL
  simp only [List.length_append, List.length_cons, List.length_nil]
  omega
theorem printL_inj {l m : List Lbl} (hl : lbChk l = 0) (hm : lbChk m = 0) (h : printL l = printL m) : l = m := printL_names (right_names hl) (right_names hm) h
end Go.Proofs.YtnhaehjkepmbaaaDoor
