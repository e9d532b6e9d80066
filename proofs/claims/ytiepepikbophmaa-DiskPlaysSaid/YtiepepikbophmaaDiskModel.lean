/- A disk as the document says it, over plain lists: names that rise, files by their numbers, entries that wait. No program in this text. -/
import Derived.Laws.Strings
namespace Go.Proofs.Ytiepepikbophmaa
set_option linter.unusedVariables false

/-! ### The order of names -/
theorem less_irr (a : List UInt8) : Op.bytesLess a a = false := by
  induction a with
  | nil => rfl
  | cons c r ih => simp [Op.bytesLess, ih]
theorem less_trans : ∀ (a b c : List UInt8), Op.bytesLess a b = true → Op.bytesLess b c = true → Op.bytesLess a c = true := by
  intro a
  induction a with
  | nil =>
    intro b c h1 h2
    cases b with
    | nil => simp [Op.bytesLess] at h1
    | cons y b =>
      cases c with
      | nil => simp [Op.bytesLess] at h2
      | cons z c => simp [Op.bytesLess]
  | cons x a ih =>
    intro b c h1 h2
    cases b with
    | nil => simp [Op.bytesLess] at h1
    | cons y b =>
      cases c with
      | nil => simp [Op.bytesLess] at h2
      | cons z c =>
        simp only [Op.bytesLess, Bool.or_eq_true, Bool.and_eq_true, decide_eq_true_eq, beq_iff_eq] at h1 h2 ⊢
        rcases h1 with h1 | ⟨rfl, h1⟩
        · rcases h2 with h2 | ⟨rfl, h2⟩
          · exact .inl (UInt8.lt_trans h1 h2)
          · exact .inl h1
        · rcases h2 with h2 | ⟨rfl, h2⟩
          · exact .inl h2
          · exact .inr ⟨rfl, ih b c h1 h2⟩
theorem less_total : ∀ (a b : List UInt8), Op.bytesLess a b = false → Op.bytesLess b a = false → a = b := by
  intro a
  induction a with
  | nil =>
    intro b h1 h2
    cases b with
    | nil => rfl
    | cons y b => simp [Op.bytesLess] at h1
  | cons x a ih =>
    intro b h1 h2
    cases b with
    | nil => simp [Op.bytesLess] at h2
    | cons y b =>
      simp only [Op.bytesLess, Bool.or_eq_false_iff, Bool.and_eq_false_iff, decide_eq_false_iff_not, beq_eq_false_iff_ne] at h1 h2
      have hxy : x = y := by
        rcases UInt8.lt_or_le x y with h | h
        · exact absurd h h1.1
        · rcases UInt8.lt_or_le y x with h' | h'
          · exact absurd h' h2.1
          · exact UInt8.le_antisymm h' h
      subst hxy
      rcases h1.2 with h | h
      · exact absurd rfl h
      · rcases h2.2 with h' | h'
        · exact absurd rfl h'
        · rw [ih b h h']
theorem less_asym {a b : List UInt8} (h : Op.bytesLess a b = true) : Op.bytesLess b a = false := by
  cases hb : Op.bytesLess b a
  · rfl
  · have := less_trans _ _ _ h hb
    rw [less_irr] at this
    cases this
theorem less_ne {a b : List UInt8} (h : Op.bytesLess a b = true) : a ≠ b := by
  intro e
  subst e
  rw [less_irr] at h
  cases h

/-! ### Directories -/
structure Ent where
  name : List UInt8
  file : Nat
deriving DecidableEq
def Rises (l : List Ent) : Prop := l.Pairwise fun a b => Op.bytesLess a.name b.name = true
def lacking (l : List Ent) (n : List UInt8) : List Ent := l.filter fun x => decide (x.name ≠ n)
def putGo (e : Ent) : Bool → List Ent → List Ent
  | done, [] => if done then [] else [e]
  | done, x :: r => (if !done && Op.bytesLess e.name x.name then [e] else []) ++ (if x.name ≠ e.name then [x] else []) ++ putGo e (done || Op.bytesLess e.name x.name) r
/-- A directory in which a file stands under a name. -/
def put (l : List Ent) (e : Ent) : List Ent := putGo e false l
/-- The file that stands under a name. -/
def whose (l : List Ent) (n : List UInt8) : Option Nat := (l.find? fun x => decide (x.name = n)).map Ent.file

theorem rises_cons {x : Ent} {r : List Ent} (h : Rises (x :: r)) : (∀ y ∈ r, Op.bytesLess x.name y.name = true) ∧ Rises r := List.pairwise_cons.1 h
theorem lacking_rises {l : List Ent} (h : Rises l) (n : List UInt8) : Rises (lacking l n) := List.Pairwise.filter _ h
theorem putGo_done : ∀ (l : List Ent) (e : Ent), (∀ y ∈ l, Op.bytesLess e.name y.name = true) → putGo e true l = l := by
  intro l
  induction l with
  | nil => intro e _; rfl
  | cons x r ih =>
    intro e h
    have hx := h x (by simp)
    unfold putGo
    rw [Bool.true_or, ih e fun y hy => h y (by simp [hy])]
    simp [Ne.symm (less_ne hx)]
theorem put_eq : ∀ (l : List Ent) (e : Ent), Rises l → put l e = (l.filter fun x => Op.bytesLess x.name e.name) ++ e :: l.filter fun x => Op.bytesLess e.name x.name := by
  intro l
  induction l with
  | nil => intro e _; rfl
  | cons x r ih =>
    intro e h
    obtain ⟨h1, h2⟩ := rises_cons h
    have hi := ih e h2
    unfold put at hi ⊢
    unfold putGo
    cases hex : Op.bytesLess e.name x.name
    · rw [Bool.false_or]
      by_cases hn : x.name = e.name
      · rw [hi]
        simp [hn, less_irr]
      · have hxe : Op.bytesLess x.name e.name = true := by
          cases hxe : Op.bytesLess x.name e.name
          · exact absurd (less_total _ _ hxe hex) hn
          · rfl
        rw [hi]
        simp [hn, hxe, hex]
    · have hall : ∀ y ∈ r, Op.bytesLess e.name y.name = true := fun y hy => less_trans _ _ _ hex (h1 y hy)
      have hn : ¬ x.name = e.name := fun e' => less_ne hex e'.symm
      have hno : r.filter (fun y => Op.bytesLess y.name e.name) = [] := by
        rw [List.filter_eq_nil_iff]
        intro y hy
        rw [less_asym (hall y hy)]
        simp
      have hyes : r.filter (fun y => Op.bytesLess e.name y.name) = r := by
        rw [List.filter_eq_self]
        exact hall
      rw [Bool.false_or, putGo_done r e hall, List.filter_cons, List.filter_cons, less_asym hex, hex, hno, hyes]
      simp [hn]
theorem put_rises {l : List Ent} (e : Ent) (h : Rises l) : Rises (put l e) := by
  rw [put_eq l e h]
  unfold Rises
  rw [List.pairwise_append]
  refine ⟨List.Pairwise.filter _ h, ?_, ?_⟩
  · rw [List.pairwise_cons]
    refine ⟨fun y hy => ?_, List.Pairwise.filter _ h⟩
    exact (List.mem_filter.1 hy).2
  · intro x hx y hy
    have h1 := (List.mem_filter.1 hx).2
    rcases List.mem_cons.1 hy with rfl | hy
    · exact h1
    · exact less_trans _ _ _ h1 (List.mem_filter.1 hy).2
theorem mem_put {l : List Ent} (e x : Ent) (h : Rises l) : x ∈ put l e ↔ x = e ∨ x ∈ l ∧ x.name ≠ e.name := by
  rw [put_eq l e h, List.mem_append, List.mem_cons, List.mem_filter, List.mem_filter]
  constructor
  · rintro (⟨h1, h2⟩ | rfl | ⟨h1, h2⟩)
    · exact .inr ⟨h1, less_ne h2⟩
    · exact .inl rfl
    · exact .inr ⟨h1, Ne.symm (less_ne h2)⟩
  · rintro (rfl | ⟨h1, h2⟩)
    · exact .inr (.inl rfl)
    · cases hl : Op.bytesLess x.name e.name
      · cases hr : Op.bytesLess e.name x.name
        · exact absurd (less_total _ _ hl hr) h2
        · exact .inr (.inr ⟨h1, rfl⟩)
      · exact .inl ⟨h1, rfl⟩
theorem mem_lacking {l : List Ent} (n : List UInt8) (x : Ent) : x ∈ lacking l n ↔ x ∈ l ∧ x.name ≠ n := by
  simp [lacking]
theorem whose_some {l : List Ent} {n : List UInt8} {f : Nat} (h : Rises l) : whose l n = some f ↔ (⟨n, f⟩ : Ent) ∈ l := by
  induction l with
  | nil => simp [whose]
  | cons x r ih =>
    obtain ⟨h1, h2⟩ := rises_cons h
    have hi := ih h2
    unfold whose at hi ⊢
    by_cases hx : x.name = n
    · rw [List.find?_cons_of_pos (by simpa using hx)]
      constructor
      · intro e
        simp only [Option.map_some, Option.some.injEq] at e
        subst hx
        subst e
        simp
      · intro hm
        rcases List.mem_cons.1 hm with rfl | hm
        · rfl
        · have := less_ne (h1 _ hm)
          exact absurd hx this
    · rw [List.find?_cons_of_neg (by simpa using hx), hi]
      constructor
      · intro hm
        exact List.mem_cons_of_mem _ hm
      · intro hm
        rcases List.mem_cons.1 hm with rfl | hm
        · exact absurd rfl hx
        · exact hm
theorem whose_none {l : List Ent} {n : List UInt8} (h : Rises l) : whose l n = none ↔ ∀ x ∈ l, x.name ≠ n := by
  constructor
  · intro hn x hx e
    have : whose l n = some x.file := (whose_some h).2 (by rw [← e]; exact hx)
    rw [hn] at this
    cases this
  · intro hall
    cases hw : whose l n with
    | none => rfl
    | some f => exact absurd rfl (hall _ ((whose_some h).1 hw))
theorem whose_put {l : List Ent} (e : Ent) (n : List UInt8) (h : Rises l) : whose (put l e) n = if n = e.name then some e.file else whose l n := by
  by_cases hn : n = e.name
  · rw [if_pos hn, whose_some (put_rises e h), mem_put _ _ h]
    subst hn
    exact .inl rfl
  · rw [if_neg hn]
    cases hw : whose l n with
    | none =>
      rw [whose_none (put_rises e h)]
      intro x hx
      rw [mem_put _ _ h] at hx
      rcases hx with rfl | ⟨hx, _⟩
      · exact Ne.symm hn
      · exact (whose_none h).1 hw x hx
    | some f =>
      rw [whose_some (put_rises e h), mem_put _ _ h]
      exact .inr ⟨(whose_some h).1 hw, hn⟩
theorem whose_lacking {l : List Ent} (m n : List UInt8) (h : Rises l) : whose (lacking l m) n = if n = m then none else whose l n := by
  by_cases hn : n = m
  · rw [if_pos hn, whose_none (lacking_rises h m)]
    intro x hx
    rw [mem_lacking] at hx
    rw [hn]
    exact hx.2
  · rw [if_neg hn]
    cases hw : whose l n with
    | none =>
      rw [whose_none (lacking_rises h m)]
      intro x hx
      rw [mem_lacking] at hx
      exact (whose_none h).1 hw x hx.1
    | some f =>
      rw [whose_some (lacking_rises h m), mem_lacking]
      exact ⟨(whose_some h).1 hw, hn⟩
/-- What stands under each name says the whole directory. -/
theorem rises_ext : ∀ (a b : List Ent), Rises a → Rises b → (∀ n, whose a n = whose b n) → a = b := by
  intro a
  induction a with
  | nil =>
    intro b _ hb h
    cases b with
    | nil => rfl
    | cons y r =>
      have h1 : whose (y :: r) y.name = some y.file := (whose_some hb).2 (by simp)
      rw [← h y.name] at h1
      simp [whose] at h1
  | cons x r ih =>
    intro b ha hb h
    cases b with
    | nil =>
      have h1 : whose (x :: r) x.name = some x.file := (whose_some ha).2 (by simp)
      rw [h x.name] at h1
      simp [whose] at h1
    | cons y t =>
      obtain ⟨a1, a2⟩ := rises_cons ha
      obtain ⟨b1, b2⟩ := rises_cons hb
      have hxy : x = y := by
        have h1 : (⟨x.name, x.file⟩ : Ent) ∈ y :: t := (whose_some hb).1 (by rw [← h]; exact (whose_some ha).2 (by simp))
        have h2 : (⟨y.name, y.file⟩ : Ent) ∈ x :: r := (whose_some ha).1 (by rw [h]; exact (whose_some hb).2 (by simp))
        rcases List.mem_cons.1 h1 with h1 | h1
        · exact h1
        · rcases List.mem_cons.1 h2 with h2 | h2
          · exact h2.symm
          · have l1 := b1 _ h1
            have l2 := a1 _ h2
            rw [less_asym l1] at l2
            cases l2
      subst hxy
      congr 1
      refine ih t a2 b2 fun n => ?_
      by_cases hn : n = x.name
      · have e1 : whose r n = none := (whose_none a2).2 fun z hz => by rw [hn]; exact Ne.symm (less_ne (a1 z hz))
        have e2 : whose t n = none := (whose_none b2).2 fun z hz => by rw [hn]; exact Ne.symm (less_ne (b1 z hz))
        rw [e1, e2]
      · have := h n
        unfold whose at this ⊢
        rw [List.find?_cons_of_neg (by simpa using Ne.symm hn), List.find?_cons_of_neg (by simpa using Ne.symm hn)] at this
        exact this
theorem put_length {l : List Ent} (e : Ent) (h : Rises l) : (put l e).length ≤ l.length + 1 := by
  rw [put_eq l e h, List.length_append, List.length_cons]
  have : (l.filter fun x => Op.bytesLess x.name e.name).length + (l.filter fun x => Op.bytesLess e.name x.name).length ≤ l.length := by
    clear h
    induction l with
    | nil => simp
    | cons x r ih =>
      cases h1 : Op.bytesLess x.name e.name
      · cases h2 : Op.bytesLess e.name x.name
        · rw [List.filter_cons, List.filter_cons, h1, h2]
          simp
          omega
        · rw [List.filter_cons, List.filter_cons, h1, h2]
          simp
          omega
      · rw [List.filter_cons, List.filter_cons, h1, less_asym h1]
        simp
        omega
  omega
end Go.Proofs.Ytiepepikbophmaa
