/- Plain mathematics of layer 9: rising lists of numbers, held together as sets; as bytes. No program in sight. -/
import Derived.Test.YtgdmcnoogacdaaaGreatDoorBlLotD
namespace Go.Proofs.YtgdmcnoogacdaaaGreatDoor
set_option linter.unusedVariables false

/-- What is told of numbers that stand behind a number: 0, or the error of the first one that is wrong. -/
def pchkF : Int → List Int → Int
  | _, [] => 0
  | last, n :: r => if n < 0 ∨ 1099511627776 < n then 2 else if n ≤ last then 13 else pchkF n r
def pchk (l : List Int) : Int := if 1024 < l.length then 3 else pchkF (-1) l
/-- Numbers that rise above a number, and not above the highest one. -/
def Up : Int → List Int → Prop
  | _, [] => True
  | last, n :: r => last < n ∧ n ≤ 1099511627776 ∧ Up n r
theorem Up.lower {l : List Int} {p q : Int} (h : Up p l) (hq : q ≤ p) : Up q l := by
  cases l with
  | nil => trivial
  | cons n r => exact ⟨Int.lt_of_le_of_lt hq h.1, h.2⟩
theorem Up.mem {l : List Int} : ∀ {p : Int}, Up p l → ∀ n, n ∈ l → p < n ∧ n ≤ 1099511627776 := by
  induction l with
  | nil => intro p _ n hn; cases hn
  | cons x r ih =>
    intro p h n hn
    rcases List.mem_cons.1 hn with rfl | hn
    · exact ⟨h.1, h.2.1⟩
    · have := ih h.2.2 n hn
      exact ⟨Int.lt_trans h.1 this.1, this.2⟩
theorem pchkF_zero (l : List Int) : ∀ p : Int, -1 ≤ p → (pchkF p l = 0 ↔ Up p l) := by
  induction l with
  | nil => intro p _; simp [pchkF, Up]
  | cons n r ih =>
    intro p hp
    rw [pchkF, Up]
    by_cases h1 : n < 0 ∨ 1099511627776 < n
    · rw [if_pos h1]
      exact ⟨fun h => absurd h (by decide), fun h => by omega⟩
    · rw [if_neg h1]
      by_cases h2 : n ≤ p
      · rw [if_pos h2]
        exact ⟨fun h => absurd h (by decide), fun h => by omega⟩
      · rw [if_neg h2, ih n (by omega)]
        exact ⟨fun h => ⟨by omega, by omega, h⟩, fun h => h.2.2⟩
theorem pchk_zero {l : List Int} : pchk l = 0 ↔ l.length ≤ 1024 ∧ Up (-1) l := by
  unfold pchk
  by_cases h : 1024 < l.length
  · rw [if_pos h]
    exact ⟨fun h => absurd h (by decide), fun h => by omega⟩
  · rw [if_neg h, pchkF_zero l (-1) (by omega)]
    exact ⟨fun k => ⟨by omega, k⟩, fun k => k.2⟩
/-- The number ahead of a place. -/
def ahead (l : List Int) (k : Nat) : Int := if k = 0 then -1 else l.getD (k - 1) 0
theorem ahead_succ (l : List Int) (k : Nat) : ahead l (k + 1) = l.getD k 0 := by simp [ahead]
theorem drop_cons (l : List Int) {k : Nat} (h : k < l.length) : l.drop k = l.getD k 0 :: l.drop (k + 1) := by
  rw [List.drop_eq_getElem_cons h, getD_in l 0 h]
theorem pchk_end (l : List Int) : pchkF (ahead l l.length) (l.drop l.length) = 0 := by simp [pchkF]
theorem pchk_arg (l : List Int) {k : Nat} (h : k < l.length) (hn : l.getD k 0 < 0 ∨ 1099511627776 < l.getD k 0) : pchkF (ahead l k) (l.drop k) = 2 := by
  rw [drop_cons l h, pchkF, if_pos hn]
theorem pchk_order (l : List Int) {k : Nat} (h : k < l.length) (hn : ¬ (l.getD k 0 < 0 ∨ 1099511627776 < l.getD k 0)) (hk : k ≠ 0) (ho : l.getD k 0 ≤ l.getD (k - 1) 0) : pchkF (ahead l k) (l.drop k) = 13 := by
  rw [drop_cons l h, pchkF, if_neg hn, ahead, if_neg hk, if_pos ho]
theorem pchk_next (l : List Int) {k : Nat} (h : k < l.length) (hn : ¬ (l.getD k 0 < 0 ∨ 1099511627776 < l.getD k 0)) (ho : k = 0 ∨ l.getD (k - 1) 0 < l.getD k 0) : pchkF (ahead l k) (l.drop k) = pchkF (ahead l (k + 1)) (l.drop (k + 1)) := by
  rw [drop_cons l h, pchkF, if_neg hn, ahead_succ, if_neg]
  unfold ahead
  split
  · omega
  · rcases ho with h0 | h0 <;> omega

/-- Two lists of the same numbers that rise are one. -/
theorem up_ext : ∀ {l m : List Int} {p q : Int}, Up p l → Up q m → (∀ n, n ∈ l ↔ n ∈ m) → l = m := by
  intro l
  induction l with
  | nil =>
    intro m p q _ _ h
    cases m with
    | nil => rfl
    | cons y m => exact absurd ((h y).2 (by simp)) (by simp)
  | cons x l ih =>
    intro m p q hl hm h
    cases m with
    | nil => exact absurd ((h x).1 (by simp)) (by simp)
    | cons y m =>
      have e : x = y := by
        rcases List.mem_cons.1 ((h x).1 (by simp)) with h1 | h1
        · exact h1
        · have a1 := (hm.2.2.mem x h1).1
          rcases List.mem_cons.1 ((h y).2 (by simp)) with h2 | h2
          · exact h2.symm
          · have a2 := (hl.2.2.mem y h2).1
            omega
      subst e
      rw [ih hl.2.2 hm.2.2]
      intro n
      constructor
      · intro hn
        have a1 := (hl.2.2.mem n hn).1
        rcases List.mem_cons.1 ((h n).1 (List.mem_cons_of_mem _ hn)) with h2 | h2
        · omega
        · exact h2
      · intro hn
        have a1 := (hm.2.2.mem n hn).1
        rcases List.mem_cons.1 ((h n).2 (List.mem_cons_of_mem _ hn)) with h2 | h2
        · omega
        · exact h2

/-- Two lists that are gone along, and whom to keep. -/
def keepIf (b : Bool) (n : Int) : List Int := if b = true then [n] else []
def mergeF (st : Bool → Bool → Bool) : List Int → List Int → List Int
  | [], [] => []
  | [], y :: b => keepIf (st false true) y ++ mergeF st [] b
  | x :: a, [] => keepIf (st true false) x ++ mergeF st a []
  | x :: a, y :: b => if x < y then keepIf (st true false) x ++ mergeF st a (y :: b) else if y < x then keepIf (st false true) y ++ mergeF st (x :: a) b else keepIf (st true true) x ++ mergeF st a b
termination_by a b => a.length + b.length
theorem keepIf_len (b : Bool) (n : Int) : (keepIf b n).length ≤ 1 := by unfold keepIf; split <;> simp
theorem mem_keepIf (b : Bool) (n m : Int) : m ∈ keepIf b n ↔ m = n ∧ b = true := by
  unfold keepIf
  split
  · rename_i h; simp [h]
  · rename_i h; simp [h]
theorem merge_nil (st : Bool → Bool → Bool) : mergeF st [] [] = [] := by rw [mergeF]
theorem merge_r (st : Bool → Bool → Bool) (y : Int) (b : List Int) : mergeF st [] (y :: b) = keepIf (st false true) y ++ mergeF st [] b := by rw [mergeF]
theorem merge_l (st : Bool → Bool → Bool) (x : Int) (a : List Int) : mergeF st (x :: a) [] = keepIf (st true false) x ++ mergeF st a [] := by rw [mergeF]
theorem merge_lt (st : Bool → Bool → Bool) {x y : Int} (a b : List Int) (h : x < y) : mergeF st (x :: a) (y :: b) = keepIf (st true false) x ++ mergeF st a (y :: b) := by rw [mergeF, if_pos h]
theorem merge_gt (st : Bool → Bool → Bool) {x y : Int} (a b : List Int) (h : y < x) : mergeF st (x :: a) (y :: b) = keepIf (st false true) y ++ mergeF st (x :: a) b := by rw [mergeF, if_neg (by omega), if_pos h]
theorem merge_eq (st : Bool → Bool → Bool) (x : Int) (a b : List Int) : mergeF st (x :: a) (x :: b) = keepIf (st true true) x ++ mergeF st a b := by rw [mergeF, if_neg (by omega), if_neg (by omega)]
theorem merge_len (st : Bool → Bool → Bool) : ∀ (k : Nat) (a b : List Int), a.length + b.length ≤ k → (mergeF st a b).length ≤ a.length + b.length := by
  intro k
  induction k with
  | zero =>
    intro a b h
    obtain rfl := List.eq_nil_of_length_eq_zero (l := a) (by omega)
    obtain rfl := List.eq_nil_of_length_eq_zero (l := b) (by omega)
    simp [merge_nil]
  | succ k ih =>
    intro a b h
    rcases a with _ | ⟨x, a⟩ <;> rcases b with _ | ⟨y, b⟩
    · simp [merge_nil]
    · rw [merge_r, List.length_append]
      have := ih [] b (by simp at h ⊢; omega)
      have := keepIf_len (st false true) y
      simp at *
      omega
    · rw [merge_l, List.length_append]
      have := ih a [] (by simp at h ⊢; omega)
      have := keepIf_len (st true false) x
      simp at *
      omega
    · rcases Int.lt_or_le x y with hxy | hxy
      · rw [merge_lt st a b hxy, List.length_append]
        have := ih a (y :: b) (by simp at h ⊢; omega)
        have := keepIf_len (st true false) x
        simp at *
        omega
      · rcases Int.lt_or_le y x with hyx | hyx
        · rw [merge_gt st a b hyx, List.length_append]
          have := ih (x :: a) b (by simp at h ⊢; omega)
          have := keepIf_len (st false true) y
          simp at *
          omega
        · obtain rfl : x = y := by omega
          rw [merge_eq, List.length_append]
          have := ih a b (by simp at h ⊢; omega)
          have := keepIf_len (st true true) x
          simp at *
          omega
theorem up_keep {b : Bool} {p n : Int} {l : List Int} (h1 : p < n) (h2 : n ≤ 1099511627776) (h : Up n l) : Up p (keepIf b n ++ l) := by
  unfold keepIf
  split
  · exact ⟨h1, h2, h⟩
  · exact h.lower (by omega)
/-- What stays rises, and is just what is to stay. -/
theorem merge_up (st : Bool → Bool → Bool) : ∀ (k : Nat) (a b : List Int) (p : Int), a.length + b.length ≤ k → Up p a → Up p b → Up p (mergeF st a b) := by
  intro k
  induction k with
  | zero =>
    intro a b p h _ _
    obtain rfl := List.eq_nil_of_length_eq_zero (l := a) (by omega)
    obtain rfl := List.eq_nil_of_length_eq_zero (l := b) (by omega)
    rw [merge_nil]
    trivial
  | succ k ih =>
    intro a b p h ha hb
    rcases a with _ | ⟨x, a⟩ <;> rcases b with _ | ⟨y, b⟩
    · rw [merge_nil]; trivial
    · rw [merge_r]
      exact up_keep hb.1 hb.2.1 (ih [] b y (by simp at h ⊢; omega) trivial hb.2.2)
    · rw [merge_l]
      exact up_keep ha.1 ha.2.1 (ih a [] x (by simp at h ⊢; omega) ha.2.2 trivial)
    · rcases Int.lt_or_le x y with hxy | hxy
      · rw [merge_lt st a b hxy]
        exact up_keep ha.1 ha.2.1 (ih a (y :: b) x (by simp at h ⊢; omega) ha.2.2 ⟨hxy, hb.2⟩)
      · rcases Int.lt_or_le y x with hyx | hyx
        · rw [merge_gt st a b hyx]
          exact up_keep hb.1 hb.2.1 (ih (x :: a) b y (by simp at h ⊢; omega) ⟨hyx, ha.2⟩ hb.2.2)
        · obtain rfl : x = y := by omega
          rw [merge_eq]
          exact up_keep ha.1 ha.2.1 (ih a b x (by simp at h ⊢; omega) ha.2.2 hb.2.2)
theorem notin_up {n p : Int} {l : List Int} (h : Up p l) (hn : n ≤ p) : n ∉ l := fun hm => by have := (h.mem n hm).1; omega
theorem dec_cons {n x : Int} (h : n ≠ x) (l : List Int) : decide (n ∈ x :: l) = decide (n ∈ l) := by simp [h]
theorem merge_mem (st : Bool → Bool → Bool) : ∀ (k : Nat) (a b : List Int) (p : Int), a.length + b.length ≤ k → Up p a → Up p b →
    ∀ n, n ∈ mergeF st a b ↔ (n ∈ a ∨ n ∈ b) ∧ st (decide (n ∈ a)) (decide (n ∈ b)) = true := by
  intro k
  induction k with
  | zero =>
    intro a b p h _ _ n
    obtain rfl := List.eq_nil_of_length_eq_zero (l := a) (by omega)
    obtain rfl := List.eq_nil_of_length_eq_zero (l := b) (by omega)
    simp [merge_nil]
  | succ k ih =>
    intro a b p h ha hb n
    rcases a with _ | ⟨x, a⟩ <;> rcases b with _ | ⟨y, b⟩
    · simp [merge_nil]
    · rw [merge_r, List.mem_append, mem_keepIf, ih [] b y (by simp at h ⊢; omega) trivial hb.2.2]
      by_cases e : n = y
      · subst e
        have := notin_up hb.2.2 (Int.le_refl n)
        simp [this]
      · rw [dec_cons e]; simp [e]
    · rw [merge_l, List.mem_append, mem_keepIf, ih a [] x (by simp at h ⊢; omega) ha.2.2 trivial]
      by_cases e : n = x
      · subst e
        have := notin_up ha.2.2 (Int.le_refl n)
        simp [this]
      · rw [dec_cons e]; simp [e]
    · rcases Int.lt_or_le x y with hxy | hxy
      · rw [merge_lt st a b hxy, List.mem_append, mem_keepIf, ih a (y :: b) x (by simp at h ⊢; omega) ha.2.2 ⟨hxy, hb.2⟩]
        by_cases e : n = x
        · subst e
          have h1 := notin_up ha.2.2 (Int.le_refl n)
          have h2 : n ∉ y :: b := notin_up (l := y :: b) (p := n) ⟨hxy, hb.2⟩ (Int.le_refl n)
          simp [h1]
          simp at h2
          simp [h2]
        · rw [dec_cons e a]; simp [e]
      · rcases Int.lt_or_le y x with hyx | hyx
        · rw [merge_gt st a b hyx, List.mem_append, mem_keepIf, ih (x :: a) b y (by simp at h ⊢; omega) ⟨hyx, ha.2⟩ hb.2.2]
          by_cases e : n = y
          · subst e
            have h1 := notin_up hb.2.2 (Int.le_refl n)
            have h2 : n ∉ x :: a := notin_up (l := x :: a) (p := n) ⟨hyx, ha.2⟩ (Int.le_refl n)
            simp at h2
            simp [h1, h2]
          · rw [dec_cons e b]; simp [e]
        · obtain rfl : x = y := by omega
          rw [merge_eq, List.mem_append, mem_keepIf, ih a b x (by simp at h ⊢; omega) ha.2.2 hb.2.2]
          by_cases e : n = x
          · subst e
            have h1 := notin_up ha.2.2 (Int.le_refl n)
            have h2 := notin_up hb.2.2 (Int.le_refl n)
            simp [h1, h2]
          · rw [dec_cons e a, dec_cons e b]; simp [e]

/-- The three of the document. -/
def bothL (a b : List Int) : List Int := mergeF (fun p q => p && q) a b
def eitherL (a b : List Int) : List Int := mergeF (fun p q => p || q) a b
def lessL (a b : List Int) : List Int := mergeF (fun p q => p && !q) a b
theorem merge_up' {st : Bool → Bool → Bool} {a b : List Int} {p : Int} (ha : Up p a) (hb : Up p b) : Up p (mergeF st a b) := merge_up st _ a b p (Nat.le_refl _) ha hb
theorem both_mem {a b : List Int} {p : Int} (ha : Up p a) (hb : Up p b) (n : Int) : n ∈ bothL a b ↔ n ∈ a ∧ n ∈ b := by
  unfold bothL
  rw [merge_mem _ _ a b p (Nat.le_refl _) ha hb]
  simp
  intro h1 h2
  exact .inl h1
theorem either_mem {a b : List Int} {p : Int} (ha : Up p a) (hb : Up p b) (n : Int) : n ∈ eitherL a b ↔ n ∈ a ∨ n ∈ b := by
  unfold eitherL
  rw [merge_mem _ _ a b p (Nat.le_refl _) ha hb]
  simp
theorem less_mem {a b : List Int} {p : Int} (ha : Up p a) (hb : Up p b) (n : Int) : n ∈ lessL a b ↔ n ∈ a ∧ n ∉ b := by
  unfold lessL
  rw [merge_mem _ _ a b p (Nat.le_refl _) ha hb]
  simp
  intro h1 h2
  exact .inl h1
theorem up_filter (f : Int → Bool) : ∀ {l : List Int} {p : Int}, Up p l → Up p (l.filter f) := by
  intro l
  induction l with
  | nil => intro p h; exact h
  | cons x l ih =>
    intro p h
    rw [List.filter_cons]
    split
    · exact ⟨h.1, h.2.1, ih h.2.2⟩
    · exact (ih h.2.2).lower (by have := h.1; omega)
/-- Those of a list that are in another one, or are not. -/
def pickL (a b : List Int) (s : Bool) : List Int := a.filter fun n => decide (n ∈ b) == s
theorem both_pick {a b : List Int} {p : Int} (ha : Up p a) (hb : Up p b) : bothL a b = pickL a b true := by
  refine up_ext (p := p) (q := p) (merge_up' ha hb) (up_filter _ ha) fun n => ?_
  rw [both_mem ha hb]
  simp [pickL]
theorem less_pick {a b : List Int} {p : Int} (ha : Up p a) (hb : Up p b) : lessL a b = pickL a b false := by
  refine up_ext (p := p) (q := p) (merge_up' ha hb) (up_filter _ ha) fun n => ?_
  rw [less_mem ha hb]
  simp [pickL]
/-- Two lists laid into one another, as the document's answer does it. -/
def layF : List Int → List Int → List Int
  | [], r => r
  | x :: a, [] => x :: layF a []
  | x :: a, y :: r => if y < x then y :: layF (x :: a) r else x :: layF a (y :: r)
termination_by a b => a.length + b.length
theorem lay_nil (r : List Int) : layF [] r = r := by rw [layF]
theorem lay_end (x : Int) (a : List Int) : layF (x :: a) [] = x :: layF a [] := by rw [layF]
theorem lay_lt {x y : Int} (a r : List Int) (h : y < x) : layF (x :: a) (y :: r) = y :: layF (x :: a) r := by rw [layF, if_pos h]
theorem lay_ge {x y : Int} (a r : List Int) (h : ¬ y < x) : layF (x :: a) (y :: r) = x :: layF a (y :: r) := by rw [layF, if_neg h]
theorem lay_merge : ∀ (k : Nat) (a r : List Int), a.length + r.length ≤ k → (∀ n, n ∈ a → n ∉ r) → layF a r = eitherL a r := by
  intro k
  induction k with
  | zero =>
    intro a r h _
    obtain rfl := List.eq_nil_of_length_eq_zero (l := a) (by omega)
    obtain rfl := List.eq_nil_of_length_eq_zero (l := r) (by omega)
    rw [lay_nil, eitherL, merge_nil]
  | succ k ih =>
    intro a r h hd
    rcases a with _ | ⟨x, a⟩ <;> rcases r with _ | ⟨y, r⟩
    · rw [lay_nil, eitherL, merge_nil]
    · rw [eitherL, merge_r]
      have := ih [] r (by simp at h ⊢; omega) (fun n hn => by cases hn)
      rw [lay_nil, eitherL] at this
      rw [← this, lay_nil]
      simp [keepIf]
    · rw [lay_end, eitherL, merge_l, ih a [] (by simp at h ⊢; omega) (fun n _ => by simp)]
      simp [keepIf, eitherL]
    · have hxy : x ≠ y := fun e => hd x (by simp) (by simp [e])
      by_cases h1 : y < x
      · rw [lay_lt a r h1, eitherL, merge_gt _ a r h1, ih (x :: a) r (by simp at h ⊢; omega) (fun n hn hr => hd n hn (List.mem_cons_of_mem _ hr))]
        simp [keepIf, eitherL]
      · rw [lay_ge a r h1, eitherL, merge_lt _ a r (by omega), ih a (y :: r) (by simp at h ⊢; omega) (fun n hn => hd n (List.mem_cons_of_mem _ hn))]
        simp [keepIf, eitherL]
theorem either_lay {a b : List Int} {p : Int} (ha : Up p a) (hb : Up p b) : eitherL a b = layF a (pickL b a false) := by
  have hf : Up p (pickL b a false) := up_filter _ hb
  rw [lay_merge _ a (pickL b a false) (Nat.le_refl _) (fun n hn => by simp [pickL, hn])]
  refine up_ext (p := p) (q := p) (merge_up' ha hb) (merge_up' ha hf) fun n => ?_
  show n ∈ eitherL a b ↔ n ∈ eitherL a _
  rw [either_mem ha hb, either_mem ha hf]
  by_cases hn : n ∈ a <;> simp [pickL, hn]
theorem both_turn {a b : List Int} {p : Int} (ha : Up p a) (hb : Up p b) : bothL a b = bothL b a :=
  up_ext (p := p) (q := p) (merge_up' ha hb) (merge_up' hb ha) fun n => by rw [both_mem ha hb, both_mem hb ha]; exact And.comm
theorem either_turn {a b : List Int} {p : Int} (ha : Up p a) (hb : Up p b) : eitherL a b = eitherL b a :=
  up_ext (p := p) (q := p) (merge_up' ha hb) (merge_up' hb ha) fun n => by rw [either_mem ha hb, either_mem hb ha]; exact Or.comm
theorem parts_whole {a b : List Int} {p : Int} (ha : Up p a) (hb : Up p b) : eitherL (bothL a b) (lessL a b) = a := by
  have h1 : Up p (bothL a b) := merge_up' ha hb
  have h2 : Up p (lessL a b) := merge_up' ha hb
  refine up_ext (p := p) (q := p) (merge_up' h1 h2) ha fun n => ?_
  show n ∈ eitherL _ _ ↔ _
  rw [either_mem h1 h2, both_mem ha hb, less_mem ha hb]
  by_cases hn : n ∈ b <;> simp [hn]
theorem pick_len (a b : List Int) (s : Bool) : (pickL a b s).length ≤ a.length := List.length_filter_le _ _
theorem both_len {a b : List Int} {p : Int} (ha : Up p a) (hb : Up p b) : (bothL a b).length ≤ a.length := by rw [both_pick ha hb]; exact pick_len _ _ _
theorem less_len {a b : List Int} {p : Int} (ha : Up p a) (hb : Up p b) : (lessL a b).length ≤ a.length := by rw [less_pick ha hb]; exact pick_len _ _ _
theorem pchk_both {a b : List Int} (ha : pchk a = 0) (hb : pchk b = 0) : pchk (bothL a b) = 0 := by
  obtain ⟨h1, h2⟩ := pchk_zero.1 ha
  obtain ⟨h3, h4⟩ := pchk_zero.1 hb
  exact pchk_zero.2 ⟨Nat.le_trans (both_len h2 h4) h1, merge_up' h2 h4⟩
theorem pchk_less {a b : List Int} (ha : pchk a = 0) (hb : pchk b = 0) : pchk (lessL a b) = 0 := by
  obtain ⟨h1, h2⟩ := pchk_zero.1 ha
  obtain ⟨h3, h4⟩ := pchk_zero.1 hb
  exact pchk_zero.2 ⟨Nat.le_trans (less_len h2 h4) h1, merge_up' h2 h4⟩
end Go.Proofs.YtgdmcnoogacdaaaGreatDoor
