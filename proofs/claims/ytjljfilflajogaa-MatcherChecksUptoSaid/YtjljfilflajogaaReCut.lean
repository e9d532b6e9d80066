/- The document's own answer for patterns: a class item by item; a pattern's alternatives one by one. Of no program. -/
import Derived.Test.YtjljfilflajogaaReRight
namespace Go.Proofs.Ytjljfilflajogaa
set_option linter.unusedVariables false

theorem items_fuel : ∀ {n m : Nat} {x : List UInt8} {q}, x.length < m → itemsM n x = some q → itemsM m x = some q
  | 0, m, x, q, hm, h => by simp [itemsM] at h
  | n + 1, 0, x, q, hm, h => by omega
  | n + 1, m + 1, x, q, hm, h => by
    simp only [itemsM] at h ⊢
    cases hi : itemM x with
    | none => rw [hi] at h; cases h
    | some r =>
      obtain ⟨s, y⟩ := r
      rw [hi] at h
      simp only at h ⊢
      have hl := item_len hi
      split at h
      · rename_i ha
        rw [if_pos ha]
        exact h
      · rename_i ha
        rw [if_neg ha]
        cases hr : itemsM n y with
        | none => rw [hr] at h; cases h
        | some r2 =>
          rw [hr] at h
          rw [items_fuel (m := m) (by omega) hr]
          exact h
def hatX (x : List UInt8) : List UInt8 := if aheadM [94] x then x.tail else x
theorem hat_len (x : List UInt8) : (hatX x).length ≤ x.length := by
  unfold hatX
  split
  · rw [List.length_tail]; omega
  · exact Nat.le_refl _
/-- A class whose items begin here. -/
def clsV (x : List UInt8) : Option (List (UInt8 × UInt8) × List UInt8) := itemsM (x.length + 1) (hatX x)
theorem class_of {n : Nat} {x y : List UInt8} {r : Re} (h : classM n x = some (r, y)) : ∃ ss, clsV x = some (ss, y) ∧ r = .atom ss (aheadM [94] x) false := by
  unfold classM at h
  cases hi : itemsM n (if aheadM [94] x then x.tail else x) with
  | none => rw [hi] at h; cases h
  | some q =>
    obtain ⟨ss, y'⟩ := q
    rw [hi] at h
    simp only [Option.some.injEq, Prod.mk.injEq] at h
    obtain ⟨rfl, rfl⟩ := h
    exact ⟨ss, items_fuel (by have := hat_len x; omega) hi, rfl⟩
theorem class_is {x y : List UInt8} {ss : List (UInt8 × UInt8)} (h : clsV x = some (ss, y)) : classM (x.length + 1) x = some (.atom ss (aheadM [94] x) false, y) := by
  unfold classM
  have h' : itemsM (x.length + 1) (if aheadM [94] x then x.tail else x) = some (ss, y) := h
  rw [h']
theorem class_no {x : List UInt8} (h : clsV x = none) (n : Nat) : classM n x = none := by
  cases hc : classM n x with
  | none => rfl
  | some q =>
    obtain ⟨ss, h2, _⟩ := class_of (r := q.1) (y := q.2) hc
    rw [h] at h2
    cases h2
/-- What is left of a class, k: one item was read. -/
def itemsT (m : Nat) (z : List UInt8) (k : Bool) : Option (List (UInt8 × UInt8) × List UInt8) := if k && aheadM [93] z then some ([], z.tail) else itemsM m z
theorem it_nil (m : Nat) (k : Bool) : itemsT m [] k = none := by
  unfold itemsT
  rw [show aheadM [93] [] = false from rfl, Bool.and_false, if_neg (by simp)]
  cases m <;> rfl
theorem item_bad1 {c : UInt8} {t : List UInt8} (h : unlistedL.contains c = true) : itemM (c :: t) = none := by
  unfold itemM
  rw [show takeButM unlistedL (c :: t) = none by simp only [takeButM]; rw [if_pos h]]
theorem it_stop0 (m : Nat) (t : List UInt8) : itemsT m (93 :: t) false = none := by
  unfold itemsT
  rw [Bool.false_and, if_neg (by simp)]
  cases m with
  | zero => rfl
  | succ m => simp only [itemsM]; rw [item_bad1 (by decide)]
theorem it_stop1 (m : Nat) (t : List UInt8) : itemsT m (93 :: t) true = some ([], t) := by
  unfold itemsT
  rw [show aheadM [93] (93 :: t) = true from rfl]
  rfl
theorem not_stop {c : UInt8} {t : List UInt8} (h : c ≠ 93) : aheadM [93] (c :: t) = false := by
  simp [aheadM, h]
theorem it_bad {m : Nat} {c : UInt8} {t : List UInt8} {k : Bool} (h : c ≠ 93) (hi : itemM (c :: t) = none) : itemsT m (c :: t) k = none := by
  unfold itemsT
  rw [not_stop h, Bool.and_false, if_neg (by simp)]
  cases m with
  | zero => rfl
  | succ m => simp only [itemsM]; rw [hi]
theorem it_item {m : Nat} {c : UInt8} {t y : List UInt8} {k : Bool} {s : UInt8 × UInt8} (h : c ≠ 93) (hi : itemM (c :: t) = some (s, y)) : itemsT (m + 1) (c :: t) k = (itemsT m y true).map fun q => (s :: q.1, q.2) := by
  unfold itemsT
  rw [not_stop h, Bool.and_false, if_neg (by simp)]
  simp only [itemsM]
  rw [hi]
  simp only [Bool.true_and]
  split
  · rfl
  · cases itemsM m y <;> rfl
theorem item_one {c : UInt8} {t : List UInt8} (h : unlistedL.contains c = false) (ht : aheadM [45] t = false) : itemM (c :: t) = some ((c, c), t) := by
  unfold itemM
  rw [show takeButM unlistedL (c :: t) = some (c, t) by simp only [takeButM]; rw [if_neg (by rw [h]; simp)]]
  simp only
  rw [if_neg (by rw [ht]; simp)]
theorem item_step {c : UInt8} {t : List UInt8} (h : unlistedL.contains c = false) : itemM (c :: 45 :: t) = match takeButM unlistedL t with | none => none | some (hi, z) => if c ≤ hi then some ((c, hi), z) else none := by
  unfold itemM
  rw [show takeButM unlistedL (c :: 45 :: t) = some (c, 45 :: t) by simp only [takeButM]; rw [if_neg (by rw [h]; simp)]]
  simp only
  rw [if_pos (by rfl), List.tail_cons]
  cases takeButM unlistedL t <;> rfl
theorem item_end {c : UInt8} (h : unlistedL.contains c = false) : itemM [c, 45] = none := by rw [item_step h]; rfl
theorem item_bad2 {c d : UInt8} {t : List UInt8} (h : unlistedL.contains c = false) (h2 : unlistedL.contains d = true) : itemM (c :: 45 :: d :: t) = none := by
  rw [item_step h, show takeButM unlistedL (d :: t) = none by simp only [takeButM]; rw [if_pos h2]]
theorem item_two {c d : UInt8} {t : List UInt8} (h : unlistedL.contains c = false) (h2 : unlistedL.contains d = false) : itemM (c :: 45 :: d :: t) = if c ≤ d then some ((c, d), t) else none := by
  rw [item_step h, show takeButM unlistedL (d :: t) = some (d, t) by simp only [takeButM]; rw [if_neg (by rw [h2]; simp)]]
/-- The place behind a class (0: there is none), in a text of N bytes; whether it has the byte. -/
def clsE (N : Nat) (x : List UInt8) : Int := match clsV x with | none => 0 | some (_, y) => (N : Int) - (y.length : Int)
def clsH (x : List UInt8) (c : UInt8) : Bool := match clsV x with | none => false | some (ss, _) => ss.any (spanHas c) != aheadM [94] x
theorem has_ne (ss : List (UInt8 × UInt8)) (neg : Bool) (c : UInt8) : hasB ss neg c = (ss.any (spanHas c) != neg) := by
  unfold hasB
  cases ss.any (spanHas c) <;> cases neg <;> rfl
/-- Where a class's items were read so far: ss, and z is left. -/
def ClsAt (x : List UInt8) (ss : List (UInt8 × UInt8)) (z : List UInt8) : Prop := ∃ m, z.length < m ∧ clsV x = (itemsT m z (!ss.isEmpty)).map fun q => (ss ++ q.1, q.2)
theorem clsAt_start (x : List UInt8) : ClsAt x [] (hatX x) := by
  refine ⟨x.length + 1, by have := hat_len x; omega, ?_⟩
  unfold clsV itemsT
  rw [show (!([] : List (UInt8 × UInt8)).isEmpty) = false from rfl, Bool.false_and, if_neg (by simp)]
  cases itemsM (x.length + 1) (hatX x) <;> rfl
theorem clsAt_nil {x : List UInt8} {ss : List (UInt8 × UInt8)} (h : ClsAt x ss []) : clsV x = none := by
  obtain ⟨m, _, h⟩ := h
  rw [h, it_nil]
  rfl
theorem clsAt_stop {x : List UInt8} {ss : List (UInt8 × UInt8)} {t : List UInt8} (h : ClsAt x ss (93 :: t)) : clsV x = if ss.isEmpty then none else some (ss, t) := by
  obtain ⟨m, _, h⟩ := h
  rw [h]
  cases ss with
  | nil => rw [show (!([] : List (UInt8 × UInt8)).isEmpty) = false from rfl, it_stop0]; rfl
  | cons s r => rw [show (!(s :: r).isEmpty) = true from rfl, it_stop1]; simp
theorem clsAt_bad {x : List UInt8} {ss : List (UInt8 × UInt8)} {c : UInt8} {t : List UInt8} (h : ClsAt x ss (c :: t)) (hc : c ≠ 93) (hi : itemM (c :: t) = none) : clsV x = none := by
  obtain ⟨m, _, h⟩ := h
  rw [h, it_bad hc hi]
  rfl
theorem clsAt_item {x : List UInt8} {ss : List (UInt8 × UInt8)} {c : UInt8} {t y : List UInt8} {s : UInt8 × UInt8} (h : ClsAt x ss (c :: t)) (hc : c ≠ 93) (hi : itemM (c :: t) = some (s, y)) : ClsAt x (ss ++ [s]) y := by
  obtain ⟨m, hm, h⟩ := h
  have hl := item_len hi
  obtain ⟨m', rfl⟩ : ∃ m', m = m' + 1 := ⟨m - 1, by omega⟩
  refine ⟨m', by omega, ?_⟩
  rw [h, it_item hc hi]
  rw [show (!(ss ++ [s]).isEmpty) = true by cases ss <;> rfl]
  cases itemsT m' y true <;> simp
theorem any_snoc (ss : List (UInt8 × UInt8)) (a b c : UInt8) : (ss ++ [(a, b)]).any (spanHas c) = (ss.any (spanHas c) || (decide (a ≤ c) && decide (c ≤ b))) := by
  rw [List.any_append]
  simp [spanHas]

/-- From here on, u being what the alternative at hand has so far: the alternatives' texts, or none. -/
inductive Res : List UInt8 → List UInt8 → Option (List (List UInt8)) → Prop
  | nil (u : List UInt8) : Res u [] (some [u])
  | bar (u t : List UInt8) (r : Option (List (List UInt8))) : Res [] t r → Res u (124 :: t) (r.map (u :: ·))
  | one (u v x z : List UInt8) (r : Option (List (List UInt8))) : AtomP x z → x = v ++ behindP z → Res (u ++ v) (behindP z) r → Res u x r
  | bad (u x : List UInt8) : NoAtom x → x ≠ [] → aheadM [124] x = false → Res u x none
theorem behind_cut (z : List UInt8) : ∃ v, z = v ++ behindP z ∧ (behindP z).length ≤ z.length := by
  unfold behindP
  split
  · rename_i h
    cases z with
    | nil => exact ⟨[], rfl, by simp⟩
    | cons c t => exact ⟨[c], rfl, by simp⟩
  · exact ⟨[], rfl, Nat.le_refl _⟩
theorem atomP_len {x z : List UInt8} (h : AtomP x z) : z.length < x.length := by
  obtain ⟨n, r, d, h⟩ := h
  exact atom_len h
theorem atomP_cut {x z : List UInt8} (h : AtomP x z) : ∃ v, x = v ++ z ∧ v ≠ [] := by
  obtain ⟨n, r, d, h⟩ := h
  obtain ⟨u, h1, h2, _⟩ := atom_cut h
  exact ⟨u, h1, h2⟩
theorem res_all : ∀ (m : Nat) (x u : List UInt8), x.length ≤ m → ∃ r, Res u x r := by
  intro m
  induction m with
  | zero =>
    intro x u h
    obtain rfl : x = [] := List.eq_nil_of_length_eq_zero (by omega)
    exact ⟨_, .nil u⟩
  | succ m ih =>
    intro x u h
    cases x with
    | nil => exact ⟨_, .nil u⟩
    | cons c t =>
      by_cases hb : c = 124
      · subst hb
        obtain ⟨r, hr⟩ := ih t [] (by simpa using h)
        exact ⟨_, .bar u t r hr⟩
      · rcases atom_or (c :: t) with ha | ⟨z, ha⟩
        · exact ⟨none, .bad u _ ha (by simp) (by simp [aheadM, hb])⟩
        · obtain ⟨v, hv, _⟩ := atomP_cut ha
          obtain ⟨v2, hv2, hl⟩ := behind_cut z
          have := atomP_len ha
          obtain ⟨r, hr⟩ := ih (behindP z) (u ++ (v ++ v2)) (by omega)
          exact ⟨r, .one u (v ++ v2) _ z r ha (by rw [List.append_assoc, ← hv2, ← hv]) hr⟩
theorem res_right {u x : List UInt8} {r : Option (List (List UInt8))} (h : Res u x r) : RightP x ↔ r.isSome = true := by
  induction h with
  | nil u => exact ⟨fun _ => rfl, fun _ => right_nil⟩
  | bar u t r h ih => rw [right_bar, ih]; cases r <;> simp
  | one u v x z r ha hx h ih => rw [right_piece ha, ih]
  | bad u x hn hne hb => exact ⟨fun hr => absurd hr (right_none hn hne hb), fun h => by cases h⟩
end Go.Proofs.Ytjljfilflajogaa
