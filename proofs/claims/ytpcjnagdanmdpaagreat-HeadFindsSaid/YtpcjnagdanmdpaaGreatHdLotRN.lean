/- In one text, written by lotify.py: ReRight, ReCut, ReFuel, ReCut2, RePlaces. -/
import Derived.Test.YtpcjnagdanmdpaaGreatReParse5
namespace Go.Proofs.YtpcjnagdanmdpaaGreat
set_option linter.unusedVariables false
/-- The text is a pattern. -/
def RightP (p : List UInt8) : Prop := ∃ n ls d, patM n p = some (ls, [], d)
/-- An atom stands at the text's front, and z behind it. -/
def AtomP (x z : List UInt8) : Prop := ∃ n r d, atomM n x = some (r, z, d)
def NoAtom (x : List UInt8) : Prop := ∀ n, atomM n x = none
theorem atom_or (x : List UInt8) : NoAtom x ∨ ∃ z, AtomP x z := by
  by_cases h : ∃ z, AtomP x z
  · exact .inr h
  · refine .inl fun n => ?_
    cases ha : atomM n x with
    | none => rfl
    | some q => exact absurd ⟨q.2.1, n, q.1, q.2.2, ha⟩ h
theorem AtomP.not {x z : List UInt8} (h : AtomP x z) (k : NoAtom x) : False := by
  obtain ⟨n, r, d, h⟩ := h
  rw [k n] at h
  cases h
theorem right_nil : RightP [] := ⟨2, [.row []], 0, rfl⟩
theorem right_bar (t : List UInt8) : RightP (124 :: t) ↔ RightP t := by
  constructor
  · rintro ⟨n, ls, d, h⟩
    cases n with
    | zero => simp [patM] at h
    | succ n =>
      simp only [patM] at h
      cases n with
      | zero => simp [altM] at h
      | succ n =>
        rw [show altM (n + 1) (124 :: t) = some ([], 124 :: t, 0) from rfl] at h
        simp only at h
        rw [if_pos (by rfl), List.tail_cons] at h
        cases hp : patM (n + 1) t with
        | none => rw [hp] at h; cases h
        | some q =>
          obtain ⟨ls', z, e⟩ := q
          rw [hp] at h
          simp only [Option.some.injEq, Prod.mk.injEq] at h
          obtain ⟨_, rfl, _⟩ := h
          exact ⟨_, _, _, hp⟩
  · rintro ⟨n, ls, d, h⟩
    have := pat_or (a := []) h (n := 2) (ls := [.row []]) (d := 0) rfl
    exact ⟨_, _, _, this⟩
def MarkP (y : List UInt8) : Bool := aheadM [42] y || aheadM [43] y || aheadM [63] y
def behindP (y : List UInt8) : List UInt8 := if MarkP y then y.tail else y
theorem piece_of {n : Nat} {x y : List UInt8} {r : Re} {d : Nat} (h : atomM n x = some (r, y, d)) : ∃ r', pieceM (n + 1) x = some (r', behindP y, d) := by
  simp only [pieceM, h]
  unfold behindP MarkP
  cases h1 : aheadM [42] y
  · cases h2 : aheadM [43] y
    · cases h3 : aheadM [63] y
      · exact ⟨_, rfl⟩
      · exact ⟨_, rfl⟩
    · exact ⟨_, rfl⟩
  · exact ⟨_, rfl⟩
theorem atom_unique {n m : Nat} {x : List UInt8} {q q'} (h : atomM n x = some q) (k : atomM m x = some q') : q = q' := by
  have h1 := atom_mono (Nat.le_max_left n m) h
  have h2 := atom_mono (Nat.le_max_right n m) k
  rw [h1] at h2
  exact Option.some.inj h2
theorem atom_head {x z : List UInt8} (h : AtomP x z) : x ≠ [] ∧ aheadM [124, 41] x = false := by
  obtain ⟨n, r, d, h⟩ := h
  cases n with
  | zero => simp [atomM] at h
  | succ n =>
    cases x with
    | nil => simp [atomM, aheadM, takeButM] at h
    | cons c t =>
      refine ⟨by simp, ?_⟩
      by_cases h1 : c = 124
      · subst h1
        rw [show atomM (n + 1) (124 :: t) = none from rfl] at h
        cases h
      · by_cases h2 : c = 41
        · subst h2
          rw [show atomM (n + 1) (41 :: t) = none from rfl] at h
          cases h
        · simp [aheadM]
          exact ⟨h1, h2⟩
theorem pat_bar {k : Nat} {x y z : List UInt8} {l ls : List Re} {d e : Nat} (h : altM k x = some (l, y, d)) (hb : aheadM [124] y = true) (hp : patM k y.tail = some (ls, z, e)) : patM (k + 1) x = some (.row l :: ls, z, max d e) := by
  simp only [patM, h]
  rw [if_pos hb, hp]
theorem pat_end {k : Nat} {x y : List UInt8} {l : List Re} {d : Nat} (h : altM k x = some (l, y, d)) (hb : ¬ aheadM [124] y = true) : patM (k + 1) x = some ([.row l], y, d) := by
  simp only [patM, h]
  rw [if_neg hb]
theorem right_piece {x y : List UInt8} (h : AtomP x y) : RightP x ↔ RightP (behindP y) := by
  obtain ⟨hn, hx⟩ := atom_head h
  obtain ⟨n, r, d, ha⟩ := h
  obtain ⟨r', hp⟩ := piece_of ha
  constructor
  · rintro ⟨m, ls, e, h⟩
    cases m with
    | zero => simp [patM] at h
    | succ m =>
      simp only [patM] at h
      cases m with
      | zero => simp [altM] at h
      | succ m =>
        simp only [altM] at h
        rw [if_neg (by rw [hx]; cases x with | nil => exact absurd rfl hn | cons c t => simp)] at h
        cases hp2 : pieceM m x with
        | none => rw [hp2] at h; cases h
        | some q =>
          have e1 : q = (r', behindP y, d) := by
            have h1 := piece_mono (Nat.le_max_left m (n + 1)) hp2
            have h2 := piece_mono (Nat.le_max_right m (n + 1)) hp
            rw [h1] at h2
            exact Option.some.inj h2
          subst e1
          rw [hp2] at h
          simp only at h
          cases ha2 : altM m (behindP y) with
          | none => rw [ha2] at h; cases h
          | some q =>
            obtain ⟨l, y2, d2⟩ := q
            rw [ha2] at h
            simp only at h
            have h3 := alt_mono (Nat.le_succ m) ha2
            split at h
            · rename_i hb
              cases hp3 : patM (m + 1) y2.tail with
              | none => rw [hp3] at h; cases h
              | some q =>
                obtain ⟨ls', z, e'⟩ := q
                rw [hp3] at h
                simp only [Option.some.injEq, Prod.mk.injEq] at h
                obtain ⟨_, rfl, _⟩ := h
                exact ⟨m + 2, .row l :: ls', max d2 e', pat_bar h3 hb hp3⟩
            · rename_i hb
              simp only [Option.some.injEq, Prod.mk.injEq] at h
              obtain ⟨_, rfl, _⟩ := h
              exact ⟨m + 2, [.row l], d2, pat_end h3 hb⟩
  · rintro ⟨m, ls, e, h⟩
    cases m with
    | zero => simp [patM] at h
    | succ m =>
      simp only [patM] at h
      cases ha2 : altM m (behindP y) with
      | none => rw [ha2] at h; cases h
      | some q =>
        obtain ⟨l, y2, d2⟩ := q
        rw [ha2] at h
        simp only at h
        have hs := alt_step hx hn (piece_mono (show n + 1 ≤ n + 1 + m by omega) hp) (alt_mono (show m ≤ n + 1 + m by omega) ha2)
        split at h
        · rename_i hb
          cases hp3 : patM m y2.tail with
          | none => rw [hp3] at h; cases h
          | some q =>
            obtain ⟨ls', z, e'⟩ := q
            rw [hp3] at h
            simp only [Option.some.injEq, Prod.mk.injEq] at h
            obtain ⟨_, rfl, _⟩ := h
            exact ⟨n + 1 + m + 1 + 1, .row (r' :: l) :: ls', max (max d d2) e', pat_bar hs hb (pat_mono (show m ≤ n + 1 + m + 1 by omega) hp3)⟩
        · rename_i hb
          simp only [Option.some.injEq, Prod.mk.injEq] at h
          obtain ⟨_, rfl, _⟩ := h
          exact ⟨n + 1 + m + 1 + 1, [.row (r' :: l)], max d d2, pat_end hs hb⟩
theorem right_none {x : List UInt8} (h : NoAtom x) (hn : x ≠ []) (hb : aheadM [124] x = false) : ¬ RightP x := by
  rintro ⟨m, ls, e, hp⟩
  cases m with
  | zero => simp [patM] at hp
  | succ m =>
    simp only [patM] at hp
    cases m with
    | zero => simp [altM] at hp
    | succ m =>
      by_cases h41 : aheadM [41] x = true
      · have e1 := ahead_one h41
        rw [e1] at hp
        rw [show altM (m + 1) (41 :: x.tail) = some ([], 41 :: x.tail, 0) from rfl] at hp
        simp only at hp
        rw [show aheadM [124] (41 :: x.tail) = false from rfl] at hp
        simp at hp
      · have hx : aheadM [124, 41] x = false := by
          cases x with
          | nil => exact absurd rfl hn
          | cons c t =>
            simp [aheadM] at hb h41 ⊢
            exact ⟨hb, h41⟩
        simp only [altM] at hp
        rw [if_neg (by rw [hx]; cases x with | nil => exact absurd rfl hn | cons c t => simp)] at hp
        cases m with
        | zero => simp [pieceM] at hp
        | succ m =>
          rw [show pieceM (m + 1) x = none by simp only [pieceM, h m]] at hp
          simp at hp
theorem scan_head {k : Nat} {x : List UInt8} {q : Option (List UInt8)} (h : Scan k x q) : ∀ y, q = some y → ∃ u z, x = u ++ y ∧ y = 41 :: z := by
  induction h with
  | nil k => intro y e; cases e
  | esc k t q h ih =>
    intro y e
    obtain ⟨u, z, h1, h2⟩ := ih y e
    cases t with
    | nil =>
      simp at h1
      rw [h1.2] at h2
      cases h2
    | cons c t => exact ⟨92 :: c :: u, z, by rw [List.cons_append, List.cons_append, ← h1]; rfl, h2⟩
  | cls k n x y0 r q hc h ih =>
    intro y e
    obtain ⟨u, z, h1, h2⟩ := ih y e
    obtain ⟨u0, e0, _⟩ := class_cut hc
    exact ⟨91 :: (u0 ++ u), z, by rw [e0, h1]; simp, h2⟩
  | ncl k x h => intro y e; cases e
  | opn k t q h ih =>
    intro y e
    obtain ⟨u, z, h1, h2⟩ := ih y e
    exact ⟨40 :: u, z, by rw [List.cons_append, ← h1], h2⟩
  | stop t => intro y e; cases e; exact ⟨[], t, rfl, rfl⟩
  | cl k t q h ih =>
    intro y e
    obtain ⟨u, z, h1, h2⟩ := ih y e
    exact ⟨41 :: u, z, by rw [List.cons_append, ← h1], h2⟩
  | oth k c t q a1 a2 a3 a4 h ih =>
    intro y e
    obtain ⟨u, z, h1, h2⟩ := ih y e
    exact ⟨c :: u, z, by rw [List.cons_append, ← h1], h2⟩
/-- A group that is an atom: where closing ends, and that its inner text is right. -/
theorem group_yes {x z : List UInt8} (h : AtomP (40 :: x) z) : Scan 1 x (some (41 :: z)) ∧ ∃ u, x = u ++ 41 :: z ∧ RightP u := by
  obtain ⟨n, r, d, h⟩ := h
  cases n with
  | zero => simp [atomM] at h
  | succ n =>
    simp only [atomM] at h
    rw [if_pos (by rfl), List.tail_cons] at h
    cases hp : patM n x with
    | none => rw [hp] at h; cases h
    | some q =>
      obtain ⟨ls, y, d0⟩ := q
      rw [hp] at h
      simp only at h
      split at h
      · rename_i hb
        simp only [Option.some.injEq, Prod.mk.injEq] at h
        obtain ⟨_, rfl, _⟩ := h
        have e := ahead_one hb
        rw [← e]
        obtain ⟨u, h1, h2⟩ := pat_cut hp
        have h3 := h2 [] (.inl rfl)
        rw [List.append_nil] at h3
        refine ⟨pat_scan (k := 0) hp (by rw [e]; exact .stop _), u, h1, n, ls, d0, h3⟩
      · cases h
/-- One that is none: what closing shows is no right pattern. -/
theorem group_no {x : List UInt8} (h : NoAtom (40 :: x)) {u z : List UInt8} (hx : x = u ++ 41 :: z) : ¬ RightP u := by
  rintro ⟨n, ls, d, hp⟩
  have := h (n + 1)
  rw [hx, atom_group hp] at this
  cases this
theorem items_fuel : ∀ {n m : Nat} {x : List UInt8} {q}, x.length < m → itemsM n x = some q → itemsM m x = some q
  | 0, m, x, q, hm, h => by simp [itemsM] at h
  | n + 1, 0, x, q, hm, h => by omega
  | n + 1, m + 1, x, q, hm, h => by
    simp only [itemsM] at h ⊢
    cases hi : itemM x with
    | none => rw [hi] at h; cases h
    | some r =>
      obtain ⟨s, y⟩ := r
      rw [hi] at h
      simp only at h ⊢
      have hl := item_len hi
      split at h
      · rename_i ha
        rw [if_pos ha]
        exact h
      · rename_i ha
        rw [if_neg ha]
        cases hr : itemsM n y with
        | none => rw [hr] at h; cases h
        | some r2 =>
          rw [hr] at h
          rw [items_fuel (m := m) (by omega) hr]
          exact h
def hatX (x : List UInt8) : List UInt8 := if aheadM [94] x then x.tail else x
theorem hat_len (x : List UInt8) : (hatX x).length ≤ x.length := by
  unfold hatX
  split
  · rw [List.length_tail]; omega
  · exact Nat.le_refl _
/-- A class whose items begin here. -/
def clsV (x : List UInt8) : Option (List (UInt8 × UInt8) × List UInt8) := itemsM (x.length + 1) (hatX x)
theorem class_of {n : Nat} {x y : List UInt8} {r : Re} (h : classM n x = some (r, y)) : ∃ ss, clsV x = some (ss, y) ∧ r = .atom ss (aheadM [94] x) false := by
  unfold classM at h
  cases hi : itemsM n (if aheadM [94] x then x.tail else x) with
  | none => rw [hi] at h; cases h
  | some q =>
    obtain ⟨ss, y'⟩ := q
    rw [hi] at h
    simp only [Option.some.injEq, Prod.mk.injEq] at h
    obtain ⟨rfl, rfl⟩ := h
    exact ⟨ss, items_fuel (by have := hat_len x; omega) hi, rfl⟩
theorem class_is {x y : List UInt8} {ss : List (UInt8 × UInt8)} (h : clsV x = some (ss, y)) : classM (x.length + 1) x = some (.atom ss (aheadM [94] x) false, y) := by
  unfold classM
  have h' : itemsM (x.length + 1) (if aheadM [94] x then x.tail else x) = some (ss, y) := h
  rw [h']
theorem class_no {x : List UInt8} (h : clsV x = none) (n : Nat) : classM n x = none := by
  cases hc : classM n x with
  | none => rfl
  | some q =>
    obtain ⟨ss, h2, _⟩ := class_of (r := q.1) (y := q.2) hc
    rw [h] at h2
    cases h2
/-- What is left of a class, k: one item was read. -/
def itemsT (m : Nat) (z : List UInt8) (k : Bool) : Option (List (UInt8 × UInt8) × List UInt8) := if k && aheadM [93] z then some ([], z.tail) else itemsM m z
theorem it_nil (m : Nat) (k : Bool) : itemsT m [] k = none := by
  unfold itemsT
  rw [show aheadM [93] [] = false from rfl, Bool.and_false, if_neg (by simp)]
  cases m <;> rfl
theorem item_bad1 {c : UInt8} {t : List UInt8} (h : unlistedL.contains c = true) : itemM (c :: t) = none := by
  unfold itemM
  rw [show takeButM unlistedL (c :: t) = none by simp only [takeButM]; rw [if_pos h]]
theorem it_stop0 (m : Nat) (t : List UInt8) : itemsT m (93 :: t) false = none := by
  unfold itemsT
  rw [Bool.false_and, if_neg (by simp)]
  cases m with
  | zero => rfl
  | succ m => simp only [itemsM]; rw [item_bad1 (by decide)]
theorem it_stop1 (m : Nat) (t : List UInt8) : itemsT m (93 :: t) true = some ([], t) := by
  unfold itemsT
  rw [show aheadM [93] (93 :: t) = true from rfl]
  rfl
theorem not_stop {c : UInt8} {t : List UInt8} (h : c ≠ 93) : aheadM [93] (c :: t) = false := by
  simp [aheadM, h]
theorem it_bad {m : Nat} {c : UInt8} {t : List UInt8} {k : Bool} (h : c ≠ 93) (hi : itemM (c :: t) = none) : itemsT m (c :: t) k = none := by
  unfold itemsT
  rw [not_stop h, Bool.and_false, if_neg (by simp)]
  cases m with
  | zero => rfl
  | succ m => simp only [itemsM]; rw [hi]
theorem it_item {m : Nat} {c : UInt8} {t y : List UInt8} {k : Bool} {s : UInt8 × UInt8} (h : c ≠ 93) (hi : itemM (c :: t) = some (s, y)) : itemsT (m + 1) (c :: t) k = (itemsT m y true).map fun q => (s :: q.1, q.2) := by
  unfold itemsT
  rw [not_stop h, Bool.and_false, if_neg (by simp)]
  simp only [itemsM]
  rw [hi]
  simp only [Bool.true_and]
  split
  · rfl
  · cases itemsM m y <;> rfl
theorem item_one {c : UInt8} {t : List UInt8} (h : unlistedL.contains c = false) (ht : aheadM [45] t = false) : itemM (c :: t) = some ((c, c), t) := by
  unfold itemM
  rw [show takeButM unlistedL (c :: t) = some (c, t) by simp only [takeButM]; rw [if_neg (by rw [h]; simp)]]
  simp only
  rw [if_neg (by rw [ht]; simp)]
theorem item_step {c : UInt8} {t : List UInt8} (h : unlistedL.contains c = false) : itemM (c :: 45 :: t) = match takeButM unlistedL t with | none => none | some (hi, z) => if c ≤ hi then some ((c, hi), z) else none := by
  unfold itemM
  rw [show takeButM unlistedL (c :: 45 :: t) = some (c, 45 :: t) by simp only [takeButM]; rw [if_neg (by rw [h]; simp)]]
  simp only
  rw [if_pos (by rfl), List.tail_cons]
  cases takeButM unlistedL t <;> rfl
theorem item_end {c : UInt8} (h : unlistedL.contains c = false) : itemM [c, 45] = none := by rw [item_step h]; rfl
theorem item_bad2 {c d : UInt8} {t : List UInt8} (h : unlistedL.contains c = false) (h2 : unlistedL.contains d = true) : itemM (c :: 45 :: d :: t) = none := by
  rw [item_step h, show takeButM unlistedL (d :: t) = none by simp only [takeButM]; rw [if_pos h2]]
theorem item_two {c d : UInt8} {t : List UInt8} (h : unlistedL.contains c = false) (h2 : unlistedL.contains d = false) : itemM (c :: 45 :: d :: t) = if c ≤ d then some ((c, d), t) else none := by
  rw [item_step h, show takeButM unlistedL (d :: t) = some (d, t) by simp only [takeButM]; rw [if_neg (by rw [h2]; simp)]]
/-- The place behind a class (0: there is none), in a text of N bytes; whether it has the byte. -/
def clsE (N : Nat) (x : List UInt8) : Int := match clsV x with | none => 0 | some (_, y) => (N : Int) - (y.length : Int)
def clsH (x : List UInt8) (c : UInt8) : Bool := match clsV x with | none => false | some (ss, _) => ss.any (spanHas c) != aheadM [94] x
theorem has_ne (ss : List (UInt8 × UInt8)) (neg : Bool) (c : UInt8) : hasB ss neg c = (ss.any (spanHas c) != neg) := by
  unfold hasB
  cases ss.any (spanHas c) <;> cases neg <;> rfl
/-- Where a class's items were read so far: ss, and z is left. -/
def ClsAt (x : List UInt8) (ss : List (UInt8 × UInt8)) (z : List UInt8) : Prop := ∃ m, z.length < m ∧ clsV x = (itemsT m z (!ss.isEmpty)).map fun q => (ss ++ q.1, q.2)
theorem clsAt_start (x : List UInt8) : ClsAt x [] (hatX x) := by
  refine ⟨x.length + 1, by have := hat_len x; omega, ?_⟩
  unfold clsV itemsT
  rw [show (!([] : List (UInt8 × UInt8)).isEmpty) = false from rfl, Bool.false_and, if_neg (by simp)]
  cases itemsM (x.length + 1) (hatX x) <;> rfl
theorem clsAt_nil {x : List UInt8} {ss : List (UInt8 × UInt8)} (h : ClsAt x ss []) : clsV x = none := by
  obtain ⟨m, _, h⟩ := h
  rw [h, it_nil]
  rfl
theorem clsAt_stop {x : List UInt8} {ss : List (UInt8 × UInt8)} {t : List UInt8} (h : ClsAt x ss (93 :: t)) : clsV x = if ss.isEmpty then none else some (ss, t) := by
  obtain ⟨m, _, h⟩ := h
  rw [h]
  cases ss with
  | nil => rw [show (!([] : List (UInt8 × UInt8)).isEmpty) = false from rfl, it_stop0]; rfl
  | cons s r => rw [show (!(s :: r).isEmpty) = true from rfl, it_stop1]; simp
theorem clsAt_bad {x : List UInt8} {ss : List (UInt8 × UInt8)} {c : UInt8} {t : List UInt8} (h : ClsAt x ss (c :: t)) (hc : c ≠ 93) (hi : itemM (c :: t) = none) : clsV x = none := by
  obtain ⟨m, _, h⟩ := h
  rw [h, it_bad hc hi]
  rfl
theorem clsAt_item {x : List UInt8} {ss : List (UInt8 × UInt8)} {c : UInt8} {t y : List UInt8} {s : UInt8 × UInt8} (h : ClsAt x ss (c :: t)) (hc : c ≠ 93) (hi : itemM (c :: t) = some (s, y)) : ClsAt x (ss ++ [s]) y := by
  obtain ⟨m, hm, h⟩ := h
  have hl := item_len hi
  obtain ⟨m', rfl⟩ : ∃ m', m = m' + 1 := ⟨m - 1, by omega⟩
  refine ⟨m', by omega, ?_⟩
  rw [h, it_item hc hi]
  rw [show (!(ss ++ [s]).isEmpty) = true by cases ss <;> rfl]
  cases itemsT m' y true <;> simp
theorem any_snoc (ss : List (UInt8 × UInt8)) (a b c : UInt8) : (ss ++ [(a, b)]).any (spanHas c) = (ss.any (spanHas c) || (decide (a ≤ c) && decide (c ≤ b))) := by
  rw [List.any_append]
  simp [spanHas]
/-- From here on, u being what the alternative at hand has so far: the alternatives' texts, or none. -/
inductive Res : List UInt8 → List UInt8 → Option (List (List UInt8)) → Prop
  | nil (u : List UInt8) : Res u [] (some [u])
  | bar (u t : List UInt8) (r : Option (List (List UInt8))) : Res [] t r → Res u (124 :: t) (r.map (u :: ·))
  | one (u v x z : List UInt8) (r : Option (List (List UInt8))) : AtomP x z → x = v ++ behindP z → Res (u ++ v) (behindP z) r → Res u x r
  | bad (u x : List UInt8) : NoAtom x → x ≠ [] → aheadM [124] x = false → Res u x none
theorem behind_cut (z : List UInt8) : ∃ v, z = v ++ behindP z ∧ (behindP z).length ≤ z.length := by
  unfold behindP
  split
  · rename_i h
    cases z with
    | nil => exact ⟨[], rfl, by simp⟩
    | cons c t => exact ⟨[c], rfl, by simp⟩
  · exact ⟨[], rfl, Nat.le_refl _⟩
theorem atomP_len {x z : List UInt8} (h : AtomP x z) : z.length < x.length := by
  obtain ⟨n, r, d, h⟩ := h
  exact atom_len h
theorem atomP_cut {x z : List UInt8} (h : AtomP x z) : ∃ v, x = v ++ z ∧ v ≠ [] := by
  obtain ⟨n, r, d, h⟩ := h
  obtain ⟨u, h1, h2, _⟩ := atom_cut h
  exact ⟨u, h1, h2⟩
theorem res_all : ∀ (m : Nat) (x u : List UInt8), x.length ≤ m → ∃ r, Res u x r := by
  intro m
  induction m with
  | zero =>
    intro x u h
    obtain rfl : x = [] := List.eq_nil_of_length_eq_zero (by omega)
    exact ⟨_, .nil u⟩
  | succ m ih =>
    intro x u h
    cases x with
    | nil => exact ⟨_, .nil u⟩
    | cons c t =>
      by_cases hb : c = 124
      · subst hb
        obtain ⟨r, hr⟩ := ih t [] (by simpa using h)
        exact ⟨_, .bar u t r hr⟩
      · rcases atom_or (c :: t) with ha | ⟨z, ha⟩
        · exact ⟨none, .bad u _ ha (by simp) (by simp [aheadM, hb])⟩
        · obtain ⟨v, hv, _⟩ := atomP_cut ha
          obtain ⟨v2, hv2, hl⟩ := behind_cut z
          have := atomP_len ha
          obtain ⟨r, hr⟩ := ih (behindP z) (u ++ (v ++ v2)) (by omega)
          exact ⟨r, .one u (v ++ v2) _ z r ha (by rw [List.append_assoc, ← hv2, ← hv]) hr⟩
theorem res_right {u x : List UInt8} {r : Option (List (List UInt8))} (h : Res u x r) : RightP x ↔ r.isSome = true := by
  induction h with
  | nil u => exact ⟨fun _ => rfl, fun _ => right_nil⟩
  | bar u t r h ih => rw [right_bar, ih]; cases r <;> simp
  | one u v x z r ha hx h ih => rw [right_piece ha, ih]
  | bad u x hn hne hb => exact ⟨fun hr => absurd hr (right_none hn hne hb), fun h => by cases h⟩
theorem class_fuel {n m : Nat} {x : List UInt8} {q} (hm : x.length < m) (h : classM n x = some q) : classM m x = some q := by
  unfold classM at h ⊢
  cases h1 : itemsM n (if aheadM [94] x = true then x.tail else x) with
  | none => simp [h1] at h
  | some r =>
    rw [items_fuel (m := m) (by have := hat_len x; unfold hatX at this; omega) h1]
    simpa [h1] using h
mutual
theorem pat_fuel : ∀ {n m : Nat} {x : List UInt8} {q}, 4 * x.length + 4 ≤ m → patM n x = some q → patM m x = some q
  | 0, m, x, q, _, h => by simp [patM] at h
  | n + 1, 0, x, q, hm, h => by omega
  | n + 1, m + 1, x, q, hm, h => by
    simp only [patM] at h ⊢
    cases h0 : altM n x with
    | none => simp [h0] at h
    | some r =>
      obtain ⟨l, y, d⟩ := r
      rw [alt_fuel (m := m) (by omega) h0]
      simp only [h0] at h ⊢
      have hy := alt_len h0
      split at h
      · rename_i ha
        rw [if_pos ha]
        have ht := tail_len ha
        cases h1 : patM n y.tail with
        | none => simp [h1] at h
        | some r =>
          rw [pat_fuel (m := m) (by omega) h1]
          simpa [h1] using h
      · rename_i ha
        rw [if_neg ha]; exact h
theorem alt_fuel : ∀ {n m : Nat} {x : List UInt8} {q}, 4 * x.length + 3 ≤ m → altM n x = some q → altM m x = some q
  | 0, m, x, q, _, h => by simp [altM] at h
  | n + 1, 0, x, q, hm, h => by omega
  | n + 1, m + 1, x, q, hm, h => by
    simp only [altM] at h ⊢
    split at h
    · rename_i ha
      rw [if_pos ha]; exact h
    · rename_i ha
      rw [if_neg ha]
      cases h0 : pieceM n x with
      | none => simp [h0] at h
      | some r =>
        obtain ⟨r, y, d⟩ := r
        rw [piece_fuel (m := m) (by omega) h0]
        simp only [h0] at h ⊢
        have hy := piece_len h0
        cases h1 : altM n y with
        | none => simp [h1] at h
        | some r =>
          rw [alt_fuel (m := m) (by omega) h1]
          simpa [h1] using h
theorem piece_fuel : ∀ {n m : Nat} {x : List UInt8} {q}, 4 * x.length + 2 ≤ m → pieceM n x = some q → pieceM m x = some q
  | 0, m, x, q, _, h => by simp [pieceM] at h
  | n + 1, 0, x, q, hm, h => by omega
  | n + 1, m + 1, x, q, hm, h => by
    simp only [pieceM] at h ⊢
    cases h0 : atomM n x with
    | none => simp [h0] at h
    | some r =>
      rw [atom_fuel (m := m) (by omega) h0]
      simpa only [h0] using h
theorem atom_fuel : ∀ {n m : Nat} {x : List UInt8} {q}, 4 * x.length + 1 ≤ m → atomM n x = some q → atomM m x = some q
  | 0, m, x, q, _, h => by simp [atomM] at h
  | n + 1, 0, x, q, hm, h => by omega
  | n + 1, m + 1, x, q, hm, h => by
    simp only [atomM] at h ⊢
    split at h
    · rename_i ha
      rw [if_pos ha]
      have ht := tail_len ha
      cases h0 : patM n x.tail with
      | none => simp [h0] at h
      | some r =>
        rw [pat_fuel (m := m) (by omega) h0]
        simpa only [h0] using h
    · rename_i ha
      rw [if_neg ha]
      split at h
      · rename_i hb
        rw [if_pos hb]
        have ht := tail_len hb
        cases h0 : classM n x.tail with
        | none => simp [h0] at h
        | some r =>
          rw [class_fuel (m := m) (by omega) h0]
          simpa only [h0] using h
      · rename_i hb
        rw [if_neg hb]
        exact h
end
theorem parse_fuel {n m : Nat} (hn : 260 ≤ n) (hm : 260 ≤ m) (p : List UInt8) : parseM n p = parseM m p := by
  unfold parseM
  by_cases h : 64 < p.length
  · rw [if_pos h, if_pos h]
  · rw [if_neg h, if_neg h]
    have e : patM n p = patM m p := by
      cases h1 : patM n p with
      | some q => exact (pat_fuel (by omega) h1).symm
      | none =>
        cases h2 : patM m p with
        | none => rfl
        | some q => rw [pat_fuel (m := n) (by omega) h2] at h1; cases h1
    rw [e]
theorem fit_fuel {n m : Nat} (hn : 260 ≤ n) (hm : 260 ≤ m) (p s : List UInt8) : fitV n p s = fitV m p s := by
  unfold fitV
  rw [parse_fuel hn hm]
theorem atomP_one {x z z' : List UInt8} (h : AtomP x z) (h' : AtomP x z') : z = z' := by
  obtain ⟨n, r, d, h⟩ := h
  obtain ⟨m, r', d', h'⟩ := h'
  have := atom_unique h h'
  simp only [Prod.mk.injEq] at this
  exact this.2.1
theorem no_nil : NoAtom [] := by
  intro n
  cases n with
  | zero => rfl
  | succ n => simp [atomM, aheadM, takeButM]
theorem at_dot (t : List UInt8) : AtomP (46 :: t) t := ⟨1, .atom [] true false, 0, by simp [atomM, aheadM]⟩
theorem at_plain {c : UInt8} {t : List UInt8} (h : marksL.contains c = false) : AtomP (c :: t) t := by
  have h1 : aheadM [40] (c :: t) = false := by simp only [aheadM, List.contains_cons, List.contains_nil, Bool.or_false, beq_eq_false_iff_ne]; rintro rfl; exact absurd h (by decide)
  have h2 : aheadM [91] (c :: t) = false := by simp only [aheadM, List.contains_cons, List.contains_nil, Bool.or_false, beq_eq_false_iff_ne]; rintro rfl; exact absurd h (by decide)
  have h3 : aheadM [46] (c :: t) = false := by simp only [aheadM, List.contains_cons, List.contains_nil, Bool.or_false, beq_eq_false_iff_ne]; rintro rfl; exact absurd h (by decide)
  have h4 : aheadM [92] (c :: t) = false := by simp only [aheadM, List.contains_cons, List.contains_nil, Bool.or_false, beq_eq_false_iff_ne]; rintro rfl; exact absurd h (by decide)
  refine ⟨1, oneM c, 0, ?_⟩
  simp only [atomM, h1, h2, h3, h4, Bool.false_eq_true, if_false]
  rw [show takeButM marksL (c :: t) = some (c, t) by simp only [takeButM]; rw [if_neg (by rw [h]; simp)]]
theorem at_esc {d : UInt8} {t : List UInt8} (h : marksL.contains d = true) : AtomP (92 :: d :: t) t := by
  refine ⟨1, oneM d, 0, ?_⟩
  simp only [atomM]
  rw [if_neg (by simp [aheadM]), if_neg (by simp [aheadM]), if_neg (by simp [aheadM]), if_pos (by simp [aheadM])]
  simp only [List.tail_cons]
  rw [if_pos h]
theorem no_esc1 : NoAtom [92] := by
  intro n
  cases n with
  | zero => rfl
  | succ n =>
    simp only [atomM]
    rw [if_neg (by simp [aheadM]), if_neg (by simp [aheadM]), if_neg (by simp [aheadM]), if_pos (by simp [aheadM])]
    rfl
theorem no_esc2 {d : UInt8} {t : List UInt8} (h : marksL.contains d = false) : NoAtom (92 :: d :: t) := by
  intro n
  cases n with
  | zero => rfl
  | succ n =>
    simp only [atomM]
    rw [if_neg (by simp [aheadM]), if_neg (by simp [aheadM]), if_neg (by simp [aheadM]), if_pos (by simp [aheadM])]
    simp only [List.tail_cons]
    rw [if_neg (by rw [h]; simp)]
theorem at_cls {t y : List UInt8} {ss : List (UInt8 × UInt8)} (h : clsV t = some (ss, y)) : AtomP (91 :: t) y := by
  refine ⟨t.length + 1 + 1, .atom ss (aheadM [94] t) false, 0, ?_⟩
  rw [atom_class, class_is h]
theorem no_cls {t : List UInt8} (h : clsV t = none) : NoAtom (91 :: t) := by
  intro n
  cases n with
  | zero => rfl
  | succ n => rw [atom_class, class_no h]
theorem no_other {c : UInt8} {t : List UInt8} (h : marksL.contains c = true) (h1 : c ≠ 40) (h2 : c ≠ 91) (h3 : c ≠ 46) (h4 : c ≠ 92) : NoAtom (c :: t) := by
  intro n
  cases n with
  | zero => rfl
  | succ n =>
    simp only [atomM]
    rw [if_neg (by simp [aheadM, h1]), if_neg (by simp [aheadM, h2]), if_neg (by simp [aheadM, h3]), if_neg (by simp [aheadM, h4])]
    rw [show takeButM marksL (c :: t) = none by simp only [takeButM]; rw [if_pos h]]
/-- Where the atom ends, in a text of N bytes (0: there is none). -/
def AtIs (N : Nat) (x : List UInt8) (v : Int) : Prop := (∃ z, AtomP x z ∧ v = (N : Int) - (z.length : Int)) ∨ (NoAtom x ∧ v = 0)
theorem at_yes {N : Nat} {x z : List UInt8} {v : Int} (h : AtIs N x v) (hz : AtomP x z) : v = (N : Int) - (z.length : Int) := by
  rcases h with ⟨z', h1, h2⟩ | ⟨h1, h2⟩
  · rw [atomP_one hz h1]; exact h2
  · exact (hz.not h1).elim
theorem at_not {N : Nat} {x : List UInt8} {v : Int} (h : AtIs N x v) (hz : NoAtom x) : v = 0 := by
  rcases h with ⟨z', h1, h2⟩ | ⟨h1, h2⟩
  · exact (h1.not hz).elim
  · exact h2
theorem res_nil {u : List UInt8} {r : Option (List (List UInt8))} (h : Res u [] r) : r = some [u] :=
  match h with
  | .nil _ => rfl
  | .one _ v _ z _ ha hx _ => (ha.not no_nil).elim
  | .bad _ _ hn hne hb => absurd rfl hne
theorem res_bar {u t : List UInt8} {r : Option (List (List UInt8))} (h : Res u (124 :: t) r) : ∃ r', r = r'.map (u :: ·) ∧ Res [] t r' :=
  match h with
  | .bar _ _ r' h => ⟨r', rfl, h⟩
  | .one _ v _ z _ ha hx _ => absurd (atom_head ha).2 (by simp [aheadM])
  | .bad _ _ hn hne hb => absurd hb (by simp [aheadM])
theorem res_one {u x z : List UInt8} {r : Option (List (List UInt8))} (ha : AtomP x z) (h : Res u x r) : ∃ v, x = v ++ behindP z ∧ Res (u ++ v) (behindP z) r :=
  match x, r, h, ha with
  | _, _, .nil _, ha => (ha.not no_nil).elim
  | _, _, .bar _ t r' h, ha => absurd (atom_head ha).2 (by simp [aheadM])
  | _, _, .one _ v _ z' _ ha' hx h, ha => by
    have e := atomP_one ha ha'
    rw [e]
    exact ⟨v, hx, h⟩
  | _, _, .bad _ _ hn hne hb, ha => (ha.not hn).elim
theorem res_bad {u x : List UInt8} {r : Option (List (List UInt8))} (hn : NoAtom x) (hne : x ≠ []) (hb : aheadM [124] x = false) (h : Res u x r) : r = none :=
  match x, r, h, hn, hne, hb with
  | _, _, .nil _, _, hne, _ => absurd rfl hne
  | _, _, .bar _ t r' h, _, _, hb => absurd hb (by simp [aheadM])
  | _, _, .one _ v _ z' _ ha' hx h, hn, _, _ => (ha'.not hn).elim
  | _, _, .bad _ _ _ _ _, _, _, _ => rfl
def Rise (l : List Nat) : Prop := l.Pairwise (· < ·)
/-- The part of a text from place i up to place j. -/
def seg (s : List UInt8) (i j : Nat) : List UInt8 := (s.take j).drop i
theorem seg_len (s : List UInt8) {i j : Nat} (hj : j ≤ s.length) : (seg s i j).length = j - i := by
  unfold seg
  rw [List.length_drop, List.length_take, Nat.min_eq_left hj]
theorem seg_app (s : List UInt8) {i k j : Nat} (h1 : i ≤ k) (h2 : k ≤ j) : seg s i j = seg s i k ++ seg s k j := by
  unfold seg
  have e : s.take k = (s.take j).take k := by rw [List.take_take, Nat.min_eq_left h2]
  rw [e]
  generalize s.take j = x
  obtain ⟨m, rfl⟩ : ∃ m, k = i + m := ⟨k - i, by omega⟩
  rw [← List.drop_drop]
  conv => lhs; rw [← List.take_append_drop m (x.drop i)]
  congr 1
  rw [List.drop_take]
  congr 1
  omega
theorem seg_front (s : List UInt8) {i j : Nat} {u v : List UInt8} (hi : i ≤ j) (hj : j ≤ s.length) (h : seg s i j = u ++ v) : i + u.length ≤ j ∧ seg s i (i + u.length) = u ∧ seg s (i + u.length) j = v := by
  have hl := seg_len s (i := i) hj
  rw [h, List.length_append] at hl
  have h1 : i + u.length ≤ j := by omega
  have ha := seg_app s (i := i) (k := i + u.length) (j := j) (by omega) h1
  rw [h] at ha
  have hl2 := seg_len s (i := i) (j := i + u.length) (by omega)
  have := List.append_inj ha (by omega)
  exact ⟨h1, this.1.symm, this.2.symm⟩
theorem seg_nil (s : List UInt8) (i : Nat) : seg s i i = [] := by
  unfold seg
  apply List.drop_eq_nil_of_le
  rw [List.length_take]
  omega
theorem seg_one (s : List UInt8) {i : Nat} (h : i < s.length) : seg s i (i + 1) = [s[i]] := by
  unfold seg
  rw [List.take_succ_eq_append_getElem h, List.drop_append_of_le_length (by rw [List.length_take]; omega)]
  rw [List.drop_eq_nil_of_le (by rw [List.length_take]; omega)]
  rfl
def Step (P : List UInt8 → Prop) (s : List UInt8) (i j : Nat) : Prop := i ≤ j ∧ j ≤ s.length ∧ P (seg s i j)
/-- The list out has just the places at which what begins at one of l may end. -/
def IsEnds (P : List UInt8 → Prop) (s : List UInt8) (l out : List Nat) : Prop := Rise out ∧ ∀ j, j ∈ out ↔ ∃ i, i ∈ l ∧ Step P s i j
theorem IsEnds.le {P : List UInt8 → Prop} {s : List UInt8} {l out : List Nat} (h : IsEnds P s l out) : ∀ j ∈ out, j ≤ s.length := fun j hj => by
  obtain ⟨i, _, h⟩ := (h.2 j).1 hj
  exact h.2.1
theorem IsEnds.congr {P Q : List UInt8 → Prop} {s : List UInt8} {l out : List Nat} (h : IsEnds P s l out) (e : ∀ w, P w ↔ Q w) : IsEnds Q s l out :=
  ⟨h.1, fun j => (h.2 j).trans ⟨fun ⟨i, a, b, c, d⟩ => ⟨i, a, b, c, (e _).1 d⟩, fun ⟨i, a, b, c, d⟩ => ⟨i, a, b, c, (e _).2 d⟩⟩⟩
theorem ends_nil {s : List UInt8} {l : List Nat} (hr : Rise l) (hl : ∀ j ∈ l, j ≤ s.length) : IsEnds (fun w => w = []) s l l := by
  refine ⟨hr, fun j => ⟨fun h => ⟨j, h, Nat.le_refl _, hl j h, seg_nil s j⟩, ?_⟩⟩
  rintro ⟨i, hi, h1, h2, h3⟩
  have := seg_len s (i := i) h2
  rw [h3] at this
  simp at this
  obtain rfl : i = j := by omega
  exact hi
theorem ends_then {P Q : List UInt8 → Prop} {s : List UInt8} {l m out : List Nat} (h : IsEnds P s l m) (k : IsEnds Q s m out) : IsEnds (fun w => ∃ u v, w = u ++ v ∧ P u ∧ Q v) s l out := by
  refine ⟨k.1, fun j => (k.2 j).trans ⟨?_, ?_⟩⟩
  · rintro ⟨i, hi, h1, h2, h3⟩
    obtain ⟨i0, hi0, g1, g2, g3⟩ := (h.2 i).1 hi
    exact ⟨i0, hi0, by omega, h2, _, _, seg_app s g1 h1, g3, h3⟩
  · rintro ⟨i, hi, h1, h2, u, v, e, hu, hv⟩
    obtain ⟨g1, g2, g3⟩ := seg_front s h1 h2 e
    exact ⟨i + u.length, (h.2 _).2 ⟨i, hi, by omega, by omega, by rw [g2]; exact hu⟩, g1, h2, by rw [g3]; exact hv⟩
/-- The list c has the places of a and of b, each once, rising. -/
def Joins (a b c : List Nat) : Prop := Rise c ∧ ∀ j, j ∈ c ↔ j ∈ a ∨ j ∈ b
theorem ends_or {P Q : List UInt8 → Prop} {s : List UInt8} {l a b c : List Nat} (h : IsEnds P s l a) (k : IsEnds Q s l b) (hj : Joins a b c) : IsEnds (fun w => P w ∨ Q w) s l c := by
  refine ⟨hj.1, fun j => ?_⟩
  rw [hj.2, h.2, k.2]
  constructor
  · rintro (⟨i, hi, h1, h2, h3⟩ | ⟨i, hi, h1, h2, h3⟩)
    · exact ⟨i, hi, h1, h2, .inl h3⟩
    · exact ⟨i, hi, h1, h2, .inr h3⟩
  · rintro ⟨i, hi, h1, h2, h3 | h3⟩
    · exact .inl ⟨i, hi, h1, h2, h3⟩
    · exact .inr ⟨i, hi, h1, h2, h3⟩
theorem ends_none (s : List UInt8) (l : List Nat) : IsEnds (fun _ => False) s l [] := ⟨List.Pairwise.nil, fun j => by simp [Step]⟩
theorem ends_byte {s : List UInt8} {l out : List Nat} {f : UInt8 → Bool} (hr : Rise out) (h : ∀ j, j ∈ out ↔ ∃ i, i ∈ l ∧ ∃ hi : i < s.length, f s[i] = true ∧ j = i + 1) : IsEnds (fun w => ∃ c, w = [c] ∧ f c = true) s l out := by
  refine ⟨hr, fun j => (h j).trans ⟨?_, ?_⟩⟩
  · rintro ⟨i, hi, hlt, hf, rfl⟩
    exact ⟨i, hi, by omega, by omega, _, seg_one s hlt, hf⟩
  · rintro ⟨i, hi, h1, h2, c, e, hf⟩
    have hl := seg_len s (i := i) h2
    rw [e] at hl
    simp at hl
    obtain rfl : j = i + 1 := by omega
    rw [seg_one s (by omega)] at e
    simp at e
    exact ⟨i, hi, by omega, by rw [e]; exact hf, rfl⟩
/-- So many steps. -/
inductive Path (P : List UInt8 → Prop) (s : List UInt8) : Nat → Nat → Nat → Prop
  | one (i j : Nat) : Step P s i j → Path P s 1 i j
  | more (t i m j : Nat) : Path P s t i m → Step P s m j → Path P s (t + 1) i j
theorem path_cons {P : List UInt8 → Prop} {s : List UInt8} {t i m j : Nat} (h : Step P s i m) (k : Path P s t m j) : Path P s (t + 1) i j := by
  induction k with
  | one i' j hs => exact .more 1 _ _ _ (.one _ _ h) hs
  | more t i' m' j hp hs ih => exact .more _ _ _ _ (ih h) hs
theorem Path.le {P : List UInt8 → Prop} {s : List UInt8} {t i j : Nat} (h : Path P s t i j) : i ≤ j ∧ j ≤ s.length := by
  induction h with
  | one i j h => exact ⟨h.1, h.2.1⟩
  | more t i m j hp hs ih => exact ⟨Nat.le_trans ih.1 hs.1, hs.2.1⟩
theorem star_snoc {P : List UInt8 → Prop} {w : List UInt8} (hw : P w) : ∀ {v : List UInt8}, Star P v → Star P (v ++ w) := by
  intro v h
  induction h with
  | nil =>
    cases w with
    | nil => exact .nil
    | cons c u => simpa using Star.more c u [] hw .nil
  | more c u v hp hs ih =>
    rw [List.append_assoc]
    exact .more c u _ hp ih
theorem path_sound {P : List UInt8 → Prop} {s : List UInt8} {t i j : Nat} (h : Path P s t i j) : ∃ u v, seg s i j = u ++ v ∧ P u ∧ Star P v := by
  induction h with
  | one i j h => exact ⟨_, [], (List.append_nil _).symm, h.2.2, .nil⟩
  | more t i m j hp hs ih =>
    obtain ⟨u, v, e, hu, hv⟩ := ih
    exact ⟨u, v ++ seg s m j, by rw [seg_app s hp.le.1 hs.1, e, List.append_assoc], hu, star_snoc hs.2.2 hv⟩
theorem star_path {P : List UInt8 → Prop} {s : List UInt8} : ∀ {v : List UInt8}, Star P v → ∀ {i j : Nat}, i ≤ j → j ≤ s.length → seg s i j = v → v = [] ∨ ∃ t, 1 ≤ t ∧ t ≤ v.length ∧ Path P s t i j := by
  intro v h
  induction h with
  | nil => intro i j _ _ _; exact .inl rfl
  | more c u v hp hs ih =>
    intro i j h1 h2 e
    right
    obtain ⟨g1, g2, g3⟩ := seg_front s h1 h2 e
    have st : Step P s i (i + (c :: u).length) := ⟨by omega, by omega, by rw [g2]; exact hp⟩
    rcases ih g1 h2 g3 with rfl | ⟨t, ht, htl, hpath⟩
    · have hl := seg_len s (i := i + (c :: u).length) h2
      rw [g3] at hl
      simp only [List.length_nil] at hl
      obtain hj : j = i + (c :: u).length := by omega
      refine ⟨1, Nat.le_refl _, by simp, ?_⟩
      rw [hj]
      exact .one _ _ st
    · exact ⟨t + 1, by omega, by simp; omega, path_cons st hpath⟩
theorem path_full {P : List UInt8 → Prop} {s : List UInt8} {i j : Nat} {u v : List UInt8} (h1 : i ≤ j) (h2 : j ≤ s.length) (e : seg s i j = u ++ v) (hu : P u) (hv : Star P v) : ∃ t, t ≤ s.length ∧ Path P s (t + 1) i j := by
  obtain ⟨g1, g2, g3⟩ := seg_front s h1 h2 e
  have st : Step P s i (i + u.length) := ⟨by omega, by omega, by rw [g2]; exact hu⟩
  rcases star_path hv g1 h2 g3 with rfl | ⟨t, ht, htl, hpath⟩
  · have hl := seg_len s (i := i + u.length) h2
    rw [g3] at hl
    simp only [List.length_nil] at hl
    obtain hj : j = i + u.length := by omega
    exact ⟨0, by omega, by rw [hj]; exact .one _ _ st⟩
  · have hl := seg_len s (i := i + u.length) h2
    rw [g3] at hl
    exact ⟨t, by omega, path_cons st hpath⟩
/-- What k rounds of one more step have found: nothing but what so begins, and all that k + 1 steps reach. -/
def Found (P : List UInt8 → Prop) (s : List UInt8) (l : List Nat) (k : Nat) (next : List Nat) : Prop :=
  Rise next ∧ (∀ j ∈ next, ∃ i t, i ∈ l ∧ Path P s (t + 1) i j) ∧ ∀ i j t, i ∈ l → t ≤ k → Path P s (t + 1) i j → j ∈ next
theorem found_zero {P : List UInt8 → Prop} {s : List UInt8} {l next : List Nat} (h : IsEnds P s l next) : Found P s l 0 next := by
  refine ⟨h.1, fun j hj => ?_, fun i j t hi ht hp => ?_⟩
  · obtain ⟨i, hi, hs⟩ := (h.2 j).1 hj
    exact ⟨i, 0, hi, .one _ _ hs⟩
  · obtain rfl : t = 0 := by omega
    cases hp with
    | one _ _ hs => exact (h.2 j).2 ⟨i, hi, hs⟩
    | more t i m j hp hs => exact absurd hp (fun hp => by cases hp)
theorem found_step {P : List UInt8 → Prop} {s : List UInt8} {l next ends more : List Nat} {k : Nat} (h : Found P s l k next) (he : IsEnds P s next ends) (hj : Joins next ends more) : Found P s l (k + 1) more := by
  refine ⟨hj.1, fun j hm => ?_, fun i j t hi ht hp => ?_⟩
  · rcases (hj.2 j).1 hm with hm | hm
    · exact h.2.1 j hm
    · obtain ⟨m, hn, hs⟩ := (he.2 j).1 hm
      obtain ⟨i, t, hi, hp⟩ := h.2.1 m hn
      exact ⟨i, t + 1, hi, .more _ _ _ _ hp hs⟩
  · rw [hj.2]
    by_cases hk : t ≤ k
    · exact .inl (h.2.2 i j t hi hk hp)
    · obtain rfl : t = k + 1 := by omega
      cases hp with
      | more _ _ m _ hp hs => exact .inr ((he.2 j).2 ⟨m, h.2.2 i m k hi (Nat.le_refl _) hp, hs⟩)
theorem found_ends {P : List UInt8 → Prop} {s : List UInt8} {l next : List Nat} {k : Nat} (h : Found P s l k next) (hc : ∀ i j t, i ∈ l → t ≤ s.length → Path P s (t + 1) i j → j ∈ next) : IsEnds (fun w => ∃ u v, w = u ++ v ∧ P u ∧ Star P v) s l next := by
  refine ⟨h.1, fun j => ⟨fun hj => ?_, ?_⟩⟩
  · obtain ⟨i, t, hi, hp⟩ := h.2.1 j hj
    exact ⟨i, hi, hp.le.1, hp.le.2, path_sound hp⟩
  · rintro ⟨i, hi, h1, h2, u, v, e, hu, hv⟩
    obtain ⟨t, ht, hp⟩ := path_full h1 h2 e hu hv
    exact hc i j t hi ht hp
theorem found_full {P : List UInt8 → Prop} {s : List UInt8} {l next : List Nat} (h : Found P s l s.length next) : IsEnds (fun w => ∃ u v, w = u ++ v ∧ P u ∧ Star P v) s l next :=
  found_ends h fun i j t hi ht hp => h.2.2 i j t hi ht hp
theorem rise_sub : ∀ {b a : List Nat}, Rise a → Rise b → (∀ j ∈ a, j ∈ b) → a.Sublist b
  | [], a, ha, hb, hs => by
    cases a with
    | nil => exact .slnil
    | cons x a => exact absurd (hs x (by simp)) (by simp)
  | y :: b, [], ha, hb, hs => List.nil_sublist _
  | y :: b, x :: a, ha, hb, hs => by
    have ha2 := List.pairwise_cons.1 ha
    have hb2 := List.pairwise_cons.1 hb
    by_cases e : x = y
    · subst e
      refine (rise_sub ha2.2 hb2.2 fun j hj => ?_).cons_cons x
      have h1 := ha2.1 j hj
      rcases List.mem_cons.1 (hs j (List.mem_cons_of_mem _ hj)) with h | h
      · omega
      · exact h
    · refine (rise_sub ha hb2.2 fun j hj => ?_).cons y
      have hx : x ∈ b := by
        rcases List.mem_cons.1 (hs x (by simp)) with h | h
        · exact absurd h e
        · exact h
      have hy := hb2.1 x hx
      rcases List.mem_cons.1 (hs j hj) with h | h
      · subst h
        rcases List.mem_cons.1 hj with h | h
        · omega
        · have := ha2.1 j h; omega
      · exact h
theorem same_of_len {a b : List Nat} (ha : Rise a) (hb : Rise b) (hs : ∀ j ∈ a, j ∈ b) (hl : b.length = a.length) : ∀ j ∈ b, j ∈ a := by
  have e := (rise_sub ha hb hs).eq_of_length hl.symm
  rw [e]
  exact fun _ h => h
theorem found_stop {P : List UInt8 → Prop} {s : List UInt8} {l next ends more : List Nat} {k : Nat} (h : Found P s l k next) (he : IsEnds P s next ends) (hj : Joins next ends more) (hl : more.length = next.length) : IsEnds (fun w => ∃ u v, w = u ++ v ∧ P u ∧ Star P v) s l next := by
  have hcl := same_of_len h.1 hj.1 (fun j hm => (hj.2 j).2 (.inl hm)) hl
  have all : ∀ t i j, i ∈ l → Path P s t i j → j ∈ next := by
    intro t i j hi hp
    induction hp with
    | one i j hs => exact h.2.2 i j 0 hi (Nat.zero_le _) (.one _ _ hs)
    | more t i m j hp hs ih => exact hcl j ((hj.2 j).2 (.inr ((he.2 j).2 ⟨m, ih hi, hs⟩)))
  exact found_ends h fun i j t hi _ hp => all _ i j hi hp
/-- The last one of places that rise is the text's end just where the end is one of them. -/
theorem last_end {l : List Nat} {n : Nat} (hr : Rise l) (hl : ∀ j ∈ l, j ≤ n) (h0 : 0 < l.length) : l[l.length - 1] = n ↔ n ∈ l := by
  constructor
  · intro h; rw [← h]; exact List.getElem_mem _
  · intro h
    obtain ⟨i, hi, e⟩ := List.getElem_of_mem h
    have hle := hl _ (List.getElem_mem (show l.length - 1 < l.length by omega))
    rcases Nat.lt_or_ge i (l.length - 1) with hlt | hge
    · have := List.pairwise_iff_getElem.1 hr i (l.length - 1) hi (by omega) hlt
      omega
    · obtain rfl : i = l.length - 1 := by omega
      exact e
end Go.Proofs.YtpcjnagdanmdpaaGreat
