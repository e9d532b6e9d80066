/- Right patterns, without fuel: behind a piece, behind a |, at a group; as the document's own answer goes through a text. Of no program. -/
import Derived.Test.YtjljfilflajogaaReParse6
namespace Go.Proofs.Ytjljfilflajogaa
set_option linter.unusedVariables false

/-- The text is a pattern. -/
def RightP (p : List UInt8) : Prop := ∃ n ls d, patM n p = some (ls, [], d)
/-- An atom stands at the text's front, and z behind it. -/
def AtomP (x z : List UInt8) : Prop := ∃ n r d, atomM n x = some (r, z, d)
def NoAtom (x : List UInt8) : Prop := ∀ n, atomM n x = none
theorem atom_or (x : List UInt8) : NoAtom x ∨ ∃ z, AtomP x z := by
  by_cases h : ∃ z, AtomP x z
  · exact .inr h
  · refine .inl fun n => ?_
    cases ha : atomM n x with
    | none => rfl
    | some q => exact absurd ⟨q.2.1, n, q.1, q.2.2, ha⟩ h
theorem AtomP.not {x z : List UInt8} (h : AtomP x z) (k : NoAtom x) : False := by
  obtain ⟨n, r, d, h⟩ := h
  rw [k n] at h
  cases h
theorem right_nil : RightP [] := ⟨2, [.row []], 0, rfl⟩
theorem right_bar (t : List UInt8) : RightP (124 :: t) ↔ RightP t := by
  constructor
  · rintro ⟨n, ls, d, h⟩
    cases n with
    | zero => simp [patM] at h
    | succ n =>
      simp only [patM] at h
      cases n with
      | zero => simp [altM] at h
      | succ n =>
        rw [show altM (n + 1) (124 :: t) = some ([], 124 :: t, 0) from rfl] at h
        simp only at h
        rw [if_pos (by rfl), List.tail_cons] at h
        cases hp : patM (n + 1) t with
        | none => rw [hp] at h; cases h
        | some q =>
          obtain ⟨ls', z, e⟩ := q
          rw [hp] at h
          simp only [Option.some.injEq, Prod.mk.injEq] at h
          obtain ⟨_, rfl, _⟩ := h
          exact ⟨_, _, _, hp⟩
  · rintro ⟨n, ls, d, h⟩
    have := pat_or (a := []) h (n := 2) (ls := [.row []]) (d := 0) rfl
    exact ⟨_, _, _, this⟩
def MarkP (y : List UInt8) : Bool := aheadM [42] y || aheadM [43] y || aheadM [63] y
def behindP (y : List UInt8) : List UInt8 := if MarkP y then y.tail else y
theorem piece_of {n : Nat} {x y : List UInt8} {r : Re} {d : Nat} (h : atomM n x = some (r, y, d)) : ∃ r', pieceM (n + 1) x = some (r', behindP y, d) := by
  simp only [pieceM, h]
  unfold behindP MarkP
  cases h1 : aheadM [42] y
  · cases h2 : aheadM [43] y
    · cases h3 : aheadM [63] y
      · exact ⟨_, rfl⟩
      · exact ⟨_, rfl⟩
    · exact ⟨_, rfl⟩
  · exact ⟨_, rfl⟩
theorem atom_unique {n m : Nat} {x : List UInt8} {q q'} (h : atomM n x = some q) (k : atomM m x = some q') : q = q' := by
  have h1 := atom_mono (Nat.le_max_left n m) h
  have h2 := atom_mono (Nat.le_max_right n m) k
  rw [h1] at h2
  exact Option.some.inj h2
theorem atom_head {x z : List UInt8} (h : AtomP x z) : x ≠ [] ∧ aheadM [124, 41] x = false := by
  obtain ⟨n, r, d, h⟩ := h
  cases n with
  | zero => simp [atomM] at h
  | succ n =>
    cases x with
    | nil => simp [atomM, aheadM, takeButM] at h
    | cons c t =>
      refine ⟨by simp, ?_⟩
      by_cases h1 : c = 124
      · subst h1
        rw [show atomM (n + 1) (124 :: t) = none from rfl] at h
        cases h
      · by_cases h2 : c = 41
        · subst h2
          rw [show atomM (n + 1) (41 :: t) = none from rfl] at h
          cases h
        · simp [aheadM]
          exact ⟨h1, h2⟩
theorem pat_bar {k : Nat} {x y z : List UInt8} {l ls : List Re} {d e : Nat} (h : altM k x = some (l, y, d)) (hb : aheadM [124] y = true) (hp : patM k y.tail = some (ls, z, e)) : patM (k + 1) x = some (.row l :: ls, z, max d e) := by
  simp only [patM, h]
  rw [if_pos hb, hp]
theorem pat_end {k : Nat} {x y : List UInt8} {l : List Re} {d : Nat} (h : altM k x = some (l, y, d)) (hb : ¬ aheadM [124] y = true) : patM (k + 1) x = some ([.row l], y, d) := by
  simp only [patM, h]
  rw [if_neg hb]
theorem right_piece {x y : List UInt8} (h : AtomP x y) : RightP x ↔ RightP (behindP y) := by
  obtain ⟨hn, hx⟩ := atom_head h
  obtain ⟨n, r, d, ha⟩ := h
  obtain ⟨r', hp⟩ := piece_of ha
  constructor
  · rintro ⟨m, ls, e, h⟩
    cases m with
    | zero => simp [patM] at h
    | succ m =>
      simp only [patM] at h
      cases m with
      | zero => simp [altM] at h
      | succ m =>
        simp only [altM] at h
        rw [if_neg (by rw [hx]; cases x with | nil => exact absurd rfl hn | cons c t => simp)] at h
        cases hp2 : pieceM m x with
        | none => rw [hp2] at h; cases h
        | some q =>
          have e1 : q = (r', behindP y, d) := by
            have h1 := piece_mono (Nat.le_max_left m (n + 1)) hp2
            have h2 := piece_mono (Nat.le_max_right m (n + 1)) hp
            rw [h1] at h2
            exact Option.some.inj h2
          subst e1
          rw [hp2] at h
          simp only at h
          cases ha2 : altM m (behindP y) with
          | none => rw [ha2] at h; cases h
          | some q =>
            obtain ⟨l, y2, d2⟩ := q
            rw [ha2] at h
            simp only at h
            have h3 := alt_mono (Nat.le_succ m) ha2
            split at h
            · rename_i hb
              cases hp3 : patM (m + 1) y2.tail with
              | none => rw [hp3] at h; cases h
              | some q =>
                obtain ⟨ls', z, e'⟩ := q
                rw [hp3] at h
                simp only [Option.some.injEq, Prod.mk.injEq] at h
                obtain ⟨_, rfl, _⟩ := h
                exact ⟨m + 2, .row l :: ls', max d2 e', pat_bar h3 hb hp3⟩
            · rename_i hb
              simp only [Option.some.injEq, Prod.mk.injEq] at h
              obtain ⟨_, rfl, _⟩ := h
              exact ⟨m + 2, [.row l], d2, pat_end h3 hb⟩
  · rintro ⟨m, ls, e, h⟩
    cases m with
    | zero => simp [patM] at h
    | succ m =>
      simp only [patM] at h
      cases ha2 : altM m (behindP y) with
      | none => rw [ha2] at h; cases h
      | some q =>
        obtain ⟨l, y2, d2⟩ := q
        rw [ha2] at h
        simp only at h
        have hs := alt_step hx hn (piece_mono (show n + 1 ≤ n + 1 + m by omega) hp) (alt_mono (show m ≤ n + 1 + m by omega) ha2)
        split at h
        · rename_i hb
          cases hp3 : patM m y2.tail with
          | none => rw [hp3] at h; cases h
          | some q =>
            obtain ⟨ls', z, e'⟩ := q
            rw [hp3] at h
            simp only [Option.some.injEq, Prod.mk.injEq] at h
            obtain ⟨_, rfl, _⟩ := h
            exact ⟨n + 1 + m + 1 + 1, .row (r' :: l) :: ls', max (max d d2) e', pat_bar hs hb (pat_mono (show m ≤ n + 1 + m + 1 by omega) hp3)⟩
        · rename_i hb
          simp only [Option.some.injEq, Prod.mk.injEq] at h
          obtain ⟨_, rfl, _⟩ := h
          exact ⟨n + 1 + m + 1 + 1, [.row (r' :: l)], max d d2, pat_end hs hb⟩
theorem right_none {x : List UInt8} (h : NoAtom x) (hn : x ≠ []) (hb : aheadM [124] x = false) : ¬ RightP x := by
  rintro ⟨m, ls, e, hp⟩
  cases m with
  | zero => simp [patM] at hp
  | succ m =>
    simp only [patM] at hp
    cases m with
    | zero => simp [altM] at hp
    | succ m =>
      by_cases h41 : aheadM [41] x = true
      · have e1 := ahead_one h41
        rw [e1] at hp
        rw [show altM (m + 1) (41 :: x.tail) = some ([], 41 :: x.tail, 0) from rfl] at hp
        simp only at hp
        rw [show aheadM [124] (41 :: x.tail) = false from rfl] at hp
        simp at hp
      · have hx : aheadM [124, 41] x = false := by
          cases x with
          | nil => exact absurd rfl hn
          | cons c t =>
            simp [aheadM] at hb h41 ⊢
            exact ⟨hb, h41⟩
        simp only [altM] at hp
        rw [if_neg (by rw [hx]; cases x with | nil => exact absurd rfl hn | cons c t => simp)] at hp
        cases m with
        | zero => simp [pieceM] at hp
        | succ m =>
          rw [show pieceM (m + 1) x = none by simp only [pieceM, h m]] at hp
          simp at hp
theorem scan_head {k : Nat} {x : List UInt8} {q : Option (List UInt8)} (h : Scan k x q) : ∀ y, q = some y → ∃ u z, x = u ++ y ∧ y = 41 :: z := by
  induction h with
  | nil k => intro y e; cases e
  | esc k t q h ih =>
    intro y e
    obtain ⟨u, z, h1, h2⟩ := ih y e
    cases t with
    | nil =>
      simp at h1
      rw [h1.2] at h2
      cases h2
    | cons c t => exact ⟨92 :: c :: u, z, by rw [List.cons_append, List.cons_append, ← h1]; rfl, h2⟩
  | cls k n x y0 r q hc h ih =>
    intro y e
    obtain ⟨u, z, h1, h2⟩ := ih y e
    obtain ⟨u0, e0, _⟩ := class_cut hc
    exact ⟨91 :: (u0 ++ u), z, by rw [e0, h1]; simp, h2⟩
  | ncl k x h => intro y e; cases e
  | opn k t q h ih =>
    intro y e
    obtain ⟨u, z, h1, h2⟩ := ih y e
    exact ⟨40 :: u, z, by rw [List.cons_append, ← h1], h2⟩
  | stop t => intro y e; cases e; exact ⟨[], t, rfl, rfl⟩
  | cl k t q h ih =>
    intro y e
    obtain ⟨u, z, h1, h2⟩ := ih y e
    exact ⟨41 :: u, z, by rw [List.cons_append, ← h1], h2⟩
  | oth k c t q a1 a2 a3 a4 h ih =>
    intro y e
    obtain ⟨u, z, h1, h2⟩ := ih y e
    exact ⟨c :: u, z, by rw [List.cons_append, ← h1], h2⟩
/-- A group that is an atom: where closing ends, and that its inner text is right. -/
theorem group_yes {x z : List UInt8} (h : AtomP (40 :: x) z) : Scan 1 x (some (41 :: z)) ∧ ∃ u, x = u ++ 41 :: z ∧ RightP u := by
  obtain ⟨n, r, d, h⟩ := h
  cases n with
  | zero => simp [atomM] at h
  | succ n =>
    simp only [atomM] at h
    rw [if_pos (by rfl), List.tail_cons] at h
    cases hp : patM n x with
    | none => rw [hp] at h; cases h
    | some q =>
      obtain ⟨ls, y, d0⟩ := q
      rw [hp] at h
      simp only at h
      split at h
      · rename_i hb
        simp only [Option.some.injEq, Prod.mk.injEq] at h
        obtain ⟨_, rfl, _⟩ := h
        have e := ahead_one hb
        rw [← e]
        obtain ⟨u, h1, h2⟩ := pat_cut hp
        have h3 := h2 [] (.inl rfl)
        rw [List.append_nil] at h3
        refine ⟨pat_scan (k := 0) hp (by rw [e]; exact .stop _), u, h1, n, ls, d0, h3⟩
      · cases h
/-- One that is none: what closing shows is no right pattern. -/
theorem group_no {x : List UInt8} (h : NoAtom (40 :: x)) {u z : List UInt8} (hx : x = u ++ 41 :: z) : ¬ RightP u := by
  rintro ⟨n, ls, d, hp⟩
  have := h (n + 1)
  rw [hx, atom_group hp] at this
  cases this
end Go.Proofs.Ytjljfilflajogaa
