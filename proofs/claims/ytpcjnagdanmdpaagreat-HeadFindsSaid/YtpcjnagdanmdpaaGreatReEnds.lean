/- The document's own answer for patterns: what its pieces and alternatives are as trees; places behind a byte, behind a part that comes again. Of no program. -/
import Derived.Test.YtpcjnagdanmdpaaGreatHdLotRN
namespace Go.Proofs.YtpcjnagdanmdpaaGreat
set_option linter.unusedVariables false
def markR (z : List UInt8) (r : Re) : Re := if aheadM [42] z then .rep r true true else if aheadM [43] z then .rep r false true else if aheadM [63] z then .rep r true false else r
def AtomT (a : List UInt8) (r : Re) : Prop := ∃ n d, atomM n a = some (r, [], d)
def AltT (x : List UInt8) (rs : List Re) : Prop := ∃ n d, altM n x = some (rs, [], d)
def PatT (x : List UInt8) (ls : List Re) : Prop := ∃ n d, patM n x = some (ls, [], d)
theorem alt_void {rs : List Re} (h : AltT [] rs) : rs = [] := by
  obtain ⟨n, d, h⟩ := h
  cases n with
  | zero => simp [altM] at h
  | succ n => simp [altM] at h; exact h.1
theorem piece_is {n : Nat} {x y : List UInt8} {r' : Re} {d : Nat} (h : pieceM n x = some (r', y, d)) : ∃ k r z d', atomM k x = some (r, z, d') ∧ r' = markR z r ∧ y = behindP z := by
  cases n with
  | zero => simp [pieceM] at h
  | succ n =>
    simp only [pieceM] at h
    cases ha : atomM n x with
    | none => rw [ha] at h; cases h
    | some q =>
      obtain ⟨r, z, d'⟩ := q
      rw [ha] at h
      simp only at h
      refine ⟨n, r, z, d', ha, ?_⟩
      unfold markR behindP MarkP
      split at h
      · rename_i h1
        simp only [Option.some.injEq, Prod.mk.injEq] at h
        rw [if_pos h1, if_pos (by rw [h1]; rfl)]
        exact ⟨h.1.symm, h.2.1.symm⟩
      · rename_i h1
        split at h
        · rename_i h2
          simp only [Option.some.injEq, Prod.mk.injEq] at h
          rw [if_neg h1, if_pos h2, if_pos (by rw [h2]; simp)]
          exact ⟨h.1.symm, h.2.1.symm⟩
        · rename_i h2
          split at h
          · rename_i h3
            simp only [Option.some.injEq, Prod.mk.injEq] at h
            rw [if_neg h1, if_neg h2, if_pos h3, if_pos (by rw [h3]; simp)]
            exact ⟨h.1.symm, h.2.1.symm⟩
          · rename_i h3
            simp only [Option.some.injEq, Prod.mk.injEq] at h
            rw [if_neg h1, if_neg h2, if_neg h3, if_neg (by simp [h1, h2, h3])]
            exact ⟨h.1.symm, h.2.1.symm⟩
theorem alt_open {x : List UInt8} {rs : List Re} (h : AltT x rs) (hx : x ≠ []) : ∃ a r z rs', x = a ++ z ∧ a ≠ [] ∧ AtomT a r ∧ AtomP x z ∧ AltT (behindP z) rs' ∧ rs = markR z r :: rs' := by
  obtain ⟨n, d, h⟩ := h
  cases n with
  | zero => simp [altM] at h
  | succ n =>
    simp only [altM] at h
    split at h
    · simp only [Option.some.injEq, Prod.mk.injEq] at h
      exact absurd h.2.1 hx
    · cases hp : pieceM n x with
      | none => rw [hp] at h; cases h
      | some q =>
        obtain ⟨r', y, d1⟩ := q
        rw [hp] at h
        simp only at h
        cases hr : altM n y with
        | none => rw [hr] at h; cases h
        | some q2 =>
          obtain ⟨rs', z2, d2⟩ := q2
          rw [hr] at h
          simp only [Option.some.injEq, Prod.mk.injEq] at h
          obtain ⟨rfl, rfl, _⟩ := h
          obtain ⟨k, r, z, d', ha, rfl, rfl⟩ := piece_is hp
          obtain ⟨u, h1, h2, h3⟩ := atom_cut ha
          have h4 := h3 []
          rw [List.append_nil] at h4
          exact ⟨u, r, z, rs', h1, h2, ⟨k, d', h4⟩, ⟨k, r, d', ha⟩, ⟨n, d2, hr⟩, rfl⟩
/-- The alternatives' texts, and their trees. -/
inductive AltsOf : List (List UInt8) → List Re → Prop
  | one (u : List UInt8) (rs : List Re) : AltT u rs → AltsOf [u] [.row rs]
  | more (u : List UInt8) (rs : List Re) (us : List (List UInt8)) (ls : List Re) : AltT u rs → AltsOf us ls → AltsOf (u :: us) (.row rs :: ls)
theorem res_first {u x : List UInt8} {r : Option (List (List UInt8))} (h : Res u x r) : ∀ us, r = some us → ∃ u1 us' rs n y d, us = (u ++ u1) :: us' ∧ x = u1 ++ y ∧ altM n x = some (rs, y, d) ∧ ((y = [] ∧ us' = []) ∨ ∃ t, y = 124 :: t ∧ Res [] t (some us')) := by
  induction h with
  | nil u =>
    intro us e
    simp only [Option.some.injEq] at e
    exact ⟨[], [], [], 1, [], 0, by rw [← e]; simp, rfl, rfl, .inl ⟨rfl, rfl⟩⟩
  | bar u t r h ih =>
    intro us e
    cases r with
    | none => cases e
    | some us' =>
      simp only [Option.map_some, Option.some.injEq] at e
      exact ⟨[], us', [], 1, 124 :: t, 0, by rw [← e]; simp, rfl, rfl, .inr ⟨t, rfl, h⟩⟩
  | one u v x z r ha hx h ih =>
    intro us e
    obtain ⟨u1, us', rs, n, y, d, h1, h2, h3, h4⟩ := ih us e
    obtain ⟨k, r0, d0, ha0⟩ := ha
    obtain ⟨r', hp⟩ := piece_of ha0
    refine ⟨v ++ u1, us', r' :: rs, max (k + 1) n + 1, y, max d0 d, by rw [h1, List.append_assoc], by rw [List.append_assoc, ← h2, ← hx], ?_, h4⟩
    have hh := atom_head ⟨k, r0, d0, ha0⟩
    simp only [altM]
    rw [if_neg (by
      rw [Bool.or_eq_true, not_or]
      refine ⟨?_, by rw [hh.2]; simp⟩
      cases x with
      | nil => exact absurd rfl hh.1
      | cons c t => simp)]
    rw [piece_mono (Nat.le_max_left _ _) hp]
    simp only
    rw [alt_mono (Nat.le_max_right _ _) h3]
  | bad u x hn hne hb => intro us e; cases e
theorem alt_alone {n : Nat} {u y : List UInt8} {rs : List Re} {d : Nat} (h : altM n (u ++ y) = some (rs, y, d)) : AltT u rs := by
  obtain ⟨v, h1, h2⟩ := alt_cut h
  have e : u = v := List.append_cancel_right h1
  have h3 := h2 [] (.inl rfl)
  rw [List.append_nil, ← e] at h3
  exact ⟨n, d, h3⟩
theorem res_alts : ∀ (m : Nat) {x : List UInt8} {us : List (List UInt8)}, x.length ≤ m → Res [] x (some us) → ∃ ls, PatT x ls ∧ AltsOf us ls := by
  intro m
  induction m with
  | zero =>
    intro x us hm h
    obtain rfl : x = [] := List.eq_nil_of_length_eq_zero (by omega)
    have := res_nil h
    simp only [Option.some.injEq] at this
    rw [this]
    exact ⟨[.row []], ⟨2, 0, rfl⟩, .one [] [] ⟨1, 0, rfl⟩⟩
  | succ m ih =>
    intro x us hm h
    obtain ⟨u1, us', rs, n, y, d, h1, h2, h3, h4⟩ := res_first h us rfl
    rw [List.nil_append] at h1
    have ha : AltT u1 rs := by rw [h2] at h3; exact alt_alone h3
    rcases h4 with ⟨rfl, rfl⟩ | ⟨t, rfl, hr⟩
    · rw [h1]
      exact ⟨[.row rs], ⟨n + 1, d, pat_end h3 (by simp [aheadM])⟩, .one _ _ ha⟩
    · obtain ⟨ls, ⟨n2, d2, hp⟩, hA⟩ := ih (x := t) (by rw [h2, List.length_append, List.length_cons] at hm; omega) hr
      rw [h1]
      refine ⟨.row rs :: ls, ⟨max n n2 + 1, max d d2, ?_⟩, .more _ _ _ _ ha hA⟩
      exact pat_bar (alt_mono (Nat.le_max_left _ _) h3) (by rfl) (pat_mono (Nat.le_max_right _ _) hp)
theorem pat_one_of {x : List UInt8} {ls ms : List Re} (h : PatT x ls) (k : PatT x ms) : ls = ms := by
  obtain ⟨n, d, h⟩ := h
  obtain ⟨m, e, k⟩ := k
  have h1 := pat_mono (Nat.le_max_left n m) h
  have h2 := pat_mono (Nat.le_max_right n m) k
  rw [h1] at h2
  simp only [Option.some.injEq, Prod.mk.injEq] at h2
  exact h2.1
/-! ### places -/
def stepB (s : List UInt8) (f : UInt8 → Bool) (i : Nat) : Bool := match s[i]? with | some c => f c | none => false
def oneOut (s : List UInt8) (f : UInt8 → Bool) (l : List Nat) (k : Nat) : List Nat := ((l.take k).filter (stepB s f)).map (· + 1)
theorem oneOut_step (s : List UInt8) (f : UInt8 → Bool) (l : List Nat) {k : Nat} (h : k < l.length) : oneOut s f l (k + 1) = oneOut s f l k ++ (if stepB s f (l.getD k 0) then [l.getD k 0 + 1] else []) := by
  unfold oneOut
  have e : l[k]? = some (l.getD k 0) := by rw [List.getD_eq_getElem?_getD, List.getElem?_eq_getElem h]; rfl
  rw [List.take_add_one, e, List.filter_append, List.map_append]
  congr 1
  simp only [Option.toList_some, List.filter_cons, List.filter_nil]
  split <;> rfl
theorem oneOut_len (s : List UInt8) (f : UInt8 → Bool) (l : List Nat) (k : Nat) : (oneOut s f l k).length ≤ k := by
  unfold oneOut
  rw [List.length_map]
  exact Nat.le_trans (List.length_filter_le _ _) (List.length_take_le _ _)
theorem oneOut_ends (s : List UInt8) (f : UInt8 → Bool) (l : List Nat) (hl : Rise l) : IsEnds (fun w => ∃ c, w = [c] ∧ f c = true) s l (oneOut s f l l.length) := by
  unfold oneOut
  rw [List.take_of_length_le (Nat.le_refl _)]
  refine ends_byte ?_ fun j => ?_
  · unfold Rise at hl ⊢
    rw [List.pairwise_map]
    exact (hl.filter _).imp fun h => by omega
  · rw [List.mem_map]
    constructor
    · rintro ⟨i, hi, rfl⟩
      rw [List.mem_filter] at hi
      obtain ⟨h1, h2⟩ := hi
      unfold stepB at h2
      rcases Nat.lt_or_ge i s.length with h3 | h3
      · rw [List.getElem?_eq_getElem h3] at h2
        exact ⟨i, h1, h3, h2, rfl⟩
      · rw [List.getElem?_eq_none h3] at h2; cases h2
    · rintro ⟨i, h1, h2, h3, rfl⟩
      refine ⟨i, List.mem_filter.2 ⟨h1, ?_⟩, rfl⟩
      unfold stepB
      rw [List.getElem?_eq_getElem h2]
      exact h3
theorem ends_plus {r : Re} {s : List UInt8} {l out : List Nat} (h : IsEnds (fun w => ∃ u v, w = u ++ v ∧ L r u ∧ Star (L r) v) s l out) : IsEnds (L (.rep r false true)) s l out :=
  h.congr fun w => by
    simp only [L, Sv, if_true]
    constructor
    · exact fun h => .inr h
    · rintro (⟨h, _⟩ | h)
      · cases h
      · exact h
theorem ends_star {r : Re} {s : List UInt8} {l a out : List Nat} (hl : Rise l) (hs : ∀ j ∈ l, j ≤ s.length) (h : IsEnds (fun w => ∃ u v, w = u ++ v ∧ L r u ∧ Star (L r) v) s l a) (hj : Joins a l out) : IsEnds (L (.rep r true true)) s l out :=
  (ends_or h (ends_nil hl hs) hj).congr fun w => by
    simp only [L, Sv, if_true, true_and]
    exact Or.comm
theorem ends_maybe {r : Re} {s : List UInt8} {l a out : List Nat} (hl : Rise l) (hs : ∀ j ∈ l, j ≤ s.length) (h : IsEnds (L r) s l a) (hj : Joins a l out) : IsEnds (L (.rep r true false)) s l out :=
  (ends_or h (ends_nil hl hs) hj).congr fun w => by
    simp only [L, Sv, true_and, Bool.false_eq_true, if_false]
    constructor
    · rintro (h | h)
      · exact .inr ⟨w, [], by simp, h, rfl⟩
      · exact .inl h
    · rintro (h | ⟨u, v, rfl, h, rfl⟩)
      · exact .inr h
      · exact .inl (by rw [List.append_nil]; exact h)
theorem ends_row {r : Re} {rs : List Re} {s : List UInt8} {l m out : List Nat} (h : IsEnds (L r) s l m) (k : IsEnds (LRow rs) s m out) : IsEnds (LRow (r :: rs)) s l out :=
  (ends_then h k).congr fun w => by simp only [LRow]
end Go.Proofs.YtpcjnagdanmdpaaGreat
