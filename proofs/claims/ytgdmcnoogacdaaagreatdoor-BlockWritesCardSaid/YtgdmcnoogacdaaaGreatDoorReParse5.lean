/- What whole patterns tell: the class of two bytes, a quoted text, one or another, one behind another, one again. Of no program. -/
import Derived.Test.YtgdmcnoogacdaaaGreatDoorBlLotJ
namespace Go.Proofs.YtgdmcnoogacdaaaGreatDoor
set_option linter.unusedVariables false

/-- What parse tells of a right pattern. -/
theorem parse_right {n : Nat} {p : List UInt8} (h : (parseM n p).1 = 0) : ∃ ls d, patM n p = some (ls, [], d) ∧ d ≤ 8 ∧ p.length ≤ 64 ∧ parseM n p = (0, .alt ls) := by
  unfold parseM at h ⊢
  split at h
  · cases h
  · rename_i hl
    rw [if_neg hl]
    cases hq : patM n p with
    | none => rw [hq] at h; cases h
    | some q =>
      obtain ⟨ls, y, d⟩ := q
      rw [hq] at h
      simp only at h ⊢
      cases y with
      | cons c t => simp at h
      | nil =>
        simp only [List.isEmpty_nil, if_true] at h ⊢
        split at h
        · cases h
        · rename_i hd
          exact ⟨ls, d, rfl, by omega, by omega, by rw [if_neg hd]⟩
theorem parse_of {n : Nat} {p : List UInt8} {ls : List Re} {d : Nat} (h : patM n p = some (ls, [], d)) (hl : p.length ≤ 64) : parseM n p = if 8 < d then (15, .row []) else (0, .alt ls) := by
  unfold parseM
  rw [if_neg (by omega), h]
  rfl
theorem parse_fail {n : Nat} {p : List UInt8} (h : patM n p = none) (hl : p.length ≤ 64) : (parseM n p).1 = 14 := by
  unfold parseM
  rw [if_neg (by omega), h]
theorem fresh_alt {n : Nat} {p : List UInt8} {ls : List Re} {d : Nat} (h : patM n p = some (ls, [], d)) : freshM (.alt ls) = true := by
  simp only [freshM]
  exact pat_fresh h
theorem fits_iff {n : Nat} {p : List UInt8} {ls : List Re} {d : Nat} (h : patM n p = some (ls, [], d)) (s : List UInt8) : fitsM (.alt ls) s = true ↔ LAlt ls s := by
  rw [fits_L (fresh_alt h)]
  simp only [L]
theorem pat_fail {n : Nat} {x : List UInt8} (h : atomM n x = none) (hx : aheadM [124, 41] x = false) (hn : x ≠ []) : patM (n + 3) x = none := by
  simp only [patM, altM]
  rw [if_neg (by rw [hx]; cases x with | nil => exact absurd rfl hn | cons c t => simp)]
  simp only [pieceM, h]
theorem pat_leaf {n : Nat} {x : List UInt8} {r : Re} (h : atomM n x = some (r, [], 0)) (hx : aheadM [124, 41] x = false) (hn : x ≠ []) : patM (n + 3) x = some ([.row [r]], [], 0) := by
  have := pat_one (alt_step hx hn (piece_plain h (by rfl) (by rfl) (by rfl)) (alt_nil n))
  simpa using this
/-- Two bytes with a - between are an item. -/
def Pair (a b : UInt8) : Bool := !unlistedL.contains a && !unlistedL.contains b && decide (a ≤ b)
theorem item_pair (a b : UInt8) : itemM [a, 45, b, 93] = (if Pair a b then some ((a, b), [93]) else none) := by
  unfold itemM Pair
  cases ha : unlistedL.contains a
  · cases hb : unlistedL.contains b
    · simp only [takeButM, ha, Bool.false_eq_true, if_false]
      rw [if_pos (by rfl)]
      simp only [List.tail_cons, hb, Bool.false_eq_true, if_false, Bool.not_false, Bool.true_and, decide_eq_true_eq]
    · simp only [takeButM, ha, Bool.false_eq_true, if_false]
      rw [if_pos (by rfl)]
      simp only [List.tail_cons, hb, if_true, Bool.not_true, Bool.and_false, Bool.false_and, Bool.false_eq_true, if_false]
  · simp only [takeButM, ha, if_true, Bool.not_true, Bool.false_and, Bool.false_eq_true, if_false]
theorem items_pair (n : Nat) (a b : UInt8) : itemsM (n + 1) [a, 45, b, 93] = if Pair a b then some ([(a, b)], []) else none := by
  have h := item_pair a b
  simp only [itemsM, h]
  cases Pair a b
  · rfl
  · simp only [if_true]
    rw [if_pos (by rfl)]
    rfl
theorem pair_hat {a b : UInt8} (h : Pair a b = true) : aheadM [94] [a, 45, b, 93] = false := by
  unfold Pair at h
  simp only [Bool.and_eq_true, Bool.not_eq_true'] at h
  have := h.1.1
  simp [unlistedL] at this
  simp [aheadM]
  exact this.2.2.2.1
theorem class_in (n : Nat) (a b : UInt8) : classM (n + 1) [a, 45, b, 93] = if Pair a b then some (.atom [(a, b)] false false, []) else none := by
  cases hp : Pair a b
  · simp only [Bool.false_eq_true, if_false]
    unfold classM
    cases h94 : aheadM [94] [a, 45, b, 93]
    · simp only [Bool.false_eq_true, if_false]
      rw [items_pair, hp]
      rfl
    · simp only [if_true, List.tail_cons]
      rfl
  · simp only [if_true]
    unfold classM
    rw [pair_hat hp]
    simp only [Bool.false_eq_true, if_false]
    rw [items_pair, hp]
    rfl
theorem class_out (n : Nat) (a b : UInt8) : classM (n + 1) [94, a, 45, b, 93] = if Pair a b then some (.atom [(a, b)] true false, []) else none := by
  unfold classM
  rw [show aheadM [94] [94, a, 45, b, 93] = true from rfl]
  simp only [if_true, List.tail_cons]
  rw [items_pair]
  cases Pair a b <;> rfl
theorem atom_class {n : Nat} {x : List UInt8} : atomM (n + 1) (91 :: x) = match classM n x with | none => none | some (r, y) => some (r, y, 0) := by
  simp only [atomM]
  rw [show aheadM [40] (91 :: x) = false from rfl, show aheadM [91] (91 :: x) = true from rfl]
  simp only [Bool.false_eq_true, if_false, if_true, List.tail_cons]
  cases classM n x <;> rfl
theorem pat_in (n : Nat) (a b : UInt8) : patM (n + 5) [91, a, 45, b, 93] = if Pair a b then some ([.row [.atom [(a, b)] false false]], [], 0) else none := by
  have h := atom_class (n := n + 1) (x := [a, 45, b, 93])
  rw [class_in] at h
  cases hp : Pair a b
  · rw [hp] at h
    exact pat_fail h (by rfl) (by simp)
  · rw [hp] at h
    exact pat_leaf h (by rfl) (by simp)
theorem pat_out (n : Nat) (a b : UInt8) : patM (n + 5) [91, 94, a, 45, b, 93] = if Pair a b then some ([.row [.atom [(a, b)] true false]], [], 0) else none := by
  have h := atom_class (n := n + 1) (x := [94, a, 45, b, 93])
  rw [class_out] at h
  cases hp : Pair a b
  · rw [hp] at h
    exact pat_fail h (by rfl) (by simp)
  · rw [hp] at h
    exact pat_leaf h (by rfl) (by simp)
theorem fits_leaf (sp : List (UInt8 × UInt8)) (neg : Bool) (s : List UInt8) : fitsM (.alt [.row [.atom sp neg false]]) s = true ↔ ∃ c, s = [c] ∧ hasB sp neg c = true := by
  rw [fits_L (by rfl), L_row1]
  simp only [L]
theorem has_pair (a b c : UInt8) (neg : Bool) : hasB [(a, b)] neg c = ((decide (a ≤ c) && decide (c ≤ b)) != neg) := by
  unfold hasB
  simp only [List.any_cons, List.any_nil, Bool.or_false, spanHas]
  cases (decide (a ≤ c) && decide (c ≤ b)) <;> cases neg <;> rfl
theorem quote_len (s : List UInt8) : s.length ≤ (quoteL s).length := by
  induction s with
  | nil => simp [quoteL]
  | cons c s ih =>
    rw [quote_cons]
    split
    · simp; omega
    · simp; omega
theorem pat_quoted {n : Nat} (s : List UInt8) (hn : s.length + 4 ≤ n) : patM n (quoteL s) = some ([.row (s.map oneM)], [], 0) := pat_mono hn (pat_one (alt_quoted s))
theorem fits_quoted (s t : List UInt8) : fitsM (.alt [.row (s.map oneM)]) t = decide (t = s) := by
  have h : fitsM (.alt [.row (s.map oneM)]) t = true ↔ t = s := by
    rw [fits_iff (pat_quoted s (Nat.le_refl _))]
    simp only [LAlt, L, or_false]
    exact L_ones s t
  rw [Bool.eq_iff_iff, h, decide_eq_true_eq]
/-- The text of a plain pattern. -/
def litM : List UInt8 → Option (List UInt8)
  | [] => some []
  | c :: t => if c = 92 then (match t with | [] => none | c2 :: t2 => if marksL.contains c2 then (litM t2).map (c2 :: ·) else none)
    else if marksL.contains c then none else (litM t).map (c :: ·)
theorem lit_quoted : ∀ (s : List UInt8), litM (quoteL s) = some s
  | [] => by simp [quoteL, litM]
  | c :: s => by
    rw [quote_cons]
    split
    · rename_i h
      simp only [List.cons_append, List.nil_append, litM, if_true]
      rw [if_pos h, lit_quoted s]
      rfl
    · rename_i h
      have h92 : c ≠ 92 := by rintro rfl; exact h (by decide)
      simp only [List.cons_append, List.nil_append]
      rw [litM.eq_def]
      simp only
      rw [if_neg h92, if_neg h, lit_quoted s]
      rfl
/-- Fits, in short: what it tells, and its error. -/
def fitV (n : Nat) (p s : List UInt8) : Bool × Int :=
  if (parseM n p).1 = 0 then (if 64 < s.length then (false, 3) else (fitsM (parseM n p).2 s, 0)) else (false, (parseM n p).1)
theorem live_1 : fitV 260 [40, 97, 98, 124, 99, 41, 42] [97, 98, 99, 97, 98] = (true, 0) := by decide +kernel
theorem live_2 : fitV 260 [97] [97, 98] = (false, 0) := by decide +kernel
theorem live_3 : (parseM 260 [40, 97]).1 = 14 := by decide +kernel
/-- Does a pattern fit? False, too, where it is refused. -/
def fitB (n : Nat) (p s : List UInt8) : Bool := (fitV n p s).1 && decide ((fitV n p s).2 = 0)
theorem fitB_right {n : Nat} {p s : List UInt8} {r : Re} (h : parseM n p = (0, r)) (hs : s.length ≤ 64) : fitB n p s = fitsM r s := by
  unfold fitB fitV
  rw [h]
  simp only [if_true]
  rw [if_neg (by omega)]
  simp
end Go.Proofs.YtgdmcnoogacdaaaGreatDoor
