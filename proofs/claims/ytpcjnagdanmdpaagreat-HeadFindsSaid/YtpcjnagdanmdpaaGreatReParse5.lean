/- What whole patterns tell: the class of two bytes, a quoted text, one or another, one behind another, one again. Of no program. -/
import Derived.Test.YtpcjnagdanmdpaaGreatHdLotRA
namespace Go.Proofs.YtpcjnagdanmdpaaGreat
set_option linter.unusedVariables false
/-- What parse tells of a right pattern. -/
theorem parse_right {n : Nat} {p : List UInt8} (h : (parseM n p).1 = 0) : ∃ ls d, patM n p = some (ls, [], d) ∧ d ≤ 8 ∧ p.length ≤ 64 ∧ parseM n p = (0, .alt ls) := by
  unfold parseM at h ⊢
  split at h
  · cases h
  · rename_i hl
    rw [if_neg hl]
    cases hq : patM n p with
    | none => rw [hq] at h; cases h
    | some q =>
      obtain ⟨ls, y, d⟩ := q
      rw [hq] at h
      simp only at h ⊢
      cases y with
      | cons c t => simp at h
      | nil =>
        simp only [List.isEmpty_nil, if_true] at h ⊢
        split at h
        · cases h
        · rename_i hd
          exact ⟨ls, d, rfl, by omega, by omega, by rw [if_neg hd]⟩
theorem parse_of {n : Nat} {p : List UInt8} {ls : List Re} {d : Nat} (h : patM n p = some (ls, [], d)) (hl : p.length ≤ 64) : parseM n p = if 8 < d then (15, .row []) else (0, .alt ls) := by
  unfold parseM
  rw [if_neg (by omega), h]
  rfl
theorem fresh_alt {n : Nat} {p : List UInt8} {ls : List Re} {d : Nat} (h : patM n p = some (ls, [], d)) : freshM (.alt ls) = true := by
  simp only [freshM]
  exact pat_fresh h
theorem fits_iff {n : Nat} {p : List UInt8} {ls : List Re} {d : Nat} (h : patM n p = some (ls, [], d)) (s : List UInt8) : fitsM (.alt ls) s = true ↔ LAlt ls s := by
  rw [fits_L (fresh_alt h)]
  simp only [L]
theorem atom_class {n : Nat} {x : List UInt8} : atomM (n + 1) (91 :: x) = match classM n x with | none => none | some (r, y) => some (r, y, 0) := by
  simp only [atomM]
  rw [show aheadM [40] (91 :: x) = false from rfl, show aheadM [91] (91 :: x) = true from rfl]
  simp only [Bool.false_eq_true, if_false, if_true, List.tail_cons]
  cases classM n x <;> rfl
/-- Fits, in short: what it tells, and its error. -/
def fitV (n : Nat) (p s : List UInt8) : Bool × Int :=
  if (parseM n p).1 = 0 then (if 64 < s.length then (false, 3) else (fitsM (parseM n p).2 s, 0)) else (false, (parseM n p).1)
end Go.Proofs.YtpcjnagdanmdpaaGreat
