/- Plain mathematics of layer 11: records, their bytes, what is read of bytes as a record. No program in sight (but for the kinds of reading that the layers below use). -/
import Derived.Test.YtpcjnagdanmdpaaHdLotE
import Derived.Test.YtpcjnagdanmdpaaPoCheck
import Derived.Test.YtpcjnagdanmdpaaChCheck
namespace Go.Proofs.Ytpcjnagdanmdpaa
set_option linter.unusedVariables false
/-! ### records -/
abbrev Wrow := Int × Int × Int
structure RecV where
  kind : Int
  labels : List Lbl
  rows : List Wrow
  ids : List Int
  low : Int
  high : Int
def rec0 : RecV := ⟨0, [], [], [], 0, 0⟩
def wrowErr (x : Wrow) : Int := if x.1 < 0 ∨ 1099511627776 < x.1 then 2 else if Ch.mayB (x.2.1, x.2.2) = false then 11 else 0
def rowsErr : List Wrow → Int
  | [] => 0
  | x :: r => if wrowErr x = 0 then rowsErr r else wrowErr x
def rowsChk (l : List Wrow) : Int := if l.length = 0 ∨ 64 < l.length then 2 else rowsErr l
def delChk (ids : List Int) (low high : Int) : Int := if pchk ids ≠ 0 then pchk ids else if ids.length = 0 then 2 else if low < 0 ∨ 1099511627776 < high then 11 else if high < low then 13 else 0
/-- Something is not empty that the kind does not have, or there is no such kind. -/
def Misfit (r : RecV) : Prop := ¬ (r.kind = 1 ∨ r.kind = 2 ∨ r.kind = 3) ∨ (r.kind ≠ 1 ∧ r.labels.length ≠ 0) ∨ (r.kind ≠ 2 ∧ r.rows.length ≠ 0) ∨ (r.kind ≠ 3 ∧ (r.ids.length ≠ 0 ∨ r.low ≠ 0 ∨ r.high ≠ 0))
instance (r : RecV) : Decidable (Misfit r) := by unfold Misfit; infer_instance
def recChk (r : RecV) : Int := if Misfit r then 2 else if r.kind = 1 then lbChk r.labels else if r.kind = 2 then rowsChk r.rows else delChk r.ids r.low r.high
theorem wrowErr_zero {x : Wrow} : wrowErr x = 0 ↔ 0 ≤ x.1 ∧ x.1 ≤ 1099511627776 ∧ 0 ≤ x.2.1 ∧ x.2.1 ≤ 1099511627776 ∧ -1152921504606846976 ≤ x.2.2 ∧ x.2.2 ≤ 1152921504606846976 := by
  unfold wrowErr
  by_cases h : x.1 < 0 ∨ 1099511627776 < x.1
  · rw [if_pos h]
    constructor
    · intro e; cases e
    · intro e; omega
  · rw [if_neg h]
    by_cases hm : Ch.mayB (x.2.1, x.2.2) = false
    · rw [if_pos hm]
      constructor
      · intro e; cases e
      · intro e
        have := Ch.mayB_iff.2 (show 0 ≤ (x.2.1, x.2.2).1 ∧ (x.2.1, x.2.2).1 ≤ 1099511627776 ∧ -1152921504606846976 ≤ (x.2.1, x.2.2).2 ∧ (x.2.1, x.2.2).2 ≤ 1152921504606846976 from ⟨e.2.2.1, e.2.2.2.1, e.2.2.2.2.1, e.2.2.2.2.2⟩)
        rw [hm] at this
        cases this
    · rw [if_neg hm]
      have := Ch.mayB_iff.1 (Bool.not_eq_false _ ▸ hm)
      constructor
      · intro _; exact ⟨by omega, by omega, this.1, this.2.1, this.2.2.1, this.2.2.2⟩
      · intro _; rfl
theorem rowsErr_zero : ∀ {l : List Wrow}, rowsErr l = 0 ↔ ∀ x ∈ l, wrowErr x = 0 := by
  intro l
  induction l with
  | nil => simp [rowsErr]
  | cons x r ih =>
    rw [rowsErr]
    by_cases h : wrowErr x = 0
    · rw [if_pos h, ih]
      simp [h]
    · rw [if_neg h]
      simp [h]
theorem rowsChk_zero {l : List Wrow} : rowsChk l = 0 ↔ 0 < l.length ∧ l.length ≤ 64 ∧ ∀ x ∈ l, wrowErr x = 0 := by
  unfold rowsChk
  by_cases h : l.length = 0 ∨ 64 < l.length
  · rw [if_pos h]
    constructor
    · intro e; cases e
    · rintro ⟨a, b, _⟩; omega
  · rw [if_neg h, rowsErr_zero]
    constructor
    · intro e; exact ⟨by omega, by omega, e⟩
    · intro e; exact e.2.2
theorem delChk_zero {ids : List Int} {low high : Int} : delChk ids low high = 0 ↔ pchk ids = 0 ∧ ids.length ≠ 0 ∧ 0 ≤ low ∧ high ≤ 1099511627776 ∧ low ≤ high := by
  unfold delChk
  by_cases h1 : pchk ids = 0
  · rw [if_neg (by simpa using h1)]
    by_cases h2 : ids.length = 0
    · rw [if_pos h2]
      constructor
      · intro e; cases e
      · intro e; exact absurd h2 e.2.1
    · rw [if_neg h2]
      by_cases h3 : low < 0 ∨ 1099511627776 < high
      · rw [if_pos h3]
        constructor
        · intro e; cases e
        · intro e; omega
      · rw [if_neg h3]
        by_cases h4 : high < low
        · rw [if_pos h4]
          constructor
          · intro e; cases e
          · intro e; omega
        · rw [if_neg h4]
          exact ⟨fun _ => ⟨h1, h2, by omega, by omega, by omega⟩, fun _ => rfl⟩
  · rw [if_pos h1]
    exact ⟨fun e => absurd e h1, fun e => absurd e.1 h1⟩
/-- What a right record is, by its kind. -/
theorem recChk_zero {r : RecV} : recChk r = 0 ↔ (r.kind = 1 ∧ r.rows = [] ∧ r.ids = [] ∧ r.low = 0 ∧ r.high = 0 ∧ lbChk r.labels = 0) ∨ (r.kind = 2 ∧ r.labels = [] ∧ r.ids = [] ∧ r.low = 0 ∧ r.high = 0 ∧ rowsChk r.rows = 0) ∨ (r.kind = 3 ∧ r.labels = [] ∧ r.rows = [] ∧ delChk r.ids r.low r.high = 0) := by
  have hl : ∀ {α : Type} (l : List α), l.length ≠ 0 ↔ l ≠ [] := fun l => by simp
  unfold recChk Misfit
  simp only [hl]
  obtain ⟨k, la, ro, ids, lo, hi⟩ := r
  simp only
  by_cases h1 : k = 1
  · subst h1
    by_cases h2 : ro = [] <;> by_cases h3 : ids = [] <;> by_cases h4 : lo = 0 <;> by_cases h5 : hi = 0 <;> simp [h2, h3, h4, h5]
  · by_cases h2 : k = 2
    · subst h2
      by_cases h2 : la = [] <;> by_cases h3 : ids = [] <;> by_cases h4 : lo = 0 <;> by_cases h5 : hi = 0 <;> simp [h2, h3, h4, h5]
    · by_cases h3 : k = 3
      · subst h3
        by_cases h2 : la = [] <;> by_cases h3 : ro = [] <;> simp [h2, h3]
      · simp [h1, h2, h3]
end Go.Proofs.Ytpcjnagdanmdpaa
