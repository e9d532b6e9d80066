/- Labels as the document says them: names, right sets, and what refuses a set. No program. -/
import Derived.Test.YtpcjnagdanmdpaaAppStr
namespace Go.Proofs.Ytpcjnagdanmdpaa
open Go.RowKit
set_option linter.unusedVariables false
/-- A label: its name and its value. -/
abbrev Lbl := ByteArray × ByteArray
def lbl0 : Lbl := (⟨#[]⟩, ⟨#[]⟩)
def nmOf (l : List Lbl) (i : Nat) : ByteArray := (l.getD i lbl0).1
def vlOf (l : List Lbl) (i : Nat) : ByteArray := (l.getD i lbl0).2
def letterB (c : UInt8) : Bool := (decide (97 ≤ c.toNat) && decide (c.toNat ≤ 122)) || ((decide (65 ≤ c.toNat) && decide (c.toNat ≤ 90)) || decide (c.toNat = 95))
def digitB (c : UInt8) : Bool := decide (48 ≤ c.toNat) && decide (c.toNat ≤ 57)
/-- May the byte c stand at place k of a name? -/
def okB (c : UInt8) (k : Nat) : Bool := letterB c || (decide (0 < k) && digitB c)
/-- From place k on, as many as n bytes. -/
def okF (s : List UInt8) : Nat → Nat → Bool
  | 0, _ => true
  | n + 1, k => if okB (s.getD k 0) k = true then okF s n (k + 1) else false
def nameB (s : List UInt8) : Bool := (decide (0 < s.length) && decide (s.length ≤ 32)) && okF s s.length 0
/-- Is the text a above (or the same as) b, as Go compares texts? -/
def leB (a b : ByteArray) : Bool := Op.bytesLess a.toList b.toList || a.toList == b.toList
/-- What label k of l has against it (0: nothing). -/
def lbErrAt (l : List Lbl) (k : Nat) : Int :=
  if nameB (strL (nmOf l k)) = false then 8
  else if (vlOf l k).size = 0 then 2
  else if 64 < (vlOf l k).size then 3
  else if 0 < k ∧ leB (nmOf l k) (nmOf l (k - 1)) = true then 13
  else 0
def lbErrF (l : List Lbl) : Nat → Nat → Int
  | 0, _ => 0
  | n + 1, k => if lbErrAt l k = 0 then lbErrF l n (k + 1) else lbErrAt l k
/-- What refuses labels (0: nothing: they are a right set). -/
def lbChk (l : List Lbl) : Int := if 8 < l.length then 3 else lbErrF l l.length 0
theorem lbErrF_ok {l : List Lbl} {n k : Nat} (h : lbErrF l n k = 0) : ∀ i, i < n → lbErrAt l (k + i) = 0 := by
  induction n generalizing k with
  | zero => intro i hi; omega
  | succ n ih =>
    intro i hi
    rw [lbErrF] at h
    by_cases h0 : lbErrAt l k = 0
    · rw [if_pos h0] at h
      cases i with
      | zero => exact h0
      | succ i =>
        have := ih h i (by omega)
        rwa [show k + (i + 1) = k + 1 + i from by omega]
    · rw [if_neg h0] at h
      exact absurd h h0
theorem lbErrF_of {l : List Lbl} {n k : Nat} (h : ∀ i, i < n → lbErrAt l (k + i) = 0) : lbErrF l n k = 0 := by
  induction n generalizing k with
  | zero => rfl
  | succ n ih =>
    rw [lbErrF, if_pos (show lbErrAt l k = 0 from h 0 (by omega))]
    exact ih fun i hi => by have := h (i + 1) (by omega); rwa [show k + (i + 1) = k + 1 + i from by omega] at this
theorem lbChk_ok {l : List Lbl} : lbChk l = 0 ↔ l.length ≤ 8 ∧ ∀ i, i < l.length → lbErrAt l i = 0 := by
  unfold lbChk
  by_cases h8 : 8 < l.length
  · rw [if_pos h8]
    constructor
    · intro h; exact absurd h (by omega)
    · rintro ⟨h, _⟩; omega
  · rw [if_neg h8]
    constructor
    · intro h
      exact ⟨by omega, fun i hi => by have := lbErrF_ok h i hi; rwa [Nat.zero_add] at this⟩
    · rintro ⟨_, h⟩
      exact lbErrF_of fun i hi => by rw [Nat.zero_add]; exact h i hi
theorem lbErrAt_zero {l : List Lbl} {k : Nat} : lbErrAt l k = 0 ↔ nameB (strL (nmOf l k)) = true ∧ 0 < (vlOf l k).size ∧ (vlOf l k).size ≤ 64 ∧ (0 < k → leB (nmOf l k) (nmOf l (k - 1)) = false) := by
  unfold lbErrAt
  cases nameB (strL (nmOf l k))
  · simp
  · rw [if_neg (by simp)]
    by_cases h1 : (vlOf l k).size = 0
    · rw [if_pos h1]; constructor
      · intro h; exact absurd h (by omega)
      · rintro ⟨_, h, _⟩; omega
    · rw [if_neg h1]
      by_cases h2 : 64 < (vlOf l k).size
      · rw [if_pos h2]; constructor
        · intro h; exact absurd h (by omega)
        · rintro ⟨_, _, h, _⟩; omega
      · rw [if_neg h2]
        by_cases h3 : 0 < k ∧ leB (nmOf l k) (nmOf l (k - 1)) = true
        · rw [if_pos h3]; constructor
          · intro h; exact absurd h (by omega)
          · rintro ⟨_, _, _, h⟩; rw [h h3.1] at h3; simp at h3
        · rw [if_neg h3]
          refine ⟨fun _ => ⟨rfl, by omega, by omega, fun hk => ?_⟩, fun _ => rfl⟩
          cases hl : leB (nmOf l k) (nmOf l (k - 1))
          · rfl
          · exact absurd ⟨hk, hl⟩ h3
theorem nameB_size {s : ByteArray} (h : nameB (strL s) = true) : 0 < s.size ∧ s.size ≤ 32 := by
  unfold nameB at h
  rw [strL_length] at h
  simp only [Bool.and_eq_true, decide_eq_true_eq] at h
  exact h.1
end Go.Proofs.Ytpcjnagdanmdpaa
