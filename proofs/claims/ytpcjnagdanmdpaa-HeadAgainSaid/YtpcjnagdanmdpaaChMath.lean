/- Plain mathematics of layer 5: numbers in a row of bits, samples as numbers, there and back. No program in sight. -/
import Derived.BigQuiet
import Derived.Test.YtpcjnagdanmdpaaOwn
import Derived.Laws.CopyOwn
import Derived.Deep.DeepCutAuto
import Derived.Lib.Slices
import Derived.Lib.Strings
import Derived.Lib.Small
import Derived.Lib.Walk
import Derived.Lib.BitFns
namespace Go.Proofs.Ytpcjnagdanmdpaa.Ch
set_option linter.unusedVariables false
/-! ### samples -/
abbrev Smp := Int × Int
def tOf (l : List Smp) (i : Nat) : Int := (l.getD i (0, 0)).1
def vOf (l : List Smp) (i : Nat) : Int := (l.getD i (0, 0)).2
def mayB (s : Smp) : Bool := decide (0 ≤ s.1) && decide (s.1 ≤ 1099511627776) && decide (-1152921504606846976 ≤ s.2) && decide (s.2 ≤ 1152921504606846976)
theorem mayB_iff {s : Smp} : mayB s = true ↔ 0 ≤ s.1 ∧ s.1 ≤ 1099511627776 ∧ -1152921504606846976 ≤ s.2 ∧ s.2 ≤ 1152921504606846976 := by
  unfold mayB
  simp only [Bool.and_eq_true, decide_eq_true_eq, and_assoc]
def errAt (l : List Smp) (i : Nat) : Int := if mayB (l.getD i (0, 0)) = false then 11 else if 0 < i ∧ tOf l i ≤ tOf l (i - 1) then 13 else 0
def errF (l : List Smp) : Nat → Nat → Int
  | 0, _ => 0
  | n + 1, i => if errAt l i = 0 then errF l n (i + 1) else errAt l i
/-- The document's answer: are they a chunk's samples? -/
def chk (l : List Smp) : Int := if l.length = 0 ∨ 120 < l.length then 2 else errF l l.length 0
def Good (l : List Smp) : Prop := ∀ i, i < l.length → mayB (l.getD i (0, 0)) = true ∧ (0 < i → tOf l (i - 1) < tOf l i)
theorem errAt_zero {l : List Smp} {i : Nat} : errAt l i = 0 ↔ mayB (l.getD i (0, 0)) = true ∧ (0 < i → tOf l (i - 1) < tOf l i) := by
  unfold errAt
  cases hm : mayB (l.getD i (0, 0))
  · simp
  · simp only [Bool.true_eq_false, if_false, true_and]
    by_cases h : 0 < i ∧ tOf l i ≤ tOf l (i - 1)
    · rw [if_pos h]
      simp only [show (13 : Int) = 0 ↔ False from by decide, false_iff]
      intro hc
      have := hc h.1
      omega
    · rw [if_neg h]
      simp only [true_iff]
      intro h0
      rcases Int.lt_or_le (tOf l (i - 1)) (tOf l i) with h1 | h1
      · exact h1
      · exact absurd ⟨h0, h1⟩ h
end Go.Proofs.Ytpcjnagdanmdpaa.Ch
