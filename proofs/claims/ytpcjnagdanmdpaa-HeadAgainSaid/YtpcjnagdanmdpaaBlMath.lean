/- A block's series and bytes, and what is read of bytes as a block: of no program. -/
import Derived.Test.YtpcjnagdanmdpaaChCut1
import Derived.Deep.RegionHeld3
import Derived.RegionDies
import Derived.Test.YtpcjnagdanmdpaaLbOrd
import Derived.Test.YtpcjnagdanmdpaaLbRows
namespace Go.Proofs.Ytpcjnagdanmdpaa
open Ch
set_option linter.unusedVariables false
set_option linter.unusedSimpArgs false
abbrev Ser := List Lbl × List Smp
def blSets (S : List Ser) : List (List Lbl) := S.map (·.1)
def cntS : List Ser → Nat
  | [] => 0
  | s :: r => s.2.length + cntS r
theorem cntS_app (a b : List Ser) : cntS (a ++ b) = cntS a + cntS b := by
  induction a with
  | nil => simp [cntS]
  | cons s r ih => simp only [List.cons_append, cntS, ih]; omega
theorem getD_drop' (l : List Smp) (k i : Nat) : (l.drop k).getD i (0, 0) = l.getD (k + i) (0, 0) := by simp [List.getD_eq_getElem?_getD, List.getElem?_drop]
theorem good_app {a b : List Smp} (ha : Ch.Good a) (hb : Ch.Good b) (h : a ≠ [] → b ≠ [] → tOf a (a.length - 1) < tOf b 0) : Ch.Good (a ++ b) := by
  intro i hi
  rw [List.length_append] at hi
  have hl : ∀ j, j < a.length → (a ++ b).getD j (0, 0) = a.getD j (0, 0) := fun j hj => by simp [List.getD_eq_getElem?_getD, List.getElem?_append_left hj]
  have hr : ∀ j, a.length ≤ j → (a ++ b).getD j (0, 0) = b.getD (j - a.length) (0, 0) := fun j hj => by simp [List.getD_eq_getElem?_getD, List.getElem?_append_right hj]
  unfold tOf
  by_cases h1 : i < a.length
  · rw [hl i h1, hl (i - 1) (by omega)]
    exact ha i h1
  · rw [hr i (by omega)]
    refine ⟨(hb (i - a.length) (by omega)).1, fun h0 => ?_⟩
    by_cases h2 : i = a.length
    · subst h2
      rw [hl _ (by omega), Nat.sub_self]
      exact h (fun e => by subst e; simp at h0) (fun e => by subst e; simp at hi)
    · rw [hr (i - 1) (by omega)]
      have := (hb (i - a.length) (by omega)).2 (by omega)
      unfold tOf at this
      rw [show i - a.length - 1 = i - 1 - a.length by omega] at this
      exact this
end Go.Proofs.Ytpcjnagdanmdpaa
