/- Plain mathematics of layer 9: rising lists of numbers, held together as sets; as bytes. No program in sight. -/
import Derived.Test.YtpcjnagdanmdpaaBitMath
namespace Go.Proofs.Ytpcjnagdanmdpaa
set_option linter.unusedVariables false
/-- What is told of numbers that stand behind a number: 0, or the error of the first one that is wrong. -/
def pchkF : Int → List Int → Int
  | _, [] => 0
  | last, n :: r => if n < 0 ∨ 1099511627776 < n then 2 else if n ≤ last then 13 else pchkF n r
def pchk (l : List Int) : Int := if 1024 < l.length then 3 else pchkF (-1) l
/-- Numbers that rise above a number, and not above the highest one. -/
def Up : Int → List Int → Prop
  | _, [] => True
  | last, n :: r => last < n ∧ n ≤ 1099511627776 ∧ Up n r
theorem pchkF_zero (l : List Int) : ∀ p : Int, -1 ≤ p → (pchkF p l = 0 ↔ Up p l) := by
  induction l with
  | nil => intro p _; simp [pchkF, Up]
  | cons n r ih =>
    intro p hp
    rw [pchkF, Up]
    by_cases h1 : n < 0 ∨ 1099511627776 < n
    · rw [if_pos h1]
      exact ⟨fun h => absurd h (by decide), fun h => by omega⟩
    · rw [if_neg h1]
      by_cases h2 : n ≤ p
      · rw [if_pos h2]
        exact ⟨fun h => absurd h (by decide), fun h => by omega⟩
      · rw [if_neg h2, ih n (by omega)]
        exact ⟨fun h => ⟨by omega, by omega, h⟩, fun h => h.2.2⟩
theorem pchk_zero {l : List Int} : pchk l = 0 ↔ l.length ≤ 1024 ∧ Up (-1) l := by
  unfold pchk
  by_cases h : 1024 < l.length
  · rw [if_pos h]
    exact ⟨fun h => absurd h (by decide), fun h => by omega⟩
  · rw [if_neg h, pchkF_zero l (-1) (by omega)]
    exact ⟨fun k => ⟨by omega, k⟩, fun k => k.2⟩
/-- The number ahead of a place. -/
def ahead (l : List Int) (k : Nat) : Int := if k = 0 then -1 else l.getD (k - 1) 0
theorem ahead_succ (l : List Int) (k : Nat) : ahead l (k + 1) = l.getD k 0 := by simp [ahead]
theorem drop_cons (l : List Int) {k : Nat} (h : k < l.length) : l.drop k = l.getD k 0 :: l.drop (k + 1) := by
  rw [List.drop_eq_getElem_cons h, getD_in l 0 h]
theorem pchk_end (l : List Int) : pchkF (ahead l l.length) (l.drop l.length) = 0 := by simp [pchkF]
theorem pchk_arg (l : List Int) {k : Nat} (h : k < l.length) (hn : l.getD k 0 < 0 ∨ 1099511627776 < l.getD k 0) : pchkF (ahead l k) (l.drop k) = 2 := by
  rw [drop_cons l h, pchkF, if_pos hn]
theorem pchk_order (l : List Int) {k : Nat} (h : k < l.length) (hn : ¬ (l.getD k 0 < 0 ∨ 1099511627776 < l.getD k 0)) (hk : k ≠ 0) (ho : l.getD k 0 ≤ l.getD (k - 1) 0) : pchkF (ahead l k) (l.drop k) = 13 := by
  rw [drop_cons l h, pchkF, if_neg hn, ahead, if_neg hk, if_pos ho]
theorem pchk_next (l : List Int) {k : Nat} (h : k < l.length) (hn : ¬ (l.getD k 0 < 0 ∨ 1099511627776 < l.getD k 0)) (ho : k = 0 ∨ l.getD (k - 1) 0 < l.getD k 0) : pchkF (ahead l k) (l.drop k) = pchkF (ahead l (k + 1)) (l.drop (k + 1)) := by
  rw [drop_cons l h, pchkF, if_neg hn, ahead_succ, if_neg]
  unfold ahead
  split
  · omega
  · rcases ho with h0 | h0 <;> omega
end Go.Proofs.Ytpcjnagdanmdpaa
