/- A value as it stands in a set's text; the text of a set. No program. -/
import Derived.Test.YtpcjnagdanmdpaaLbMath
namespace Go.Proofs.Ytpcjnagdanmdpaa
open Go.RowKit
set_option linter.unusedVariables false
def hexL : List UInt8 := [48, 49, 50, 51, 52, 53, 54, 55, 56, 57, 97, 98, 99, 100, 101, 102]
def hexD (q : Nat) : UInt8 := hexL.getD q 0
/-- A byte as it stands between a value's marks. -/
def escB (c : UInt8) : List UInt8 :=
  if c.toNat = 34 ∨ c.toNat = 92 then [92, c]
  else if c.toNat < 32 ∨ 126 < c.toNat then [92, 120, hexD (c.toNat / 16), hexD (c.toNat % 16)]
  else [c]
def escL (s : List UInt8) : List UInt8 := s.flatMap escB
/-- A label as it stands in a set's text. -/
def lblT (x : Lbl) : List UInt8 := strL x.1 ++ [61, 34] ++ escL (strL x.2) ++ [34]
/-- Labels from place i on, n of them: ahead of each but the first one stand a comma and a blank. -/
def lblsT (l : List Lbl) : Nat → List UInt8
  | 0 => []
  | k + 1 => lblsT l k ++ (if 0 < k then [44, 32] else []) ++ lblT (l.getD k lbl0)
/-- The text of labels. -/
def printL (l : List Lbl) : List UInt8 := [123] ++ lblsT l l.length ++ [125]
theorem escB_len (c : UInt8) : (escB c).length ≤ 4 := by
  unfold escB; split
  · simp
  · split <;> simp
theorem escL_len (s : List UInt8) : (escL s).length ≤ 4 * s.length := by
  unfold escL
  induction s with
  | nil => simp
  | cons c r ih => rw [List.flatMap_cons, List.length_append, List.length_cons]; have := escB_len c; omega
theorem escL_snoc (s : ByteArray) {k : Nat} (h : k < s.size) : escL ((strL s).take (k + 1)) = escL ((strL s).take k) ++ escB ((strL s).getD k 0) := by
  unfold escL
  rw [List.take_succ_eq_append_getElem (by rw [strL_length]; exact h), List.flatMap_append, getD_in _ 0 (by rw [strL_length]; exact h)]
  simp
theorem escL_take_len (s : ByteArray) (k : Nat) (h : k ≤ s.size) : (escL ((strL s).take k)).length ≤ 4 * k := by
  have := escL_len ((strL s).take k)
  rw [List.length_take, strL_length] at this
  omega
theorem hex_byte (q : Nat) (h : q < 16) : (hexD q).toNat = (if q < 10 then 48 + q else 87 + q) := by
  have : q = 0 ∨ q = 1 ∨ q = 2 ∨ q = 3 ∨ q = 4 ∨ q = 5 ∨ q = 6 ∨ q = 7 ∨ q = 8 ∨ q = 9 ∨ q = 10 ∨ q = 11 ∨ q = 12 ∨ q = 13 ∨ q = 14 ∨ q = 15 := by omega
  rcases this with rfl | rfl | rfl | rfl | rfl | rfl | rfl | rfl | rfl | rfl | rfl | rfl | rfl | rfl | rfl | rfl <;> rfl
/-- No fewer than the bytes of the text of the first k labels. -/
def costT (l : List Lbl) : Nat → Nat
  | 0 => 1
  | k + 1 => costT l k + (6 + (nmOf l k).size + 4 * (vlOf l k).size)
theorem costT_mono (l : List Lbl) {j k : Nat} (h : j ≤ k) : costT l j ≤ costT l k := by
  induction k with
  | zero => rw [show j = 0 from by omega]; exact Nat.le_refl _
  | succ k ih =>
    rcases Nat.lt_or_ge j (k + 1) with h1 | h1
    · have := ih (by omega); rw [costT]; omega
    · rw [show j = k + 1 from by omega]; exact Nat.le_refl _
theorem lblsT_len (l : List Lbl) (k : Nat) : (lblsT l k).length + 1 ≤ costT l k := by
  induction k with
  | zero => exact Nat.le_refl _
  | succ k ih =>
    rw [lblsT, costT, List.length_append, List.length_append]
    have h1 : (lblT (l.getD k lbl0)).length ≤ 3 + (nmOf l k).size + 4 * (vlOf l k).size := by
      unfold lblT
      have := escL_len (strL (l.getD k lbl0).2)
      rw [strL_length] at this
      simp only [List.length_append, List.length_cons, List.length_nil, strL_length]
      unfold nmOf vlOf
      omega
    have h2 : (if 0 < k then ([44, 32] : List UInt8) else []).length ≤ 2 := by split <;> simp
    omega
end Go.Proofs.Ytpcjnagdanmdpaa
