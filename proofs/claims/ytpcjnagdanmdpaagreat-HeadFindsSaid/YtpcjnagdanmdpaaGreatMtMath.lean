/- Matchers as the document says them: which may be, what they ask, whether they fit. Of no program but the texts it imports. -/
import Derived.Test.YtpcjnagdanmdpaaGreatHdLotL
import Derived.Test.YtpcjnagdanmdpaaGreatReParse5
namespace Go.Proofs.YtpcjnagdanmdpaaGreat
open Go.RowKit
set_option linter.unusedVariables false
/-- A matcher: its kind, its name, its value. -/
abbrev Mt := Int × ByteArray × ByteArray
def mt0 : Mt := (0, ⟨#[]⟩, ⟨#[]⟩)
def kindB (k : Int) : Bool := decide (1 ≤ k) && decide (k ≤ 4)
def signM (k : Int) : ByteArray := if k = 1 then ⟨#[61]⟩ else if k = 2 then ⟨#[33, 61]⟩ else if k = 3 then ⟨#[61, 126]⟩ else if k = 4 then ⟨#[33, 126]⟩ else ⟨#[]⟩
/-- What refuses a matcher (0: nothing). -/
def mchk (m : Mt) : Int :=
  if kindB m.1 = false then 2 else if nameB (strL m.2.1) = false then 8 else if 64 < m.2.2.size then 3 else if m.1 ≤ 2 then 0 else (parseM 300 (strL m.2.2)).1
/-- Does a matcher that may be fit this value? -/
def mtake (m : Mt) (v : ByteArray) : Bool :=
  if m.1 = 1 then decide (v = m.2.2) else if m.1 = 2 then !decide (v = m.2.2) else if m.1 = 3 then (fitV 300 (strL m.2.2) (strL v)).1 else if m.1 = 4 then !(fitV 300 (strL m.2.2) (strL v)).1 else false
/-- The value of the first label of that name. -/
def valOf : List Lbl → ByteArray → ByteArray
  | [], _ => ⟨#[]⟩
  | x :: l, name => if x.1 = name then x.2 else valOf l name
def mfits (m : Mt) (l : List Lbl) : Bool := decide (mchk m = 0) && mtake m (valOf l m.2.1)
def mall (ms : List Mt) (l : List Lbl) : Bool := ms.all fun m => mfits m l
/-- The first error of them. -/
def merr : List Mt → Int
  | [] => 0
  | m :: ms => if mchk m = 0 then merr ms else mchk m
def mchkAll (ms : List Mt) : Int := if 8 < ms.length then 3 else if merr ms ≠ 0 then merr ms else if mall ms [] = true then 2 else 0
theorem eqT (a b : ByteArray) : (a.toList == b.toList) = decide (a = b) := by
  rw [ByteArray.toList_eq, ByteArray.toList_eq, Bool.eq_iff_iff, beq_iff_eq, decide_eq_true_eq]
  constructor
  · intro h; exact ByteArray.ext (Array.toList_inj.1 h)
  · intro h; rw [h]
theorem kind_cases {k : Int} (h : kindB k = true) : k = 1 ∨ k = 2 ∨ k = 3 ∨ k = 4 := by
  unfold kindB at h
  simp only [Bool.and_eq_true, decide_eq_true_eq] at h
  omega
theorem kind_not {k : Int} (h : kindB k = false) : k ≠ 1 ∧ k ≠ 2 ∧ k ≠ 3 ∧ k ≠ 4 := by
  refine ⟨?_, ?_, ?_, ?_⟩ <;> (rintro rfl; simp [kindB] at h)
theorem sign_none {k : Int} (h : kindB k = false) : signM k = ⟨#[]⟩ := by
  obtain ⟨h1, h2, h3, h4⟩ := kind_not h
  unfold signM
  rw [if_neg h1, if_neg h2, if_neg h3, if_neg h4]
theorem sign_some {k : Int} (h : kindB k = true) : ((signM k).toList == []) = false := by
  rcases kind_cases h with rfl | rfl | rfl | rfl <;> (rw [ByteArray.toList_eq]; rfl)
theorem mchk_kind {k : Int} {n v : ByteArray} (h : kindB k = false) : mchk (k, n, v) = 2 := by unfold mchk; rw [if_pos h]
theorem mchk_name {k : Int} {n v : ByteArray} (h : kindB k = true) (h2 : nameB (strL n) = false) : mchk (k, n, v) = 8 := by
  unfold mchk; rw [if_neg (by rw [h]; simp), if_pos h2]
theorem mchk_big {k : Int} {n v : ByteArray} (h : kindB k = true) (h2 : nameB (strL n) = true) (h3 : 64 < v.size) : mchk (k, n, v) = 3 := by
  unfold mchk; rw [if_neg (by rw [h]; simp), if_neg (by rw [h2]; simp), if_pos h3]
theorem mchk_eq {k : Int} {n v : ByteArray} (h : kindB k = true) (h2 : nameB (strL n) = true) (h3 : ¬ 64 < v.size) (h4 : k ≤ 2) : mchk (k, n, v) = 0 := by
  unfold mchk; rw [if_neg (by rw [h]; simp), if_neg (by rw [h2]; simp), if_neg h3, if_pos h4]
theorem mchk_re {k : Int} {n v : ByteArray} (h : kindB k = true) (h2 : nameB (strL n) = true) (h3 : ¬ 64 < v.size) (h4 : ¬ k ≤ 2) : mchk (k, n, v) = (parseM 300 (strL v)).1 := by
  unfold mchk; rw [if_neg (by rw [h]; simp), if_neg (by rw [h2]; simp), if_neg h3, if_neg h4]
theorem fits_no {m : Mt} {l : List Lbl} (h : mchk m ≠ 0) : mfits m l = false := by
  unfold mfits
  rw [decide_eq_false h]
  rfl
end Go.Proofs.YtpcjnagdanmdpaaGreat
