/- Numbers as digits to the base 2^20, lowest first, over the natural numbers: products digit by digit, what is carried, and the division bit by bit. -/
import Derived.Test.YtfpjihicobmlkaaDoorDivMath
import Derived.Test.YtfpjihicobmlkaaDoorBitMath
namespace Go.Proofs.YtfpjihicobmlkaaDoor
set_option linter.unusedVariables false

/-- The number that digits are. -/
def val : List Nat → Nat
  | [] => 0
  | d :: r => d + 1048576 * val r
theorem val_set : ∀ (l : List Nat) (j v : Nat), j < l.length → val (l.set j v) + l.getD j 0 * 1048576 ^ j = val l + v * 1048576 ^ j := by
  intro l
  induction l with
  | nil => intro j v h; simp at h
  | cons d r ih =>
    intro j v h
    cases j with
    | zero => simp [val]; omega
    | succ j =>
      have := ih j v (by simpa using h)
      simp only [List.set_cons_succ, val, List.getD_cons_succ, Nat.pow_succ]
      rw [← Nat.mul_assoc, ← Nat.mul_assoc]
      generalize r.getD j 0 * 1048576 ^ j = a at *
      generalize v * 1048576 ^ j = b at *
      generalize val (r.set j v) = c at *
      omega
theorem val_put (l : List Nat) (j v m : Nat) (h : j < l.length) (hv : v = l.getD j 0 + m) : val (l.set j v) = val l + m * 1048576 ^ j := by
  have := val_set l j v h
  rw [hv, Nat.add_mul] at this
  rw [hv]
  omega
theorem val_take : ∀ (l : List Nat) (k : Nat), k < l.length → val (l.take (k + 1)) = val (l.take k) + l.getD k 0 * 1048576 ^ k := by
  intro l
  induction l with
  | nil => intro k h; simp at h
  | cons d r ih =>
    intro k h
    cases k with
    | zero => simp [val]
    | succ k =>
      have := ih k (by simpa using h)
      simp only [List.take_succ_cons, val, List.getD_cons_succ, Nat.pow_succ] at *
      rw [this, ← Nat.mul_assoc]
      generalize r.getD k 0 * 1048576 ^ k = a at *
      omega
theorem val_drop (l : List Nat) (k : Nat) (h : k < l.length) : val (l.drop k) = l.getD k 0 + 1048576 * val (l.drop (k + 1)) := by
  rw [List.drop_eq_getElem_cons h, val, getD_in l 0 h]
theorem val_drop_le : ∀ (l : List Nat) (k : Nat), val (l.drop k) ≤ val l := by
  intro l
  induction l with
  | nil => intro k; simp
  | cons d r ih =>
    intro k
    cases k with
    | zero => simp
    | succ k =>
      have := ih k
      simp only [List.drop_succ_cons, val]
      omega
theorem num_set_self (l : List Nat) (j v : Nat) (h : j < l.length) : (l.set j v).getD j 0 = v := by
  simp [List.getD, h]
theorem num_set_far (l : List Nat) (i j v : Nat) (h : i ≠ j) : (l.set j v).getD i 0 = l.getD i 0 := by
  simp [List.getD, List.getElem?_set_ne (Ne.symm h)]

/-- What is carried. -/
theorem val_carry (l : List Nat) (j : Nat) (h : j + 1 < l.length) :
    val ((l.set (j + 1) (l.getD (j + 1) 0 + l.getD j 0 / 1048576)).set j (l.getD j 0 % 1048576)) = val l := by
  have h1 := val_put l (j + 1) _ (l.getD j 0 / 1048576) h rfl
  have h2 := val_set (l.set (j + 1) (l.getD (j + 1) 0 + l.getD j 0 / 1048576)) j (l.getD j 0 % 1048576) (by simp; omega)
  rw [num_set_far _ _ _ _ (by omega), h1, Nat.pow_succ, Nat.mul_comm (1048576 ^ j), ← Nat.mul_assoc] at h2
  have h3 : l.getD j 0 * 1048576 ^ j = l.getD j 0 / 1048576 * 1048576 * 1048576 ^ j + l.getD j 0 % 1048576 * 1048576 ^ j := by
    rw [← Nat.add_mul, Nat.div_add_mod' (l.getD j 0) 1048576]
  omega

/-- The weight of the bit that comes next, and the digit's bits so far. -/
theorem half_less (j : Nat) : 524288 / 2 ^ j / 2 = 524288 / 2 ^ (j + 1) := by
  rw [Nat.div_div_eq_div_mul, Nat.pow_succ]
theorem half_is {j : Nat} (h : j < 20) : 524288 / 2 ^ j = 2 ^ (19 - j) := by
  rw [show (524288 : Nat) = 2 ^ (19 - j) * 2 ^ j from by rw [← Nat.pow_add, show 19 - j + j = 19 from by omega], Nat.mul_div_cancel _ (Nat.two_pow_pos j)]
theorem half_pos {j : Nat} (h : j < 20) : 0 < 524288 / 2 ^ j := by
  rw [half_is h]
  exact Nat.two_pow_pos _
theorem half_end {j : Nat} (h : 20 ≤ j) : 524288 / 2 ^ j = 0 := by
  refine Nat.div_eq_of_lt ?_
  have := Nat.pow_le_pow_right (n := 2) (by decide) h
  exact Nat.lt_of_lt_of_le (by decide) this
theorem half_le (j : Nat) : 524288 / 2 ^ j ≤ 524288 := Nat.div_le_self _ _
/-- The part of a number that has been read: of the digits P ahead, j bits of the digit d. -/
def read (P d j : Nat) : Nat := P * 2 ^ j + d / 2 ^ (20 - j)
theorem read_zero {P d : Nat} (h : d < 1048576) : read P d 0 = P := by
  unfold read
  rw [Nat.pow_zero, Nat.mul_one, Nat.sub_zero, show (2 : Nat) ^ 20 = 1048576 from by decide, Nat.div_eq_of_lt h, Nat.add_zero]
theorem read_all (P d : Nat) : read P d 20 = d + 1048576 * P := by
  unfold read
  rw [Nat.sub_self, Nat.pow_zero, Nat.div_one, show (2 : Nat) ^ 20 = 1048576 from by decide]
  omega
theorem read_next {P d j : Nat} (h : j < 20) : read P d (j + 1) = 2 * read P d j + d / (524288 / 2 ^ j) % 2 := by
  unfold read
  rw [half_is h, show 20 - (j + 1) = 19 - j from by omega, show 20 - j = 19 - j + 1 from by omega, Nat.pow_succ, Nat.pow_succ, ← Nat.div_div_eq_div_mul, ← Nat.mul_assoc]
  generalize d / 2 ^ (19 - j) = x
  generalize P * 2 ^ j = y
  omega
theorem read_twice {P d j : Nat} (h : j < 20) : 2 * read P d j ≤ d + 1048576 * P := by
  unfold read
  have h1 : P * 2 ^ j * 2 ^ (20 - j) = 1048576 * P := by
    rw [Nat.mul_assoc, ← Nat.pow_add, show j + (20 - j) = 20 from by omega, Nat.mul_comm]
  have h2 : d / 2 ^ (20 - j) * 2 ^ (20 - j) ≤ d := Nat.div_mul_le_self _ _
  have h3 : 2 * (P * 2 ^ j + d / 2 ^ (20 - j)) ≤ 2 ^ (20 - j) * (P * 2 ^ j + d / 2 ^ (20 - j)) := Nat.mul_le_mul_right _ (by
    have := Nat.pow_le_pow_right (n := 2) (by decide) (show 1 ≤ 20 - j by omega)
    omega)
  rw [Nat.mul_comm (2 ^ (20 - j)), Nat.add_mul, h1] at h3
  omega
end Go.Proofs.YtfpjihicobmlkaaDoor
