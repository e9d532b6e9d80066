/- Plain mathematics of layer 2: the sum over bytes by linear steps, numbers and frames as bytes. No program in sight. -/
import Derived.Test.YtnhaehjkepmbaaaDoorLtLotA
namespace Go.Proofs.YtnhaehjkepmbaaaDoor
set_option linter.unusedVariables false

/-- One step of the sum, and so many. -/
def cstep (c : Nat) : Nat := c / 2 ^^^ 2197175160 * (c % 2)
def csteps : Nat → Nat → Nat
  | 0, c => c
  | k + 1, c => cstep (csteps k c)
/-- Bytes as one number, the lowest one first. -/
def leN : List UInt8 → Nat
  | [] => 0
  | x :: l => x.toNat + 256 * leN l
def crc (c : Nat) : List UInt8 → Nat
  | [] => c
  | x :: l => crc (csteps 8 (c ^^^ x.toNat)) l
def sumN (l : List UInt8) : Nat := 4294967295 - crc 4294967295 l

theorem cstep_bit (c i : Nat) : (cstep c).testBit i = ((c.testBit (i + 1)) ^^ (Nat.testBit 2197175160 i && c.testBit 0)) := by
  unfold cstep
  rw [Nat.testBit_xor, show c / 2 = c / 2 ^ 1 from rfl, Nat.testBit_div_two_pow]
  congr 1
  rcases Nat.mod_two_eq_zero_or_one c with h | h <;> simp [h, Nat.testBit_zero]
theorem cstep_xor (a b : Nat) : cstep (a ^^^ b) = cstep a ^^^ cstep b := by
  apply Nat.eq_of_testBit_eq
  intro i
  simp only [cstep_bit, Nat.testBit_xor]
  cases a.testBit (i + 1) <;> cases b.testBit (i + 1) <;> cases a.testBit 0 <;> cases b.testBit 0 <;> cases Nat.testBit 2197175160 i <;> rfl
theorem cstep_double (x : Nat) : cstep (2 * x) = x := by
  unfold cstep
  rw [show 2 * x / 2 = x from by omega, show 2 * x % 2 = 0 from by omega]
  simp
theorem cstep_lt {x : Nat} (h : x < 2 ^ 32) : cstep x < 2 ^ 32 := by
  unfold cstep
  apply Nat.xor_lt_two_pow
  · omega
  · have : x % 2 < 2 := Nat.mod_lt _ (by omega)
    omega
theorem cstep_zero {x : Nat} (h : x < 2 ^ 32) (h0 : cstep x = 0) : x = 0 := by
  unfold cstep at h0
  have e : x / 2 = 2197175160 * (x % 2) := by
    have := congrArg (· ^^^ 2197175160 * (x % 2)) h0
    simpa [Nat.xor_assoc] using this
  omega
theorem csteps_xor (k a b : Nat) : csteps k (a ^^^ b) = csteps k a ^^^ csteps k b := by
  induction k with
  | zero => rfl
  | succ k ih => simp only [csteps, ih, cstep_xor]
theorem csteps_add (j k c : Nat) : csteps (j + k) c = csteps j (csteps k c) := by
  induction j with
  | zero => simp [csteps]
  | succ j ih => rw [show j + 1 + k = (j + k) + 1 from by omega]; simp only [csteps, ih]
theorem csteps_lt (k : Nat) {x : Nat} (h : x < 2 ^ 32) : csteps k x < 2 ^ 32 := by
  induction k with
  | zero => exact h
  | succ k ih => exact cstep_lt ih
theorem csteps_zero (k : Nat) {x : Nat} (h : x < 2 ^ 32) (h0 : csteps k x = 0) : x = 0 := by
  induction k with
  | zero => exact h0
  | succ k ih => exact ih (cstep_zero (csteps_lt k h) h0)
theorem csteps_shift (k x : Nat) : csteps k (2 ^ k * x) = x := by
  induction k generalizing x with
  | zero => simp [csteps]
  | succ k ih =>
    show cstep (csteps k (2 ^ (k + 1) * x)) = x
    rw [Nat.pow_succ, Nat.mul_assoc, ih, cstep_double]
theorem xor_add (x m : Nat) (k : Nat) (h : x < 2 ^ k) : x ^^^ 2 ^ k * m = x + 2 ^ k * m := by
  rw [Nat.add_comm, Nat.two_pow_add_eq_or_of_lt h]
  apply Nat.eq_of_testBit_eq
  intro i
  rw [Nat.testBit_xor, Nat.testBit_or, Nat.testBit_two_pow_mul]
  by_cases hi : k ≤ i
  · rw [Nat.testBit_lt_two_pow (x := x) (i := i) (Nat.lt_of_lt_of_le h (Nat.pow_le_pow_right (by omega) hi))]
    simp
  · simp [hi]
theorem leN_cons (x : UInt8) (l : List UInt8) : leN (x :: l) = x.toNat ^^^ 2 ^ 8 * leN l := by
  rw [xor_add _ _ 8 x.toNat_lt]
  rfl
theorem crc_eq (l : List UInt8) : ∀ c, crc c l = csteps (8 * l.length) (c ^^^ leN l) := by
  induction l with
  | nil => intro c; simp [crc, csteps, leN]
  | cons x l ih =>
    intro c
    rw [crc, ih, leN_cons, ← Nat.xor_assoc, show 8 * (x :: l).length = 8 * l.length + 8 from by simp; omega, csteps_add, csteps_xor 8 (c ^^^ x.toNat), csteps_shift]
theorem crc_snoc (c : Nat) (l : List UInt8) (x : UInt8) : crc c (l ++ [x]) = csteps 8 (crc c l ^^^ x.toNat) := by
  induction l generalizing c with
  | nil => rfl
  | cons y l ih => exact ih _
theorem crc_lt (l : List UInt8) {c : Nat} (h : c < 2 ^ 32) : crc c l < 2 ^ 32 := by
  induction l generalizing c with
  | nil => exact h
  | cons y l ih => exact ih (csteps_lt 8 (Nat.xor_lt_two_pow h (Nat.lt_trans y.toNat_lt (by decide))))
theorem all_turn {c : Nat} (h : c < 2 ^ 32) : 4294967295 - c = 4294967295 ^^^ c := by
  rw [show 4294967295 - c = 2 ^ 32 - (c + 1) from by omega]
  apply Nat.eq_of_testBit_eq
  intro i
  rw [Nat.testBit_two_pow_sub_succ h, Nat.testBit_xor, show (4294967295 : Nat) = 2 ^ 32 - 1 from rfl, Nat.testBit_two_pow_sub_one]
  by_cases hi : i < 32
  · simp [hi]
  · rw [Nat.testBit_lt_two_pow (x := c) (i := i) (Nat.lt_of_lt_of_le h (Nat.pow_le_pow_right (by omega) (by omega)))]
    simp [hi]
theorem sumN_eq (l : List UInt8) : sumN l = 4294967295 ^^^ csteps (8 * l.length) (4294967295 ^^^ leN l) := by
  rw [sumN, all_turn (crc_lt l (by decide)), crc_eq]
theorem sumN_lt (l : List UInt8) : sumN l < 2 ^ 32 := by
  have := crc_lt l (c := 4294967295) (by decide)
  unfold sumN
  omega
theorem leN_lt (l : List UInt8) : leN l < 2 ^ (8 * l.length) := by
  induction l with
  | nil => simp [leN]
  | cons x l ih =>
    rw [show 8 * (x :: l).length = 8 * l.length + 8 from by simp; omega, Nat.pow_add]
    have := x.toNat_lt
    unfold leN
    omega
theorem leN_append (a b : List UInt8) : leN (a ++ b) = leN a ^^^ 2 ^ (8 * a.length) * leN b := by
  rw [xor_add _ _ _ (leN_lt a)]
  induction a with
  | nil => simp [leN]
  | cons x a ih =>
    rw [List.cons_append, leN, leN, ih, show 8 * (x :: a).length = 8 * a.length + 8 from by simp; omega, Nat.pow_add, Nat.mul_add, Nat.add_assoc]
    congr 2
    rw [← Nat.mul_assoc]
    congr 1
    omega

/-- The sum's four bytes. -/
def le4 (s : Nat) : List UInt8 := [UInt8.ofNat s, UInt8.ofNat (s / 256), UInt8.ofNat (s / 65536), UInt8.ofNat (s / 16777216)]
theorem leN_le4 {s : Nat} (h : s < 2 ^ 32) : leN (le4 s) = s := by
  simp only [le4, leN, UInt8.toNat_ofNat']
  omega
theorem le4_leN (l : List UInt8) (h : l.length = 4) : le4 (leN l) = l := by
  match l, h with
  | [a, b, c, d], _ =>
    have ha := a.toNat_lt
    have hb := b.toNat_lt
    have hc := c.toNat_lt
    have hd := d.toNat_lt
    simp only [le4, leN, List.cons.injEq, and_true]
    refine ⟨?_, ?_, ?_, ?_⟩ <;> apply UInt8.toNat.inj <;> rw [UInt8.toNat_ofNat'] <;> omega
def headL (x : List UInt8) : List UInt8 := UInt8.ofNat (x.length / 256) :: UInt8.ofNat x.length :: x
/-- The frame of bytes. -/
def frameL (x : List UInt8) : List UInt8 := headL x ++ le4 (sumN (headL x))
theorem frameL_length (x : List UInt8) : (frameL x).length = x.length + 6 := by simp [frameL, headL, le4]

/-- Bytes with four of a sum behind them carry it just if the steps over all of them end at the start. -/
theorem carry_iff (h t : List UInt8) (ht : t.length = 4) : leN t = sumN h ↔ csteps (8 * h.length) (4294967295 ^^^ leN (h ++ t)) = 4294967295 := by
  rw [leN_append, ← Nat.xor_assoc, csteps_xor, csteps_shift, sumN_eq]
  constructor
  · intro e
    rw [e, Nat.xor_comm 4294967295 (csteps _ _), ← Nat.xor_assoc, Nat.xor_self, Nat.zero_xor]
  · intro e
    have := congrArg (csteps (8 * h.length) (4294967295 ^^^ leN h) ^^^ ·) e
    simp only [← Nat.xor_assoc, Nat.xor_self, Nat.zero_xor] at this
    rw [this, Nat.xor_comm]

/-- A number's bytes. -/
def uintL (n : Nat) : List UInt8 := if n < 128 then [UInt8.ofNat n] else UInt8.ofNat (n % 128 + 128) :: uintL (n / 128)
theorem uintL_small {n : Nat} (h : n < 128) : uintL n = [UInt8.ofNat n] := by rw [uintL, if_pos h]
theorem uintL_big {n : Nat} (h : ¬ n < 128) : uintL n = UInt8.ofNat (n % 128 + 128) :: uintL (n / 128) := by rw [uintL, if_neg h]
theorem uintL_len (k : Nat) : ∀ n, n < 128 ^ (k + 1) → (uintL n).length ≤ k + 1 := by
  induction k with
  | zero => intro n h; rw [uintL_small (by omega)]; simp
  | succ k ih =>
    intro n h
    by_cases hn : n < 128
    · rw [uintL_small hn]; simp
    · rw [uintL_big hn]
      have := ih (n / 128) (by rw [Nat.pow_succ] at h; omega)
      simp
      omega
theorem uintL_pos (n : Nat) : 0 < (uintL n).length := by
  by_cases hn : n < 128
  · rw [uintL_small hn]; simp
  · rw [uintL_big hn]; simp
theorem uintL_9 {n : Nat} (h : n < 9223372036854775808) : (uintL n).length ≤ 9 := uintL_len 8 n (by omega)

/-- The number that the low seven bits of k bytes from a place on are. -/
def digN (l : List UInt8) (a : Nat) : Nat → Nat
  | 0 => 0
  | k + 1 => digN l a k + (l.getD (a + k) 0).toNat % 128 * 128 ^ k
theorem digN_lt (l : List UInt8) (a k : Nat) : digN l a k < 128 ^ k := by
  induction k with
  | zero => simp [digN]
  | succ k ih =>
    unfold digN
    have : (l.getD (a + k) 0).toNat % 128 ≤ 127 := by omega
    have h2 := Nat.mul_le_mul_right (128 ^ k) this
    rw [Nat.pow_succ]
    omega
/-- What is read as a number at a place: the number, the place behind it, and which error. -/
inductive GU (l : List UInt8) (a : Nat) : Nat → Nat → Nat → Prop
  | short (k : Nat) (hk : k < 9) (hc : ∀ j, j < k → 128 ≤ (l.getD (a + j) 0).toNat) (he : a + k = l.length) : GU l a 0 0 4
  | nought (k : Nat) (hk : k < 9) (h0 : 0 < k) (hc : ∀ j, j < k → 128 ≤ (l.getD (a + j) 0).toNat) (he : a + k < l.length) (hz : (l.getD (a + k) 0).toNat = 0) : GU l a 0 0 5
  | long (he : a + 9 ≤ l.length) (hc : ∀ j, j < 9 → 128 ≤ (l.getD (a + j) 0).toNat) : GU l a 0 0 5
  | ok (k : Nat) (hk : k < 9) (hc : ∀ j, j < k → 128 ≤ (l.getD (a + j) 0).toNat) (he : a + k < l.length) (hl : (l.getD (a + k) 0).toNat < 128) (hz : (l.getD (a + k) 0).toNat = 0 → k = 0) : GU l a (digN l a (k + 1)) (a + k + 1) 0
theorem gu_total (l : List UInt8) (a : Nat) (ha : a ≤ l.length) : ∃ n x e, GU l a n x e := by
  have key : ∀ k, k ≤ 9 → (∃ n x e, GU l a n x e) ∨ (a + k ≤ l.length ∧ ∀ j, j < k → 128 ≤ (l.getD (a + j) 0).toNat) := by
    intro k
    induction k with
    | zero => intro _; exact .inr ⟨by omega, fun j hj => by omega⟩
    | succ k ih =>
      intro hk
      rcases ih (by omega) with h | ⟨h1, h2⟩
      · exact .inl h
      · by_cases he : a + k = l.length
        · exact .inl ⟨_, _, _, .short k (by omega) h2 he⟩
        · by_cases hb : 128 ≤ (l.getD (a + k) 0).toNat
          · refine .inr ⟨by omega, fun j hj => ?_⟩
            rcases Nat.lt_or_ge j k with h | h
            · exact h2 j h
            · rw [show j = k from by omega]; exact hb
          · by_cases hz : (l.getD (a + k) 0).toNat = 0 ∧ 0 < k
            · exact .inl ⟨_, _, _, .nought k (by omega) hz.2 h2 (by omega) hz.1⟩
            · exact .inl ⟨_, _, _, .ok k (by omega) h2 (by omega) (by omega) (by omega)⟩
  rcases key 9 (Nat.le_refl _) with h | ⟨h1, h2⟩
  · exact h
  · exact ⟨_, _, _, .long h1 h2⟩
end Go.Proofs.YtnhaehjkepmbaaaDoor
