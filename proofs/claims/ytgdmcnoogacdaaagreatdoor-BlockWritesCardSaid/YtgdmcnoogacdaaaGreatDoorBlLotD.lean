/- In one text, written by lotify.py: FrameMath, FrameMath2, FrameMath3. -/
import Derived.Test.YtgdmcnoogacdaaaGreatDoorBitMath
namespace Go.Proofs.YtgdmcnoogacdaaaGreatDoor
set_option linter.unusedVariables false

/-- One step of the sum, and so many. -/
def cstep (c : Nat) : Nat := c / 2 ^^^ 2197175160 * (c % 2)
def csteps : Nat → Nat → Nat
  | 0, c => c
  | k + 1, c => cstep (csteps k c)
/-- Bytes as one number, the lowest one first. -/
def leN : List UInt8 → Nat
  | [] => 0
  | x :: l => x.toNat + 256 * leN l
def crc (c : Nat) : List UInt8 → Nat
  | [] => c
  | x :: l => crc (csteps 8 (c ^^^ x.toNat)) l
def sumN (l : List UInt8) : Nat := 4294967295 - crc 4294967295 l

theorem cstep_bit (c i : Nat) : (cstep c).testBit i = ((c.testBit (i + 1)) ^^ (Nat.testBit 2197175160 i && c.testBit 0)) := by
  unfold cstep
  rw [Nat.testBit_xor, show c / 2 = c / 2 ^ 1 from rfl, Nat.testBit_div_two_pow]
  congr 1
  rcases Nat.mod_two_eq_zero_or_one c with h | h <;> simp [h, Nat.testBit_zero]
theorem cstep_xor (a b : Nat) : cstep (a ^^^ b) = cstep a ^^^ cstep b := by
  apply Nat.eq_of_testBit_eq
  intro i
  simp only [cstep_bit, Nat.testBit_xor]
  cases a.testBit (i + 1) <;> cases b.testBit (i + 1) <;> cases a.testBit 0 <;> cases b.testBit 0 <;> cases Nat.testBit 2197175160 i <;> rfl
theorem cstep_double (x : Nat) : cstep (2 * x) = x := by
  unfold cstep
  rw [show 2 * x / 2 = x from by omega, show 2 * x % 2 = 0 from by omega]
  simp
theorem cstep_lt {x : Nat} (h : x < 2 ^ 32) : cstep x < 2 ^ 32 := by
  unfold cstep
  apply Nat.xor_lt_two_pow
  · omega
  · have : x % 2 < 2 := Nat.mod_lt _ (by omega)
    omega
theorem cstep_zero {x : Nat} (h : x < 2 ^ 32) (h0 : cstep x = 0) : x = 0 := by
  unfold cstep at h0
  have e : x / 2 = 2197175160 * (x % 2) := by
    have := congrArg (· ^^^ 2197175160 * (x % 2)) h0
    simpa [Nat.xor_assoc] using this
  omega
theorem csteps_xor (k a b : Nat) : csteps k (a ^^^ b) = csteps k a ^^^ csteps k b := by
  induction k with
  | zero => rfl
  | succ k ih => simp only [csteps, ih, cstep_xor]
theorem csteps_add (j k c : Nat) : csteps (j + k) c = csteps j (csteps k c) := by
  induction j with
  | zero => simp [csteps]
  | succ j ih => rw [show j + 1 + k = (j + k) + 1 from by omega]; simp only [csteps, ih]
theorem csteps_lt (k : Nat) {x : Nat} (h : x < 2 ^ 32) : csteps k x < 2 ^ 32 := by
  induction k with
  | zero => exact h
  | succ k ih => exact cstep_lt ih
theorem csteps_zero (k : Nat) {x : Nat} (h : x < 2 ^ 32) (h0 : csteps k x = 0) : x = 0 := by
  induction k with
  | zero => exact h0
  | succ k ih => exact ih (cstep_zero (csteps_lt k h) h0)
theorem csteps_shift (k x : Nat) : csteps k (2 ^ k * x) = x := by
  induction k generalizing x with
  | zero => simp [csteps]
  | succ k ih =>
    show cstep (csteps k (2 ^ (k + 1) * x)) = x
    rw [Nat.pow_succ, Nat.mul_assoc, ih, cstep_double]
theorem xor_add (x m : Nat) (k : Nat) (h : x < 2 ^ k) : x ^^^ 2 ^ k * m = x + 2 ^ k * m := by
  rw [Nat.add_comm, Nat.two_pow_add_eq_or_of_lt h]
  apply Nat.eq_of_testBit_eq
  intro i
  rw [Nat.testBit_xor, Nat.testBit_or, Nat.testBit_two_pow_mul]
  by_cases hi : k ≤ i
  · rw [Nat.testBit_lt_two_pow (x := x) (i := i) (Nat.lt_of_lt_of_le h (Nat.pow_le_pow_right (by omega) hi))]
    simp
  · simp [hi]
theorem leN_cons (x : UInt8) (l : List UInt8) : leN (x :: l) = x.toNat ^^^ 2 ^ 8 * leN l := by
  rw [xor_add _ _ 8 x.toNat_lt]
  rfl
theorem crc_eq (l : List UInt8) : ∀ c, crc c l = csteps (8 * l.length) (c ^^^ leN l) := by
  induction l with
  | nil => intro c; simp [crc, csteps, leN]
  | cons x l ih =>
    intro c
    rw [crc, ih, leN_cons, ← Nat.xor_assoc, show 8 * (x :: l).length = 8 * l.length + 8 from by simp; omega, csteps_add, csteps_xor 8 (c ^^^ x.toNat), csteps_shift]
theorem crc_snoc (c : Nat) (l : List UInt8) (x : UInt8) : crc c (l ++ [x]) = csteps 8 (crc c l ^^^ x.toNat) := by
  induction l generalizing c with
  | nil => rfl
  | cons y l ih => exact ih _
theorem crc_lt (l : List UInt8) {c : Nat} (h : c < 2 ^ 32) : crc c l < 2 ^ 32 := by
  induction l generalizing c with
  | nil => exact h
  | cons y l ih => exact ih (csteps_lt 8 (Nat.xor_lt_two_pow h (Nat.lt_trans y.toNat_lt (by decide))))
theorem all_turn {c : Nat} (h : c < 2 ^ 32) : 4294967295 - c = 4294967295 ^^^ c := by
  rw [show 4294967295 - c = 2 ^ 32 - (c + 1) from by omega]
  apply Nat.eq_of_testBit_eq
  intro i
  rw [Nat.testBit_two_pow_sub_succ h, Nat.testBit_xor, show (4294967295 : Nat) = 2 ^ 32 - 1 from rfl, Nat.testBit_two_pow_sub_one]
  by_cases hi : i < 32
  · simp [hi]
  · rw [Nat.testBit_lt_two_pow (x := c) (i := i) (Nat.lt_of_lt_of_le h (Nat.pow_le_pow_right (by omega) (by omega)))]
    simp [hi]
theorem sumN_eq (l : List UInt8) : sumN l = 4294967295 ^^^ csteps (8 * l.length) (4294967295 ^^^ leN l) := by
  rw [sumN, all_turn (crc_lt l (by decide)), crc_eq]
theorem sumN_lt (l : List UInt8) : sumN l < 2 ^ 32 := by
  have := crc_lt l (c := 4294967295) (by decide)
  unfold sumN
  omega
theorem leN_lt (l : List UInt8) : leN l < 2 ^ (8 * l.length) := by
  induction l with
  | nil => simp [leN]
  | cons x l ih =>
    rw [show 8 * (x :: l).length = 8 * l.length + 8 from by simp; omega, Nat.pow_add]
    have := x.toNat_lt
    unfold leN
    omega
theorem leN_append (a b : List UInt8) : leN (a ++ b) = leN a ^^^ 2 ^ (8 * a.length) * leN b := by
  rw [xor_add _ _ _ (leN_lt a)]
  induction a with
  | nil => simp [leN]
  | cons x a ih =>
    rw [List.cons_append, leN, leN, ih, show 8 * (x :: a).length = 8 * a.length + 8 from by simp; omega, Nat.pow_add, Nat.mul_add, Nat.add_assoc]
    congr 2
    rw [← Nat.mul_assoc]
    congr 1
    omega

/-- The sum's four bytes. -/
def le4 (s : Nat) : List UInt8 := [UInt8.ofNat s, UInt8.ofNat (s / 256), UInt8.ofNat (s / 65536), UInt8.ofNat (s / 16777216)]
theorem leN_le4 {s : Nat} (h : s < 2 ^ 32) : leN (le4 s) = s := by
  simp only [le4, leN, UInt8.toNat_ofNat']
  omega
theorem le4_leN (l : List UInt8) (h : l.length = 4) : le4 (leN l) = l := by
  match l, h with
  | [a, b, c, d], _ =>
    have ha := a.toNat_lt
    have hb := b.toNat_lt
    have hc := c.toNat_lt
    have hd := d.toNat_lt
    simp only [le4, leN, List.cons.injEq, and_true]
    refine ⟨?_, ?_, ?_, ?_⟩ <;> apply UInt8.toNat.inj <;> rw [UInt8.toNat_ofNat'] <;> omega
def headL (x : List UInt8) : List UInt8 := UInt8.ofNat (x.length / 256) :: UInt8.ofNat x.length :: x
/-- The frame of bytes. -/
def frameL (x : List UInt8) : List UInt8 := headL x ++ le4 (sumN (headL x))
theorem frameL_length (x : List UInt8) : (frameL x).length = x.length + 6 := by simp [frameL, headL, le4]

/-- Bytes with four of a sum behind them carry it just if the steps over all of them end at the start. -/
theorem carry_iff (h t : List UInt8) (ht : t.length = 4) : leN t = sumN h ↔ csteps (8 * h.length) (4294967295 ^^^ leN (h ++ t)) = 4294967295 := by
  rw [leN_append, ← Nat.xor_assoc, csteps_xor, csteps_shift, sumN_eq]
  constructor
  · intro e
    rw [e, Nat.xor_comm 4294967295 (csteps _ _), ← Nat.xor_assoc, Nat.xor_self, Nat.zero_xor]
  · intro e
    have := congrArg (csteps (8 * h.length) (4294967295 ^^^ leN h) ^^^ ·) e
    simp only [← Nat.xor_assoc, Nat.xor_self, Nat.zero_xor] at this
    rw [this, Nat.xor_comm]

/-- A number's bytes. -/
def uintL (n : Nat) : List UInt8 := if n < 128 then [UInt8.ofNat n] else UInt8.ofNat (n % 128 + 128) :: uintL (n / 128)
theorem uintL_small {n : Nat} (h : n < 128) : uintL n = [UInt8.ofNat n] := by rw [uintL, if_pos h]
theorem uintL_big {n : Nat} (h : ¬ n < 128) : uintL n = UInt8.ofNat (n % 128 + 128) :: uintL (n / 128) := by rw [uintL, if_neg h]
theorem uintL_len (k : Nat) : ∀ n, n < 128 ^ (k + 1) → (uintL n).length ≤ k + 1 := by
  induction k with
  | zero => intro n h; rw [uintL_small (by omega)]; simp
  | succ k ih =>
    intro n h
    by_cases hn : n < 128
    · rw [uintL_small hn]; simp
    · rw [uintL_big hn]
      have := ih (n / 128) (by rw [Nat.pow_succ] at h; omega)
      simp
      omega
theorem uintL_pos (n : Nat) : 0 < (uintL n).length := by
  by_cases hn : n < 128
  · rw [uintL_small hn]; simp
  · rw [uintL_big hn]; simp
theorem uintL_9 {n : Nat} (h : n < 9223372036854775808) : (uintL n).length ≤ 9 := uintL_len 8 n (by omega)

/-- The number that the low seven bits of k bytes from a place on are. -/
def digN (l : List UInt8) (a : Nat) : Nat → Nat
  | 0 => 0
  | k + 1 => digN l a k + (l.getD (a + k) 0).toNat % 128 * 128 ^ k
theorem digN_lt (l : List UInt8) (a k : Nat) : digN l a k < 128 ^ k := by
  induction k with
  | zero => simp [digN]
  | succ k ih =>
    unfold digN
    have : (l.getD (a + k) 0).toNat % 128 ≤ 127 := by omega
    have h2 := Nat.mul_le_mul_right (128 ^ k) this
    rw [Nat.pow_succ]
    omega
/-- What is read as a number at a place: the number, the place behind it, and which error. -/
inductive GU (l : List UInt8) (a : Nat) : Nat → Nat → Nat → Prop
  | short (k : Nat) (hk : k < 9) (hc : ∀ j, j < k → 128 ≤ (l.getD (a + j) 0).toNat) (he : a + k = l.length) : GU l a 0 0 4
  | nought (k : Nat) (hk : k < 9) (h0 : 0 < k) (hc : ∀ j, j < k → 128 ≤ (l.getD (a + j) 0).toNat) (he : a + k < l.length) (hz : (l.getD (a + k) 0).toNat = 0) : GU l a 0 0 5
  | long (he : a + 9 ≤ l.length) (hc : ∀ j, j < 9 → 128 ≤ (l.getD (a + j) 0).toNat) : GU l a 0 0 5
  | ok (k : Nat) (hk : k < 9) (hc : ∀ j, j < k → 128 ≤ (l.getD (a + j) 0).toNat) (he : a + k < l.length) (hl : (l.getD (a + k) 0).toNat < 128) (hz : (l.getD (a + k) 0).toNat = 0 → k = 0) : GU l a (digN l a (k + 1)) (a + k + 1) 0
theorem gu_total (l : List UInt8) (a : Nat) (ha : a ≤ l.length) : ∃ n x e, GU l a n x e := by
  have key : ∀ k, k ≤ 9 → (∃ n x e, GU l a n x e) ∨ (a + k ≤ l.length ∧ ∀ j, j < k → 128 ≤ (l.getD (a + j) 0).toNat) := by
    intro k
    induction k with
    | zero => intro _; exact .inr ⟨by omega, fun j hj => by omega⟩
    | succ k ih =>
      intro hk
      rcases ih (by omega) with h | ⟨h1, h2⟩
      · exact .inl h
      · by_cases he : a + k = l.length
        · exact .inl ⟨_, _, _, .short k (by omega) h2 he⟩
        · by_cases hb : 128 ≤ (l.getD (a + k) 0).toNat
          · refine .inr ⟨by omega, fun j hj => ?_⟩
            rcases Nat.lt_or_ge j k with h | h
            · exact h2 j h
            · rw [show j = k from by omega]; exact hb
          · by_cases hz : (l.getD (a + k) 0).toNat = 0 ∧ 0 < k
            · exact .inl ⟨_, _, _, .nought k (by omega) hz.2 h2 (by omega) hz.1⟩
            · exact .inl ⟨_, _, _, .ok k (by omega) h2 (by omega) (by omega) (by omega)⟩
  rcases key 9 (Nat.le_refl _) with h | ⟨h1, h2⟩
  · exact h
  · exact ⟨_, _, _, .long h1 h2⟩
end Go.Proofs.YtgdmcnoogacdaaaGreatDoor

namespace Go.Proofs.YtgdmcnoogacdaaaGreatDoor
set_option linter.unusedVariables false

/-- How many bytes the frame at a place says that it has. -/
def fn (l : List UInt8) (a : Nat) : Nat := (l.getD a 0).toNat * 256 + (l.getD (a + 1) 0).toNat
/-- Does the frame at a place carry its sum? -/
def carries (l : List UInt8) (a : Nat) : Prop := leN ((l.drop (a + (2 + fn l a))).take 4) = sumN ((l.drop a).take (2 + fn l a))
instance (l : List UInt8) (a : Nat) : Decidable (carries l a) := by unfold carries; infer_instance
/-- What is read as a frame at a place. -/
inductive FG (l : List UInt8) (a : Nat) : List UInt8 → Nat → Nat → Prop
  | few (h : l.length - a < 6) : FG l a [] 0 4
  | short (h6 : 6 ≤ l.length - a) (h : l.length - a < fn l a + 6) : FG l a [] 0 4
  | bad (h : fn l a + 6 ≤ l.length - a) (hc : ¬ carries l a) : FG l a [] 0 5
  | ok (h : fn l a + 6 ≤ l.length - a) (hc : carries l a) : FG l a ((l.drop (a + 2)).take (fn l a)) (a + fn l a + 6) 0
theorem fg_total (l : List UInt8) (a : Nat) : ∃ x n e, FG l a x n e := by
  by_cases h : l.length - a < 6
  · exact ⟨_, _, _, .few h⟩
  · by_cases h2 : l.length - a < fn l a + 6
    · exact ⟨_, _, _, .short (by omega) h2⟩
    · by_cases hc : carries l a
      · exact ⟨_, _, _, .ok (by omega) hc⟩
      · exact ⟨_, _, _, .bad (by omega) hc⟩
theorem fn_lt (l : List UInt8) (a : Nat) : fn l a < 65536 := by
  have h1 := (l.getD a 0).toNat_lt
  have h2 := (l.getD (a + 1) 0).toNat_lt
  unfold fn
  omega

theorem drop_two (l : List UInt8) (a : Nat) (h : a + 2 ≤ l.length) : l.drop a = l.getD a 0 :: l.getD (a + 1) 0 :: l.drop (a + 2) := by
  rw [List.drop_eq_getElem_cons (by omega), List.drop_eq_getElem_cons (by omega), getD_in l 0 (by omega), getD_in l 0 (by omega)]
theorem head_at (l : List UInt8) (a : Nat) (h : fn l a + 6 ≤ l.length - a) : headL ((l.drop (a + 2)).take (fn l a)) = (l.drop a).take (2 + fn l a) := by
  have h1 := (l.getD a 0).toNat_lt
  have h2 := (l.getD (a + 1) 0).toNat_lt
  have hl : ((l.drop (a + 2)).take (fn l a)).length = fn l a := by simp; omega
  rw [headL, hl, drop_two l a (by omega), show 2 + fn l a = fn l a + 1 + 1 from by omega, List.take_succ_cons, List.take_succ_cons]
  congr 1
  · apply UInt8.toNat.inj
    rw [UInt8.toNat_ofNat']
    unfold fn
    omega
  · congr 1
    apply UInt8.toNat.inj
    rw [UInt8.toNat_ofNat']
    unfold fn
    omega
theorem le4_eq (s : Nat) (hs : s < 2 ^ 32) (t : List UInt8) (ht : t.length = 4) : le4 s = t ↔ leN t = s := by
  constructor
  · intro h
    rw [← h, leN_le4 hs]
  · intro h
    rw [← h, le4_leN t ht]
theorem frame_at (l : List UInt8) (a : Nat) (h : fn l a + 6 ≤ l.length - a) : frameL ((l.drop (a + 2)).take (fn l a)) = (l.drop a).take (fn l a + 6) ↔ carries l a := by
  have e : (l.drop a).take (fn l a + 6) = (l.drop a).take (2 + fn l a) ++ (l.drop (a + (2 + fn l a))).take 4 := by
    rw [show fn l a + 6 = (2 + fn l a) + 4 from by omega, List.take_add, List.drop_drop]
  rw [frameL, head_at l a h, e, List.append_right_inj, le4_eq _ (sumN_lt _) _ (by simp; omega)]
  rfl

/-- The four bytes of a sum, one after the other. -/
theorem leN_step (l : List UInt8) (a k : Nat) (h : a + k < l.length) : leN ((l.drop a).take (k + 1)) = leN ((l.drop a).take k) + (l.getD (a + k) 0).toNat * 2 ^ (8 * k) := by
  have e : (l.drop a).take (k + 1) = (l.drop a).take k ++ [l.getD (a + k) 0] := by
    rw [List.take_add_one, List.getElem?_drop, List.getElem?_eq_getElem h, getD_in l 0 h]
    rfl
  have hl : ((l.drop a).take k).length = k := by simp; omega
  rw [e, leN_append, hl, xor_add _ _ _ (by have := leN_lt ((l.drop a).take k); rwa [hl] at this)]
  simp [leN, Nat.mul_comm]
end Go.Proofs.YtgdmcnoogacdaaaGreatDoor

namespace Go.Proofs.YtgdmcnoogacdaaaGreatDoor
set_option linter.unusedVariables false

theorem digN_front (l : List UInt8) (k : Nat) : ∀ a, digN l a (k + 1) = (l.getD a 0).toNat % 128 + 128 * digN l (a + 1) k := by
  induction k with
  | zero => intro a; simp [digN]
  | succ k ih =>
    intro a
    rw [digN, ih a, digN, show a + 1 + k = a + (k + 1) from by omega, Nat.pow_succ, Nat.mul_add]
    generalize (l.getD (a + (k + 1)) 0).toNat % 128 = z
    generalize 128 ^ k = p
    have : z * (p * 128) = 128 * (z * p) := by rw [← Nat.mul_assoc, Nat.mul_comm]
    omega
theorem digN_pos (l : List UInt8) (a k : Nat) (h : (l.getD (a + k) 0).toNat % 128 ≠ 0) : 0 < digN l a (k + 1) := by
  unfold digN
  have h1 : 0 < 128 ^ k := Nat.pow_pos (by omega)
  have h2 : 0 < (l.getD (a + k) 0).toNat % 128 * 128 ^ k := Nat.mul_pos (by omega) h1
  omega
theorem byte_back (x : UInt8) (h : 128 ≤ x.toNat) : UInt8.ofNat (x.toNat % 128 + 128) = x := by
  apply UInt8.toNat.inj
  rw [UInt8.toNat_ofNat']
  have := x.toNat_lt
  omega
theorem byte_self (x : UInt8) (h : x.toNat < 128) : UInt8.ofNat (x.toNat % 128) = x := by
  apply UInt8.toNat.inj
  rw [UInt8.toNat_ofNat']
  omega
theorem uintL_digN (l : List UInt8) (k : Nat) : ∀ a, a + k < l.length → (∀ j, j < k → 128 ≤ (l.getD (a + j) 0).toNat) → (l.getD (a + k) 0).toNat < 128 → ((l.getD (a + k) 0).toNat = 0 → k = 0) →
    uintL (digN l a (k + 1)) = (l.drop a).take (k + 1) := by
  induction k with
  | zero =>
    intro a ha _ hl _
    rw [Nat.add_zero] at hl
    have e : digN l a 1 = (l.getD a 0).toNat % 128 := by simp [digN]
    rw [e, uintL_small (by omega), byte_self _ hl, List.drop_eq_getElem_cons (l := l) (i := a) (by omega), getD_in l 0 (by omega)]
    rfl
  | succ k ih =>
    intro a ha hc hl hz
    have h0 := hc 0 (by omega)
    rw [Nat.add_zero] at h0
    have hk : a + 1 + k = a + (k + 1) := by omega
    have hne : (l.getD (a + (k + 1)) 0).toNat % 128 ≠ 0 := by
      intro h
      have := hz (by omega)
      omega
    have hp := digN_pos l (a + 1) k (by rw [hk]; exact hne)
    rw [digN_front, uintL_big (by omega), show ((l.getD a 0).toNat % 128 + 128 * digN l (a + 1) (k + 1)) % 128 = (l.getD a 0).toNat % 128 from by omega, byte_back _ h0,
      show ((l.getD a 0).toNat % 128 + 128 * digN l (a + 1) (k + 1)) / 128 = digN l (a + 1) (k + 1) from by omega,
      ih (a + 1) (by omega) (fun j hj => by have := hc (j + 1) (by omega); rwa [show a + (j + 1) = a + 1 + j from by omega] at this) (by rw [hk]; exact hl) (fun h => by rw [hk] at h; exact absurd (by omega) hne)]
    rw [List.drop_eq_getElem_cons (l := l) (i := a) (by omega), getD_in l 0 (by omega)]
    rfl
theorem gu_bytes {l : List UInt8} {a n nx : Nat} (h : GU l a n nx 0) : uintL n = (l.drop a).take (nx - a) ∧ nx ≤ l.length := by
  generalize he : (0 : Nat) = e at h
  cases h with
  | short k hk hc he' => cases he
  | nought k hk h0 hc he' hz => cases he
  | long he' hc => cases he
  | ok k hk hc he' hl hz => exact ⟨by rw [show a + k + 1 - a = k + 1 from by omega]; exact uintL_digN l k a he' hc hl hz, by omega⟩

theorem digN_congr (l m : List UInt8) (a b k : Nat) (h : ∀ j, j < k → l.getD (a + j) 0 = m.getD (b + j) 0) : digN l a k = digN m b k := by
  induction k with
  | zero => rfl
  | succ k ih => rw [digN, digN, ih (fun j hj => h j (by omega)), h k (by omega)]
theorem uint_facts : ∀ n : Nat, ∃ K, (uintL n).length = K + 1 ∧ (∀ j, j < K → 128 ≤ ((uintL n).getD j 0).toNat) ∧ ((uintL n).getD K 0).toNat < 128 ∧ (((uintL n).getD K 0).toNat = 0 → n = 0) ∧ digN (uintL n) 0 (K + 1) = n := by
  intro n
  induction n using Nat.strongRecOn with
  | _ n ih =>
    by_cases h : n < 128
    · refine ⟨0, by rw [uintL_small h]; rfl, fun j hj => by omega, ?_, ?_, ?_⟩
      · rw [uintL_small h]; simp [UInt8.toNat_ofNat']; omega
      · rw [uintL_small h]; simp [UInt8.toNat_ofNat']; omega
      · rw [uintL_small h]; simp [digN, UInt8.toNat_ofNat']; omega
    · obtain ⟨K, h1, h2, h3, h4, h5⟩ := ih (n / 128) (by omega)
      rw [uintL_big h]
      refine ⟨K + 1, by simp [h1], ?_, ?_, ?_, ?_⟩
      · intro j hj
        rcases j with _ | j
        · simp [UInt8.toNat_ofNat']; omega
        · simpa using h2 j (by omega)
      · simpa using h3
      · intro hz
        have := h4 (by simpa using hz)
        omega
      · rw [digN_front, Nat.zero_add, digN_congr (UInt8.ofNat (n % 128 + 128) :: uintL (n / 128)) (uintL (n / 128)) 1 0 (K + 1) (fun j hj => by rw [Nat.add_comm 1 j, Nat.zero_add]; simp), h5]
        simp [UInt8.toNat_ofNat']
        omega
/-- A number that stands somewhere is read there. -/
theorem gu_of (b more : List UInt8) (n : Nat) (hn : n < 9223372036854775808) : GU (b ++ uintL n ++ more) b.length n (b.length + (uintL n).length) 0 := by
  obtain ⟨K, h1, h2, h3, h4, h5⟩ := uint_facts n
  have h9 := uintL_9 hn
  have at_ : ∀ j, j < K + 1 → (b ++ uintL n ++ more).getD (b.length + j) 0 = (uintL n).getD j 0 := by
    intro j hj
    rw [getD_in _ 0 (by simp; omega), getD_in _ 0 (by omega), List.getElem_append_left (by simp; omega), List.getElem_append_right (by omega)]
    simp
  have e : digN (b ++ uintL n ++ more) b.length (K + 1) = n := by
    rw [digN_congr _ (uintL n) _ 0 (K + 1) (fun j hj => by rw [at_ j hj, Nat.zero_add]), h5]
  have hz : ((b ++ uintL n ++ more).getD (b.length + K) 0).toNat = 0 → K = 0 := by
    rw [at_ K (by omega)]
    intro h
    have hn0 := h4 h
    subst hn0
    rw [uintL_small (by omega)] at h1
    simpa using h1.symm
  have := GU.ok (l := b ++ uintL n ++ more) (a := b.length) K (by omega) (fun j hj => by rw [at_ j (by omega)]; exact h2 j hj) (by simp; omega) (by rw [at_ K (by omega)]; exact h3) hz
  rw [e] at this
  rwa [h1, ← Nat.add_assoc]

theorem pow_mul_xor (k a b : Nat) : 2 ^ k * (a ^^^ b) = 2 ^ k * a ^^^ 2 ^ k * b := by
  apply Nat.eq_of_testBit_eq
  intro i
  rw [Nat.testBit_xor, Nat.testBit_two_pow_mul, Nat.testBit_two_pow_mul, Nat.testBit_two_pow_mul, Nat.testBit_xor]
  by_cases h : k ≤ i <;> simp [h]
theorem leN_set (l : List UInt8) : ∀ (p : Nat) (v : UInt8) (m : Nat), p < l.length → v.toNat = (l.getD p 0).toNat ^^^ m → leN (l.set p v) = leN l ^^^ 2 ^ (8 * p) * m := by
  induction l with
  | nil => intro p v m h; simp at h
  | cons x l ih =>
    intro p v m h hv
    rcases p with _ | p
    · simp only [List.getD_cons_zero] at hv
      rw [List.set_cons_zero, leN_cons, leN_cons, hv]
      simp only [Nat.mul_zero, Nat.pow_zero, Nat.one_mul, Nat.xor_assoc]
      rw [Nat.xor_comm m]
    · simp only [List.getD_cons_succ] at hv
      rw [List.set_cons_succ, leN_cons, leN_cons, ih p v m (by simpa using h) hv, pow_mul_xor, ← Nat.mul_assoc, ← Nat.pow_add, Nat.xor_assoc, show 8 + 8 * p = 8 * (p + 1) from by omega]
theorem low_next (P i : Nat) : P % 2 ^ (i + 1) = if P / 2 ^ i % 2 = 1 then P % 2 ^ i ^^^ 2 ^ i else P % 2 ^ i := by
  have h := Nat.mod_lt P (Nat.two_pow_pos i)
  have e : P % 2 ^ (i + 1) = P % 2 ^ i + 2 ^ i * (P / 2 ^ i % 2) := by rw [Nat.pow_succ, Nat.mod_mul]
  split
  · rename_i h1
    rw [e, h1, Nat.mul_one]
    have := xor_add (P % 2 ^ i) 1 i h
    rw [Nat.mul_one] at this
    exact this.symm
  · rename_i h1
    rw [e, show P / 2 ^ i % 2 = 0 from by omega]
    omega
/-- So many bits of a pattern have been turned. -/
theorem turn_next (F y from_ P i : Nat) (h : y = F ^^^ 2 ^ from_ * (P % 2 ^ i)) (h1 : P / 2 ^ i % 2 = 1) : y ^^^ 2 ^ (from_ + i) = F ^^^ 2 ^ from_ * (P % 2 ^ (i + 1)) := by
  rw [low_next, if_pos h1, pow_mul_xor, ← Nat.pow_add, h, Nat.xor_assoc]
theorem frame_carries (x : List UInt8) (hx : x.length ≤ 65535) : fn (frameL x) 0 = x.length ∧ carries (frameL x) 0 := by
  have h0 : fn (frameL x) 0 = x.length := by
    unfold fn frameL headL
    simp [UInt8.toNat_ofNat']
    omega
  refine ⟨h0, ?_⟩
  have h := frame_at (frameL x) 0 (by rw [h0, frameL_length]; omega)
  rw [h0] at h
  apply h.1
  have e : ((frameL x).drop (0 + 2)).take x.length = x := by simp [frameL, headL]
  rw [e, List.drop_zero, List.take_of_length_le (by rw [frameL_length]; omega)]
/-- A frame of which bits in a row behind its first two bytes are turned does not carry its sum. -/
theorem turned (x y : List UInt8) (hx : x.length ≤ 65535) (hl : y.length = (frameL x).length) (h0 : y.getD 0 0 = (frameL x).getD 0 0) (h1 : y.getD 1 0 = (frameL x).getD 1 0) (from_ P : Nat) (hP : P < 2 ^ 32) (hP0 : P ≠ 0) (hf : from_ ≤ 8 * (x.length + 2))
    (hy : leN y = leN (frameL x) ^^^ 2 ^ from_ * P) : FG y 0 [] 0 5 := by
  obtain ⟨f1, f2⟩ := frame_carries x hx
  have g1 : fn y 0 = x.length := by
    rw [← f1]
    unfold fn
    rw [h0, h1]
  have hfl := frameL_length x
  have split : ∀ z : List UInt8, z.length = x.length + 6 → z.take (2 + x.length) ++ (z.drop (2 + x.length)).take 4 = z := by
    intro z hz
    rw [List.take_of_length_le (l := z.drop (2 + x.length)) (by simp; omega), List.take_append_drop]
  have key : ∀ z : List UInt8, z.length = x.length + 6 → fn z 0 = x.length → (carries z 0 ↔ csteps (8 * (x.length + 2)) (4294967295 ^^^ leN z) = 4294967295) := by
    intro z hz hfz
    have := carry_iff (z.take (2 + x.length)) ((z.drop (2 + x.length)).take 4) (by simp; omega)
    rw [split z hz, show (z.take (2 + x.length)).length = x.length + 2 from by simp; omega] at this
    unfold carries
    rw [hfz, List.drop_zero, Nat.zero_add]
    exact this
  refine .bad (by rw [g1, hl, hfl]; omega) ?_
  rw [key y (by rw [hl, hfl]) g1, hy, ← Nat.xor_assoc, csteps_xor, (key (frameL x) hfl f1).1 f2]
  have e : csteps (8 * (x.length + 2)) (2 ^ from_ * P) = csteps (8 * (x.length + 2) - from_) P := by
    have := csteps_add (8 * (x.length + 2) - from_) from_ (2 ^ from_ * P)
    rw [show 8 * (x.length + 2) - from_ + from_ = 8 * (x.length + 2) from by omega, csteps_shift] at this
    exact this
  rw [e]
  intro h
  apply hP0
  refine csteps_zero (8 * (x.length + 2) - from_) hP ?_
  have := congrArg (4294967295 ^^^ ·) h
  simpa [← Nat.xor_assoc] using this

/-- The sum of three rows, xor byte by byte. -/
theorem sum_three (a b c x : List UInt8) (n : Nat) (ha : a.length = n) (hb : b.length = n) (hc : c.length = n) (hx : x.length = n) (h : leN x = leN a ^^^ leN b ^^^ leN c) : sumN x = sumN a ^^^ sumN b ^^^ sumN c := by
  rw [sumN_eq, sumN_eq, sumN_eq, sumN_eq, ha, hb, hc, hx, h]
  have e : csteps (8 * n) (4294967295 ^^^ (leN a ^^^ leN b ^^^ leN c)) = csteps (8 * n) (4294967295 ^^^ leN a) ^^^ csteps (8 * n) (4294967295 ^^^ leN b) ^^^ csteps (8 * n) (4294967295 ^^^ leN c) := by
    rw [← csteps_xor, ← csteps_xor]
    congr 1
    generalize leN a = A
    generalize leN b = B
    generalize leN c = C
    apply Nat.eq_of_testBit_eq
    intro i
    simp only [Nat.testBit_xor]
    cases Nat.testBit 4294967295 i <;> cases A.testBit i <;> cases B.testBit i <;> cases C.testBit i <;> rfl
  rw [e]
  generalize csteps (8 * n) (4294967295 ^^^ leN a) = A
  generalize csteps (8 * n) (4294967295 ^^^ leN b) = B
  generalize csteps (8 * n) (4294967295 ^^^ leN c) = C
  apply Nat.eq_of_testBit_eq
  intro i
  simp only [Nat.testBit_xor]
  cases Nat.testBit 4294967295 i <;> cases A.testBit i <;> cases B.testBit i <;> cases C.testBit i <;> rfl
end Go.Proofs.YtgdmcnoogacdaaaGreatDoor
