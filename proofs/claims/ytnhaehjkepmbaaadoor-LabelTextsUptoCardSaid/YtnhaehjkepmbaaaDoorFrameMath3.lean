/- Plain mathematics of layer 2's outright laws: numbers there and back, and bits that are turned. No program in sight. -/
import Derived.Test.YtnhaehjkepmbaaaDoorFrameMath2
namespace Go.Proofs.YtnhaehjkepmbaaaDoor
set_option linter.unusedVariables false

theorem digN_front (l : List UInt8) (k : Nat) : ∀ a, digN l a (k + 1) = (l.getD a 0).toNat % 128 + 128 * digN l (a + 1) k := by
  induction k with
  | zero => intro a; simp [digN]
  | succ k ih =>
    intro a
    rw [digN, ih a, digN, show a + 1 + k = a + (k + 1) from by omega, Nat.pow_succ, Nat.mul_add]
    generalize (l.getD (a + (k + 1)) 0).toNat % 128 = z
    generalize 128 ^ k = p
    have : z * (p * 128) = 128 * (z * p) := by rw [← Nat.mul_assoc, Nat.mul_comm]
    omega
theorem digN_pos (l : List UInt8) (a k : Nat) (h : (l.getD (a + k) 0).toNat % 128 ≠ 0) : 0 < digN l a (k + 1) := by
  unfold digN
  have h1 : 0 < 128 ^ k := Nat.pow_pos (by omega)
  have h2 : 0 < (l.getD (a + k) 0).toNat % 128 * 128 ^ k := Nat.mul_pos (by omega) h1
  omega
theorem byte_back (x : UInt8) (h : 128 ≤ x.toNat) : UInt8.ofNat (x.toNat % 128 + 128) = x := by
  apply UInt8.toNat.inj
  rw [UInt8.toNat_ofNat']
  have := x.toNat_lt
  omega
theorem byte_self (x : UInt8) (h : x.toNat < 128) : UInt8.ofNat (x.toNat % 128) = x := by
  apply UInt8.toNat.inj
  rw [UInt8.toNat_ofNat']
  omega
theorem uintL_digN (l : List UInt8) (k : Nat) : ∀ a, a + k < l.length → (∀ j, j < k → 128 ≤ (l.getD (a + j) 0).toNat) → (l.getD (a + k) 0).toNat < 128 → ((l.getD (a + k) 0).toNat = 0 → k = 0) →
    uintL (digN l a (k + 1)) = (l.drop a).take (k + 1) := by
  induction k with
  | zero =>
    intro a ha _ hl _
    rw [Nat.add_zero] at hl
    have e : digN l a 1 = (l.getD a 0).toNat % 128 := by simp [digN]
    rw [e, uintL_small (by omega), byte_self _ hl, List.drop_eq_getElem_cons (l := l) (i := a) (by omega), getD_in l 0 (by omega)]
    rfl
  | succ k ih =>
    intro a ha hc hl hz
    have h0 := hc 0 (by omega)
    rw [Nat.add_zero] at h0
    have hk : a + 1 + k = a + (k + 1) := by omega
    have hne : (l.getD (a + (k + 1)) 0).toNat % 128 ≠ 0 := by
      intro h
      have := hz (by omega)
      omega
    have hp := digN_pos l (a + 1) k (by rw [hk]; exact hne)
    rw [digN_front, uintL_big (by omega), show ((l.getD a 0).toNat % 128 + 128 * digN l (a + 1) (k + 1)) % 128 = (l.getD a 0).toNat % 128 from by omega, byte_back _ h0,
      show ((l.getD a 0).toNat % 128 + 128 * digN l (a + 1) (k + 1)) / 128 = digN l (a + 1) (k + 1) from by omega,
      ih (a + 1) (by omega) (fun j hj => by have := hc (j + 1) (by omega); rwa [show a + (j + 1) = a + 1 + j from by omega] at this) (by rw [hk]; exact hl) (fun h => by rw [hk] at h; exact absurd (by omega) hne)]
    rw [List.drop_eq_getElem_cons (l := l) (i := a) (by omega), getD_in l 0 (by omega)]
    rfl
theorem gu_bytes {l : List UInt8} {a n nx : Nat} (h : GU l a n nx 0) : uintL n = (l.drop a).take (nx - a) ∧ nx ≤ l.length := by
  generalize he : (0 : Nat) = e at h
  cases h with
  | short k hk hc he' => cases he
  | nought k hk h0 hc he' hz => cases he
  | long he' hc => cases he
  | ok k hk hc he' hl hz => exact ⟨by rw [show a + k + 1 - a = k + 1 from by omega]; exact uintL_digN l k a he' hc hl hz, by omega⟩

theorem digN_congr (l m : List UInt8) (a b k : Nat) (h : ∀ j, j < k → l.getD (a + j) 0 = m.getD (b + j) 0) : digN l a k = digN m b k := by
  induction k with
  | zero => rfl
  | succ k ih => rw [digN, digN, ih (fun j hj => h j (by omega)), h k (by omega)]
theorem uint_facts : ∀ n : Nat, ∃ K, (uintL n).length = K + 1 ∧ (∀ j, j < K → 128 ≤ ((uintL n).getD j 0).toNat) ∧ ((uintL n).getD K 0).toNat < 128 ∧ (((uintL n).getD K 0).toNat = 0 → n = 0) ∧ digN (uintL n) 0 (K + 1) = n := by
  intro n
  induction n using Nat.strongRecOn with
  | _ n ih =>
    by_cases h : n < 128
    · refine ⟨0, by rw [uintL_small h]; rfl, fun j hj => by omega, ?_, ?_, ?_⟩
      · rw [uintL_small h]; simp [UInt8.toNat_ofNat']; omega
      · rw [uintL_small h]; simp [UInt8.toNat_ofNat']; omega
      · rw [uintL_small h]; simp [digN, UInt8.toNat_ofNat']; omega
    · obtain ⟨K, h1, h2, h3, h4, h5⟩ := ih (n / 128) (by omega)
      rw [uintL_big h]
      refine ⟨K + 1, by simp [h1], ?_, ?_, ?_, ?_⟩
      · intro j hj
        rcases j with _ | j
        · simp [UInt8.toNat_ofNat']; omega
        · simpa using h2 j (by omega)
      · simpa using h3
      · intro hz
        have := h4 (by simpa using hz)
        omega
      · rw [digN_front, Nat.zero_add, digN_congr (UInt8.ofNat (n % 128 + 128) :: uintL (n / 128)) (uintL (n / 128)) 1 0 (K + 1) (fun j hj => by rw [Nat.add_comm 1 j, Nat.zero_add]; simp), h5]
        simp [UInt8.toNat_ofNat']
        omega
/-- A number that stands somewhere is read there. -/
theorem gu_of (b more : List UInt8) (n : Nat) (hn : n < 9223372036854775808) : GU (b ++ uintL n ++ more) b.length n (b.length + (uintL n).length) 0 := by
  obtain ⟨K, h1, h2, h3, h4, h5⟩ := uint_facts n
  have h9 := uintL_9 hn
  have at_ : ∀ j, j < K + 1 → (b ++ uintL n ++ more).getD (b.length + j) 0 = (uintL n).getD j 0 := by
    intro j hj
    rw [getD_in _ 0 (by simp; omega), getD_in _ 0 (by omega), List.getElem_append_left (by simp; omega), List.getElem_append_right (by omega)]
    simp
  have e : digN (b ++ uintL n ++ more) b.length (K + 1) = n := by
    rw [digN_congr _ (uintL n) _ 0 (K + 1) (fun j hj => by rw [at_ j hj, Nat.zero_add]), h5]
  have hz : ((b ++ uintL n ++ more).getD (b.length + K) 0).toNat = 0 → K = 0 := by
    rw [at_ K (by omega)]
    intro h
    have hn0 := h4 h
    subst hn0
    rw [uintL_small (by omega)] at h1
    simpa using h1.symm
  have := GU.ok (l := b ++ uintL n ++ more) (a := b.length) K (by omega) (fun j hj => by rw [at_ j (by omega)]; exact h2 j hj) (by simp; omega) (by rw [at_ K (by omega)]; exact h3) hz
  rw [e] at this
  rwa [h1, ← Nat.add_assoc]

theorem pow_mul_xor (k a b : Nat) : 2 ^ k * (a ^^^ b) = 2 ^ k * a ^^^ 2 ^ k * b := by
  apply Nat.eq_of_testBit_eq
  intro i
  rw [Nat.testBit_xor, Nat.testBit_two_pow_mul, Nat.testBit_two_pow_mul, Nat.testBit_two_pow_mul, Nat.testBit_xor]
  by_cases h : k ≤ i <;> simp [h]
theorem leN_set (l : List UInt8) : ∀ (p : Nat) (v : UInt8) (m : Nat), p < l.length → v.toNat = (l.getD p 0).toNat ^^^ m → leN (l.set p v) = leN l ^^^ 2 ^ (8 * p) * m := by
  induction l with
  | nil => intro p v m h; simp at h
  | cons x l ih =>
    intro p v m h hv
    rcases p with _ | p
    · simp only [List.getD_cons_zero] at hv
      rw [List.set_cons_zero, leN_cons, leN_cons, hv]
      simp only [Nat.mul_zero, Nat.pow_zero, Nat.one_mul, Nat.xor_assoc]
      rw [Nat.xor_comm m]
    · simp only [List.getD_cons_succ] at hv
      rw [List.set_cons_succ, leN_cons, leN_cons, ih p v m (by simpa using h) hv, pow_mul_xor, ← Nat.mul_assoc, ← Nat.pow_add, Nat.xor_assoc, show 8 + 8 * p = 8 * (p + 1) from by omega]
theorem low_next (P i : Nat) : P % 2 ^ (i + 1) = if P / 2 ^ i % 2 = 1 then P % 2 ^ i ^^^ 2 ^ i else P % 2 ^ i := by
  have h := Nat.mod_lt P (Nat.two_pow_pos i)
  have e : P % 2 ^ (i + 1) = P % 2 ^ i + 2 ^ i * (P / 2 ^ i % 2) := by rw [Nat.pow_succ, Nat.mod_mul]
  split
  · rename_i h1
    rw [e, h1, Nat.mul_one]
    have := xor_add (P % 2 ^ i) 1 i h
    rw [Nat.mul_one] at this
    exact this.symm
  · rename_i h1
    rw [e, show P / 2 ^ i % 2 = 0 from by omega]
    omega
/-- So many bits of a pattern have been turned. -/
theorem turn_next (F y from_ P i : Nat) (h : y = F ^^^ 2 ^ from_ * (P % 2 ^ i)) (h1 : P / 2 ^ i % 2 = 1) : y ^^^ 2 ^ (from_ + i) = F ^^^ 2 ^ from_ * (P % 2 ^ (i + 1)) := by
  rw [low_next, if_pos h1, pow_mul_xor, ← Nat.pow_add, h, Nat.xor_assoc]
theorem frame_carries (x : List UInt8) (hx : x.length ≤ 65535) : fn (frameL x) 0 = x.length ∧ carries (frameL x) 0 := by
  have h0 : fn (frameL x) 0 = x.length := by
    unfold fn frameL headL
    simp [UInt8.toNat_ofNat']
    omega
  refine ⟨h0, ?_⟩
  have h := frame_at (frameL x) 0 (by rw [h0, frameL_length]; omega)
  rw [h0] at h
  apply h.1
  have e : ((frameL x).drop (0 + 2)).take x.length = x := by simp [frameL, headL]
  rw [e, List.drop_zero, List.take_of_length_le (by rw [frameL_length]; omega)]
/-- A frame of which bits in a row behind its first two bytes are turned does not carry its sum. -/
theorem turned (x y : List UInt8) (hx : x.length ≤ 65535) (hl : y.length = (frameL x).length) (h0 : y.getD 0 0 = (frameL x).getD 0 0) (h1 : y.getD 1 0 = (frameL x).getD 1 0) (from_ P : Nat) (hP : P < 2 ^ 32) (hP0 : P ≠ 0) (hf : from_ ≤ 8 * (x.length + 2))
    (hy : leN y = leN (frameL x) ^^^ 2 ^ from_ * P) : FG y 0 [] 0 5 := by
  obtain ⟨f1, f2⟩ := frame_carries x hx
  have g1 : fn y 0 = x.length := by
    rw [← f1]
    unfold fn
    rw [h0, h1]
  have hfl := frameL_length x
  have split : ∀ z : List UInt8, z.length = x.length + 6 → z.take (2 + x.length) ++ (z.drop (2 + x.length)).take 4 = z := by
    intro z hz
    rw [List.take_of_length_le (l := z.drop (2 + x.length)) (by simp; omega), List.take_append_drop]
  have key : ∀ z : List UInt8, z.length = x.length + 6 → fn z 0 = x.length → (carries z 0 ↔ csteps (8 * (x.length + 2)) (4294967295 ^^^ leN z) = 4294967295) := by
    intro z hz hfz
    have := carry_iff (z.take (2 + x.length)) ((z.drop (2 + x.length)).take 4) (by simp; omega)
    rw [split z hz, show (z.take (2 + x.length)).length = x.length + 2 from by simp; omega] at this
    unfold carries
    rw [hfz, List.drop_zero, Nat.zero_add]
    exact this
  refine .bad (by rw [g1, hl, hfl]; omega) ?_
  rw [key y (by rw [hl, hfl]) g1, hy, ← Nat.xor_assoc, csteps_xor, (key (frameL x) hfl f1).1 f2]
  have e : csteps (8 * (x.length + 2)) (2 ^ from_ * P) = csteps (8 * (x.length + 2) - from_) P := by
    have := csteps_add (8 * (x.length + 2) - from_) from_ (2 ^ from_ * P)
    rw [show 8 * (x.length + 2) - from_ + from_ = 8 * (x.length + 2) from by omega, csteps_shift] at this
    exact this
  rw [e]
  intro h
  apply hP0
  refine csteps_zero (8 * (x.length + 2) - from_) hP ?_
  have := congrArg (4294967295 ^^^ ·) h
  simpa [← Nat.xor_assoc] using this

/-- The sum of three rows, xor byte by byte. -/
theorem sum_three (a b c x : List UInt8) (n : Nat) (ha : a.length = n) (hb : b.length = n) (hc : c.length = n) (hx : x.length = n) (h : leN x = leN a ^^^ leN b ^^^ leN c) : sumN x = sumN a ^^^ sumN b ^^^ sumN c := by
  rw [sumN_eq, sumN_eq, sumN_eq, sumN_eq, ha, hb, hc, hx, h]
  have e : csteps (8 * n) (4294967295 ^^^ (leN a ^^^ leN b ^^^ leN c)) = csteps (8 * n) (4294967295 ^^^ leN a) ^^^ csteps (8 * n) (4294967295 ^^^ leN b) ^^^ csteps (8 * n) (4294967295 ^^^ leN c) := by
    rw [← csteps_xor, ← csteps_xor]
    congr 1
    generalize leN a = A
    generalize leN b = B
    generalize leN c = C
    apply Nat.eq_of_testBit_eq
    intro i
    simp only [Nat.testBit_xor]
    cases Nat.testBit 4294967295 i <;> cases A.testBit i <;> cases B.testBit i <;> cases C.testBit i <;> rfl
  rw [e]
  generalize csteps (8 * n) (4294967295 ^^^ leN a) = A
  generalize csteps (8 * n) (4294967295 ^^^ leN b) = B
  generalize csteps (8 * n) (4294967295 ^^^ leN c) = C
  apply Nat.eq_of_testBit_eq
  intro i
  simp only [Nat.testBit_xor]
  cases Nat.testBit 4294967295 i <;> cases A.testBit i <;> cases B.testBit i <;> cases C.testBit i <;> rfl
end Go.Proofs.YtnhaehjkepmbaaaDoor
