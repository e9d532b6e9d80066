/- Numbers with six decimal places and their texts: that the text of a number is read as it, and that what is read as a number is its text. Plain mathematics over lists of bytes. -/
import Derived.Lib.ItoaNum
namespace Go.Proofs.YtfpjihicobmlkaaDoor
set_option linter.unusedVariables false

/-- The digits behind the point: at most k of them, none behind the last one that isn't 0. -/
def frac : Nat → Nat → List UInt8
  | 0, _ => []
  | k + 1, p => if p = 0 then [] else UInt8.ofNat (48 + 10 * p / 1000000) :: frac k (10 * p % 1000000)
theorem frac_nought (k : Nat) : frac k 0 = [] := by cases k <;> simp [frac]
theorem frac_next {k p : Nat} (h : p ≠ 0) : frac (k + 1) p = UInt8.ofNat (48 + 10 * p / 1000000) :: frac k (10 * p % 1000000) := by simp [frac, h]
theorem frac_length : ∀ (k p : Nat), (frac k p).length ≤ k := by
  intro k
  induction k with
  | zero => intro p; simp [frac]
  | succ k ih =>
    intro p
    unfold frac
    split
    · simp
    · have := ih (10 * p % 1000000)
      simp
      omega
def behindL (p : Nat) : List UInt8 := if p = 0 then [] else 46 :: frac 6 p
/-- The text of n parts without a sign. -/
def partsL (n : Nat) : List UInt8 := Lib.decDigits (n / 1000000) ++ behindL (n % 1000000)
def printL (n : Int) : List UInt8 := if n < 0 then 45 :: partsL n.natAbs else partsL n.natAbs

def isDig (c : UInt8) : Bool := decide (48 ≤ c.toNat) && decide (c.toNat ≤ 57)
theorem dig_of {c : UInt8} (h : isDig c = true) : 48 ≤ c.toNat ∧ c.toNat ≤ 57 := by simpa [isDig] using h
theorem dig_mk (d : Nat) (h : d ≤ 9) : isDig (UInt8.ofNat (48 + d)) = true ∧ (UInt8.ofNat (48 + d)).toNat = 48 + d := by
  have : (UInt8.ofNat (48 + d)).toNat = 48 + d := by rw [UInt8.toNat_ofNat']; omega
  refine ⟨?_, this⟩
  unfold isDig
  rw [this]
  simp
  omega
theorem dig_back {c : UInt8} (h : isDig c = true) : UInt8.ofNat (48 + (c.toNat - 48)) = c := by
  have := dig_of h
  rw [show 48 + (c.toNat - 48) = c.toNat from by omega]
  simp
def digsB (l : List UInt8) : Bool := !l.isEmpty && l.all isDig
def wholeB (l : List UInt8) : Bool := digsB l && (decide (l.head? ≠ some 48) || decide (l.length = 1))
def behindB (l : List UInt8) : Bool := digsB l && decide (l.length ≤ 6) && decide (l.getLast? ≠ some 48)

/-- The number of digits, behind what stands ahead. -/
def exact (p : Nat) (l : List UInt8) : Nat := l.foldl (fun p c => 10 * p + (c.toNat - 48)) p
theorem exact_snoc (p : Nat) (l : List UInt8) (c : UInt8) : exact p (l ++ [c]) = 10 * exact p l + (c.toNat - 48) := by simp [exact]
theorem exact_cons (p : Nat) (l : List UInt8) (c : UInt8) : exact p (c :: l) = exact (10 * p + (c.toNat - 48)) l := by simp [exact]
theorem exact_ge : ∀ (l : List UInt8) (p : Nat), p ≤ exact p l := by
  intro l
  induction l with
  | nil => intro p; exact Nat.le_refl _
  | cons c r ih =>
    intro p
    rw [exact_cons]
    exact Nat.le_trans (by omega) (ih _)
/-- As the program reckons: what is too great stays as it is. -/
def satB (M p : Nat) (l : List UInt8) : Nat := l.foldl (fun p c => if p ≤ M then 10 * p + (c.toNat - 48) else p) p
theorem satB_cons (M p : Nat) (l : List UInt8) (c : UInt8) : satB M p (c :: l) = satB M (if p ≤ M then 10 * p + (c.toNat - 48) else p) l := by simp [satB]
theorem satB_big (M : Nat) : ∀ (l : List UInt8) (p : Nat), M < p → satB M p l = p := by
  intro l
  induction l with
  | nil => intro p _; rfl
  | cons c r ih =>
    intro p h
    rw [satB_cons, if_neg (by omega)]
    exact ih p h
theorem satB_exact (M : Nat) : ∀ (l : List UInt8) (p : Nat), (satB M p l ≤ M → satB M p l = exact p l) ∧ (M < satB M p l → M < exact p l) := by
  intro l
  induction l with
  | nil => intro p; exact ⟨fun _ => rfl, fun h => h⟩
  | cons c r ih =>
    intro p
    by_cases hp : p ≤ M
    · rw [satB_cons, exact_cons, if_pos hp]
      exact ih _
    · rw [satB_big _ _ _ (by omega)]
      exact ⟨fun h => absurd h hp, fun h => Nat.lt_of_lt_of_le h (exact_ge _ _)⟩
theorem satB_append (M p : Nat) (a b : List UInt8) : satB M p (a ++ b) = satB M (satB M p a) b := by simp [satB]
def sat (p : Nat) (l : List UInt8) : Nat := satB 1152921504606846976 p l
theorem exact_append (p : Nat) (a b : List UInt8) : exact p (a ++ b) = exact (exact p a) b := by simp [exact]

def pad (k : Nat) (l : List UInt8) : List UInt8 := l ++ List.replicate (k - l.length) 48
/-- The digits behind the point, as so many of their places. -/
def fv : Nat → List UInt8 → Nat
  | 0, _ => 0
  | _ + 1, [] => 0
  | k + 1, c :: r => (c.toNat - 48) * 10 ^ k + fv k r
theorem fv_nil (k : Nat) : fv k [] = 0 := by cases k <;> rfl
theorem exact_pad : ∀ (k p : Nat) (l : List UInt8), l.length ≤ k → exact p (pad k l) = p * 10 ^ k + fv k l := by
  intro k
  induction k with
  | zero =>
    intro p l h
    obtain rfl : l = [] := List.eq_nil_of_length_eq_zero (by omega)
    simp [pad, exact, fv]
  | succ k ih =>
    intro p l h
    cases l with
    | nil =>
      have e : pad (k + 1) [] = 48 :: pad k [] := by simp [pad, List.replicate_succ]
      rw [e, exact_cons, ih _ _ (by simp), fv_nil, fv_nil, Nat.pow_succ]
      rw [show (48 : UInt8).toNat - 48 = 0 from rfl, Nat.add_zero, Nat.add_zero, Nat.add_zero, Nat.mul_comm 10 p, Nat.mul_assoc, Nat.mul_comm 10]
    | cons c r =>
      have e : pad (k + 1) (c :: r) = c :: pad k r := by simp [pad]
      rw [e, exact_cons, ih _ _ (by simpa using h), fv, Nat.add_mul, Nat.pow_succ]
      rw [Nat.mul_comm 10 p, Nat.mul_assoc, Nat.mul_comm 10 (10 ^ k), Nat.add_assoc]
theorem fv_lt : ∀ (k : Nat) (l : List UInt8), l.all isDig = true → fv k l < 10 ^ k := by
  intro k
  induction k with
  | zero => intro l _; simp [fv]
  | succ k ih =>
    intro l h
    cases l with
    | nil => rw [fv_nil]; exact Nat.pow_pos (by decide)
    | cons c r =>
      simp only [List.all_cons, Bool.and_eq_true] at h
      have h1 := dig_of h.1
      have h2 := ih r h.2
      rw [fv, Nat.pow_succ]
      have : (c.toNat - 48) * 10 ^ k ≤ 9 * 10 ^ k := Nat.mul_le_mul_right _ (by omega)
      omega
theorem last_cons {c : UInt8} {r : List UInt8} (hr : r ≠ []) : (c :: r).getLast? = r.getLast? := by
  cases r with
  | nil => exact absurd rfl hr
  | cons d t => simp [List.getLast?_cons_cons]
theorem fv_ne : ∀ (k : Nat) (l : List UInt8), l ≠ [] → l.length ≤ k → l.all isDig = true → l.getLast? ≠ some 48 → fv k l ≠ 0 := by
  intro k
  induction k with
  | zero => intro l h1 h2; exact absurd (List.eq_nil_of_length_eq_zero (by omega)) h1
  | succ k ih =>
    intro l h1 h2 h3 h4
    cases l with
    | nil => exact absurd rfl h1
    | cons c r =>
      simp only [List.all_cons, Bool.and_eq_true] at h3
      have hc := dig_of h3.1
      rw [fv]
      by_cases hr : r = []
      · subst hr
        have hc48 : c ≠ 48 := by
          intro e
          subst e
          exact h4 rfl
        have : c.toNat ≠ 48 := fun e => hc48 (UInt8.toNat_inj.1 e)
        have hp : 0 < 10 ^ k := Nat.pow_pos (by decide)
        have : 1 * 10 ^ k ≤ (c.toNat - 48) * 10 ^ k := Nat.mul_le_mul_right _ (by omega)
        omega
      · have := ih r hr (by simpa using h2) h3.2 (by rw [← last_cons hr]; exact h4)
        omega
theorem frac_fv : ∀ (k j : Nat) (l : List UInt8), j + k = 6 → l.length ≤ k → l.all isDig = true → l.getLast? ≠ some 48 → frac k (10 ^ j * fv k l) = l := by
  intro k
  induction k with
  | zero =>
    intro j l _ h _ _
    obtain rfl : l = [] := List.eq_nil_of_length_eq_zero (by omega)
    rfl
  | succ k ih =>
    intro j l hj h1 h2 h3
    cases l with
    | nil => rw [fv_nil, Nat.mul_zero, frac_nought]
    | cons c r =>
      have hne := fv_ne (k + 1) (c :: r) (by simp) h1 h2 h3
      simp only [List.all_cons, Bool.and_eq_true] at h2
      have hc := dig_of h2.1
      have hlt := fv_lt k r h2.2
      have hp0 : 10 ^ j * fv (k + 1) (c :: r) ≠ 0 := Nat.mul_ne_zero (Nat.pos_iff_ne_zero.1 (Nat.pow_pos (by decide))) hne
      have e : 10 * (10 ^ j * fv (k + 1) (c :: r)) = 1000000 * (c.toNat - 48) + 10 ^ (j + 1) * fv k r := by
        rw [fv, ← Nat.mul_assoc, Nat.mul_comm 10, ← Nat.pow_succ, Nat.mul_add, Nat.mul_comm (c.toNat - 48), ← Nat.mul_assoc, ← Nat.pow_add, show j + 1 + k = 6 from by omega]
      have hs : 10 ^ (j + 1) * fv k r < 1000000 := by
        have := Nat.mul_lt_mul_of_pos_left hlt (Nat.pow_pos (n := j + 1) (show 0 < 10 by decide))
        rw [← Nat.pow_add, show j + 1 + k = 6 from by omega] at this
        exact this
      rw [frac_next hp0, e, Nat.mul_add_div (by decide), Nat.div_eq_of_lt hs, Nat.add_zero, dig_back h2.1, Nat.mul_add_mod, Nat.mod_eq_of_lt hs]
      congr 1
      refine ih (j + 1) r (by omega) (by simpa using h1) h2.2 ?_
      by_cases hr : r = []
      · subst hr
        simp
      · rw [← last_cons hr (c := c)]
        exact h3
theorem fv_frac : ∀ (k j p : Nat), j + k = 6 → p < 1000000 → 10 ^ j ∣ p → 10 ^ j * fv k (frac k p) = p ∧ (frac k p).all isDig = true ∧ (frac k p).getLast? ≠ some 48 := by
  intro k
  induction k with
  | zero =>
    intro j p hj hp hd
    obtain rfl : j = 6 := by omega
    have : p = 0 := Nat.eq_zero_of_dvd_of_lt hd hp
    subst this
    simp [frac, fv]
  | succ k ih =>
    intro j p hj hp hd
    by_cases h0 : p = 0
    · subst h0
      rw [frac_nought]
      simp [fv_nil]
    · have hq : 10 * p / 1000000 ≤ 9 := by omega
      have hd2 : 10 ^ (j + 1) ∣ 10 * p := by
        rw [Nat.pow_succ, Nat.mul_comm]
        exact Nat.mul_dvd_mul_left 10 hd
      have hd3 : 10 ^ (j + 1) ∣ 1000000 := by
        have := Nat.pow_dvd_pow 10 (show j + 1 ≤ 6 by omega)
        exact this
      have hd4 : 10 ^ (j + 1) ∣ 10 * p % 1000000 := (Nat.dvd_mod_iff hd3).2 hd2
      obtain ⟨i1, i2, i3⟩ := ih (j + 1) (10 * p % 1000000) (by omega) (Nat.mod_lt _ (by decide)) hd4
      obtain ⟨g1, g2⟩ := dig_mk (10 * p / 1000000) hq
      rw [frac_next h0]
      refine ⟨?_, ?_, ?_⟩
      · rw [fv, g2, Nat.add_sub_cancel_left]
        have e : 10 * (10 ^ j * (10 * p / 1000000 * 10 ^ k + fv k (frac k (10 * p % 1000000)))) = 10 * p := by
          rw [← Nat.mul_assoc, Nat.mul_comm 10, ← Nat.pow_succ, Nat.mul_add, i1, Nat.mul_comm (10 * p / 1000000), ← Nat.mul_assoc, ← Nat.pow_add, show j + 1 + k = 6 from by omega]
          exact Nat.div_add_mod (10 * p) 1000000
        exact Nat.eq_of_mul_eq_mul_left (by decide) e
      · simp only [List.all_cons, Bool.and_eq_true]
        exact ⟨g1, i2⟩
      · by_cases hr : frac k (10 * p % 1000000) = []
        · rw [hr] at i1 ⊢
          rw [fv_nil, Nat.mul_zero] at i1
          intro e
          simp only [List.getLast?_singleton, Option.some.injEq] at e
          have := congrArg UInt8.toNat e
          rw [g2] at this
          have h48 : (48 : UInt8).toNat = 48 := rfl
          omega
        · rw [last_cons hr]
          exact i3

theorem dec_step (u : Nat) : Lib.decDigits u = if u < 10 then [UInt8.ofNat (48 + u)] else Lib.decDigits (u / 10) ++ [UInt8.ofNat (48 + u % 10)] := by
  rw [Lib.decDigits]
  split <;> simp_all
theorem dec_digits (u : Nat) : exact 0 (Lib.decDigits u) = u ∧ (Lib.decDigits u).all isDig = true ∧ Lib.decDigits u ≠ [] ∧ ((Lib.decDigits u).head? ≠ some 48 ∨ u < 10) := by
  induction u using Nat.strongRecOn with
  | ind u ih =>
    rw [dec_step]
    by_cases h : u < 10
    · obtain ⟨g1, g2⟩ := dig_mk u (by omega)
      rw [if_pos h]
      refine ⟨?_, by rw [List.all_cons, g1]; rfl, by simp, .inr h⟩
      rw [exact_cons, g2]
      simp [exact]
    · rw [if_neg h]
      obtain ⟨i1, i2, i3, i4⟩ := ih (u / 10) (by omega)
      obtain ⟨g1, g2⟩ := dig_mk (u % 10) (by omega)
      refine ⟨?_, ?_, by simp, .inl ?_⟩
      · rw [exact_snoc, i1, g2]
        omega
      · rw [List.all_append, i2, List.all_cons, g1]
        rfl
      · cases hl : Lib.decDigits (u / 10) with
        | nil => exact absurd hl i3
        | cons c r =>
          rw [hl] at i1 i4
          simp only [List.cons_append, List.head?_cons]
          rcases i4 with i4 | i4
          · simpa using i4
          · rw [dec_step, if_pos i4] at hl
            injection hl with h1 h2
            intro e
            simp only [Option.some.injEq] at e
            subst e
            obtain ⟨_, g4⟩ := dig_mk (u / 10) (by omega)
            rw [h1] at g4
            have h48 : (48 : UInt8).toNat = 48 := rfl
            omega
theorem dec_whole (u : Nat) : wholeB (Lib.decDigits u) = true := by
  obtain ⟨h1, h2, h3, h4⟩ := dec_digits u
  unfold wholeB digsB
  rw [h2]
  have : (Lib.decDigits u).isEmpty = false := by simpa using h3
  rw [this]
  rcases h4 with h4 | h4
  · simp [h4]
  · rw [dec_step, if_pos h4]
    simp
theorem whole_dec : ∀ (n : Nat) (l : List UInt8), l.length = n → wholeB l = true → Lib.decDigits (exact 0 l) = l := by
  intro n
  induction n with
  | zero =>
    intro l h1 h2
    rw [List.eq_nil_of_length_eq_zero h1] at h2
    simp [wholeB, digsB] at h2
  | succ n ih =>
    intro l h1 h2
    obtain ⟨r, c, rfl⟩ : ∃ r c, l = r ++ [c] := by
      have hne : l ≠ [] := by intro e; subst e; simp at h1
      exact ⟨l.dropLast, l.getLast hne, (List.dropLast_concat_getLast hne).symm⟩
    have hl : r.length = n := by simpa using h1
    unfold wholeB digsB at h2
    simp only [Bool.and_eq_true, List.all_append, Bool.or_eq_true, decide_eq_true_eq] at h2
    obtain ⟨⟨_, h3, h4⟩, h5⟩ := h2
    have hc : isDig c = true := by simpa using h4
    have hcd := dig_of hc
    rw [exact_snoc]
    cases r with
    | nil =>
      rw [show exact 0 [] = 0 from rfl, Nat.mul_zero, Nat.zero_add, dec_step, if_pos (by omega), dig_back hc]
      rfl
    | cons d t =>
      have hd48 : d ≠ 48 := by
        rcases h5 with h5 | h5
        · simpa using h5
        · simp at h5
      have hd := dig_of (show isDig d = true from by simp only [List.all_cons, Bool.and_eq_true] at h3; exact h3.1)
      have hw : wholeB (d :: t) = true := by
        unfold wholeB digsB
        rw [h3]
        simp [hd48]
      have hpos : 1 ≤ exact 0 (d :: t) := by
        rw [exact_cons]
        have : d.toNat ≠ 48 := fun e => hd48 (UInt8.toNat_inj.1 e)
        exact Nat.le_trans (by omega) (exact_ge t _)
      have hi := ih (d :: t) hl hw
      generalize exact 0 (d :: t) = v at *
      rw [dec_step, if_neg (by omega), show (10 * v + (c.toNat - 48)) / 10 = v from by omega, show (10 * v + (c.toNat - 48)) % 10 = c.toNat - 48 from by omega, dig_back hc, hi]

/-! ### A text, cut at its point -/
def ahead : List UInt8 → List UInt8
  | [] => []
  | c :: r => if c = 46 then [] else c :: ahead r
def behind : List UInt8 → List UInt8
  | [] => []
  | c :: r => if c = 46 then r else behind r
def pointed (l : List UInt8) : Bool := l.contains 46
theorem cut_whole : ∀ (l : List UInt8), l = ahead l ++ if pointed l then 46 :: behind l else [] := by
  intro l
  induction l with
  | nil => simp [ahead, pointed]
  | cons c r ih =>
    by_cases h : c = 46
    · subst h
      simp [ahead, behind, pointed]
    · have hp : pointed (c :: r) = pointed r := by
        unfold pointed
        simp [Ne.symm h]
      unfold ahead behind
      rw [if_neg h, if_neg h, hp, List.cons_append, ← ih]
theorem cut_made (a b : List UInt8) (h : a.contains 46 = false) : ahead (a ++ 46 :: b) = a ∧ behind (a ++ 46 :: b) = b ∧ pointed (a ++ 46 :: b) = true := by
  induction a with
  | nil => simp [ahead, behind, pointed]
  | cons c r ih =>
    have hc : ¬ c = 46 := by intro e; subst e; simp at h
    have hr : r.contains 46 = false := by
      simp only [List.contains_cons, Bool.or_eq_false_iff] at h
      exact h.2
    obtain ⟨i1, i2, i3⟩ := ih hr
    refine ⟨?_, ?_, by simp [pointed]⟩
    · rw [List.cons_append, ahead, if_neg hc, i1]
    · rw [List.cons_append, behind, if_neg hc, i2]
theorem cut_none (a : List UInt8) (h : a.contains 46 = false) : ahead a = a ∧ behind a = [] ∧ pointed a = false := by
  induction a with
  | nil => simp [ahead, behind, pointed]
  | cons c r ih =>
    have hc : ¬ c = 46 := by intro e; subst e; simp at h
    have hr : r.contains 46 = false := by
      simp only [List.contains_cons, Bool.or_eq_false_iff] at h
      exact h.2
    obtain ⟨i1, i2, i3⟩ := ih hr
    refine ⟨?_, ?_, h⟩
    · rw [ahead, if_neg hc, i1]
    · rw [behind, if_neg hc, i2]
theorem digs_no_point {l : List UInt8} (h : l.all isDig = true) : l.contains 46 = false := by
  rw [Bool.eq_false_iff]
  intro hc
  have hm : (46 : UInt8) ∈ l := by simpa using hc
  have := List.all_eq_true.1 h 46 hm
  simp [isDig] at this

/-! ### What is read -/
def negB (l : List UInt8) : Bool := [45].isPrefixOf l
def bare (l : List UInt8) : List UInt8 := if negB l then l.drop 1 else l
def goodB' (l : List UInt8) : Bool := wholeB (ahead (bare l)) && (!pointed (bare l) || behindB (behind (bare l))) && decide (l ≠ [45, 48])
def partsN (l : List UInt8) : Nat := exact 0 (ahead (bare l) ++ pad 6 (behind (bare l)))

theorem neg_cons (r : List UInt8) : negB (45 :: r) = true ∧ bare (45 :: r) = r := by simp [negB, bare]
theorem neg_not {c : UInt8} {r : List UInt8} (h : c ≠ 45) : negB (c :: r) = false ∧ bare (c :: r) = c :: r := by
  have : negB (c :: r) = false := by
    unfold negB
    rw [Bool.eq_false_iff]
    intro e
    simp only [List.isPrefixOf, Bool.and_true, beq_iff_eq] at e
    exact h e.symm
  refine ⟨this, ?_⟩
  unfold bare
  rw [this]
  rfl
theorem digs_behind {l : List UInt8} (h : behindB l = true) : l ≠ [] ∧ l.all isDig = true ∧ l.length ≤ 6 ∧ l.getLast? ≠ some 48 := by
  unfold behindB digsB at h
  simp only [Bool.and_eq_true, decide_eq_true_eq, Bool.not_eq_true'] at h
  obtain ⟨⟨⟨h1, h2⟩, h3⟩, h4⟩ := h
  exact ⟨by simpa using h1, h2, h3, h4⟩
theorem whole_digs {l : List UInt8} (h : wholeB l = true) : l ≠ [] ∧ l.all isDig = true := by
  unfold wholeB digsB at h
  simp only [Bool.and_eq_true, Bool.not_eq_true'] at h
  exact ⟨by simpa using h.1.1, h.1.2⟩

/-- The bare text of a number is cut and read as it. -/
theorem parts_read (n : Nat) : wholeB (ahead (partsL n)) = true ∧ (!pointed (partsL n) || behindB (behind (partsL n))) = true ∧ exact 0 (ahead (partsL n) ++ pad 6 (behind (partsL n))) = n ∧ (partsL n = [48] → n = 0) ∧ ∃ c r, partsL n = c :: r ∧ isDig c = true := by
  obtain ⟨h1, h2, h3, h4⟩ := dec_digits (n / 1000000)
  have hw := dec_whole (n / 1000000)
  have hn := digs_no_point h2
  have hhd : ∃ c r, Lib.decDigits (n / 1000000) = c :: r ∧ isDig c = true := by
    cases hl : Lib.decDigits (n / 1000000) with
    | nil => exact absurd hl h3
    | cons c r =>
      rw [hl] at h2
      simp only [List.all_cons, Bool.and_eq_true] at h2
      exact ⟨c, r, rfl, h2.1⟩
  obtain ⟨c, r, hcr, hcd⟩ := hhd
  by_cases h0 : n % 1000000 = 0
  · have e : partsL n = Lib.decDigits (n / 1000000) := by simp [partsL, behindL, h0]
    obtain ⟨c1, c2, c3⟩ := cut_none _ hn
    rw [e, c1, c2, c3]
    refine ⟨hw, rfl, ?_, ?_, c, r, hcr, hcd⟩
    · rw [exact_append, h1, exact_pad _ _ _ (by simp), fv_nil]
      omega
    · intro e48
      rw [e48] at h1
      have : exact 0 [48] = 0 := rfl
      omega
  · have e : partsL n = Lib.decDigits (n / 1000000) ++ 46 :: frac 6 (n % 1000000) := by simp [partsL, behindL, h0]
    obtain ⟨c1, c2, c3⟩ := cut_made _ (frac 6 (n % 1000000)) hn
    obtain ⟨f1, f2, f3⟩ := fv_frac 6 0 (n % 1000000) rfl (Nat.mod_lt _ (by decide)) (by simp)
    rw [Nat.pow_zero, Nat.one_mul] at f1
    have hl := frac_length 6 (n % 1000000)
    have hne : frac 6 (n % 1000000) ≠ [] := by
      intro e0
      rw [e0, fv_nil] at f1
      omega
    rw [e, c1, c2, c3]
    refine ⟨hw, ?_, ?_, ?_, c, r ++ 46 :: frac 6 (n % 1000000), by rw [hcr]; rfl, hcd⟩
    · unfold behindB digsB
      rw [f2]
      have : (frac 6 (n % 1000000)).isEmpty = false := by simpa using hne
      rw [this]
      simp [hl, f3]
    · rw [exact_append, h1, exact_pad _ _ _ hl, f1]
      have := Nat.div_add_mod n 1000000
      rw [Nat.mul_comm] at this
      exact this
    · intro e48
      have := congrArg List.length e48
      rw [hcr] at this
      simp at this
/-- The text of a number is read as it. -/
theorem read_print (n : Int) : goodB' (printL n) = true ∧ negB (printL n) = decide (n < 0) ∧ partsN (printL n) = n.natAbs := by
  obtain ⟨h1, h2, h3, h4, c, r, hcr, hcd⟩ := parts_read n.natAbs
  by_cases hn : n < 0
  · have e : printL n = 45 :: partsL n.natAbs := by simp [printL, hn]
    obtain ⟨e1, e2⟩ := neg_cons (partsL n.natAbs)
    unfold goodB' partsN
    rw [e, e1, e2, h1, h2, h3]
    refine ⟨?_, by simp [hn], rfl⟩
    have : 45 :: partsL n.natAbs ≠ [45, 48] := by
      intro e48
      injection e48 with _ e48
      have := h4 e48
      omega
    simp [this]
  · have e : printL n = partsL n.natAbs := by simp [printL, hn]
    have hc : c ≠ 45 := by
      intro e45
      subst e45
      simp [isDig] at hcd
    obtain ⟨e1, e2⟩ := neg_not (r := r) hc
    rw [← hcr] at e1 e2
    unfold goodB' partsN
    rw [e, e1, e2, h1, h2, h3]
    refine ⟨?_, by simp [hn], rfl⟩
    have : partsL n.natAbs ≠ [45, 48] := by
      rw [hcr]
      intro e48
      injection e48 with e48 _
      exact hc e48
    simp [this]
/-- What is read as a number is its text. -/
theorem print_read (l : List UInt8) (h : goodB' l = true) : printL (if negB l then -(partsN l : Int) else (partsN l : Int)) = l := by
  unfold goodB' at h
  simp only [Bool.and_eq_true, decide_eq_true_eq] at h
  obtain ⟨⟨h1, h2⟩, h3⟩ := h
  obtain ⟨w1, w2⟩ := whole_digs h1
  have hwd := whole_dec _ _ rfl h1
  have hcut := cut_whole (bare l)
  have key : partsL (partsN l) = bare l ∧ (partsN l = 0 → bare l = [48]) := by
    unfold partsN
    cases hp : pointed (bare l)
    · rw [hp] at hcut
      simp only [Bool.false_eq_true, if_false, List.append_nil] at hcut
      have hb : behind (bare l) = [] := (cut_none (bare l) (by simpa [pointed] using hp)).2.1
      rw [hb, exact_append, exact_pad _ _ _ (by simp), fv_nil, Nat.add_zero, show (10 : Nat) ^ 6 = 1000000 from rfl]
      refine ⟨?_, ?_⟩
      · unfold partsL behindL
        rw [Nat.mul_div_cancel _ (by decide), Nat.mul_mod_left, if_pos rfl, List.append_nil, hwd]
        exact hcut.symm
      · intro h0
        have hz : exact 0 (ahead (bare l)) = 0 := by omega
        rw [hz, dec_step, if_pos (by omega)] at hwd
        rw [hcut, ← hwd]
        rfl
    · rw [hp] at hcut h2
      simp only [if_true] at hcut
      have hb := digs_behind (by simpa using h2 : behindB (behind (bare l)) = true)
      obtain ⟨b1, b2, b3, b4⟩ := hb
      have hlt := fv_lt 6 _ b2
      have hne := fv_ne 6 _ b1 b3 b2 b4
      have hf := frac_fv 6 0 _ rfl b3 b2 b4
      rw [Nat.pow_zero, Nat.one_mul] at hf
      rw [show (10 : Nat) ^ 6 = 1000000 from rfl] at hlt
      rw [exact_append, exact_pad _ _ _ b3, show (10 : Nat) ^ 6 = 1000000 from rfl]
      refine ⟨?_, ?_⟩
      · unfold partsL behindL
        rw [show (exact 0 (ahead (bare l)) * 1000000 + fv 6 (behind (bare l))) / 1000000 = exact 0 (ahead (bare l)) from by omega, show (exact 0 (ahead (bare l)) * 1000000 + fv 6 (behind (bare l))) % 1000000 = fv 6 (behind (bare l)) from by omega, if_neg hne, hwd, hf]
        exact hcut.symm
      · intro h0
        omega
  obtain ⟨k1, k2⟩ := key
  cases hn : negB l
  · have hb : bare l = l := by unfold bare; rw [hn]; rfl
    simp only [Bool.false_eq_true, if_false]
    unfold printL
    rw [if_neg (by omega), Int.natAbs_natCast, k1, hb]
  · have hb : bare l = l.drop 1 := by unfold bare; rw [hn]; rfl
    have hl : l = 45 :: l.drop 1 := by
      cases l with
      | nil => simp [negB] at hn
      | cons c r =>
        have : c = 45 := by
          simp only [negB, List.isPrefixOf, Bool.and_true, beq_iff_eq] at hn
          exact hn.symm
        subst this
        rfl
    have h0 : partsN l ≠ 0 := by
      intro e
      have := k2 e
      rw [hb] at this
      rw [this] at hl
      exact h3 hl
    simp only [if_true]
    unfold printL
    rw [if_pos (by omega), Int.natAbs_neg, Int.natAbs_natCast, k1, hb]
    exact hl.symm
end Go.Proofs.YtfpjihicobmlkaaDoor
