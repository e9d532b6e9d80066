/- Layer 3: order and signs; quotients and rests: the arithmetic of the laws without the document's answer. -/
import Derived.Test.YtfpjihicobmlkaaDoorFixRef
namespace Go.Proofs.YtfpjihicobmlkaaDoor
open Go.RowKit
set_option linter.unusedVariables false

theorem addV_comm (a b : Int) : addV a b = addV b a := by
  unfold addV
  rw [Bool.and_comm, Int.add_comm]
theorem addE_comm (a b : Int) : addE a b = addE b a := by
  unfold addE
  rw [Bool.and_comm, Int.add_comm]
theorem sub_back {a b : Int} (ha : fitsB a = true) (hb : fitsB b = true) (h : addE a b = 0) : addV (addV a b) (minus b) = a ∧ addE (addV a b) (minus b) = 0 := by
  cases hc : fitsB (a + b)
  · rw [(add_over ha hb hc).2] at h
    omega
  · have kb := fits_of hb
    have hm : fitsB (minus b) = true := by rw [minus_fits b (by omega)]; exact hb
    rw [(add_ok ha hb hc).1]
    have e : a + b + minus b = a := by rw [minus_in (by omega)]; omega
    obtain ⟨h1, h2⟩ := add_ok hc hm (by rw [e]; exact ha)
    rw [h1, h2, e]
    exact ⟨rfl, rfl⟩

theorem quoN_comm (a b c : Int) : quoN a b c = quoN b a c := by unfold quoN; rw [Nat.mul_comm]
theorem quoS_comm (a b c : Int) : quoS a b c = quoS b a c := by unfold quoS; cases decide (a < 0) <;> cases decide (b < 0) <;> rfl
theorem mulV_comm (a b : Int) : mulV a b = mulV b a := by unfold mulV; rw [Bool.and_comm, quoN_comm, quoS_comm]
theorem mulE_comm (a b : Int) : mulE a b = mulE b a := by unfold mulE; rw [Bool.and_comm, quoN_comm]
theorem fits_neg (a : Int) : fitsB (-a) = fitsB a := by
  unfold fitsB
  rw [Bool.eq_iff_iff]
  simp
  omega
theorem quoN_neg (a b c : Int) : quoN (-a) b c = quoN a b c := by unfold quoN; rw [Int.natAbs_neg]
theorem tell_neg (a b c : Int) : tellV (quoS (-a) b c) (quoN a b c) = -tellV (quoS a b c) (quoN a b c) := by
  by_cases h0 : a = 0
  · subst h0
    have : quoN 0 b c = 0 := by unfold quoN; simp
    rw [this]
    unfold tellV
    simp
  · have hs : quoS (-a) b c = !quoS a b c := by
      unfold quoS
      by_cases h : a < 0
      · rw [show decide (-a < 0) = false from decide_eq_false (by omega), show decide (a < 0) = true from decide_eq_true h]
        cases decide (b < 0) <;> cases decide (c < 0) <;> rfl
      · rw [show decide (-a < 0) = true from decide_eq_true (by omega), show decide (a < 0) = false from decide_eq_false h]
        cases decide (b < 0) <;> cases decide (c < 0) <;> rfl
    rw [hs]
    unfold tellV
    split
    · cases quoS a b c <;> simp
    · simp
theorem mulV_neg (a b : Int) : mulV (-a) b = -mulV a b := by
  unfold mulV
  rw [fits_neg, quoN_neg, tell_neg]
  split <;> simp
theorem mulE_neg (a b : Int) : mulE (-a) b = mulE a b := by unfold mulE; rw [fits_neg, quoN_neg]
theorem divV_neg (a b : Int) : divV (-a) b = -divV a b := by
  unfold divV
  rw [fits_neg, quoN_neg, tell_neg]
  split
  · split <;> simp
  · simp
theorem divE_neg (a b : Int) : divE (-a) b = divE a b := by unfold divE; rw [fits_neg, quoN_neg]
theorem modV_neg (a b : Int) : modV (-a) b = -modV a b := by
  unfold modV
  rw [fits_neg, Int.neg_tmod]
  split
  · split <;> simp
  · simp
theorem modE_neg (a b : Int) : modE (-a) b = modE a b := by unfold modE; rw [fits_neg]

theorem tell_in (s : Bool) (n : Nat) : -1152921504606846976 ≤ tellV s n ∧ tellV s n ≤ 1152921504606846976 := by
  unfold tellV
  split
  · split <;> omega
  · omega
theorem mulV_in (a b : Int) : -1152921504606846976 ≤ mulV a b ∧ mulV a b ≤ 1152921504606846976 := by
  unfold mulV
  split
  · exact tell_in _ _
  · omega
theorem divV_in (a b : Int) : -1152921504606846976 ≤ divV a b ∧ divV a b ≤ 1152921504606846976 := by
  unfold divV
  split
  · split
    · omega
    · exact tell_in _ _
  · omega
theorem modV_in (a b : Int) (ha : fitsB a = true) : -1152921504606846976 ≤ modV a b ∧ modV a b ≤ 1152921504606846976 := by
  have k := fits_of ha
  unfold modV
  split
  · split
    · omega
    · have : (a.tmod b).natAbs ≤ a.natAbs := by
        rw [Int.natAbs_tmod]
        exact Nat.mod_le _ _
      omega
  · omega

/-- The rest. -/
theorem rest (a b : Int) (h0 : b ≠ 0) : (a.tmod b).natAbs < b.natAbs ∧ (a.tmod b < 0 → a < 0) ∧ (0 < a.tmod b → 0 < a) ∧ (a - a.tmod b).tmod b = 0 := by
  refine ⟨?_, ?_, ?_, ?_⟩
  · rw [Int.natAbs_tmod]
    exact Nat.mod_lt _ (by omega)
  · intro h
    by_cases hn : 0 ≤ a
    · have := Int.tmod_nonneg b hn
      omega
    · omega
  · intro h
    by_cases hn : a ≤ 0
    · have h2 := Int.tmod_nonneg b (a := -a) (by omega)
      rw [Int.neg_tmod] at h2
      omega
    · omega
  · have e : a - a.tmod b = b * a.tdiv b := by
      have := Int.mul_tdiv_add_tmod a b
      omega
    rw [e]
    exact Int.mul_tmod_right b _

/-- What is divided and multiplied again. -/
theorem back_near (A B : Nat) (hB : 0 < B) : A * 1000000 / B * B / 1000000 ≤ A ∧ A ≤ A * 1000000 / B * B / 1000000 + B / 1000000 + 1 := by
  have h1 : A * 1000000 / B * B ≤ A * 1000000 := Nat.div_mul_le_self _ _
  have h2 : A * 1000000 < A * 1000000 / B * B + B := by
    have := Nat.div_add_mod (A * 1000000) B
    have hm := Nat.mod_lt (A * 1000000) hB
    rw [Nat.mul_comm] at this
    omega
  generalize A * 1000000 / B * B = P at *
  omega
end Go.Proofs.YtfpjihicobmlkaaDoor
