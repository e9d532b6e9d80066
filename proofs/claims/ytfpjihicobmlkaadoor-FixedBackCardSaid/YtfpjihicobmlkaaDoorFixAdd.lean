/- Layer 3: sums and differences, of the program and of the document's own answer. -/
import Derived.Test.YtfpjihicobmlkaaDoorFixOps
import Derived.Deep.QuietTactic
import Derived.BigQuiet
namespace Go.Proofs.YtfpjihicobmlkaaDoor
open Go.RowKit
set_option linter.unusedVariables false

def addV (a b : Int) : Int := if fitsB a && fitsB b then (if fitsB (a + b) then a + b else 0) else 0
def addE (a b : Int) : Int := if fitsB a && fitsB b then (if fitsB (a + b) then 0 else 11) else 2
theorem add_bad {a b : Int} (h : fitsB a = false ∨ fitsB b = false) : addV a b = 0 ∧ addE a b = 2 := by
  unfold addV addE
  rcases h with h | h <;> simp [h]
theorem add_over {a b : Int} (ha : fitsB a = true) (hb : fitsB b = true) (h : fitsB (a + b) = false) : addV a b = 0 ∧ addE a b = 11 := by
  unfold addV addE
  simp [ha, hb, h]
theorem add_ok {a b : Int} (ha : fitsB a = true) (hb : fitsB b = true) (h : fitsB (a + b) = true) : addV a b = a + b ∧ addE a b = 0 := by
  unfold addV addE
  simp [ha, hb, h]
theorem add_told {a b : Int} (ha : fitsB a = true) (hb : fitsB b = true) : tellV (decide (a + b < 0)) (a + b).natAbs = addV a b ∧ tellE (a + b).natAbs = addE a b := by
  cases h : fitsB (a + b)
  · obtain ⟨h1, h2⟩ := add_over ha hb h
    have := fits_not h
    unfold tellV tellE
    have k : ¬ (a + b).natAbs ≤ 1152921504606846976 := by omega
    rw [h1, h2]
    simp only [if_neg k]
    exact ⟨trivial, trivial⟩
  · obtain ⟨h1, h2⟩ := add_ok ha hb h
    have := fits_of h
    unfold tellV tellE
    have k : (a + b).natAbs ≤ 1152921504606846976 := by omega
    rw [h1, h2]
    simp only [if_pos k]
    refine ⟨?_, trivial⟩
    by_cases hn : a + b < 0
    · simp only [hn, decide_true, if_true]
      omega
    · simp only [hn, decide_false, Bool.false_eq_true, if_false]
      omega

theorem add_prog (a b : Int) (w : World) :
    Calls Tryd.prog 10 #[.int .i64 a, .int .i64 b] w fun e w' => e = .returned (.tuple #[.int .i64 (addV a b), .int .i64 (addE a b)]) ∧ Below w.heap.size w w' := by
  cases ha : fitsB a
  · obtain ⟨h1, h2⟩ := add_bad (b := b) (.inl ha)
    rw [h1, h2]
    have HA := fits_prog a w
    rw [ha] at HA
    clear h1 h2 ha
    go_enter Tryd.func10, Tryd.ntmps10
    go_wp2_with (first | (refine HA.mono ?_; rintro e w1 ⟨rfl, rfl⟩))
    go_ret2
    exact ⟨rfl, Below.refl _ _⟩
  · cases hb : fitsB b
    · obtain ⟨h1, h2⟩ := add_bad (a := a) (.inr hb)
      rw [h1, h2]
      have HA := fits_prog a w
      have HB := fits_prog b w
      rw [ha] at HA
      rw [hb] at HB
      clear h1 h2 ha hb
      go_enter Tryd.func10, Tryd.ntmps10
      go_wp2_with fail
      refine HA.mono ?_
      rintro e w1 ⟨rfl, rfl⟩
      go_wp2_with fail
      refine HB.mono ?_
      rintro e w1 ⟨rfl, rfl⟩
      go_wp2
      go_ret2
      exact ⟨rfl, Below.refl _ _⟩
    · obtain ⟨h1, h2⟩ := add_told ha hb
      have k1 := fits_of ha
      have k2 := fits_of hb
      have HA := fits_prog a w
      have HB := fits_prog b w
      rw [ha] at HA
      rw [hb] at HB
      rw [← h1, ← h2]
      clear h1 h2 ha hb
      go_enter Tryd.func10, Tryd.ntmps10
      go_wp2_with fail
      refine HA.mono ?_
      rintro e w1 ⟨rfl, rfl⟩
      go_wp2_with fail
      refine HB.mono ?_
      rintro e w1 ⟨rfl, rfl⟩
      go_wp2_with fail
      refine (teller_prog _ w).mono ?_
      rintro e w1 ⟨rfl, rfl⟩
      go_wp2_with fail
      refine (size_prog (a + b) _ (by omega) (by omega)).mono ?_
      rintro e w1 ⟨rfl, rfl⟩
      go_wp2_with fail
      refine (told_prog (decide (a + b < 0)) _ _ _ (by omega) (by simp [World.cell?_alloc_new])).mono ?_
      rintro e w1 ⟨rfl, rfl⟩
      go_wp2
      go_ret2
      exact ⟨rfl, (Below.refl _ _).alloc (Nat.le_refl _) _⟩

theorem add_ref (a b : Int) (w : World) :
    Calls Tryd.prog 11 #[.int .i64 a, .int .i64 b] w fun e w' => e = .returned (.tuple #[.int .i64 (addV a b), .int .i64 (addE a b)]) ∧ w = w' := by
  cases ha : fitsB a
  · obtain ⟨h1, h2⟩ := add_bad (b := b) (.inl ha)
    rw [h1, h2]
    have HA := fits_ref a w
    rw [ha] at HA
    clear h1 h2 ha
    go_enter Tryd.func11, Tryd.ntmps11
    go_wp2_with fail
    refine HA.mono ?_
    rintro e w1 ⟨rfl, rfl⟩
    go_wp2
    go_ret2
    exact ⟨rfl, rfl⟩
  · cases hb : fitsB b
    · obtain ⟨h1, h2⟩ := add_bad (a := a) (.inr hb)
      rw [h1, h2]
      have HA := fits_ref a w
      have HB := fits_ref b w
      rw [ha] at HA
      rw [hb] at HB
      clear h1 h2 ha hb
      go_enter Tryd.func11, Tryd.ntmps11
      go_wp2_with fail
      refine HA.mono ?_
      rintro e w1 ⟨rfl, rfl⟩
      go_wp2_with fail
      refine HB.mono ?_
      rintro e w1 ⟨rfl, rfl⟩
      go_wp2
      go_ret2
      exact ⟨rfl, rfl⟩
    · have k1 := fits_of ha
      have k2 := fits_of hb
      have HA := fits_ref a w
      have HB := fits_ref b w
      have HC := fits_ref (a + b) w
      rw [ha] at HA
      rw [hb] at HB
      cases hc : fitsB (a + b)
      · obtain ⟨h1, h2⟩ := add_over ha hb hc
        rw [h1, h2]
        rw [hc] at HC
        clear h1 h2 ha hb hc
        go_enter Tryd.func11, Tryd.ntmps11
        go_wp2_with fail
        refine HA.mono ?_
        rintro e w1 ⟨rfl, rfl⟩
        go_wp2_with fail
        refine HB.mono ?_
        rintro e w1 ⟨rfl, rfl⟩
        go_wp2_with fail
        refine HC.mono ?_
        rintro e w1 ⟨rfl, rfl⟩
        go_wp2
        go_ret2
        exact ⟨rfl, rfl⟩
      · obtain ⟨h1, h2⟩ := add_ok ha hb hc
        rw [h1, h2]
        rw [hc] at HC
        clear h1 h2 ha hb hc
        go_enter Tryd.func11, Tryd.ntmps11
        go_wp2_with fail
        refine HA.mono ?_
        rintro e w1 ⟨rfl, rfl⟩
        go_wp2_with fail
        refine HB.mono ?_
        rintro e w1 ⟨rfl, rfl⟩
        go_wp2_with fail
        refine HC.mono ?_
        rintro e w1 ⟨rfl, rfl⟩
        go_wp2
        go_ret2
        exact ⟨rfl, rfl⟩

/-- The number with the other sign, as the machine has it. -/
def minus (b : Int) : Int := wrap64 (-b)
theorem minus_in {b : Int} (h : -9223372036854775807 ≤ b ∧ b ≤ 9223372036854775807) : minus b = -b := by
  unfold minus wrap64
  omega
theorem minus_fits (b : Int) (hb : -9223372036854775808 ≤ b ∧ b ≤ 9223372036854775807) : fitsB (minus b) = fitsB b := by
  by_cases h : b = -9223372036854775808
  · subst h
    rw [show minus (-9223372036854775808) = -9223372036854775808 from by unfold minus wrap64; omega]
  · rw [minus_in (by omega)]
    unfold fitsB
    rw [Bool.eq_iff_iff]
    simp
    omega
theorem sub_prog (a b : Int) (w : World) :
    Calls Tryd.prog 12 #[.int .i64 a, .int .i64 b] w fun e w' => e = .returned (.tuple #[.int .i64 (addV a (minus b)), .int .i64 (addE a (minus b))]) ∧ Below w.heap.size w w' := by
  have HS := add_prog a (minus b) w
  go_enter Tryd.func12, Tryd.ntmps12
  go_wp2_with fail
  refine HS.mono ?_
  rintro e w1 ⟨rfl, hbl⟩
  go_wp2
  go_ret2
  exact ⟨rfl, hbl⟩
theorem sub_ref (a b : Int) (w : World) (hb : -9223372036854775808 ≤ b ∧ b ≤ 9223372036854775807) :
    Calls Tryd.prog 13 #[.int .i64 a, .int .i64 b] w fun e w' => e = .returned (.tuple #[.int .i64 (addV a (minus b)), .int .i64 (addE a (minus b))]) ∧ w = w' := by
  have hm := minus_fits b hb
  have HA := fits_ref a w
  have HB := fits_ref b w
  cases ha : fitsB a
  · obtain ⟨h1, h2⟩ := add_bad (b := minus b) (.inl ha)
    rw [h1, h2]
    rw [ha] at HA
    clear h1 h2 ha hm
    go_enter Tryd.func13, Tryd.ntmps13
    go_wp2_with fail
    refine HA.mono ?_
    rintro e w1 ⟨rfl, rfl⟩
    go_wp2
    go_ret2
    exact ⟨rfl, rfl⟩
  · cases hb' : fitsB b
    · rw [hb'] at hm
      obtain ⟨h1, h2⟩ := add_bad (a := a) (.inr hm)
      rw [h1, h2]
      rw [ha] at HA
      rw [hb'] at HB
      clear h1 h2 ha hb' hm
      go_enter Tryd.func13, Tryd.ntmps13
      go_wp2_with fail
      refine HA.mono ?_
      rintro e w1 ⟨rfl, rfl⟩
      go_wp2_with fail
      refine HB.mono ?_
      rintro e w1 ⟨rfl, rfl⟩
      go_wp2
      go_ret2
      exact ⟨rfl, rfl⟩
    · have k := fits_of hb'
      rw [minus_in (by omega)]
      have HS := add_ref a (-b) w
      rw [ha] at HA
      rw [hb'] at HB
      clear ha hb' hm
      go_enter Tryd.func13, Tryd.ntmps13
      go_wp2_with fail
      refine HA.mono ?_
      rintro e w1 ⟨rfl, rfl⟩
      go_wp2_with fail
      refine HB.mono ?_
      rintro e w1 ⟨rfl, rfl⟩
      go_wp2_with fail
      refine HS.mono ?_
      rintro e w1 ⟨rfl, rfl⟩
      go_wp2
      go_ret2
      exact ⟨rfl, rfl⟩
end Go.Proofs.YtfpjihicobmlkaaDoor
