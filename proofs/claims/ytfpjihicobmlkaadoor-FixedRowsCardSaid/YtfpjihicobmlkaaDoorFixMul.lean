/- Layer 3: Mul, Div, Mod and Scale of the program. -/
import Derived.Test.YtfpjihicobmlkaaDoorFixQuo
namespace Go.Proofs.YtfpjihicobmlkaaDoor
open Go.RowKit
set_option linter.unusedVariables false

theorem mul_bad {a b : Int} (h : (fitsB a && fitsB b) = false) : mulV a b = 0 ∧ mulE a b = 2 := by
  unfold mulV mulE
  simp [h]
theorem mul_ok {a b : Int} (ha : fitsB a = true) (hb : fitsB b = true) : mulV a b = tellV (quoS a b 1000000) (quoN a b 1000000) ∧ mulE a b = tellE (quoN a b 1000000) := by
  unfold mulV mulE
  simp [ha, hb]
theorem div_bad {a b : Int} (h : (fitsB a && fitsB b) = false) : divV a b = 0 ∧ divE a b = 2 ∧ modV a b = 0 ∧ modE a b = 2 := by
  unfold divV divE modV modE
  simp [h]
theorem div_nought {a : Int} (h : fitsB a = true) : divV a 0 = 0 ∧ divE a 0 = 12 ∧ modV a 0 = 0 ∧ modE a 0 = 12 := by
  have : fitsB 0 = true := by decide
  unfold divV divE modV modE
  simp [h, this]
theorem div_ok {a b : Int} (ha : fitsB a = true) (hb : fitsB b = true) (h0 : b ≠ 0) : divV a b = tellV (quoS a 1000000 b) (quoN a 1000000 b) ∧ divE a b = tellE (quoN a 1000000 b) ∧ modV a b = a.tmod b ∧ modE a b = 0 := by
  unfold divV divE modV modE
  simp [ha, hb, h0]
theorem unit_fits : fitsB 1000000 = true := by decide

/-- A walk that asks of two numbers whether they fit, and ends if one doesn't. -/
theorem mul_prog (a b : Int) (w : World) :
    Calls Tryd.prog 19 #[.int .i64 a, .int .i64 b] w fun e w' => e = .returned (.tuple #[.int .i64 (mulV a b), .int .i64 (mulE a b)]) ∧ Below w.heap.size w w' := by
  have HA := fits_prog a w
  have HB := fits_prog b w
  cases ha : fitsB a
  · obtain ⟨h1, h2⟩ := mul_bad (a := a) (b := b) (by simp [ha])
    rw [h1, h2]
    rw [ha] at HA
    clear h1 h2 ha
    go_enter Tryd.func19, Tryd.ntmps19
    go_wp2_with fail
    refine HA.mono ?_
    rintro e w1 ⟨rfl, rfl⟩
    go_wp2
    go_ret2
    exact ⟨rfl, Below.refl _ _⟩
  · cases hb : fitsB b
    · obtain ⟨h1, h2⟩ := mul_bad (a := a) (b := b) (by simp [hb])
      rw [h1, h2]
      rw [ha] at HA
      rw [hb] at HB
      clear h1 h2 ha hb
      go_enter Tryd.func19, Tryd.ntmps19
      go_wp2_with fail
      refine HA.mono ?_
      rintro e w1 ⟨rfl, rfl⟩
      go_wp2_with fail
      refine HB.mono ?_
      rintro e w1 ⟨rfl, rfl⟩
      go_wp2
      go_ret2
      exact ⟨rfl, Below.refl _ _⟩
    · obtain ⟨h1, h2⟩ := mul_ok ha hb
      rw [h1, h2]
      have HQ := quotient_prog a b 1000000 w ha hb unit_fits (by omega)
      rw [ha] at HA
      rw [hb] at HB
      clear h1 h2 ha hb
      generalize tellV (quoS a b 1000000) (quoN a b 1000000) = V at *
      generalize tellE (quoN a b 1000000) = E at *
      go_enter Tryd.func19, Tryd.ntmps19
      go_wp2_with fail
      refine HA.mono ?_
      rintro e w1 ⟨rfl, rfl⟩
      go_wp2_with fail
      refine HB.mono ?_
      rintro e w1 ⟨rfl, rfl⟩
      go_wp2_with fail
      refine HQ.mono ?_
      rintro e w1 ⟨rfl, hbl⟩
      go_wp2
      go_ret2
      exact ⟨rfl, hbl⟩

def divisE (a b : Int) : Int := if fitsB a && fitsB b then (if b = 0 then 12 else 0) else 2
theorem divisible_prog (a b : Int) (w : World) :
    Calls Tryd.prog 35 #[.int .i64 a, .int .i64 b] w fun e w' => e = .returned (.int .i64 (divisE a b)) ∧ w = w' := by
  have HA := fits_prog a w
  have HB := fits_prog b w
  cases ha : fitsB a
  · rw [show divisE a b = 2 from by simp [divisE, ha]]
    rw [ha] at HA
    clear ha
    go_enter Tryd.func35, Tryd.ntmps35
    go_wp2_with fail
    refine HA.mono ?_
    rintro e w1 ⟨rfl, rfl⟩
    go_wp2
    go_ret
    exact ⟨rfl, rfl⟩
  · cases hb : fitsB b
    · rw [show divisE a b = 2 from by simp [divisE, hb]]
      rw [ha] at HA
      rw [hb] at HB
      clear ha hb
      go_enter Tryd.func35, Tryd.ntmps35
      go_wp2_with fail
      refine HA.mono ?_
      rintro e w1 ⟨rfl, rfl⟩
      go_wp2_with fail
      refine HB.mono ?_
      rintro e w1 ⟨rfl, rfl⟩
      go_wp2
      go_ret
      exact ⟨rfl, rfl⟩
    · rw [ha] at HA
      rw [hb] at HB
      by_cases h0 : b = 0
      · rw [show divisE a b = 12 from by subst h0; simp [divisE, ha, hb]]
        have h1 : (b == 0) = true := by simp [h0]
        have h2 := Lib.hid h0
        clear ha hb h0
        go_enter Tryd.func35, Tryd.ntmps35
        go_wp2_with fail
        refine HA.mono ?_
        rintro e w1 ⟨rfl, rfl⟩
        go_wp2_with fail
        refine HB.mono ?_
        rintro e w1 ⟨rfl, rfl⟩
        go_wp2
        go_ret
        exact ⟨rfl, rfl⟩
      · rw [show divisE a b = 0 from by simp [divisE, ha, hb, h0]]
        have h1 : (b == 0) = false := by simp [h0]
        clear ha hb
        go_enter Tryd.func35, Tryd.ntmps35
        go_wp2_with fail
        refine HA.mono ?_
        rintro e w1 ⟨rfl, rfl⟩
        go_wp2_with fail
        refine HB.mono ?_
        rintro e w1 ⟨rfl, rfl⟩
        go_wp2
        go_ret
        exact ⟨rfl, rfl⟩

theorem div_not {a b : Int} (h : ¬ (fitsB a = true ∧ fitsB b = true ∧ b ≠ 0)) : divV a b = 0 ∧ divE a b = divisE a b ∧ modV a b = 0 ∧ modE a b = divisE a b ∧ divisE a b ≠ 0 := by
  unfold divV divE modV modE divisE
  cases ha : fitsB a
  · simp
  · cases hb : fitsB b
    · simp
    · have : b = 0 := by
        by_cases hb0 : b = 0
        · exact hb0
        · exact absurd ⟨ha, hb, hb0⟩ h
      simp [this]
theorem divis_ok {a b : Int} (ha : fitsB a = true) (hb : fitsB b = true) (h0 : b ≠ 0) : divisE a b = 0 := by
  unfold divisE
  simp [ha, hb, h0]

theorem div_prog (a b : Int) (w : World) :
    Calls Tryd.prog 21 #[.int .i64 a, .int .i64 b] w fun e w' => e = .returned (.tuple #[.int .i64 (divV a b), .int .i64 (divE a b)]) ∧ Below w.heap.size w w' := by
  have HD := divisible_prog a b w
  by_cases h : fitsB a = true ∧ fitsB b = true ∧ b ≠ 0
  · obtain ⟨ha, hb, h0⟩ := h
    rw [divis_ok ha hb h0] at HD
    obtain ⟨h1, h2, _, _⟩ := div_ok ha hb h0
    rw [h1, h2]
    have HQ := quotient_prog a 1000000 b w ha unit_fits hb h0
    clear h1 h2 ha hb h0
    generalize tellV (quoS a 1000000 b) (quoN a 1000000 b) = V at *
    generalize tellE (quoN a 1000000 b) = E at *
    go_enter Tryd.func21, Tryd.ntmps21
    go_wp2_with fail
    refine HD.mono ?_
    rintro e w1 ⟨rfl, rfl⟩
    go_wp2_with fail
    refine HQ.mono ?_
    rintro e w1 ⟨rfl, hbl⟩
    go_wp2
    go_ret2
    exact ⟨rfl, hbl⟩
  · obtain ⟨h1, h2, _, _, h5⟩ := div_not h
    rw [h1, h2]
    have q : (divisE a b != 0) = true := by simp [h5]
    clear h1 h2 h
    generalize divisE a b = E at *
    go_enter Tryd.func21, Tryd.ntmps21
    go_wp2_with fail
    refine HD.mono ?_
    rintro e w1 ⟨rfl, rfl⟩
    go_wp2
    go_ret2
    exact ⟨rfl, Below.refl _ _⟩
theorem mod_prog (a b : Int) (w : World) :
    Calls Tryd.prog 23 #[.int .i64 a, .int .i64 b] w fun e w' => e = .returned (.tuple #[.int .i64 (modV a b), .int .i64 (modE a b)]) ∧ Below w.heap.size w w' := by
  have HD := divisible_prog a b w
  by_cases h : fitsB a = true ∧ fitsB b = true ∧ b ≠ 0
  · obtain ⟨ha, hb, h0⟩ := h
    rw [divis_ok ha hb h0] at HD
    obtain ⟨_, _, h1, h2⟩ := div_ok ha hb h0
    rw [h1, h2]
    have ka := fits_of ha
    have kb := fits_of hb
    clear h1 h2 ha hb
    go_enter Tryd.func23, Tryd.ntmps23
    go_wp2_with fail
    refine HD.mono ?_
    rintro e w1 ⟨rfl, rfl⟩
    go_wp2
    go_ret2
    exact ⟨rfl, Below.refl _ _⟩
  · obtain ⟨_, _, h1, h2, h5⟩ := div_not h
    rw [h1, h2]
    have q : (divisE a b != 0) = true := by simp [h5]
    clear h1 h2 h
    generalize divisE a b = E at *
    go_enter Tryd.func23, Tryd.ntmps23
    go_wp2_with fail
    refine HD.mono ?_
    rintro e w1 ⟨rfl, rfl⟩
    go_wp2
    go_ret2
    exact ⟨rfl, Below.refl _ _⟩

theorem scale_bad {a t b : Int} (h : goodB a t b = false) : scaleV a t b = 0 ∧ scaleE a t b = 2 := by
  unfold scaleV scaleE
  simp [h]
theorem scale_ok {a t b : Int} (h : goodB a t b = true) : scaleV a t b = tellV (quoS a t b) (quoN a t b) ∧ scaleE a t b = tellE (quoN a t b) := by
  unfold scaleV scaleE
  simp [h]
theorem scale_prog (a t b : Int) (w : World) :
    Calls Tryd.prog 25 #[.int .i64 a, .int .i64 t, .int .i64 b] w fun e w' => e = .returned (.tuple #[.int .i64 (scaleV a t b), .int .i64 (scaleE a t b)]) ∧ Below w.heap.size w w' := by
  have HA := fits_prog a w
  have HT := fits_prog t w
  have HB := fits_prog b w
  cases ha : fitsB a
  · obtain ⟨h1, h2⟩ := scale_bad (a := a) (t := t) (b := b) (by simp [goodB, ha])
    rw [h1, h2]
    rw [ha] at HA
    clear h1 h2 ha
    go_enter Tryd.func25, Tryd.ntmps25
    go_wp2_with fail
    refine HA.mono ?_
    rintro e w1 ⟨rfl, rfl⟩
    go_wp2
    go_ret2
    exact ⟨rfl, Below.refl _ _⟩
  · cases ht : fitsB t
    · obtain ⟨h1, h2⟩ := scale_bad (a := a) (t := t) (b := b) (by simp [goodB, ht])
      rw [h1, h2]
      rw [ha] at HA
      rw [ht] at HT
      clear h1 h2 ha ht
      go_enter Tryd.func25, Tryd.ntmps25
      go_wp2_with fail
      refine HA.mono ?_
      rintro e w1 ⟨rfl, rfl⟩
      go_wp2_with fail
      refine HT.mono ?_
      rintro e w1 ⟨rfl, rfl⟩
      go_wp2
      go_ret2
      exact ⟨rfl, Below.refl _ _⟩
    · by_cases h1b : 1 ≤ b
      · cases hb : fitsB b
        · obtain ⟨h1, h2⟩ := scale_bad (a := a) (t := t) (b := b) (by simp [goodB, hb])
          rw [h1, h2]
          rw [ha] at HA
          rw [ht] at HT
          rw [hb] at HB
          clear h1 h2 ha ht hb
          go_enter Tryd.func25, Tryd.ntmps25
          go_wp2_with fail
          refine HA.mono ?_
          rintro e w1 ⟨rfl, rfl⟩
          go_wp2_with fail
          refine HT.mono ?_
          rintro e w1 ⟨rfl, rfl⟩
          go_wp2_with fail
          refine HB.mono ?_
          rintro e w1 ⟨rfl, rfl⟩
          go_wp2
          go_ret2
          exact ⟨rfl, Below.refl _ _⟩
        · obtain ⟨h1, h2⟩ := scale_ok (a := a) (t := t) (b := b) (by simp [goodB, ha, ht, hb, h1b])
          rw [h1, h2]
          have HQ := quotient_prog a t b w ha ht hb (by omega)
          rw [ha] at HA
          rw [ht] at HT
          rw [hb] at HB
          clear h1 h2 ha ht hb
          generalize tellV (quoS a t b) (quoN a t b) = V at *
          generalize tellE (quoN a t b) = E at *
          go_enter Tryd.func25, Tryd.ntmps25
          go_wp2_with fail
          refine HA.mono ?_
          rintro e w1 ⟨rfl, rfl⟩
          go_wp2_with fail
          refine HT.mono ?_
          rintro e w1 ⟨rfl, rfl⟩
          go_wp2_with fail
          refine HB.mono ?_
          rintro e w1 ⟨rfl, rfl⟩
          go_wp2_with fail
          refine HQ.mono ?_
          rintro e w1 ⟨rfl, hbl⟩
          go_wp2
          go_ret2
          exact ⟨rfl, hbl⟩
      · obtain ⟨h1, h2⟩ := scale_bad (a := a) (t := t) (b := b) (by simp [goodB, h1b])
        rw [h1, h2]
        rw [ha] at HA
        rw [ht] at HT
        clear h1 h2 ha ht
        go_enter Tryd.func25, Tryd.ntmps25
        go_wp2_with fail
        refine HA.mono ?_
        rintro e w1 ⟨rfl, rfl⟩
        go_wp2_with fail
        refine HT.mono ?_
        rintro e w1 ⟨rfl, rfl⟩
        go_wp2
        go_ret2
        exact ⟨rfl, Below.refl _ _⟩
end Go.Proofs.YtfpjihicobmlkaaDoor
