/- The law of order and signs of layer 3: a walk. -/
import Derived.Test.YtfpjihicobmlkaaDoorFixLives
import Derived.Test.YtfpjihicobmlkaaDoorFixLawMath
namespace Go.Proofs.YtfpjihicobmlkaaDoor
open Go.RowKit
set_option linter.unusedVariables false

set_option maxHeartbeats 4000000 in
set_option maxRecDepth 100000 in
theorem turns_go (w : World) (a b v e x p me d de m mo : Int) (k1 : -1152921504606846976 ≤ a ∧ a ≤ 1152921504606846976)
    (HA : Calls Tryd.prog 14 #[.int .i64 a] w fun e w' => e = .returned (.bool true) ∧ w = w') (HB : Calls Tryd.prog 14 #[.int .i64 b] w fun e w' => e = .returned (.bool true) ∧ w = w')
    (H1 : ∀ w, Calls Tryd.prog 10 #[.int .i64 a, .int .i64 b] w fun r w' => r = .returned (.tuple #[.int .i64 v, .int .i64 e]) ∧ Below w.heap.size w w')
    (H2 : ∀ w, Calls Tryd.prog 10 #[.int .i64 b, .int .i64 a] w fun r w' => r = .returned (.tuple #[.int .i64 v, .int .i64 e]) ∧ Below w.heap.size w w')
    (H3 : e = 0 → ∀ w, Calls Tryd.prog 12 #[.int .i64 v, .int .i64 b] w fun r w' => r = .returned (.tuple #[.int .i64 a, .int .i64 0]) ∧ Below w.heap.size w w')
    (H4 : ∀ w, Calls Tryd.prog 19 #[.int .i64 a, .int .i64 b] w fun r w' => r = .returned (.tuple #[.int .i64 p, .int .i64 me]) ∧ Below w.heap.size w w')
    (H5 : ∀ w, Calls Tryd.prog 19 #[.int .i64 b, .int .i64 a] w fun r w' => r = .returned (.tuple #[.int .i64 p, .int .i64 me]) ∧ Below w.heap.size w w')
    (H6 : ∀ w, Calls Tryd.prog 19 #[.int .i64 (-a), .int .i64 b] w fun r w' => r = .returned (.tuple #[.int .i64 (-p), .int .i64 me]) ∧ Below w.heap.size w w')
    (H7 : ∀ w, Calls Tryd.prog 21 #[.int .i64 a, .int .i64 b] w fun r w' => r = .returned (.tuple #[.int .i64 d, .int .i64 de]) ∧ Below w.heap.size w w')
    (H8 : ∀ w, Calls Tryd.prog 21 #[.int .i64 (-a), .int .i64 b] w fun r w' => r = .returned (.tuple #[.int .i64 (-d), .int .i64 de]) ∧ Below w.heap.size w w')
    (H9 : ∀ w, Calls Tryd.prog 23 #[.int .i64 a, .int .i64 b] w fun r w' => r = .returned (.tuple #[.int .i64 m, .int .i64 mo]) ∧ Below w.heap.size w w')
    (H10 : ∀ w, Calls Tryd.prog 23 #[.int .i64 (-a), .int .i64 b] w fun r w' => r = .returned (.tuple #[.int .i64 (-m), .int .i64 mo]) ∧ Below w.heap.size w w')
    (bp : -1152921504606846976 ≤ p ∧ p ≤ 1152921504606846976) (bd : -1152921504606846976 ≤ d ∧ d ≤ 1152921504606846976) (bm : -1152921504606846976 ≤ m ∧ m ≤ 1152921504606846976) :
    Calls Tryd.prog 8 #[.int .i64 a, .int .i64 b] w fun e w' => e = .returned (.bool true) ∧ Below w.heap.size w w' := by
  by_cases he : e = 0
  · have HS := H3 he
    have q : (e == 0) = true := by simp [he]
    have HE := Lib.hid he
    clear H3 he
    go_enter Tryd.func8, Tryd.ntmps8
    go_wp2_with fail
    refine HA.mono ?_
    rintro r w0 ⟨rfl, rfl⟩
    go_wp2_with fail
    refine HB.mono ?_
    rintro r w0 ⟨rfl, rfl⟩
    go_wp2_with fail
    refine (H1 w).mono ?_
    rintro r w1 ⟨rfl, hb1⟩
    go_wp2_with fail
    refine (H2 w1).mono ?_
    rintro r w2 ⟨rfl, hb2⟩
    go_wp2_with fail
    refine (HS w2).mono ?_
    rintro r w3 ⟨rfl, hb3⟩
    go_wp2_with fail
    refine (H4 w3).mono ?_
    rintro r w4 ⟨rfl, hb4⟩
    go_wp2_with fail
    refine (H5 w4).mono ?_
    rintro r w5 ⟨rfl, hb5⟩
    go_wp2_with fail
    refine (H6 w5).mono ?_
    rintro r w6 ⟨rfl, hb6⟩
    go_wp2_with fail
    refine (H7 w6).mono ?_
    rintro r w7 ⟨rfl, hb7⟩
    go_wp2_with fail
    refine (H8 w7).mono ?_
    rintro r w8 ⟨rfl, hb8⟩
    go_wp2_with fail
    refine (H9 w8).mono ?_
    rintro r w9 ⟨rfl, hb9⟩
    go_wp2_with fail
    refine (H10 w9).mono ?_
    rintro r wa ⟨rfl, hba⟩
    go_wp2_with fail
    refine (lives_true wa).mono ?_
    rintro r wb ⟨rfl, hbb⟩
    go_wp2
    go_ret
    exact ⟨rfl, below_then (below_then (below_then (below_then (below_then (below_then (below_then (below_then (below_then (below_then hb1 hb2) hb3) hb4) hb5) hb6) hb7) hb8) hb9) hba) hbb⟩
  · have q : (e == 0) = false := by simp [he]
    clear H3
    go_enter Tryd.func8, Tryd.ntmps8
    go_wp2_with fail
    refine HA.mono ?_
    rintro r w0 ⟨rfl, rfl⟩
    go_wp2_with fail
    refine HB.mono ?_
    rintro r w0 ⟨rfl, rfl⟩
    go_wp2_with fail
    refine (H1 w).mono ?_
    rintro r w1 ⟨rfl, hb1⟩
    go_wp2_with fail
    refine (H2 w1).mono ?_
    rintro r w3 ⟨rfl, hb3⟩
    go_wp2_with fail
    refine (H4 w3).mono ?_
    rintro r w4 ⟨rfl, hb4⟩
    go_wp2_with fail
    refine (H5 w4).mono ?_
    rintro r w5 ⟨rfl, hb5⟩
    go_wp2_with fail
    refine (H6 w5).mono ?_
    rintro r w6 ⟨rfl, hb6⟩
    go_wp2_with fail
    refine (H7 w6).mono ?_
    rintro r w7 ⟨rfl, hb7⟩
    go_wp2_with fail
    refine (H8 w7).mono ?_
    rintro r w8 ⟨rfl, hb8⟩
    go_wp2_with fail
    refine (H9 w8).mono ?_
    rintro r w9 ⟨rfl, hb9⟩
    go_wp2_with fail
    refine (H10 w9).mono ?_
    rintro r wa ⟨rfl, hba⟩
    go_wp2_with fail
    refine (lives_true wa).mono ?_
    rintro r wb ⟨rfl, hbb⟩
    go_wp2
    go_ret
    exact ⟨rfl, below_then (below_then (below_then (below_then (below_then (below_then (below_then (below_then (below_then hb1 hb3) hb4) hb5) hb6) hb7) hb8) hb9) hba) hbb⟩

set_option maxRecDepth 100000 in
theorem fixedTurns_walk (w : World) (a : Int) (ha : -9223372036854775808 ≤ a ∧ a ≤ 9223372036854775807) (b : Int) (hb : -9223372036854775808 ≤ b ∧ b ≤ 9223372036854775807) :
    Calls Tryd.prog 8 #[.int .i64 a, .int .i64 b] w fun e w' => e = .returned (.bool true) ∧ Below w.heap.size w w' := by
  have HA := fits_prog a w
  have HB := fits_prog b w
  cases fa : fitsB a
  · rw [fa] at HA
    clear fa
    go_enter Tryd.func8, Tryd.ntmps8
    go_wp2_with fail
    refine HA.mono ?_
    rintro r w0 ⟨rfl, rfl⟩
    go_wp2_with fail
    refine (lives_true w).mono ?_
    rintro r w1 ⟨rfl, hb1⟩
    go_wp2
    go_ret
    exact ⟨rfl, hb1⟩
  · cases fb : fitsB b
    · rw [fa] at HA
      rw [fb] at HB
      clear fa fb
      go_enter Tryd.func8, Tryd.ntmps8
      go_wp2_with fail
      refine HA.mono ?_
      rintro r w0 ⟨rfl, rfl⟩
      go_wp2_with fail
      refine HB.mono ?_
      rintro r w0 ⟨rfl, rfl⟩
      go_wp2_with fail
      refine (lives_true w).mono ?_
      rintro r w1 ⟨rfl, hb1⟩
      go_wp2
      go_ret
      exact ⟨rfl, hb1⟩
    · have H2 := fun w => add_prog b a w
      have H3 := fun (h : addE a b = 0) w => sub_prog (addV a b) b w
      have H5 := fun w => mul_prog b a w
      have H6 := fun w => mul_prog (-a) b w
      have H8 := fun w => div_prog (-a) b w
      have H10 := fun w => mod_prog (-a) b w
      rw [addV_comm, addE_comm] at H2
      rw [mulV_comm, mulE_comm] at H5
      rw [mulV_neg, mulE_neg] at H6
      rw [divV_neg, divE_neg] at H8
      rw [modV_neg, modE_neg] at H10
      rw [fa] at HA
      rw [fb] at HB
      refine turns_go w a b (addV a b) (addE a b) 0 (mulV a b) (mulE a b) (divV a b) (divE a b) (modV a b) (modE a b) (fits_of fa) HA HB (fun w => add_prog a b w) H2 (fun h w => ?_) (fun w => mul_prog a b w) H5 H6 (fun w => div_prog a b w) H8 (fun w => mod_prog a b w) H10 (mulV_in a b) (divV_in a b) (modV_in a b fa)
      have h2 := sub_back fa fb h
      have h3 := H3 h w
      rw [h2.1, h2.2] at h3
      exact h3
end Go.Proofs.YtfpjihicobmlkaaDoor
