/- The law of quotients and rests of layer 3: the whole walk. -/
import Derived.Test.YtfpjihicobmlkaaDoorFixQuotientsLaw
namespace Go.Proofs.YtfpjihicobmlkaaDoor
open Go.RowKit
set_option linter.unusedVariables false

set_option maxRecDepth 100000 in
theorem fixedQuotients_walk (w : World) (a : Int) (ha : -9223372036854775808 ≤ a ∧ a ≤ 9223372036854775807) (b : Int) (hb : -9223372036854775808 ≤ b ∧ b ≤ 9223372036854775807) :
    Calls Tryd.prog 9 #[.int .i64 a, .int .i64 b] w fun e w' => e = .returned (.bool true) ∧ Below w.heap.size w w' := by
  have HA := fits_prog a w
  have HB := fits_prog b w
  cases fa : fitsB a
  · rw [fa] at HA
    clear fa
    go_enter Tryd.func9, Tryd.ntmps9
    go_wp2_with fail
    refine HA.mono ?_
    rintro r w0 ⟨rfl, rfl⟩
    go_wp2_with fail
    refine (lives_true w).mono ?_
    rintro r w1 ⟨rfl, hb1⟩
    go_wp2
    go_ret
    exact ⟨rfl, hb1⟩
  · cases fb : fitsB b
    · rw [fa] at HA
      rw [fb] at HB
      clear fa fb
      go_enter Tryd.func9, Tryd.ntmps9
      go_wp2_with fail
      refine HA.mono ?_
      rintro r w0 ⟨rfl, rfl⟩
      go_wp2_with fail
      refine HB.mono ?_
      rintro r w0 ⟨rfl, rfl⟩
      go_wp2_with fail
      refine (lives_true w).mono ?_
      rintro r w1 ⟨rfl, hb1⟩
      go_wp2
      go_ret
      exact ⟨rfl, hb1⟩
    · rw [fa] at HA
      rw [fb] at HB
      by_cases h0 : b = 0
      · have q : (b == 0) = true := by simp [h0]
        clear fa fb h0
        go_enter Tryd.func9, Tryd.ntmps9
        go_wp2_with fail
        refine HA.mono ?_
        rintro r w0 ⟨rfl, rfl⟩
        go_wp2_with fail
        refine HB.mono ?_
        rintro r w0 ⟨rfl, rfl⟩
        go_wp2_with fail
        refine (lives_true w).mono ?_
        rintro r w1 ⟨rfl, hb1⟩
        go_wp2
        go_ret
        exact ⟨rfl, hb1⟩
      · obtain ⟨_, _, d3, d4⟩ := div_ok fa fb h0
        have H1 := fun w => mod_prog a b w
        rw [d4] at H1
        obtain ⟨r1, r2, r3, r4⟩ := rest a b h0
        rw [← d3] at r1 r2 r3 r4
        have hm := modV_in a b fa
        have hp := mulV_in (divV a b) b
        have H3 : divE a b = 0 → ∀ w, Calls Tryd.prog 19 #[.int .i64 (divV a b), .int .i64 b] w fun r w' => r = .returned (.tuple #[.int .i64 (mulV (divV a b) b), .int .i64 0]) ∧ Below w.heap.size w w' := fun h w => by
          have := mul_prog (divV a b) b w
          rw [(again fa fb h0 h).1] at this
          exact this
        have c2 : divE a b = 0 → (mulV (divV a b) b).natAbs ≤ a.natAbs := fun h => (again fa fb h0 h).2.1
        have c3 : divE a b = 0 → (a - mulV (divV a b) b).natAbs ≤ b.natAbs / 1000000 + 1 := fun h => (again fa fb h0 h).2.2
        by_cases he : divE a b = 0
        · exact quotients_go w a b (modV a b) (divV a b) (divE a b) (mulV (divV a b) b) a.natAbs b.natAbs (modV a b).natAbs (mulV (divV a b) b).natAbs (a - mulV (divV a b) b).natAbs (fits_of fa) (fits_of fb) h0 hm hp HA HB H1 (fun w => div_prog a b w) H3
            (max_abs _) (max_abs _) (max_abs _) (max_abs _) (by omega) r1 (c2 he) (fun _ => c3 he) (fun h => absurd he h) r4 (by omega)
        · have hf := div_far he fa fb h0
          exact quotients_go w a b (modV a b) (divV a b) (divE a b) 0 a.natAbs b.natAbs (modV a b).natAbs 0 a.natAbs (fits_of fa) (fits_of fb) h0 hm (by omega) HA HB H1 (fun w => div_prog a b w) (fun h => absurd h he)
            (max_abs _) (max_abs _) (max_abs _) (by simp) (by omega) r1 (by omega) (fun h => absurd h he) (fun _ => hf) r4 (by omega)
end Go.Proofs.YtfpjihicobmlkaaDoor
