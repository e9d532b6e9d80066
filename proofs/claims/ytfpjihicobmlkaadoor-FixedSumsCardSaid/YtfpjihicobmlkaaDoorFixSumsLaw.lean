/- The laws of sums and rests of layer 3: walks. -/
import Derived.Test.YtfpjihicobmlkaaDoorFixLives
import Derived.Test.YtfpjihicobmlkaaDoorFixRef
namespace Go.Proofs.YtfpjihicobmlkaaDoor
open Go.RowKit
set_option linter.unusedVariables false

theorem fixedSums_walk (w : World) (a : Int) (ha : -9223372036854775808 ≤ a ∧ a ≤ 9223372036854775807) (b : Int) (hb : -9223372036854775808 ≤ b ∧ b ≤ 9223372036854775807) :
    Calls Tryd.prog 3 #[.int .i64 a, .int .i64 b] w fun e w' => e = .returned (.bool true) ∧ Below w.heap.size w w' := by
  have H1 := add_prog a b w
  have H2 := fun w => add_ref a b w
  have H3 := fun w => sub_prog a b w
  have H4 := fun w => sub_ref a b w hb
  have H5 := fun w => fits_prog a w
  have H6 := fun w => fits_ref a w
  generalize addV a b = v1 at *
  generalize addE a b = e1 at *
  generalize addV a (minus b) = v2 at *
  generalize addE a (minus b) = e2 at *
  generalize fitsB a = f at *
  go_enter Tryd.func3, Tryd.ntmps3
  go_wp2_with fail
  refine H1.mono ?_
  rintro e w1 ⟨rfl, hb1⟩
  go_wp2_with fail
  refine (H2 w1).mono ?_
  rintro e w2 ⟨rfl, rfl⟩
  go_wp2_with fail
  refine (H3 w1).mono ?_
  rintro e w2 ⟨rfl, hb2⟩
  go_wp2_with fail
  refine (H4 w2).mono ?_
  rintro e w3 ⟨rfl, rfl⟩
  go_wp2_with fail
  refine (H5 w2).mono ?_
  rintro e w3 ⟨rfl, rfl⟩
  go_wp2_with fail
  refine (H6 w2).mono ?_
  rintro e w3 ⟨rfl, rfl⟩
  go_wp2_with fail
  refine (lives_true w2).mono ?_
  rintro e w3 ⟨rfl, hb3⟩
  go_wp2
  go_ret
  exact ⟨rfl, below_then (below_then hb1 hb2) hb3⟩
end Go.Proofs.YtfpjihicobmlkaaDoor
