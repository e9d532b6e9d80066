/- Layer 3: the program tells the document's examples, as the laws of this layer ask. -/
import Derived.Test.YtfpjihicobmlkaaDoorFixPrint
import Derived.Test.YtfpjihicobmlkaaDoorFixMul
import Derived.StillTailTactics
namespace Go.Proofs.YtfpjihicobmlkaaDoor
open Go.RowKit
set_option linter.unusedVariables false

theorem example_mul : mulV 1500000 2000000 = 3000000 ∧ mulE 1500000 2000000 = 0 := by decide +kernel
theorem example_print : txt (printL (-1500000)) = { data := #[45, 49, 46, 53] } := by
  have h1 : behindL 500000 = [46, 53] := by decide +kernel
  have h2 : Lib.decDigits 1 = [49] := Lib.decDigits_one (by omega)
  unfold printL partsL
  rw [if_pos (by omega), show (-1500000 : Int).natAbs = 1500000 from rfl, show 1500000 / 1000000 = 1 from rfl, show 1500000 % 1000000 = 500000 from rfl, h1, h2]
  rfl

/-- The document's examples. -/
theorem lives_true (w : World) : Calls Tryd.prog 16 #[] w fun e w' => e = .returned (.bool true) ∧ Below w.heap.size w w' := by
  have HM := mul_prog 1500000 2000000 w
  rw [example_mul.1, example_mul.2] at HM
  have HP := fun w => print_prog (-1500000) w (by decide +kernel) (.inl (by decide +kernel))
  rw [example_print] at HP
  go_enter Tryd.func16, Tryd.ntmps16
  go_wp2_with fail
  refine HM.mono ?_
  rintro e w1 ⟨rfl, hb1⟩
  go_wp2_with fail
  refine (HP w1).mono ?_
  rintro e w2 ⟨rfl, hb2⟩
  go_wp2
  go_ret
  exact ⟨rfl, below_then hb1 hb2⟩
end Go.Proofs.YtfpjihicobmlkaaDoor
