/- Two labels, two sets of labels: how they stand to one another, as the program and as the document's own answer tell it. -/
import Derived.Test.YtnhaehjkepmbaaaDoorLbOrd
import Derived.Test.YtnhaehjkepmbaaaDoorLbCheckRef
import Derived.Test.YtnhaehjkepmbaaaDoorShelf
import Derived.Deep.RegionHeld3
import Derived.Deep.Cut
namespace Go.Proofs.YtnhaehjkepmbaaaDoor
open Go.RowKit
set_option linter.unusedVariables false

theorem text_cmp (a b : ByteArray) (w : World) : Calls Tryd.prog 23 #[.string a, .string b] w fun e w' => e = .returned (.int .i64 (cmpB a b)) ∧ w = w' := by
  have h1 := less_cmp a b
  have h2 := eq_cmp a b
  rcases cmpB_cmp.rng a b with h | h | h
  all_goals
    rw [h] at h1 h2 ⊢
    simp only [Int.reduceNeg, Int.reduceEq, decide_true, decide_false] at h1 h2
    clear h
    go_enter Tryd.func23, Tryd.ntmps23
    go_wp2
    go_ret
    exact ⟨rfl, rfl⟩
end Go.Proofs.YtnhaehjkepmbaaaDoor
