/- Labels laid behind bytes: as the document's own answer does it. -/
import Derived.Test.YtnhaehjkepmbaaaDoorLbPut2
namespace Go.Proofs.YtnhaehjkepmbaaaDoor
open Go.RowKit Go.Maps
set_option linter.unusedVariables false

theorem bytesL_pos (l : List Lbl) : ∀ k, 0 < (bytesF l k).length := by
  intro k
  induction k with
  | zero => exact uintL_pos _
  | succ k ih => rw [bytesF, List.length_append, List.length_append]; omega
attribute [-go_sem] Builtin.append_
end Go.Proofs.YtnhaehjkepmbaaaDoor
