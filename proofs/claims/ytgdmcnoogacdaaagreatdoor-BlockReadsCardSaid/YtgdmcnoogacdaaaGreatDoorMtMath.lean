/- Matchers as the document says them: which may be, what they ask, whether they fit. Of no program but the texts it imports. -/
import Derived.Test.YtgdmcnoogacdaaaGreatDoorBlLotC
namespace Go.Proofs.YtgdmcnoogacdaaaGreatDoor
open Go.RowKit
set_option linter.unusedVariables false
theorem eqT(a b:ByteArray):(a.toList==b.toList)=decide (a=b):=by
 rw [ByteArray.toList_eq,ByteArray.toList_eq,Bool.eq_iff_iff,beq_iff_eq,decide_eq_true_eq];constructor
 ·intro h;exact ByteArray.ext (Array.toList_inj.1 h)
 ·intro h;rw [h]
end Go.Proofs.YtgdmcnoogacdaaaGreatDoor
