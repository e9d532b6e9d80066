/- slices.Chunk over samples: what its function value does when a loop ranges over it. -/
import Derived.RangeFuncBox
import Derived.RangeFuncCalls
import Derived.Shelf.RegionOpen
import Derived.OwnWalkIn
import Derived.LoopNIn
import Derived.LoopIn
import Derived.Test.YtpcjnagdanmdpaaGreatChCheck
namespace Go.Proofs.YtpcjnagdanmdpaaGreat.Ch
open Go.RowKit Go.Shelf
set_option linter.unusedVariables false
attribute [local go_sem] Oper.semAt_some
end Go.Proofs.YtpcjnagdanmdpaaGreat.Ch
