/- Labels read out of bytes, and laid behind bytes: as the document's own answer does it. -/
import Derived.Test.YtnhaehjkepmbaaaDoorLbRead2
namespace Go.Proofs.YtnhaehjkepmbaaaDoor
open Go.RowKit Go.Maps
set_option linter.unusedVariables false

end Go.Proofs.YtnhaehjkepmbaaaDoor
