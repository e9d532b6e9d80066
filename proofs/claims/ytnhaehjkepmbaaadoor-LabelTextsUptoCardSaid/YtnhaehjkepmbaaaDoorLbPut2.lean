/- Two rows of bytes in one new one; labels laid behind bytes: as the program and as the document's own answer do it. -/
import Derived.Test.YtnhaehjkepmbaaaDoorLbPut
import Derived.Test.YtnhaehjkepmbaaaDoorLbCheckRef
import Derived.Deep.RegionHeld3
import Derived.Deep.RegionLaw
namespace Go.Proofs.YtnhaehjkepmbaaaDoor
open Go.RowKit Go.Maps
set_option linter.unusedVariables false

end Go.Proofs.YtnhaehjkepmbaaaDoor
