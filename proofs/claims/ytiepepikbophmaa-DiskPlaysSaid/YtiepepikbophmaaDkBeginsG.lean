/- Does a text begin with another one? And: are two rows of names the same? -/
import Derived.Test.YtiepepikbophmaaDkBegunG
import Derived.Deep.QuietTactic
import Derived.BigQuiet
namespace Go.Proofs.Ytiepepikbophmaa
open Go.RowKit Go.Maps
set_option linter.unusedVariables false

end Go.Proofs.Ytiepepikbophmaa
