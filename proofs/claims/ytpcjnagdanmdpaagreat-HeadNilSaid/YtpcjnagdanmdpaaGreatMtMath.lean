/- Matchers as the document says them: which may be, what they ask, whether they fit. Of no program but the texts it imports. -/
import Derived.Test.YtpcjnagdanmdpaaGreatLbMath
namespace Go.Proofs.YtpcjnagdanmdpaaGreat
open Go.RowKit
set_option linter.unusedVariables false
/-- A matcher: its kind, its name, its value. -/
abbrev Mt := Int × ByteArray × ByteArray
def mt0 : Mt := (0, ⟨#[]⟩, ⟨#[]⟩)
end Go.Proofs.YtpcjnagdanmdpaaGreat
