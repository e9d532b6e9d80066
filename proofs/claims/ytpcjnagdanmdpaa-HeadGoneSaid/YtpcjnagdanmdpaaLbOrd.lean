/- The order of texts, of labels and of sets of labels. No program. -/
import Derived.Test.YtpcjnagdanmdpaaLbMath
import Derived.Lib.Bytealg
namespace Go.Proofs.Ytpcjnagdanmdpaa
open Go.RowKit
set_option linter.unusedVariables false
theorem strL_inj {a b : ByteArray} (h : strL a = strL b) : a = b := by rw [← txt_strL a, h, txt_strL]
end Go.Proofs.Ytpcjnagdanmdpaa
