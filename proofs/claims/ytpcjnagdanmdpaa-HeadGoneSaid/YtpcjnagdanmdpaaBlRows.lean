/- Series in memory ([]api.Series): that stand at an address, and how a law's argument of that type is opened. -/
import Derived.Test.YtpcjnagdanmdpaaBlMath
namespace Go.Proofs.Ytpcjnagdanmdpaa
open Go.ChangeShapes Go.WideShapes Go.ChangeAt Go.RowKit Go.Joins Go.Maps
open Ch
set_option linter.unusedVariables false
def ser0 : Ser := ([], [])
theorem ser_at {S : List Ser} {i : Nat} (hi : i < S.length) : S.getD i ser0 ∈ S := List.mem_of_getElem? (getD_some S ser0 hi)
/-! ### opening -/
section
variable {H : Type} {enc : TypeId × Value → H} {W : World} {base : Nat} {sp : Nat → Bool} {held : Bool}
end
end Go.Proofs.Ytpcjnagdanmdpaa
