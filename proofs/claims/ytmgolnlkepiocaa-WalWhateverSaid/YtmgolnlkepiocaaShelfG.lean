/- Layings of the library's generic contracts at this seat's program: a table of numbers and the facts of the program that each contract asks. -/
import Derived.Shelf.SlMaps.Clone
import Derived.Ground.SlmcProg
import Derived.Test.YtmgolnlkepiocaaProg
namespace Go.Proofs.Ytmgolnlkepiocaa
open Go.Shelf
def Try.dk_clone_ren : Go.Shelf.Ren := ⟨fun | 5 => 109 | 7 => 111 | n => n, fun | 23 => 91 | 25 => 9 | 3 => 87 | 4 => 4 | 20 => 20 | n => n, fun | n => n⟩
theorem Try.dk_clone : Go.Proofs.SlLaysW.n5 Try.prog Try.dk_clone_ren := {
  mixed := by kernel_rfl
  f5 := ⟨Try.f109.name, by decide, Try.func109.trans (congrArg some (by kernel_rfl))⟩
  f7 := Try.func111.trans (congrArg some (by kernel_rfl))
  t4 := Try.underlying4
  a4 := Try.isAgg4
  z4 := Try.sizeOf4
  v4 := Try.zeroValue4
  t20 := Try.underlying20
  a20 := Try.isAgg20
  z20 := Try.sizeOf20
  v20 := Try.zeroValue20
  t23 := Try.underlying91
  a23 := Try.isAgg91
  z23 := Try.sizeOf91
  v23 := Try.zeroValue91 }
end Go.Proofs.Ytmgolnlkepiocaa
