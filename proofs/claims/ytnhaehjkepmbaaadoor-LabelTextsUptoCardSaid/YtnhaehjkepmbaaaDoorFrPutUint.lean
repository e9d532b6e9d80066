/- A number laid down behind bytes, as the program and as the document's own answer do it. -/
import Derived.Test.YtnhaehjkepmbaaaDoorFrSum
namespace Go.Proofs.YtnhaehjkepmbaaaDoor
open Go.RowKit
set_option linter.unusedVariables false

theorem bys_1 {w : World} {g : Nat} {x : UInt8} (h : Row w g 5 #[.int .u8 (x.toNat : Int)]) : Bys w (some ⟨g, 0, none⟩) [x] := Row.bys (l := [x]) h
theorem byte_of (d : Nat) (h : d < 256) : (d : Int) = ((UInt8.ofNat d).toNat : Int) := by rw [UInt8.toNat_ofNat']; omega

end Go.Proofs.YtnhaehjkepmbaaaDoor
