/- Words for memory, for this seat: bytes that stand at an address; what a call that makes memory leaves as it was. Plain lemmas over the library's own 'Below'. -/
import Derived.Deep.Draws
import Derived.Laws.NewBlocks
import Derived.Lib.Hide
namespace Go.Proofs.Ytpcjnagdanmdpaa
open Go.RowKit
/-- The bytes l stand from the address A on (of none nothing is asked). -/
def Bys (w : World) (A : Option Addr) (l : List UInt8) : Prop :=
  l = [] ∨ ∃ b o, A = some ⟨b, o, none⟩ ∧ b < w.heap.size ∧ ∀ i, i < l.length → w.cell? ⟨b, o + i, none⟩ = some (.int .u8 ((l.getD i 0).toNat : Int))
theorem Bys.empty (w : World) (A : Option Addr) : Bys w A [] := .inl rfl
theorem below_one (w : World) (o : Obj) : Below w.heap.size w (w.alloc o) := (Below.refl _ _).alloc (Nat.le_refl _) o
theorem below_then {w w1 w2 : World} (h : Below w.heap.size w w1) (k : Below w1.heap.size w1 w2) : Below w.heap.size w w2 := h.trans (k.mono h.size)
end Go.Proofs.Ytpcjnagdanmdpaa
