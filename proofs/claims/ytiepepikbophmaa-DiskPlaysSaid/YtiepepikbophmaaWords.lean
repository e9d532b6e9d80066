/- Words for memory, for this seat: bytes that stand at an address; what a call that makes memory leaves as it was. Plain lemmas over the library's own 'Below'. -/
import Derived.Below
import Derived.Laws.OwnMore
import Derived.Deep.Draws
import Derived.Laws.NewBlocks
import Derived.Lib.Hide
namespace Go.Proofs.Ytiepepikbophmaa
open Go.RowKit

/-- The bytes l stand from the address A on (of none nothing is asked). -/
def Bys (w : World) (A : Option Addr) (l : List UInt8) : Prop :=
  l = [] ∨ ∃ b o, A = some ⟨b, o, none⟩ ∧ b < w.heap.size ∧ ∀ i, i < l.length → w.cell? ⟨b, o + i, none⟩ = some (.int .u8 ((l.getD i 0).toNat : Int))

theorem Bys.empty (w : World) (A : Option Addr) : Bys w A [] := .inl rfl
theorem Bys.keep {w w' : World} {A : Option Addr} {l : List UInt8} (h : Bys w A l) (hs : w.heap.size ≤ w'.heap.size) (hk : ∀ p : Addr, p.block < w.heap.size → w'.cell? p = w.cell? p) : Bys w' A l := by
  rcases h with rfl | ⟨b, o, rfl, hb, hc⟩
  · exact .inl rfl
  · exact .inr ⟨b, o, rfl, by omega, fun i hi => (hk _ hb).trans (hc i hi)⟩
theorem Bys.below {w w' : World} {A : Option Addr} {l : List UInt8} (h : Bys w A l) (hb : Below w.heap.size w w') : Bys w' A l := h.keep hb.size fun _ hp => hb.cell hp
theorem Bys.alloc {w : World} {A : Option Addr} {l : List UInt8} (h : Bys w A l) (o : Obj) : Bys (w.alloc o) A l := h.below ((Below.refl _ _).alloc (Nat.le_refl _) o)
theorem Bys.at_ {w : World} {A : Option Addr} {l : List UInt8} (h : Bys w A l) (hl : 0 < l.length) :
    ∃ b o, A = some ⟨b, o, none⟩ ∧ b < w.heap.size ∧ ∀ i, i < l.length → w.cell? ⟨b, o + i, none⟩ = some (.int .u8 ((l.getD i 0).toNat : Int)) := by
  rcases h with rfl | h
  · simp at hl
  · exact h

/-- What stood below a block stands still: for the walk. -/
theorem stands {W w1 : World} (hb : Below W.heap.size W w1) :
    (∀ b o, b < W.heap.size → w1.cell? ⟨b, o, none⟩ = W.cell? ⟨b, o, none⟩) ∧ (∀ b o, b < W.heap.size → w1.frozen? ⟨b, o, none⟩ = W.frozen? ⟨b, o, none⟩) :=
  ⟨fun b o h => hb.cell (p := ⟨b, o, none⟩) h, fun b o h => hb.frozen (p := ⟨b, o, none⟩) h⟩
theorem below_drewN' {B : Nat} {a w : World} (h : Below B a w) (n : Nat) : Below B a (w.drewN n) := ⟨h.os, h.tape, h.output, h.size, h.block⟩
theorem below_one (w : World) (o : Obj) : Below w.heap.size w (w.alloc o) := (Below.refl _ _).alloc (Nat.le_refl _) o
theorem below_then {w w1 w2 : World} (h : Below w.heap.size w w1) (k : Below w1.heap.size w1 w2) : Below w.heap.size w w2 := h.trans (k.mono h.size)
end Go.Proofs.Ytiepepikbophmaa
