/- Blocks of memory for this seat: one that is known whole, two that alone may turn; bytes as cells. -/
import Derived.Test.YtiepepikbophmaaWords
import Derived.Test.YtiepepikbophmaaBitMath
import Derived.BigRegion
import Derived.Laws.Rows
import Derived.OneCell
import Derived.Laws.AppendOwn
namespace Go.Proofs.Ytiepepikbophmaa
open Go.RowKit
set_option linter.unusedVariables false

def bcells (l : List UInt8) : Array Value := (l.map fun x => Value.int .u8 (x.toNat : Int)).toArray
theorem bcells_size (l : List UInt8) : (bcells l).size = l.length := by simp [bcells]
theorem bcells_get (l : List UInt8) (i : Nat) (h : i < l.length) : (bcells l)[i]? = some (.int .u8 ((l.getD i 0).toNat : Int)) := by
  simp [bcells, h]
theorem bcells_set (l : List UInt8) (i : Nat) (x : UInt8) : (bcells l).setIfInBounds i (.int .u8 (x.toNat : Int)) = bcells (l.set i x) := by
  simp [bcells]

/-- Block g is just these cells of type t, none of them frozen. -/
def Row (w : World) (g : Nat) (t : TypeId) (cs : Array Value) : Prop := w.heap[g]? = some (.cells cs t (0, 0))
section
variable {w w' : World} {g : Nat} {t : TypeId} {cs : Array Value}
theorem Row.lt (h : Row w g t cs) : g < w.heap.size := by
  rcases Nat.lt_or_ge g w.heap.size with hlt | hge
  · exact hlt
  · unfold Row at h
    rw [Array.getElem?_eq_none hge] at h
    cases h
theorem Row.cell (h : Row w g t cs) (i : Nat) : w.cell? ⟨g, i, none⟩ = cs[i]? := cell_of_row w g i cs t (0, 0) h
theorem Row.frozen (h : Row w g t cs) (i : Nat) : w.frozen? ⟨g, i, none⟩ = false := by
  unfold Row at h
  simp [World.frozen?, h]
theorem Row.setAt (h : Row w g t cs) (i : Nat) (u : Value) : Row (w.setCell ⟨g, i, none⟩ u) g t (cs.setIfInBounds i u) := by
  unfold Row at h ⊢
  simp [World.setCell, Array.getElem?_modify, h]
theorem Row.setFar (h : Row w g t cs) {p : Addr} (hp : g ≠ p.block) (u : Value) : Row (w.setCell p u) g t cs := (Below.heap_setCell w p u g hp).trans h
theorem Row.below {B : Nat} (h : Row w g t cs) (hb : Below B w w') (hg : g < B) : Row w' g t cs := (hb.block g hg).trans h
theorem Row.new (w : World) (t : TypeId) (cs : Array Value) : Row (w.alloc (.cells cs t)) w.heap.size t cs := heap_alloc_new w _
theorem Row.alloc (h : Row w g t cs) (o : Obj) : Row (w.alloc o) g t cs := (Below.heap_alloc w o g h.lt).trans h
end

/-- But for the blocks g and h, and for what is new, nothing has turned. -/
structure Two (w w' : World) (g h : Nat) : Prop where
  os : w'.os = w.os
  tape : w'.tape = w.tape
  output : w'.output = w.output
  size : w.heap.size ≤ w'.heap.size
  block : ∀ k, k < w.heap.size → k ≠ g → k ≠ h → w'.heap[k]? = w.heap[k]?
theorem Two.refl (w : World) (g h : Nat) : Two w w g h := ⟨rfl, rfl, rfl, Nat.le_refl _, fun _ _ _ _ => rfl⟩
theorem Two.drewN {w w' : World} {g h : Nat} (k : Two w w' g h) (n : Nat) : Two w (w'.drewN n) g h := ⟨k.os, k.tape, k.output, k.size, k.block⟩
theorem Two.set {w w' : World} {g h : Nat} (k : Two w w' g h) {p : Addr} (hp : p.block = g ∨ p.block = h) (u : Value) : Two w (w'.setCell p u) g h :=
  ⟨k.os, k.tape, k.output, by simpa [World.setCell] using k.size, fun i hi h1 h2 => (Below.heap_setCell w' p u i (by omega)).trans (k.block i hi h1 h2)⟩
theorem Two.trans {a b c : World} {g h : Nat} (k : Two a b g h) (m : Two b c g h) : Two a c g h :=
  ⟨m.os.trans k.os, m.tape.trans k.tape, m.output.trans k.output, Nat.le_trans k.size m.size, fun i hi h1 h2 => (m.block i (Nat.lt_of_lt_of_le hi k.size) h1 h2).trans (k.block i hi h1 h2)⟩
theorem Two.below {B : Nat} {a w w' : World} {g h : Nat} (b : Below B a w) (k : Two w w' g h) (hB : B ≤ w.heap.size) (hg : B ≤ g) (hh : B ≤ h) : Below B a w' :=
  b.trans ⟨k.os, k.tape, k.output, k.size, fun i hi => k.block i (by omega) (by omega) (by omega)⟩
theorem Two.cell {w w' : World} {g h : Nat} (k : Two w w' g h) {p : Addr} (hp : p.block < w.heap.size) (h1 : p.block ≠ g) (h2 : p.block ≠ h) : w'.cell? p = w.cell? p :=
  World.cell?_of_block (w := w) (k.block p.block hp h1 h2)

end Go.Proofs.Ytiepepikbophmaa
