/- Labels read out of bytes: as the program does it. -/
import Derived.Test.YtnhaehjkepmbaaaDoorLbRead
namespace Go.Proofs.YtnhaehjkepmbaaaDoor
open Go.RowKit Go.Maps
set_option linter.unusedVariables false

theorem row_new_set (w : World) (p q : Addr) (u v : Value) (t : TypeId) (cs : Array Value) : Row (((w.setCell p u).setCell q v).alloc (.cells cs t)) w.heap.size t cs := by
  have := Row.new ((w.setCell p u).setCell q v) t cs
  rw [show ((w.setCell p u).setCell q v).heap.size = w.heap.size from by simp [World.setCell]] at this
  exact this
/-- What Read tells: by what was read as a number, and as so many labels. -/
def readV (v : Value) (p : Int) (e : Nat) : Ending := .returned (.tuple #[v, .int .i64 p, .int .i64 e])
theorem ret_3 {v : Value} {b c b' c' : Int} (h2 : b = b') (h3 : c = c') : Ending.returned (.tuple #[v, .int .i64 b, .int .i64 c]) = .returned (.tuple #[v, .int .i64 b', .int .i64 c']) := by rw [h2, h3]
/-- What Read hands back where so many labels are read. -/
def ReadTold (w : World) (LS : List Lbl) (P : Int) (E : Nat) (e' : Ending) (w' : World) : Prop :=
  Below w.heap.size w w' ∧ ((E ≠ 0 ∧ e' = .returned (.tuple #[.slice none 0 0, .int .i64 0, .int .i64 E])) ∨ (E = 0 ∧ lbChk LS ≠ 0 ∧ e' = .returned (.tuple #[.slice none 0 0, .int .i64 0, .int .i64 5])) ∨
    (E = 0 ∧ lbChk LS = 0 ∧ ∃ v, e' = .returned (.tuple #[v, .int .i64 P, .int .i64 0]) ∧ OwnL w' w.heap.size v LS))
end Go.Proofs.YtnhaehjkepmbaaaDoor
