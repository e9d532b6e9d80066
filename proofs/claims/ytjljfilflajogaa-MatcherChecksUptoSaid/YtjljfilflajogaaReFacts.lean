/- Closed facts of the program: which method stands behind each make of node, and what the type switch tells of it. (221: the number of types and a hundred, as the walk shows it.) -/
import Derived.Test.YtjljfilflajogaaReMath
import Derived.Test.YtjljfilflajogaaChecked
import Derived.Test.YtjljfilflajogaaOwn
namespace Go.Proofs.Ytjljfilflajogaa
open Go.RowKit
set_option linter.unusedVariables false

@[go_sem] theorem m_done_atom (b : Nat) (w : World) : (method 221 86 (.pointer (some ⟨b, 0, none⟩)) "gauge/regex.done").run Try.prog w = .ok (107, (.pointer (some ⟨b, 0, none⟩))) w := by kernel_rfl
@[go_sem] theorem m_empty_atom (b : Nat) (w : World) : (method 221 86 (.pointer (some ⟨b, 0, none⟩)) "gauge/regex.empty").run Try.prog w = .ok (108, (.pointer (some ⟨b, 0, none⟩))) w := by kernel_rfl
@[go_sem] theorem m_done_row (p : Option Addr) (n c : Nat) (w : World) : (method 221 90 (.slice p n c) "gauge/regex.done").run Try.prog w = .ok (109, (.slice p n c)) w := by kernel_rfl
@[go_sem] theorem m_empty_row (p : Option Addr) (n c : Nat) (w : World) : (method 221 90 (.slice p n c) "gauge/regex.empty").run Try.prog w = .ok (110, (.slice p n c)) w := by kernel_rfl
@[go_sem] theorem m_done_alt (p : Option Addr) (n c : Nat) (w : World) : (method 221 84 (.slice p n c) "gauge/regex.done").run Try.prog w = .ok (105, (.slice p n c)) w := by kernel_rfl
@[go_sem] theorem m_empty_alt (p : Option Addr) (n c : Nat) (w : World) : (method 221 84 (.slice p n c) "gauge/regex.empty").run Try.prog w = .ok (106, (.slice p n c)) w := by kernel_rfl
@[go_sem] theorem m_done_rep (x : Value) (no many : Bool) (w : World) : (method 221 92 (.agg #[x, .bool no, .bool many]) "gauge/regex.done").run Try.prog w = .ok (111, (.agg #[x, .bool no, .bool many])) w := by kernel_rfl
@[go_sem] theorem m_empty_rep (x : Value) (no many : Bool) (w : World) : (method 221 92 (.agg #[x, .bool no, .bool many]) "gauge/regex.empty").run Try.prog w = .ok (112, (.agg #[x, .bool no, .bool many])) w := by kernel_rfl
@[go_sem] theorem as_atom_atom (b : Nat) (w : World) : (Instr.typeAssert (.iface 86 (.pointer (some ⟨b, 0, none⟩))) 54 86 true).run Try.prog w = .ok (.tuple #[(.pointer (some ⟨b, 0, none⟩)), .bool true]) w := by kernel_rfl
@[go_sem] theorem as_atom_row (b : Nat) (w : World) : (Instr.typeAssert (.iface 86 (.pointer (some ⟨b, 0, none⟩))) 54 90 true).run Try.prog w = .ok (.tuple #[.slice none 0 0, .bool false]) w := by kernel_rfl
@[go_sem] theorem as_atom_alt (b : Nat) (w : World) : (Instr.typeAssert (.iface 86 (.pointer (some ⟨b, 0, none⟩))) 54 84 true).run Try.prog w = .ok (.tuple #[.slice none 0 0, .bool false]) w := by kernel_rfl
@[go_sem] theorem as_atom_rep (b : Nat) (w : World) : (Instr.typeAssert (.iface 86 (.pointer (some ⟨b, 0, none⟩))) 54 92 true).run Try.prog w = .ok (.tuple #[.agg #[.nilIface, .bool false, .bool false], .bool false]) w := by kernel_rfl
@[go_sem] theorem as_row_atom (p : Option Addr) (n c : Nat) (w : World) : (Instr.typeAssert (.iface 90 (.slice p n c)) 54 86 true).run Try.prog w = .ok (.tuple #[.pointer none, .bool false]) w := by kernel_rfl
@[go_sem] theorem as_row_row (p : Option Addr) (n c : Nat) (w : World) : (Instr.typeAssert (.iface 90 (.slice p n c)) 54 90 true).run Try.prog w = .ok (.tuple #[(.slice p n c), .bool true]) w := by kernel_rfl
@[go_sem] theorem as_row_alt (p : Option Addr) (n c : Nat) (w : World) : (Instr.typeAssert (.iface 90 (.slice p n c)) 54 84 true).run Try.prog w = .ok (.tuple #[.slice none 0 0, .bool false]) w := by kernel_rfl
@[go_sem] theorem as_row_rep (p : Option Addr) (n c : Nat) (w : World) : (Instr.typeAssert (.iface 90 (.slice p n c)) 54 92 true).run Try.prog w = .ok (.tuple #[.agg #[.nilIface, .bool false, .bool false], .bool false]) w := by kernel_rfl
@[go_sem] theorem as_alt_atom (p : Option Addr) (n c : Nat) (w : World) : (Instr.typeAssert (.iface 84 (.slice p n c)) 54 86 true).run Try.prog w = .ok (.tuple #[.pointer none, .bool false]) w := by kernel_rfl
@[go_sem] theorem as_alt_row (p : Option Addr) (n c : Nat) (w : World) : (Instr.typeAssert (.iface 84 (.slice p n c)) 54 90 true).run Try.prog w = .ok (.tuple #[.slice none 0 0, .bool false]) w := by kernel_rfl
@[go_sem] theorem as_alt_alt (p : Option Addr) (n c : Nat) (w : World) : (Instr.typeAssert (.iface 84 (.slice p n c)) 54 84 true).run Try.prog w = .ok (.tuple #[(.slice p n c), .bool true]) w := by kernel_rfl
@[go_sem] theorem as_alt_rep (p : Option Addr) (n c : Nat) (w : World) : (Instr.typeAssert (.iface 84 (.slice p n c)) 54 92 true).run Try.prog w = .ok (.tuple #[.agg #[.nilIface, .bool false, .bool false], .bool false]) w := by kernel_rfl
@[go_sem] theorem as_rep_atom (x : Value) (no many : Bool) (w : World) : (Instr.typeAssert (.iface 92 (.agg #[x, .bool no, .bool many])) 54 86 true).run Try.prog w = .ok (.tuple #[.pointer none, .bool false]) w := by kernel_rfl
@[go_sem] theorem as_rep_row (x : Value) (no many : Bool) (w : World) : (Instr.typeAssert (.iface 92 (.agg #[x, .bool no, .bool many])) 54 90 true).run Try.prog w = .ok (.tuple #[.slice none 0 0, .bool false]) w := by kernel_rfl
@[go_sem] theorem as_rep_alt (x : Value) (no many : Bool) (w : World) : (Instr.typeAssert (.iface 92 (.agg #[x, .bool no, .bool many])) 54 84 true).run Try.prog w = .ok (.tuple #[.slice none 0 0, .bool false]) w := by kernel_rfl
@[go_sem] theorem as_rep_rep (x : Value) (no many : Bool) (w : World) : (Instr.typeAssert (.iface 92 (.agg #[x, .bool no, .bool many])) 54 92 true).run Try.prog w = .ok (.tuple #[(.agg #[x, .bool no, .bool many]), .bool true]) w := by kernel_rfl
end Go.Proofs.Ytjljfilflajogaa
