/- What is read as a list at any place (one out of the bytes too), and what a reader hands back; what a number is in, as tests. -/
import Derived.Test.YtiepepikbophmaaPoPut
import Derived.Test.YtiepepikbophmaaFrGetUintG
namespace Go.Proofs.Ytiepepikbophmaa
open Go.RowKit Go.Maps
set_option linter.unusedVariables false

def PY (l : List UInt8) (a : Int) (ls : List Int) (p e : Nat) : Prop := ((a < 0 ∨ (l.length : Int) < a) ∧ ls = [] ∧ p = 0 ∧ e = 2) ∨ ∃ k : Nat, a = k ∧ k ≤ l.length ∧ PX l k ls p e
theorem py_total (l : List UInt8) (a : Int) : ∃ ls p e, PY l a ls p e := by
  by_cases h : a < 0 ∨ (l.length : Int) < a
  · exact ⟨[], 0, 2, .inl ⟨h, rfl, rfl, rfl⟩⟩
  · obtain ⟨k, rfl⟩ := Int.eq_ofNat_of_zero_le (a := a) (by omega)
    obtain ⟨ls, p, e, hp⟩ := px_total l k (by omega)
    exact ⟨ls, p, e, .inr ⟨k, rfl, by omega, hp⟩⟩
theorem py_err {l : List UInt8} {a : Int} {ls : List Int} {p e : Nat} (h : PY l a ls p e) : (e ≠ 0 → ls = [] ∧ p = 0) ∧ ls.length ≤ 1024 := by
  rcases h with ⟨_, rfl, rfl, rfl⟩ | ⟨k, rfl, _, hp⟩
  · exact ⟨fun _ => ⟨rfl, rfl⟩, by simp⟩
  · exact px_err hp
/-- What Read hands back. -/
def PoTold (w : World) (ls : List Int) (p e : Nat) (e' : Ending) (w' : World) : Prop :=
  Below w.heap.size w w' ∧ ((e ≠ 0 ∧ e' = .returned (.tuple #[.slice none 0 0, .int .i64 0, .int .i64 e])) ∨ (e = 0 ∧ ∃ v, e' = .returned (.tuple #[v, .int .i64 p, .int .i64 0]) ∧ OwnZ w' w.heap.size v ls))

theorem has_both {a b : List Int} (ha : pchk a = 0) (hb : pchk b = 0) (n : Int) : decide (n ∈ bothL a b) = (decide (n ∈ a) && decide (n ∈ b)) := by
  have := both_mem (pchk_zero.1 ha).2 (pchk_zero.1 hb).2 n
  by_cases h1 : n ∈ a <;> by_cases h2 : n ∈ b <;> simp [this, h1, h2]
theorem has_either {a b : List Int} (ha : pchk a = 0) (hb : pchk b = 0) (n : Int) : decide (n ∈ eitherL a b) = (decide (n ∈ a) || decide (n ∈ b)) := by
  have := either_mem (pchk_zero.1 ha).2 (pchk_zero.1 hb).2 n
  by_cases h1 : n ∈ a <;> by_cases h2 : n ∈ b <;> simp [this, h1, h2]
theorem has_less {a b : List Int} (ha : pchk a = 0) (hb : pchk b = 0) (n : Int) : decide (n ∈ lessL a b) = (decide (n ∈ a) && !decide (n ∈ b)) := by
  have := less_mem (pchk_zero.1 ha).2 (pchk_zero.1 hb).2 n
  by_cases h1 : n ∈ a <;> by_cases h2 : n ∈ b <;> simp [this, h1, h2]
theorem ret_bool2 {a : Bool} {w w' : World} (h : a = true) : Ending.returned (.bool a) = .returned (.bool true) := by rw [h]
end Go.Proofs.Ytiepepikbophmaa
