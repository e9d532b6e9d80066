/- Does a text begin with another one? And: are two rows of names the same? -/
import Derived.Test.YtnkbehjjblmihaaDkBegun
import Derived.Deep.QuietTactic
import Derived.BigQuiet
namespace Go.Proofs.Ytnkbehjjblmihaa
open Go.RowKit Go.Maps
set_option linter.unusedVariables false

theorem begins_prog {w : World} {A B : Option Addr} {s t : List UInt8} {c c' : Nat} (hA : Bys w A s) (hB : Bys w B t) (hsc : s.length ≤ c) (hl : s.length ≤ 140737488355328) (hts : t.length ≤ s.length) (h : s.take t.length = t) :
    Calls Try.prog 25 #[.slice A s.length c, .slice B t.length c'] w fun e w' => e = .returned (.bool true) ∧ Below w.heap.size w w' := by
  have hlt : (s.take t.length).length = t.length := by rw [h]
  have c1 : ∀ n, (convert 35 9 (.slice A t.length c)).run Try.prog (w.drewN n) = .ok (.string (txt t)) (w.drewN n) := fun n => by
    have h1 : Bys (w.drewN n) A (s.take t.length) := hA.front t.length
    have := conv_bys (w.drewN n) A (s.take t.length) c h1
    rw [hlt, h] at this
    exact this
  have c2 : ∀ n, (convert 35 9 (.slice B t.length c')).run Try.prog (w.drewN n) = .ok (.string (txt t)) (w.drewN n) := fun n => conv_bys (w.drewN n) B t c' hB
  have d1 : (convert 35 9 (.slice A t.length c)).run Try.prog w.drew = .ok (.string (txt t)) w.drew := c1 1
  have d2 : (convert 35 9 (.slice B t.length c')).run Try.prog w.drew = .ok (.string (txt t)) w.drew := c2 1
  have q1 : decide ((t.length : Int) ≤ (s.length : Int)) = true := decide_eq_true (by omega)
  have q2 : ((txt t).toList == (txt t).toList) = true := by simp
  have z0 : (0 : Int) ≤ (t.length : Int) := by omega
  have z1 : (t.length : Int) ≤ (c : Int) := by omega
  clear hA hB h hlt
  generalize t.length = n at *
  go_enter Try.func25, Try.ntmps25
  go_wp2_with fail
  go_quiet (fail)
  go_wp2
  go_ret
  exact ⟨rfl, ⟨rfl, rfl, rfl, Nat.le_refl _, fun _ _ => rfl⟩⟩
end Go.Proofs.Ytnkbehjjblmihaa
