/- Numbers that are handed in: what the bound on the bulk gives for them. -/
import Derived.Test.YtiepepikbophmaaBulk
namespace Go.Proofs.Ytiepepikbophmaa
open Go.ChangeShapes Go.WideShapes Go.ChangeAt Go.RowKit Go.Joins
set_option linter.unusedVariables false
section
variable {H : Type}
theorem small_zs {l0 : List (DataW H)} (hk : Rows.uptoSmall H l0 = true) {j : Nat} {d : DataW H} {l : List Int} (hj : l0[j]? = some d) (h : (d = .nil ∧ l = []) ∨ ∃ elems spare, d = .slice elems spare ∧ elems.length = l.length) : l.length ≤ 1048576 := by
  have h1 := bulk_small hk
  have h2 := bulk_at hj
  rcases h with ⟨_, rfl⟩ | ⟨el, spr, rfl, hel⟩
  · simp
  · have h3 := bulk_count el
    simp only [Rows.uptoBulk] at h2
    omega
end
end Go.Proofs.Ytiepepikbophmaa
