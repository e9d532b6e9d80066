/- What the bound on the bulk of a law's arguments gives for each of them. For any seat. -/
import Derived.Test.YtnhaehjkepmbaaaDoorLtLotM
import Derived.Deep.CondSized
namespace Go.Proofs.YtnhaehjkepmbaaaDoor
open Go.ChangeShapes Go.WideShapes Go.ChangeAt Go.RowKit Go.Joins
set_option linter.unusedVariables false

section
variable {H : Type}
theorem bulk_one (d : DataW H) : 1 ≤ Rows.uptoBulk d := by
  cases d
  case lit l => cases l <;> simp [Rows.uptoBulk]
  all_goals simp [Rows.uptoBulk]
theorem bulk_count (l : List (DataW H)) : l.length ≤ Rows.uptoBulkAll l := by
  induction l with
  | nil => simp [Rows.uptoBulkAll]
  | cons d r ih =>
    have := bulk_one d
    simp only [Rows.uptoBulkAll, List.length_cons]
    omega
theorem bulk_at {l : List (DataW H)} {j : Nat} {d : DataW H} (h : l[j]? = some d) : Rows.uptoBulk d ≤ Rows.uptoBulkAll l := by
  induction l generalizing j with
  | nil => simp at h
  | cons x r ih =>
    simp only [Rows.uptoBulkAll]
    rcases j with _ | j
    · simp at h
      subst h
      omega
    · have := ih (j := j) (by simpa using h)
      omega
theorem bulk_small {l : List (DataW H)} (hk : Rows.uptoSmall H l = true) : Rows.uptoBulkAll l ≤ 1048576 := of_decide_eq_true hk
theorem small_u8s {l0 : List (DataW H)} (hk : Rows.uptoSmall H l0 = true) {j : Nat} {d : DataW H} {l : List UInt8} (hj : l0[j]? = some d) (h : (d = .nil ∧ l = []) ∨ ∃ elems spare, d = .slice elems spare ∧ elems.length = l.length) : l.length ≤ 1048576 := by
  have h1 := bulk_small hk
  have h2 := bulk_at hj
  rcases h with ⟨_, rfl⟩ | ⟨el, spr, rfl, hel⟩
  · simp
  · have h3 := bulk_count el
    simp only [Rows.uptoBulk] at h2
    omega
theorem small_str {l0 : List (DataW H)} (hk : Rows.uptoSmall H l0 = true) {j : Nat} {s : ByteArray} (hj : l0[j]? = some (.lit (.string s.data.toList))) : s.size ≤ 1048576 := by
  have h1 := bulk_small hk
  have h2 := bulk_at hj
  have h3 : s.data.toList.length = s.size := by
    show s.data.toList.length = s.data.size
    simp
  simp only [Rows.uptoBulk] at h2
  omega
end
end Go.Proofs.YtnhaehjkepmbaaaDoor
