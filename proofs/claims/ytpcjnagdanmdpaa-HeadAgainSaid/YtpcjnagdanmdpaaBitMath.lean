/- Plain mathematics of rows of bits laid down in bytes: no program in sight. -/
import Derived.Laws.BitsAllLaws
namespace Go.Proofs.Ytpcjnagdanmdpaa
theorem getD_in {α : Type} (l : List α) (d : α) {i : Nat} (h : i < l.length) : l.getD i d = l[i] := by
  rw [List.getD_eq_getElem?_getD, List.getElem?_eq_getElem h]
  rfl
end Go.Proofs.Ytpcjnagdanmdpaa
