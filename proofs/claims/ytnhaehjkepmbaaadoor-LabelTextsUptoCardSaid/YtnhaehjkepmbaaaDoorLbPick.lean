/- Labels by their names: found, kept and dropped, as the program and as the document's own answer do it. -/
import Derived.Test.YtnhaehjkepmbaaaDoorLbNms
namespace Go.Proofs.YtnhaehjkepmbaaaDoor
open Go.RowKit Go.Maps
set_option linter.unusedVariables false

theorem take_filter (l : List Lbl) (st : Lbl → Bool) {k : Nat} (h : k < l.length) : (l.take (k + 1)).filter st = (l.take k).filter st ++ (if st (nmOf l k, vlOf l k) = true then [(nmOf l k, vlOf l k)] else []) := by
  rw [List.take_succ_eq_append_getElem h, List.filter_append]
  congr 1
  have e : l[k] = (nmOf l k, vlOf l k) := by
    unfold nmOf vlOf
    rw [List.getD_eq_getElem?_getD, List.getElem?_eq_getElem h]
    rfl
  rw [e, List.filter_cons, List.filter_nil]
theorem take_filter_len (l : List Lbl) (st : Lbl → Bool) (k : Nat) : ((l.take k).filter st).length ≤ k := by
  have h1 := List.length_filter_le st (l.take k)
  rw [List.length_take] at h1
  omega
def getF (l : List Lbl) (name : ByteArray) : Nat → Nat → ByteArray
  | 0, _ => ⟨#[]⟩
  | n + 1, k => if nmOf l k = name then vlOf l k else getF l name n (k + 1)
theorem ret_str {a b : ByteArray} (h : a = b) : Ending.returned (.string a) = .returned (.string b) := by rw [h]
end Go.Proofs.YtnhaehjkepmbaaaDoor
