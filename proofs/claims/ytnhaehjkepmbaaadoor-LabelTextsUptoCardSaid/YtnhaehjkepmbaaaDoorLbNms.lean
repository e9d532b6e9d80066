/- Rows of names: whether one is among them, as the program and as the document's own answer ask it; how a law's argument of that type is opened. -/
import Derived.Test.YtnhaehjkepmbaaaDoorLbCmp2
namespace Go.Proofs.YtnhaehjkepmbaaaDoor
open Go.ChangeShapes Go.WideShapes Go.ChangeAt Go.RowKit Go.Joins Go.Maps
set_option linter.unusedVariables false

theorem eqB (a b : ByteArray) : (a.toList == b.toList) = decide (a = b) := by
  rw [eq_cmp, decide_eq_decide, cmpB_cmp.zero]
def Nms (w : World) (V : Option Addr) (ns : List ByteArray) : Prop := At w V (ns.map Value.string)
theorem Nms.below {w w' : World} {V : Option Addr} {ns : List ByteArray} (h : Nms w V ns) (hb : Below w.heap.size w w') : Nms w' V ns := At.below h hb
theorem Nms.at_ {w : World} {V : Option Addr} {ns : List ByteArray} (h : Nms w V ns) {i : Nat} (hi : i < ns.length) :
    ∃ b o, V = some ⟨b, o, none⟩ ∧ b < w.heap.size ∧ w.cell? ⟨b, o + i, none⟩ = some (.string (ns.getD i ⟨#[]⟩)) := by
  rcases h with h | ⟨b, o, rfl, hb, hc⟩
  · have : ns = [] := by simpa using h
    rw [this] at hi; simp at hi
  · refine ⟨b, o, rfl, hb, hc i _ ?_⟩
    rw [List.getElem?_map, getD_some ns ⟨#[]⟩ hi]
    rfl
/-- Is s among them? -/
def lb_hasB (ns : List ByteArray) (s : ByteArray) : Bool := ns.any fun x => decide (x = s)
/-- Is s none of the first k? -/
theorem none_step {ns : List ByteArray} {s : ByteArray} {k : Nat} (h : ∀ j, j < k → ns.getD j ⟨#[]⟩ ≠ s) (h2 : ns.getD k ⟨#[]⟩ ≠ s) : ∀ j, j < k + 1 → ns.getD j ⟨#[]⟩ ≠ s := by
  intro j hj
  rcases Nat.lt_or_ge j k with h3 | h3
  · exact h j h3
  · rw [show j = k from by omega]; exact h2
theorem mem_at {ns : List ByteArray} {s : ByteArray} {k : Nat} (hk : k < ns.length) (h : ns.getD k ⟨#[]⟩ = s) : lb_hasB ns s = true := by
  unfold lb_hasB
  rw [List.any_eq_true]
  rw [getD_in ns _ hk] at h
  exact ⟨_, List.getElem_mem hk, by rw [h]; simp⟩
theorem mem_no {ns : List ByteArray} {s : ByteArray} (h : ∀ j, j < ns.length → ns.getD j ⟨#[]⟩ ≠ s) : lb_hasB ns s = false := by
  unfold lb_hasB
  rw [List.any_eq_false]
  intro x hx
  obtain ⟨j, hj, e⟩ := List.mem_iff_getElem.1 hx
  have := h j hj
  rw [getD_in ns _ hj, e] at this
  simpa using this

end Go.Proofs.YtnhaehjkepmbaaaDoor
