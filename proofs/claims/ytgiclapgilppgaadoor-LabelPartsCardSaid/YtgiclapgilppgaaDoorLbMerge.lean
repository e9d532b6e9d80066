/- Two rows of labels merged: the map of the names that were taken, the closure that asks it, and what stays. -/
import Derived.Test.YtgiclapgilppgaaDoorLbPick2
import Derived.Maps.OwnSet
import Derived.Lib.SmallJoins
namespace Go.Proofs.YtgiclapgilppgaaDoor
open Go.RowKit Go.Maps
set_option linter.unusedVariables false

theorem lbl_mem (l : List Lbl) {k : Nat} (h : k < l.length) : (nmOf l k, vlOf l k) ∈ l := by
  have e : l[k] = (nmOf l k, vlOf l k) := by
    unfold nmOf vlOf
    rw [List.getD_eq_getElem?_getD, List.getElem?_eq_getElem h]
    rfl
  rw [← e]
  exact List.getElem_mem h
theorem keyed : Keyed Tryd.prog 9 := string_keyed Tryd.underlying9
theorem unit_zero (w : World) : (zeroValue 84).run Tryd.prog w = .ok (.agg #[]) w := by kernel_rfl
theorem key_str {s : ByteArray} (hs : s.size ≤ maxLen) : keyOf Tryd.prog 9 (.string s) = some (.string s.data.toList) := Go.WideMaps.keyOf_string_mk Tryd.underlying9 hs
/-- Block b is a set that holds no name but those of T. -/
def SetN (w : World) (b : Nat) (T : List ByteArray) : Prop :=
  ∃ (n : Nat) (D : DataW Unit), w.ownsMap Tryd.prog 9 unitElem b n D ∧ n ≤ T.length ∧ ∀ s : ByteArray, hasB T s = false → Go.Maps.has D (.string s.data.toList) = false
theorem SetN.below {w w' : World} {b : Nat} {T : List ByteArray} (h : SetN w b T) (hb : w'.heap[b]? = w.heap[b]?) : SetN w' b T := by
  obtain ⟨n, D, ⟨es, clock, h1, h2⟩, r⟩ := h
  exact ⟨n, D, ⟨es, clock, hb.trans h1, h2⟩, r⟩
theorem SetN.more {w : World} {b : Nat} {T T' : List ByteArray} (h : SetN w b T) (hl : T.length ≤ T'.length) (hT : ∀ s, hasB T' s = false → hasB T s = false) : SetN w b T' := by
  obtain ⟨n, D, h1, h2, h3⟩ := h
  exact ⟨n, D, h1, by omega, fun s hs => h3 s (hT s hs)⟩
theorem set_new {w : World} {b : Nat} (h : w.heap[b]? = some (.map #[] 0)) : SetN w b [] :=
  ⟨0, _, Go.Joins.ownsMap_empty h, Nat.zero_le _, fun s _ => rfl⟩
theorem set_look {w : World} {b : Nat} {T : List ByteArray} (h : SetN w b T) (s : ByteArray) (hs : s.size ≤ maxLen) (hT : hasB T s = false) :
    (Instr.lookup 83 (.map (some b)) (.string s) true).run Tryd.prog w = .ok (.tuple #[.agg #[], .bool false]) w := by
  obtain ⟨n, D, h1, _, h3⟩ := h
  obtain ⟨v, ps, hr, hv⟩ := h1.look_ok keyed Tryd.underlying83 (unit_zero w) unitElem_mk (key_str hs)
  obtain ⟨rfl, _⟩ := unitElem_inv hv
  rw [hr, h3 s hT]
end Go.Proofs.YtgiclapgilppgaaDoor
