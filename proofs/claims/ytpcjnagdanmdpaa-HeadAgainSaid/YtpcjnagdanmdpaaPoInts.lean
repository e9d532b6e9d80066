/- Rows of whole numbers (int): that stand at an address, that are the call's own; append, writing over; how a law's argument of that type is opened. -/
import Derived.Test.YtpcjnagdanmdpaaRowsG
import Derived.Test.YtpcjnagdanmdpaaInts
import Derived.BigQuiet
import Derived.Deep.DeepCutAuto
import Derived.Deep.RegionLaw
import Derived.Deep.RegionHeld3
namespace Go.Proofs.Ytpcjnagdanmdpaa
open Go.ChangeShapes Go.WideShapes Go.ChangeAt Go.RowKit Go.Joins Go.Maps
set_option linter.unusedVariables false
def intE (n : Int) : List Value := [.int .i64 n]
theorem intE_len (n : Int) : (intE n).length = 1 := rfl
def Zi (w : World) (A : Option Addr) (l : List Int) : Prop := At w A (l.flatMap intE)
theorem Zi.below {w w' : World} {A : Option Addr} {l : List Int} (h : Zi w A l) (hb : Below w.heap.size w w') : Zi w' A l := At.below h hb
theorem Zi.alloc {w : World} {A : Option Addr} {l : List Int} (h : Zi w A l) (o : Obj) : Zi (w.alloc o) A l := h.below (below_one w o)
theorem Zi.nil (w : World) (A : Option Addr) : Zi w A [] := .inl rfl
theorem Zi.at_ {w : World} {A : Option Addr} {l : List Int} (h : Zi w A l) {i : Nat} (hi : i < l.length) :
    ∃ b o, A = some ⟨b, o, none⟩ ∧ b < w.heap.size ∧ w.cell? ⟨b, o + i, none⟩ = some (.int .i64 (l.getD i 0)) := by
  have hlen := flat_len intE 1 intE_len l
  rcases h with h | ⟨b, o, rfl, hb, hc⟩
  · rw [h] at hlen; simp at hlen; omega
  · refine ⟨b, o, rfl, hb, ?_⟩
    have := hc (i * 1 + 0) _ (flat_get intE 1 intE_len l i _ 0 (getD_some l 0 hi) (by omega))
    rw [Nat.mul_one] at this
    exact this
theorem Zi.cell {w : World} {b o : Nat} {l : List Int} (h : Zi w (some ⟨b, o, none⟩) l) {i : Nat} (hi : i < l.length) : w.cell? ⟨b, o + i, none⟩ = some (.int .i64 (l.getD i 0)) := by
  obtain ⟨b', o', e, _, h2⟩ := h.at_ hi
  injection e with e
  injection e with e1 e2 _
  subst e1 e2
  exact h2
theorem zs_of {w : World} {A : Option Addr} {l : List Int} (h : Ints w A l) : Zi w A l := by
  rcases h with rfl | ⟨b, o, rfl, hb, hc⟩
  · exact .inl rfl
  · refine .inr ⟨b, o, rfl, hb, fun j u hj => ?_⟩
    have hlen := flat_len intE 1 intE_len l
    have hlt : j < l.length := by
      rcases Nat.lt_or_ge j (l.flatMap intE).length with h2 | h2
      · omega
      · rw [List.getElem?_eq_none h2] at hj; cases hj
    have e := flat_get intE 1 intE_len l j _ 0 (getD_some l 0 hlt) (by omega)
    rw [Nat.mul_one, Nat.add_zero, hj] at e
    rw [hc j hlt]
    exact e.symm
section
variable {w w' : World} {base : Nat} {v : Value} {l : List Int}
end
section
variable {H : Type} {enc : TypeId × Value → H} {W : World} {base : Nat} {sp : Nat → Bool} {held : Bool}
theorem open_zs {fuel : Nat} {v : Value} {x : DataW H × List MemPlace} (hf : DataW.trod enc Try.prog W base sp held fuel 28 [v] = some x) :
    ∃ (A : Option Addr) (l : List Int) (c : Nat), v = .slice A l.length c ∧ Zi W A l ∧ l.length ≤ c ∧ c ≤ maxLen ∧
      ((x.1 = .nil ∧ l = []) ∨ ∃ elems spare, x.1 = .slice elems spare ∧ elems.length = l.length) := by
  obtain ⟨A, l, c, h1, h2, h3, h4, h5⟩ := open_i64s hf
  exact ⟨A, l, c, h1, zs_of h2, h3, h4, h5⟩
theorem reach_zs {ts : List TypeId} {ds : List (DataW H)} (hsz : (DataW.weightsEach Try.prog ts ds).all (· ≤ reachBytes) = true) {j : Nat} {d : DataW H} {l : List Int} (ht : ts[j]? = some 28) (hd : ds[j]? = some d)
    (h : (d = .nil ∧ l = []) ∨ ∃ elems spare, d = .slice elems spare ∧ elems.length = l.length) : l.length ≤ 17592186043904 := by
  rcases h with ⟨_, rfl⟩ | ⟨el, spr, rfl, hel⟩
  · simp
  · have := sized_slice hsz ht hd Try.underlying28
    have hb : Try.prog.bytesOf 3 = 8 := by kernel_rfl
    rw [hb] at this
    have hr : reachBytes = 140737488351232 := rfl
    rw [hr] at this
    omega
end
end Go.Proofs.Ytpcjnagdanmdpaa
