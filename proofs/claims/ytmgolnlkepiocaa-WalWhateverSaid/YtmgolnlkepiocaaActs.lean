/- How a law's calls (a struct of six cells, and a slice of such) are opened, with the reach that every row bears. -/
import Derived.Test.YtmgolnlkepiocaaWaLotC
import Derived.Deep.Slices
import Derived.Deep.Strs
import Derived.Deep.Fields
import Derived.Lib.SmallJoins
namespace Go.Proofs.Ytmgolnlkepiocaa
open Go.ChangeShapes Go.WideShapes Go.ChangeAt Go.RowKit Go.Joins
set_option linter.unusedVariables false

theorem reach_is : reachBytes = 140737488351232 := rfl
structure ActV where
  kind : Int
  name : ByteArray
  to : ByteArray
  A : Option Addr
  b : List UInt8
  bc : Nat
  n : Int
  V : Option Addr
  ks : List Int
  kc : Nat
instance : Inhabited ActV := ⟨⟨0, ⟨#[]⟩, ⟨#[]⟩, none, [], 0, 0, none, [], 0⟩⟩
def actC (a : ActV) : List Value := [.int .i64 a.kind, .string a.name, .string a.to, .slice a.A a.b.length a.bc, .int .i64 a.n, .slice a.V a.ks.length a.kc]
structure ActOk (W : World) (a : ActV) : Prop where
  kind : -9223372036854775808 ≤ a.kind ∧ a.kind ≤ 9223372036854775807
  name : a.name.size ≤ 140737488351232
  to : a.to.size ≤ 140737488351232
  b : Bys W a.A a.b
  bl : a.b.length ≤ 140737488351232
  n : -9223372036854775808 ≤ a.n ∧ a.n ≤ 9223372036854775807
  ks : Ints W a.V a.ks
  kl : a.ks.length ≤ 17592186044416
  kb : ∀ i, i < a.ks.length → -9223372036854775808 ≤ a.ks.getD i 0 ∧ a.ks.getD i 0 ≤ 9223372036854775807
theorem ActOk.below {W W' : World} {a : ActV} (h : ActOk W a) (hb : Below W.heap.size W W') : ActOk W' a := ⟨h.kind, h.name, h.to, h.b.below hb, h.bl, h.n, h.ks.below hb, h.kl, h.kb⟩

section
variable {H : Type} {enc : TypeId × Value → H} {W : World} {base : Nat} {sp : Nat → Bool} {held : Bool}
theorem open_ks {fuel : Nat} {v : Value} {x : DataW H × List MemPlace} (hf : DataW.trod enc Try.prog W base sp held fuel 24 [v] = some x) :
    ∃ (A : Option Addr) (l : List Int) (c : Nat), v = .slice A l.length c ∧ Ints W A l ∧ (∀ i, i < l.length → -9223372036854775808 ≤ l.getD i 0 ∧ l.getD i 0 ≤ 9223372036854775807) ∧
      ((x.1 = .nil ∧ l = []) ∨ ∃ elems spare, x.1 = .slice elems spare ∧ elems.length = l.length) := by
  rcases open_ints Try.underlying24 Try.underlying3 (by kernel_rfl) hf with ⟨hcs, hx⟩ | ⟨a, len, cap, zs, hcs, _, hl, hm, hz, hx, hcell, hwz⟩
  · simp only [List.cons.injEq, and_true] at hcs
    subst hcs
    exact ⟨none, [], 0, rfl, .inl rfl, fun i hi => (by simp at hi), .inl ⟨by rw [hx], rfl⟩⟩
  · simp only [List.cons.injEq, and_true] at hcs
    subst hcs
    have hlz : len ≤ zs.length := by rw [hz]; split <;> omega
    have hll : (zs.take len).length = len := by simp; omega
    refine ⟨some a, zs.take len, cap, by rw [hll], ?_, ?_, .inr ⟨_, _, by rw [hx], by simp [lits]⟩⟩
    · rcases Nat.eq_zero_or_pos len with h0 | h0
      · exact .inl (List.eq_nil_of_length_eq_zero (by rw [hll]; exact h0))
      · obtain ⟨b, off, spot⟩ := a
        have hc := hcell 0 (by omega)
        have hspot : spot = none := by simpa [Addr.add] using World.cell?_spot hc
        subst hspot
        have hc0 : W.cell? ⟨b, off, none⟩ = some (.int .i64 (zs.getD 0 0)) := by simpa [Addr.add] using hc
        refine .inr ⟨b, off, rfl, cell_lt hc0, fun i hi => ?_⟩
        rw [hll] at hi
        have hci := hcell i (by omega)
        rw [add_at] at hci
        rw [hci]
        congr 2
        rw [getD_in zs 0 (by omega), getD_in (zs.take len) 0 (by rw [hll]; exact hi), List.getElem_take]
    · intro i hi
      rw [getD_in (zs.take len) 0 hi, List.getElem_take]
      exact bounds_i64 (hwz _ (List.getElem_mem _))
theorem trod_struct6 {P : Program} {w : World} {t : TypeId} {f0 f1 f2 f3 f4 f5 : Field} {fuel : Nat} {cs : List Value} {x : DataW H × List MemPlace} (ht : P.underlying t = some (.struct #[f0, f1, f2, f3, f4, f5])) (h : DataW.trod enc P w base sp held fuel t cs = some x) :
    ∃ y0 y1 y2 y3 y4 y5 n, x.1 = .agg [y0.1, y1.1, y2.1, y3.1, y4.1, y5.1] ∧ cs.length = P.cellsOf t ∧ DataW.trod enc P w base sp held n f0.type ((cs.drop f0.offset).take (P.cellsOf f0.type)) = some y0 ∧
      DataW.trod enc P w base sp held n f1.type ((cs.drop f1.offset).take (P.cellsOf f1.type)) = some y1 ∧ DataW.trod enc P w base sp held n f2.type ((cs.drop f2.offset).take (P.cellsOf f2.type)) = some y2 ∧
      DataW.trod enc P w base sp held n f3.type ((cs.drop f3.offset).take (P.cellsOf f3.type)) = some y3 ∧ DataW.trod enc P w base sp held n f4.type ((cs.drop f4.offset).take (P.cellsOf f4.type)) = some y4 ∧ DataW.trod enc P w base sp held n f5.type ((cs.drop f5.offset).take (P.cellsOf f5.type)) = some y5 := by
  obtain ⟨xs, n, _, rfl, hl, hlen, hf⟩ := DataW.trod_struct ht h
  match xs, hlen with
  | [y0, y1, y2, y3, y4, y5], _ => exact ⟨y0, y1, y2, y3, y4, y5, n, by simp, hl, by simpa using hf 0 f0 rfl, by simpa using hf 1 f1 rfl, by simpa using hf 2 f2 rfl, by simpa using hf 3 f3 rfl, by simpa using hf 4 f4 rfl, by simpa using hf 5 f5 rfl⟩
theorem six {α : Type} {l : List α} (h : l.length = 6) : ∃ c0 c1 c2 c3 c4 c5, l = [c0, c1, c2, c3, c4, c5] := by
  match l, h with
  | [c0, c1, c2, c3, c4, c5], _ => exact ⟨c0, c1, c2, c3, c4, c5, rfl⟩
/-- Calls that stand in memory one behind the other. -/
def Acts (W : World) (V : Option Addr) (ac : List ActV) : Prop :=
  ac = [] ∨ ∃ b o, V = some ⟨b, o, none⟩ ∧ b < W.heap.size ∧ ∀ i, i < ac.length → ActOk W (ac.getD i default) ∧ ∀ j v, (actC (ac.getD i default))[j]? = some v → W.cell? ⟨b, o + i * 6 + j, none⟩ = some v
theorem weights_all {P : Program} {e : TypeId} : ∀ {ds : List (DataW H)} {d : DataW H}, d ∈ ds → ∀ n ∈ d.weights P e, n ∈ DataW.weightsAll P e ds := by
  intro ds
  induction ds with
  | nil => intro d h; cases h
  | cons x r ih =>
    intro d h n hn
    simp only [DataW.weightsAll, List.mem_append]
    rcases List.mem_cons.1 h with rfl | h
    · exact .inl hn
    · exact .inr (ih h n hn)
end
end Go.Proofs.Ytmgolnlkepiocaa
