/- How a law's calls (a struct of six cells, and a slice of such) are opened, with the reach that every row bears. -/
import Derived.Test.YtiepepikbophmaaInts
import Derived.Deep.Slices
import Derived.Deep.Strs
import Derived.Deep.Fields
import Derived.Lib.SmallJoins
namespace Go.Proofs.Ytiepepikbophmaa
open Go.ChangeShapes Go.WideShapes Go.ChangeAt Go.RowKit Go.Joins
set_option linter.unusedVariables false

theorem reach_is : reachBytes = 140737488351232 := rfl
structure ActV where
  kind : Int
  name : ByteArray
  to : ByteArray
  A : Option Addr
  b : List UInt8
  bc : Nat
  n : Int
  V : Option Addr
  ks : List Int
  kc : Nat
instance : Inhabited ActV := ⟨⟨0, ⟨#[]⟩, ⟨#[]⟩, none, [], 0, 0, none, [], 0⟩⟩
def actC (a : ActV) : List Value := [.int .i64 a.kind, .string a.name, .string a.to, .slice a.A a.b.length a.bc, .int .i64 a.n, .slice a.V a.ks.length a.kc]
structure ActOk (W : World) (a : ActV) : Prop where
  kind : -9223372036854775808 ≤ a.kind ∧ a.kind ≤ 9223372036854775807
  name : a.name.size ≤ 140737488351232
  to : a.to.size ≤ 140737488351232
  b : Bys W a.A a.b
  bl : a.b.length ≤ 140737488351232
  n : -9223372036854775808 ≤ a.n ∧ a.n ≤ 9223372036854775807
  ks : Ints W a.V a.ks
  kl : a.ks.length ≤ 17592186044416
  kb : ∀ i, i < a.ks.length → -9223372036854775808 ≤ a.ks.getD i 0 ∧ a.ks.getD i 0 ≤ 9223372036854775807
theorem ActOk.below {W W' : World} {a : ActV} (h : ActOk W a) (hb : Below W.heap.size W W') : ActOk W' a := ⟨h.kind, h.name, h.to, h.b.below hb, h.bl, h.n, h.ks.below hb, h.kl, h.kb⟩

section
variable {H : Type} {enc : TypeId × Value → H} {W : World} {base : Nat} {sp : Nat → Bool} {held : Bool}
theorem open_ks {fuel : Nat} {v : Value} {x : DataW H × List MemPlace} (hf : DataW.trod enc Try.prog W base sp held fuel 38 [v] = some x) :
    ∃ (A : Option Addr) (l : List Int) (c : Nat), v = .slice A l.length c ∧ Ints W A l ∧ (∀ i, i < l.length → -9223372036854775808 ≤ l.getD i 0 ∧ l.getD i 0 ≤ 9223372036854775807) ∧
      ((x.1 = .nil ∧ l = []) ∨ ∃ elems spare, x.1 = .slice elems spare ∧ elems.length = l.length) := by
  rcases open_ints Try.underlying38 Try.underlying3 (by kernel_rfl) hf with ⟨hcs, hx⟩ | ⟨a, len, cap, zs, hcs, _, hl, hm, hz, hx, hcell, hwz⟩
  · simp only [List.cons.injEq, and_true] at hcs
    subst hcs
    exact ⟨none, [], 0, rfl, .inl rfl, fun i hi => (by simp at hi), .inl ⟨by rw [hx], rfl⟩⟩
  · simp only [List.cons.injEq, and_true] at hcs
    subst hcs
    have hlz : len ≤ zs.length := by rw [hz]; split <;> omega
    have hll : (zs.take len).length = len := by simp; omega
    refine ⟨some a, zs.take len, cap, by rw [hll], ?_, ?_, .inr ⟨_, _, by rw [hx], by simp [lits]⟩⟩
    · rcases Nat.eq_zero_or_pos len with h0 | h0
      · exact .inl (List.eq_nil_of_length_eq_zero (by rw [hll]; exact h0))
      · obtain ⟨b, off, spot⟩ := a
        have hc := hcell 0 (by omega)
        have hspot : spot = none := by simpa [Addr.add] using World.cell?_spot hc
        subst hspot
        have hc0 : W.cell? ⟨b, off, none⟩ = some (.int .i64 (zs.getD 0 0)) := by simpa [Addr.add] using hc
        refine .inr ⟨b, off, rfl, cell_lt hc0, fun i hi => ?_⟩
        rw [hll] at hi
        have hci := hcell i (by omega)
        rw [add_at] at hci
        rw [hci]
        congr 2
        rw [getD_in zs 0 (by omega), getD_in (zs.take len) 0 (by rw [hll]; exact hi), List.getElem_take]
    · intro i hi
      rw [getD_in (zs.take len) 0 hi, List.getElem_take]
      exact bounds_i64 (hwz _ (List.getElem_mem _))
theorem trod_struct6 {P : Program} {w : World} {t : TypeId} {f0 f1 f2 f3 f4 f5 : Field} {fuel : Nat} {cs : List Value} {x : DataW H × List MemPlace} (ht : P.underlying t = some (.struct #[f0, f1, f2, f3, f4, f5])) (h : DataW.trod enc P w base sp held fuel t cs = some x) :
    ∃ y0 y1 y2 y3 y4 y5 n, x.1 = .agg [y0.1, y1.1, y2.1, y3.1, y4.1, y5.1] ∧ cs.length = P.cellsOf t ∧ DataW.trod enc P w base sp held n f0.type ((cs.drop f0.offset).take (P.cellsOf f0.type)) = some y0 ∧
      DataW.trod enc P w base sp held n f1.type ((cs.drop f1.offset).take (P.cellsOf f1.type)) = some y1 ∧ DataW.trod enc P w base sp held n f2.type ((cs.drop f2.offset).take (P.cellsOf f2.type)) = some y2 ∧
      DataW.trod enc P w base sp held n f3.type ((cs.drop f3.offset).take (P.cellsOf f3.type)) = some y3 ∧ DataW.trod enc P w base sp held n f4.type ((cs.drop f4.offset).take (P.cellsOf f4.type)) = some y4 ∧ DataW.trod enc P w base sp held n f5.type ((cs.drop f5.offset).take (P.cellsOf f5.type)) = some y5 := by
  obtain ⟨xs, n, _, rfl, hl, hlen, hf⟩ := DataW.trod_struct ht h
  match xs, hlen with
  | [y0, y1, y2, y3, y4, y5], _ => exact ⟨y0, y1, y2, y3, y4, y5, n, by simp, hl, by simpa using hf 0 f0 rfl, by simpa using hf 1 f1 rfl, by simpa using hf 2 f2 rfl, by simpa using hf 3 f3 rfl, by simpa using hf 4 f4 rfl, by simpa using hf 5 f5 rfl⟩
theorem six {α : Type} {l : List α} (h : l.length = 6) : ∃ c0 c1 c2 c3 c4 c5, l = [c0, c1, c2, c3, c4, c5] := by
  match l, h with
  | [c0, c1, c2, c3, c4, c5], _ => exact ⟨c0, c1, c2, c3, c4, c5, rfl⟩
theorem act_cells : Try.prog.cellsOf 40 = 6 := by kernel_rfl
theorem act_one : ∃ f0 f1 f2 f3 f4 f5 : Field, Try.prog.underlying 40 = some (.struct #[f0, f1, f2, f3, f4, f5]) ∧ Go.Deep.oneCellFields Try.prog #[f0, f1, f2, f3, f4, f5] = true ∧ [f0.type, f1.type, f2.type, f3.type, f4.type, f5.type] = [3, 9, 9, 35, 3, 38] :=
  ⟨_, _, _, _, _, _, Try.underlying40, by kernel_rfl, rfl⟩
theorem open_act {fuel : Nat} {cs : List Value} {x : DataW H × List MemPlace} (h : DataW.trod enc Try.prog W base sp held fuel 40 cs = some x) (hw : ∀ n ∈ x.1.weights Try.prog 40, n ≤ reachBytes) : ∃ a : ActV, cs = actC a ∧ ActOk W a := by
  obtain ⟨f0, f1, f2, f3, f4, f5, hu, hone, hty⟩ := act_one
  simp only [List.cons.injEq, and_true] at hty
  obtain ⟨e0, e1, e2, e3, e4, e5⟩ := hty
  obtain ⟨y0, y1, y2, y3, y4, y5, n, hx, hl, h0, h1, h2, h3, h4, h5⟩ := trod_struct6 hu h
  rw [act_cells] at hl
  obtain ⟨c0, c1, c2, c3, c4, c5, rfl⟩ := six hl
  obtain ⟨o0, k0⟩ := Go.Deep.hone_of hone 0 f0 rfl
  obtain ⟨o1, k1⟩ := Go.Deep.hone_of hone 1 f1 rfl
  obtain ⟨o2, k2⟩ := Go.Deep.hone_of hone 2 f2 rfl
  obtain ⟨o3, k3⟩ := Go.Deep.hone_of hone 3 f3 rfl
  obtain ⟨o4, k4⟩ := Go.Deep.hone_of hone 4 f4 rfl
  obtain ⟨o5, k5⟩ := Go.Deep.hone_of hone 5 f5 rfl
  have h0' : DataW.trod enc Try.prog W base sp held n 3 [c0] = some y0 := by rw [← e0]; simpa [o0, k0] using h0
  have h1' : DataW.trod enc Try.prog W base sp held n 9 [c1] = some y1 := by rw [← e1]; simpa [o1, k1] using h1
  have h2' : DataW.trod enc Try.prog W base sp held n 9 [c2] = some y2 := by rw [← e2]; simpa [o2, k2] using h2
  have h3' : DataW.trod enc Try.prog W base sp held n 35 [c3] = some y3 := by rw [← e3]; simpa [o3, k3] using h3
  have h4' : DataW.trod enc Try.prog W base sp held n 3 [c4] = some y4 := by rw [← e4]; simpa [o4, k4] using h4
  have h5' : DataW.trod enc Try.prog W base sp held n 38 [c5] = some y5 := by rw [← e5]; simpa [o5, k5] using h5
  rw [hx] at hw
  have hwe : ∀ n ∈ DataW.weightsEach Try.prog [3, 9, 9, 35, 3, 38] [y0.1, y1.1, y2.1, y3.1, y4.1, y5.1], n ≤ reachBytes := by
    intro m hm
    refine hw m ?_
    unfold DataW.weights
    rw [hu]
    show m ∈ DataW.weightsEach Try.prog ([f0, f1, f2, f3, f4, f5].map (·.type)) _
    rw [show [f0, f1, f2, f3, f4, f5].map (fun x : Field => x.type) = [3, 9, 9, 35, 3, 38] from by simp [e0, e1, e2, e3, e4, e5]]
    exact hm
  have hsz : (DataW.weightsEach Try.prog [3, 9, 9, 35, 3, 38] [y0.1, y1.1, y2.1, y3.1, y4.1, y5.1]).all (· ≤ reachBytes) = true := List.all_eq_true.2 fun m hm => by simpa using hwe m hm
  obtain ⟨z0, g0, d0, w0⟩ := DataW.trod_int Try.underlying3 h0'
  obtain ⟨s1, g1, d1, _⟩ := DataW.trod_string Try.underlying9 h1'
  obtain ⟨s2, g2, d2, _⟩ := DataW.trod_string Try.underlying9 h2'
  obtain ⟨A3, l3, c3', g3, b3, _, _, d3⟩ := open_u8s h3'
  obtain ⟨z4, g4, d4, w4⟩ := DataW.trod_int Try.underlying3 h4'
  obtain ⟨V5, k5', c5', g5, b5, w5, d5⟩ := open_ks h5'
  have r1 := sized_string hsz (j := 1) rfl (bytes := s1.data.toList) (by rw [d1]; rfl)
  have r2 := sized_string hsz (j := 2) rfl (bytes := s2.data.toList) (by rw [d2]; rfl)
  have r3 := reach_u8s hsz (j := 3) rfl rfl d3
  have r5 := reach_i64s hsz (j := 5) rfl rfl d5
  simp only [List.cons.injEq, and_true] at g0 g1 g2 g4
  refine ⟨⟨z0, s1, s2, A3, l3, c3', z4, V5, k5', c5'⟩, ?_, bounds_i64 w0, ?_, ?_, b3, r3, bounds_i64 w4, b5, r5, w5⟩
  · rw [g0, g1, g2, g3, g4, g5]
    rfl
  · have : s1.data.toList.length = s1.size := Array.length_toList
    rw [reach_is] at r1
    show s1.size ≤ 140737488351232
    omega
  · have : s2.data.toList.length = s2.size := Array.length_toList
    rw [reach_is] at r2
    show s2.size ≤ 140737488351232
    omega

/-- Calls that stand in memory one behind the other. -/
def Acts (W : World) (V : Option Addr) (ac : List ActV) : Prop :=
  ac = [] ∨ ∃ b o, V = some ⟨b, o, none⟩ ∧ b < W.heap.size ∧ ∀ i, i < ac.length → ActOk W (ac.getD i default) ∧ ∀ j v, (actC (ac.getD i default))[j]? = some v → W.cell? ⟨b, o + i * 6 + j, none⟩ = some v
theorem weights_all {P : Program} {e : TypeId} : ∀ {ds : List (DataW H)} {d : DataW H}, d ∈ ds → ∀ n ∈ d.weights P e, n ∈ DataW.weightsAll P e ds := by
  intro ds
  induction ds with
  | nil => intro d h; cases h
  | cons x r ih =>
    intro d h n hn
    simp only [DataW.weightsAll, List.mem_append]
    rcases List.mem_cons.1 h with rfl | h
    · exact .inl hn
    · exact .inr (ih h n hn)
theorem open_acts {fuel : Nat} {v : Value} {x : DataW H × List MemPlace} (hf : DataW.trod enc Try.prog W base sp held fuel 22 [v] = some x) (hw : ∀ n ∈ x.1.weights Try.prog 22, n ≤ reachBytes) :
    ∃ (V : Option Addr) (ac : List ActV) (c : Nat), v = .slice V ac.length c ∧ Acts W V ac ∧ ac.length ≤ 140737488351232 ∧ ac.length ≤ c := by
  rcases Go.Deep.open_slice Try.underlying22 hf with ⟨hcs, hx⟩ | ⟨a, len, cap, m, n, D, Pl, hcs, hb, hl, hm, hmm, hx, hcell⟩
  · simp only [List.cons.injEq, and_true] at hcs
    subst hcs
    exact ⟨none, [], 0, rfl, .inl rfl, by simp, Nat.le_refl _⟩
  · simp only [List.cons.injEq, and_true] at hcs
    subst hcs
    rw [act_cells] at hcell
    have hml : len ≤ m := by rw [hmm]; split <;> omega
    rw [hx] at hw
    simp only [DataW.weights, Try.underlying22] at hw
    have hbytes : Try.prog.bytesOf 40 = 96 := by kernel_rfl
    have hlen96 := hw ((((List.range len).map D).length + ((List.range (m - len)).map fun j => D (len + j)).length) * Try.prog.bytesOf 40) (by simp)
    rw [hbytes] at hlen96
    simp only [List.length_map, List.length_range] at hlen96
    rw [reach_is] at hlen96
    have each : ∀ i, i < len → ∃ y : ActV, ActOk W y ∧ W.cells? base (a.add (i * 6)) 6 = some (actC y) := by
      intro i hi
      obtain ⟨cs', h1, h2⟩ := hcell i (by omega)
      obtain ⟨y, rfl, hy⟩ := open_act h2 (fun q hq => hw q (by
        simp only [List.mem_cons, List.mem_append]
        exact .inr (.inl (weights_all (List.mem_map.2 ⟨i, List.mem_range.2 hi, rfl⟩) q hq))))
      exact ⟨y, hy, h1⟩
    obtain ⟨y, hy⟩ := Go.Deep.choose_lt each
    have hlen : ((List.range len).map y).length = len := by simp
    have hget : ∀ i, i < len → ((List.range len).map y).getD i default = y i := by
      intro i hi
      simp [List.getD_eq_getElem?_getD, hi]
    refine ⟨some a, (List.range len).map y, cap, by rw [hlen], ?_, by rw [hlen]; omega, by rw [hlen]; exact hl⟩
    rcases Nat.eq_zero_or_pos len with h0 | h0
    · exact .inl (List.eq_nil_of_length_eq_zero (by rw [hlen]; exact h0))
    · obtain ⟨b, o, spot⟩ := a
      obtain ⟨_, hcs0⟩ := hy 0 h0
      obtain ⟨_, _, hc0⟩ := World.cells?_some hcs0
      have hc := hc0 0 (by omega)
      have hspot : spot = none := by
        have := World.cell?_spot (hc.trans rfl)
        simpa [Addr.add] using this
      subst hspot
      have hc00 : W.cell? ⟨b, o, none⟩ = some (.int .i64 (y 0).kind) := by
        have : (actC (y 0))[0]? = some (.int .i64 (y 0).kind) := rfl
        rw [this] at hc
        simpa [Addr.add] using hc
      refine .inr ⟨b, o, rfl, cell_lt hc00, fun i hi => ?_⟩
      rw [hlen] at hi
      rw [hget i hi]
      obtain ⟨hok, hcs⟩ := hy i hi
      refine ⟨hok, fun j v hj => ?_⟩
      obtain ⟨_, hl6, hcj⟩ := World.cells?_some hcs
      have hj6 : j < 6 := by
        have := (List.getElem?_eq_some_iff.1 hj).1
        rw [hl6] at this
        exact this
      have := hcj j hj6
      rw [hj, add_at, add_at] at this
      exact this
end
end Go.Proofs.Ytiepepikbophmaa
