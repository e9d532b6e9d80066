/- Rows of matchers (a number and two texts each): that stand at an address, that are the call's own; append of such a row to an own one; how a law's argument of that type is opened. -/
import Derived.Test.YtpcjnagdanmdpaaGreatMtMath
import Derived.Test.YtpcjnagdanmdpaaGreatLbRows
namespace Go.Proofs.YtpcjnagdanmdpaaGreat
open Go.ChangeShapes Go.WideShapes Go.ChangeAt Go.RowKit Go.Joins Go.Maps
set_option linter.unusedVariables false
def mtE (s : Mt) : List Value := [.int .i64 s.1, .string s.2.1, .string s.2.2]
theorem mtE_len (s : Mt) : (mtE s).length = 3 := rfl
def Mts (w : World) (A : Option Addr) (l : List Mt) : Prop := At w A (l.flatMap mtE)
theorem Mts.nil (w : World) (A : Option Addr) : Mts w A [] := .inl rfl
section
variable {w w' : World} {base : Nat} {v : Value} {l : List Mt}
end
/-! ### opening -/
/-- A matcher as it comes in: its number is one, its texts are no longer than a law's argument may be. -/
def MFit (m : Mt) : Prop := (-9223372036854775808 ≤ m.1 ∧ m.1 ≤ 9223372036854775807) ∧ m.2.1.size ≤ 140737488351232 ∧ m.2.2.size ≤ 140737488351232
def MFits (l : List Mt) : Prop := ∀ i, i < l.length → MFit (l.getD i mt0)
section
variable {H : Type} {enc : TypeId × Value → H} {W : World} {base : Nat} {sp : Nat → Bool} {held : Bool}
theorem trod_struct3 {P : Program} {w : World} {t : TypeId} {f0 f1 f2 : Field} {fuel : Nat} {cs : List Value} {x : DataW H × List MemPlace} (ht : P.underlying t = some (.struct #[f0, f1, f2])) (h : DataW.trod enc P w base sp held fuel t cs = some x) :
    ∃ y0 y1 y2 n, x.1 = .agg [y0.1, y1.1, y2.1] ∧ cs.length = P.cellsOf t ∧ DataW.trod enc P w base sp held n f0.type ((cs.drop f0.offset).take (P.cellsOf f0.type)) = some y0 ∧
      DataW.trod enc P w base sp held n f1.type ((cs.drop f1.offset).take (P.cellsOf f1.type)) = some y1 ∧ DataW.trod enc P w base sp held n f2.type ((cs.drop f2.offset).take (P.cellsOf f2.type)) = some y2 := by
  obtain ⟨xs, n, _, rfl, hl, hlen, hf⟩ := DataW.trod_struct ht h
  match xs, hlen with
  | [y0, y1, y2], _ => exact ⟨y0, y1, y2, n, by simp, hl, by simpa using hf 0 f0 rfl, by simpa using hf 1 f1 rfl, by simpa using hf 2 f2 rfl⟩
theorem three_of {α : Type} {l : List α} (h : l.length = 3) : ∃ c0 c1 c2, l = [c0, c1, c2] := by
  match l, h with
  | [c0, c1, c2], _ => exact ⟨c0, c1, c2, rfl⟩
theorem mt_cells : Tryz.prog.cellsOf 107 = 3 := by kernel_rfl
theorem mt_three : ∃ f0 f1 f2 : Field, Tryz.prog.underlying 107 = some (.struct #[f0, f1, f2]) ∧ Go.Deep.oneCellFields Tryz.prog #[f0, f1, f2] = true ∧ [f0.type, f1.type, f2.type] = [3, 9, 9] :=
  ⟨_, _, _, Tryz.underlying107, by kernel_rfl, rfl⟩
theorem open_mt {fuel : Nat} {cs : List Value} {x : DataW H × List MemPlace} (h : DataW.trod enc Tryz.prog W base sp held fuel 107 cs = some x) (hw : ∀ n ∈ x.1.weights Tryz.prog 107, n ≤ reachBytes) : ∃ s : Mt, cs = mtE s ∧ MFit s := by
  obtain ⟨f0, f1, f2, hu, hone, hty⟩ := mt_three
  simp only [List.cons.injEq, and_true] at hty
  obtain ⟨e0, e1, e2⟩ := hty
  obtain ⟨y0, y1, y2, n, hx, hl, h0, h1, h2⟩ := trod_struct3 hu h
  rw [mt_cells] at hl
  obtain ⟨c0, c1, c2, rfl⟩ := three_of hl
  obtain ⟨o0, k0⟩ := Go.Deep.hone_of hone 0 f0 rfl
  obtain ⟨o1, k1⟩ := Go.Deep.hone_of hone 1 f1 rfl
  obtain ⟨o2, k2⟩ := Go.Deep.hone_of hone 2 f2 rfl
  have h0' : DataW.trod enc Tryz.prog W base sp held n 3 [c0] = some y0 := by rw [← e0]; simpa [o0, k0] using h0
  have h1' : DataW.trod enc Tryz.prog W base sp held n 9 [c1] = some y1 := by rw [← e1]; simpa [o1, k1] using h1
  have h2' : DataW.trod enc Tryz.prog W base sp held n 9 [c2] = some y2 := by rw [← e2]; simpa [o2, k2] using h2
  have hwe : ∀ n ∈ DataW.weightsEach Tryz.prog [3, 9, 9] [y0.1, y1.1, y2.1], n ≤ reachBytes := by
    intro m hm
    refine hw m ?_
    rw [hx]
    unfold DataW.weights
    rw [hu]
    show m ∈ DataW.weightsEach Tryz.prog ([f0, f1, f2].map (·.type)) _
    rw [show [f0, f1, f2].map (fun x : Field => x.type) = [3, 9, 9] from by simp [e0, e1, e2]]
    exact hm
  have hsz : (DataW.weightsEach Tryz.prog [3, 9, 9] [y0.1, y1.1, y2.1]).all (· ≤ reachBytes) = true := List.all_eq_true.2 fun m hm => by simpa using hwe m hm
  obtain ⟨z0, g0, d0, w0⟩ := DataW.trod_int Tryz.underlying3 h0'
  obtain ⟨s1, g1, d1, _⟩ := DataW.trod_string Tryz.underlying9 h1'
  obtain ⟨s2, g2, d2, _⟩ := DataW.trod_string Tryz.underlying9 h2'
  simp only [List.cons.injEq, and_true] at g0 g1 g2
  subst g0 g1 g2
  have r1 := sized_string hsz (j := 1) rfl (bytes := s1.data.toList) (by rw [d1]; rfl)
  have r2 := sized_string hsz (j := 2) rfl (bytes := s2.data.toList) (by rw [d2]; rfl)
  rw [reach_is] at r1 r2
  refine ⟨(z0, s1, s2), rfl, bounds_i64 w0, ?_, ?_⟩
  · have : s1.data.toList.length = s1.size := Array.length_toList
    show s1.size ≤ 140737488351232
    omega
  · have : s2.data.toList.length = s2.size := Array.length_toList
    show s2.size ≤ 140737488351232
    omega
theorem open_mts {fuel : Nat} {v : Value} {x : DataW H × List MemPlace} (hf : DataW.trod enc Tryz.prog W base sp held fuel 23 [v] = some x) (hw : ∀ n ∈ x.1.weights Tryz.prog 23, n ≤ reachBytes) :
    ∃ (V : Option Addr) (l : List Mt) (c : Nat), v = .slice V l.length c ∧ Mts W V l ∧ MFits l ∧ l.length * 40 ≤ 140737488351232 ∧ l.length ≤ c := by
  rcases Go.Deep.open_slice Tryz.underlying23 hf with ⟨hcs, hx⟩ | ⟨a, len, cap, m, n, D, Pl, hcs, hb, hl, hm, hmm, hx, hcell⟩
  · simp only [List.cons.injEq, and_true] at hcs
    subst hcs
    exact ⟨none, [], 0, rfl, .inl rfl, fun i hi => by simp at hi, by simp, Nat.le_refl _⟩
  · simp only [List.cons.injEq, and_true] at hcs
    subst hcs
    rw [mt_cells] at hcell
    have hml : len ≤ m := by rw [hmm]; split <;> omega
    rw [hx] at hw
    simp only [DataW.weights, Tryz.underlying23] at hw
    have hbytes : Tryz.prog.bytesOf 107 = 40 := by kernel_rfl
    have hlen40 := hw ((((List.range len).map D).length + ((List.range (m - len)).map fun j => D (len + j)).length) * Tryz.prog.bytesOf 107) (by simp)
    rw [hbytes] at hlen40
    simp only [List.length_map, List.length_range] at hlen40
    rw [reach_is] at hlen40
    have each : ∀ i, i < len → ∃ y : Mt, MFit y ∧ W.cells? base (a.add (i * 3)) 3 = some (mtE y) := by
      intro i hi
      obtain ⟨cs', h1, h2⟩ := hcell i (by omega)
      obtain ⟨y, rfl, hy⟩ := open_mt h2 (fun q hq => hw q (by
        simp only [List.mem_cons, List.mem_append]
        exact .inr (.inl (weights_all (List.mem_map.2 ⟨i, List.mem_range.2 hi, rfl⟩) q hq))))
      exact ⟨y, hy, h1⟩
    obtain ⟨y, hy⟩ := Go.Deep.choose_lt each
    have hlen : ((List.range len).map y).length = len := by simp
    have hget : ∀ i, i < len → ((List.range len).map y).getD i mt0 = y i := by
      intro i hi
      simp [List.getD_eq_getElem?_getD, hi]
    refine ⟨some a, (List.range len).map y, cap, by rw [hlen], ?_, ?_, by rw [hlen]; omega, by rw [hlen]; exact hl⟩
    · rcases Nat.eq_zero_or_pos len with h0 | h0
      · have : (List.range len).map y = [] := List.eq_nil_of_length_eq_zero (by rw [hlen]; exact h0)
        rw [this]
        exact Mts.nil _ _
      · obtain ⟨b, o, spot⟩ := a
        obtain ⟨_, hcs0⟩ := hy 0 h0
        obtain ⟨_, _, hc0⟩ := World.cells?_some hcs0
        have hc := hc0 0 (by omega)
        have hspot : spot = none := by
          have := World.cell?_spot (hc.trans rfl)
          simpa [Addr.add] using this
        subst hspot
        have hc00 : W.cell? ⟨b, o, none⟩ = some (.int .i64 (y 0).1) := by
          have : (mtE (y 0))[0]? = some (.int .i64 (y 0).1) := rfl
          rw [this] at hc
          simpa [Addr.add] using hc
        refine .inr ⟨b, o, rfl, cell_lt hc00, fun j u hj => ?_⟩
        have hj2 : j < len * 3 := by
          have := (List.getElem?_eq_some_iff.1 hj).1
          rw [flat_len mtE 3 mtE_len, hlen] at this
          exact this
        have hi : j / 3 < len := by omega
        obtain ⟨_, hcs⟩ := hy (j / 3) hi
        obtain ⟨_, _, hcj⟩ := World.cells?_some hcs
        have h1 := hcj (j % 3) (by omega)
        rw [add_at, add_at] at h1
        have h2 := flat_get mtE 3 mtE_len ((List.range len).map y) (j / 3) _ (j % 3) (getD_some _ mt0 (by rw [hlen]; exact hi)) (by omega)
        rw [hget _ hi, show j / 3 * 3 + j % 3 = j from by omega, hj] at h2
        rw [← h2, show o + j / 3 * 3 + j % 3 = o + j from by omega] at h1
        exact h1
    · intro i hi
      rw [hlen] at hi
      rw [hget i hi]
      exact (hy i hi).1
end
end Go.Proofs.YtpcjnagdanmdpaaGreat
