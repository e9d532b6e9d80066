/- How a law's arguments of records are opened: a record, a row of records. -/
import Derived.Test.YtpcjnagdanmdpaaGreatHdLotH
namespace Go.Proofs.YtpcjnagdanmdpaaGreat
open Go.ChangeShapes Go.WideShapes Go.ChangeAt Go.RowKit Go.Joins Go.Maps
set_option linter.unusedVariables false
instance : Inhabited Pl := ⟨pl0⟩
theorem wa_three_of {α : Type} {l : List α} (h : l.length = 3) : ∃ c0 c1 c2, l = [c0, c1, c2] := by
  match l, h with
  | [c0, c1, c2], _ => exact ⟨c0, c1, c2, rfl⟩
theorem six_of {α : Type} {l : List α} (h : l.length = 6) : ∃ c0 c1 c2 c3 c4 c5, l = [c0, c1, c2, c3, c4, c5] := by
  match l, h with
  | [c0, c1, c2, c3, c4, c5], _ => exact ⟨c0, c1, c2, c3, c4, c5, rfl⟩
section
variable {H : Type} {enc : TypeId × Value → H} {W : World} {base : Nat} {sp : Nat → Bool} {held : Bool}
theorem smp_cells : Tryz.prog.cellsOf 68 = 2 := by kernel_rfl
theorem row_cells3 : Tryz.prog.cellsOf 70 = 3 := by kernel_rfl
theorem rec_cells6 : Tryz.prog.cellsOf 33 = 6 := by kernel_rfl
theorem smp_form : ∃ f0 f1 : Field, Tryz.prog.underlying 68 = some (.struct #[f0, f1]) ∧ [f0.type, f1.type] = [3, 3] ∧ [f0.offset, f1.offset] = [0, 1] := ⟨_, _, Tryz.underlying68, rfl, rfl⟩
theorem row_form : ∃ f0 f1 : Field, Tryz.prog.underlying 70 = some (.struct #[f0, f1]) ∧ [f0.type, f1.type] = [3, 68] ∧ [f0.offset, f1.offset] = [0, 1] := ⟨_, _, Tryz.underlying70, rfl, rfl⟩
theorem int_cells : Tryz.prog.cellsOf 3 = 1 := by kernel_rfl
theorem open_smp2 {fuel : Nat} {cs : List Value} {x : DataW H × List MemPlace} (h : DataW.trod enc Tryz.prog W base sp held fuel 68 cs = some x) : ∃ t v : Int, cs = [.int .i64 t, .int .i64 v] := by
  obtain ⟨f0, f1, hu, hty, hof⟩ := smp_form
  simp only [List.cons.injEq, and_true] at hty hof
  obtain ⟨y0, y1, n, hx, hl, h0, h1⟩ := trod_struct2 hu h
  rw [smp_cells] at hl
  obtain ⟨c0, c1, rfl⟩ := two_of hl
  rw [hty.1, hof.1, int_cells] at h0
  rw [hty.2, hof.2, int_cells] at h1
  obtain ⟨z0, g0, _, _⟩ := DataW.trod_int Tryz.underlying3 h0
  obtain ⟨z1, g1, _, _⟩ := DataW.trod_int Tryz.underlying3 h1
  simp at g0 g1
  exact ⟨z0, z1, by rw [g0, g1]⟩
theorem open_wrow {fuel : Nat} {cs : List Value} {x : DataW H × List MemPlace} (h : DataW.trod enc Tryz.prog W base sp held fuel 70 cs = some x) : ∃ s : Wrow, cs = wrowE s := by
  obtain ⟨f0, f1, hu, hty, hof⟩ := row_form
  simp only [List.cons.injEq, and_true] at hty hof
  obtain ⟨y0, y1, n, hx, hl, h0, h1⟩ := trod_struct2 hu h
  rw [row_cells3] at hl
  obtain ⟨c0, c1, c2, rfl⟩ := wa_three_of hl
  rw [hty.1, hof.1, int_cells] at h0
  rw [hty.2, hof.2, smp_cells] at h1
  obtain ⟨z0, g0, _, _⟩ := DataW.trod_int Tryz.underlying3 h0
  obtain ⟨t, v, g1⟩ := open_smp2 h1
  simp at g0 g1
  exact ⟨(z0, t, v), by rw [g0, g1.1, g1.2]; rfl⟩
theorem open_wrows {fuel : Nat} {v : Value} {x : DataW H × List MemPlace} (hf : DataW.trod enc Tryz.prog W base sp held fuel 30 [v] = some x) (hw : ∀ n ∈ x.1.weights Tryz.prog 30, n ≤ reachBytes) :
    ∃ (V : Option Addr) (l : List Wrow) (c : Nat), v = .slice V l.length c ∧ Wrows W V l ∧ l.length * 24 ≤ 140737488351232 ∧ l.length ≤ c := by
  rcases Go.Deep.open_slice Tryz.underlying30 hf with ⟨hcs, hx⟩ | ⟨a, len, cap, m, n, D, Pl, hcs, hb, hl, hm, hmm, hx, hcell⟩
  · simp only [List.cons.injEq, and_true] at hcs
    subst hcs
    exact ⟨none, [], 0, rfl, .inl rfl, by simp, Nat.le_refl _⟩
  · simp only [List.cons.injEq, and_true] at hcs
    subst hcs
    rw [row_cells3] at hcell
    have hml : len ≤ m := by rw [hmm]; split <;> omega
    rw [hx] at hw
    simp only [DataW.weights, Tryz.underlying30] at hw
    have hbytes : Tryz.prog.bytesOf 70 = 24 := by kernel_rfl
    have hlen24 := hw ((((List.range len).map D).length + ((List.range (m - len)).map fun j => D (len + j)).length) * Tryz.prog.bytesOf 70) (by simp)
    rw [hbytes] at hlen24
    simp only [List.length_map, List.length_range] at hlen24
    rw [reach_is] at hlen24
    have each : ∀ i, i < len → ∃ y : Wrow, W.cells? base (a.add (i * 3)) 3 = some (wrowE y) := by
      intro i hi
      obtain ⟨cs', h1, h2⟩ := hcell i (by omega)
      obtain ⟨y, rfl⟩ := open_wrow h2
      exact ⟨y, h1⟩
    obtain ⟨y, hy⟩ := Go.Deep.choose_lt each
    have hlen : ((List.range len).map y).length = len := by simp
    have hget : ∀ i, i < len → ((List.range len).map y).getD i wrow0 = y i := by
      intro i hi
      simp [List.getD_eq_getElem?_getD, hi]
    refine ⟨some a, (List.range len).map y, cap, by rw [hlen], ?_, by rw [hlen]; omega, by rw [hlen]; exact hl⟩
    rcases Nat.eq_zero_or_pos len with h0 | h0
    · have : (List.range len).map y = [] := List.eq_nil_of_length_eq_zero (by rw [hlen]; exact h0)
      rw [this]
      exact Wrows.nil _ _
    · obtain ⟨b, o, spot⟩ := a
      have hcs0 := hy 0 h0
      obtain ⟨_, _, hc0⟩ := World.cells?_some hcs0
      have hc := hc0 0 (by omega)
      have hspot : spot = none := by
        have := World.cell?_spot (hc.trans rfl)
        simpa [Addr.add] using this
      subst hspot
      have hc00 : W.cell? ⟨b, o, none⟩ = some (.int .i64 (y 0).1) := by
        have : (wrowE (y 0))[0]? = some (.int .i64 (y 0).1) := rfl
        rw [this] at hc
        simpa [Addr.add] using hc
      refine .inr ⟨b, o, rfl, cell_lt hc00, fun j u hj => ?_⟩
      have hj2 : j < len * 3 := by
        have := (List.getElem?_eq_some_iff.1 hj).1
        rw [flat_len wrowE 3 wrowE_len, hlen] at this
        exact this
      have hi : j / 3 < len := by omega
      have hcs := hy (j / 3) hi
      obtain ⟨_, _, hcj⟩ := World.cells?_some hcs
      have h1 := hcj (j % 3) (by omega)
      rw [add_at, add_at] at h1
      have h2 := flat_get wrowE 3 wrowE_len ((List.range len).map y) (j / 3) _ (j % 3) (getD_some _ wrow0 (by rw [hlen]; exact hi)) (by omega)
      rw [hget _ hi, show j / 3 * 3 + j % 3 = j from by omega, hj] at h2
      rw [← h2, show o + j / 3 * 3 + j % 3 = o + j from by omega] at h1
      exact h1
theorem trod_rec6 {P : Program} {w : World} {t : TypeId} {f0 f1 f2 f3 f4 f5 : Field} {fuel : Nat} {cs : List Value} {x : DataW H × List MemPlace} (ht : P.underlying t = some (.struct #[f0, f1, f2, f3, f4, f5])) (h : DataW.trod enc P w base sp held fuel t cs = some x) :
    ∃ y0 y1 y2 y3 y4 y5 n, x.1 = .agg [y0.1, y1.1, y2.1, y3.1, y4.1, y5.1] ∧ cs.length = P.cellsOf t ∧ DataW.trod enc P w base sp held n f0.type ((cs.drop f0.offset).take (P.cellsOf f0.type)) = some y0 ∧
      DataW.trod enc P w base sp held n f1.type ((cs.drop f1.offset).take (P.cellsOf f1.type)) = some y1 ∧ DataW.trod enc P w base sp held n f2.type ((cs.drop f2.offset).take (P.cellsOf f2.type)) = some y2 ∧
      DataW.trod enc P w base sp held n f3.type ((cs.drop f3.offset).take (P.cellsOf f3.type)) = some y3 ∧ DataW.trod enc P w base sp held n f4.type ((cs.drop f4.offset).take (P.cellsOf f4.type)) = some y4 ∧ DataW.trod enc P w base sp held n f5.type ((cs.drop f5.offset).take (P.cellsOf f5.type)) = some y5 := by
  obtain ⟨xs, n, _, rfl, hl, hlen, hf⟩ := DataW.trod_struct ht h
  match xs, hlen with
  | [y0, y1, y2, y3, y4, y5], _ => exact ⟨y0, y1, y2, y3, y4, y5, n, by simp, hl, by simpa using hf 0 f0 rfl, by simpa using hf 1 f1 rfl, by simpa using hf 2 f2 rfl, by simpa using hf 3 f3 rfl, by simpa using hf 4 f4 rfl, by simpa using hf 5 f5 rfl⟩
theorem rec_form : ∃ f0 f1 f2 f3 f4 f5 : Field, Tryz.prog.underlying 33 = some (.struct #[f0, f1, f2, f3, f4, f5]) ∧ Go.Deep.oneCellFields Tryz.prog #[f0, f1, f2, f3, f4, f5] = true ∧ [f0.type, f1.type, f2.type, f3.type, f4.type, f5.type] = [3, 24, 30, 31, 3, 3] :=
  ⟨_, _, _, _, _, _, Tryz.underlying33, by kernel_rfl, rfl⟩
theorem open_rec {fuel : Nat} {cs : List Value} {x : DataW H × List MemPlace} (h : DataW.trod enc Tryz.prog W base sp held fuel 33 cs = some x) (hw : ∀ n ∈ x.1.weights Tryz.prog 33, n ≤ reachBytes) : ∃ p : Pl, cs = plE p ∧ RecIn W p.1 p.2 ∧ RecFit p.1 := by
  obtain ⟨f0, f1, f2, f3, f4, f5, hu, hone, hty⟩ := rec_form
  simp only [List.cons.injEq, and_true] at hty
  obtain ⟨e0, e1, e2, e3, e4, e5⟩ := hty
  obtain ⟨y0, y1, y2, y3, y4, y5, n, hx, hl, h0, h1, h2, h3, h4, h5⟩ := trod_rec6 hu h
  rw [rec_cells6] at hl
  obtain ⟨c0, c1, c2, c3, c4, c5, rfl⟩ := six_of hl
  obtain ⟨o0, k0⟩ := Go.Deep.hone_of hone 0 f0 rfl
  obtain ⟨o1, k1⟩ := Go.Deep.hone_of hone 1 f1 rfl
  obtain ⟨o2, k2⟩ := Go.Deep.hone_of hone 2 f2 rfl
  obtain ⟨o3, k3⟩ := Go.Deep.hone_of hone 3 f3 rfl
  obtain ⟨o4, k4⟩ := Go.Deep.hone_of hone 4 f4 rfl
  obtain ⟨o5, k5⟩ := Go.Deep.hone_of hone 5 f5 rfl
  have h0' : DataW.trod enc Tryz.prog W base sp held n 3 [c0] = some y0 := by rw [← e0]; simpa [o0, k0] using h0
  have h1' : DataW.trod enc Tryz.prog W base sp held n 24 [c1] = some y1 := by rw [← e1]; simpa [o1, k1] using h1
  have h2' : DataW.trod enc Tryz.prog W base sp held n 30 [c2] = some y2 := by rw [← e2]; simpa [o2, k2] using h2
  have h3' : DataW.trod enc Tryz.prog W base sp held n 31 [c3] = some y3 := by rw [← e3]; simpa [o3, k3] using h3
  have h4' : DataW.trod enc Tryz.prog W base sp held n 3 [c4] = some y4 := by rw [← e4]; simpa [o4, k4] using h4
  have h5' : DataW.trod enc Tryz.prog W base sp held n 3 [c5] = some y5 := by rw [← e5]; simpa [o5, k5] using h5
  rw [hx] at hw
  have hwe : ∀ n ∈ DataW.weightsEach Tryz.prog [3, 24, 30, 31, 3, 3] [y0.1, y1.1, y2.1, y3.1, y4.1, y5.1], n ≤ reachBytes := by
    intro m hm
    refine hw m ?_
    unfold DataW.weights
    rw [hu]
    show m ∈ DataW.weightsEach Tryz.prog ([f0, f1, f2, f3, f4, f5].map (·.type)) _
    rw [show [f0, f1, f2, f3, f4, f5].map (fun x : Field => x.type) = [3, 24, 30, 31, 3, 3] from by simp [e0, e1, e2, e3, e4, e5]]
    exact hm
  have hsz : (DataW.weightsEach Tryz.prog [3, 24, 30, 31, 3, 3] [y0.1, y1.1, y2.1, y3.1, y4.1, y5.1]).all (· ≤ reachBytes) = true := List.all_eq_true.2 fun m hm => by simpa using hwe m hm
  obtain ⟨z0, g0, _, _⟩ := DataW.trod_int Tryz.underlying3 h0'
  obtain ⟨V1, l1, cc1, g1, b1, ft1, r1, lc1⟩ := open_lbls h1' (fun m hm => hwe m (DataW.weights_mem_each (j := 1) rfl rfl m hm))
  obtain ⟨V2, l2, cc2, g2, b2, r2, lc2⟩ := open_wrows h2' (fun m hm => hwe m (DataW.weights_mem_each (j := 2) rfl rfl m hm))
  obtain ⟨V3, l3, cc3, g3, b3, lc3, _, d3⟩ := open_zs h3'
  have r3 := reach_zs hsz (j := 3) rfl rfl d3
  obtain ⟨z4, g4, _, _⟩ := DataW.trod_int Tryz.underlying3 h4'
  obtain ⟨z5, g5, _, _⟩ := DataW.trod_int Tryz.underlying3 h5'
  simp only [List.cons.injEq, and_true] at g0 g4 g5
  refine ⟨(⟨z0, l1, l2, l3, z4, z5⟩, ⟨V1, cc1, V2, cc2, V3, cc3⟩), ?_, ⟨b1, b2, b3, lc1, lc2, lc3⟩, ⟨ft1, r1, r2, r3⟩⟩
  rw [g0, g1, g2, g3, g4, g5]
  rfl
theorem open_recs {fuel : Nat} {v : Value} {x : DataW H × List MemPlace} (hf : DataW.trod enc Tryz.prog W base sp held fuel 22 [v] = some x) (hw : ∀ n ∈ x.1.weights Tryz.prog 22, n ≤ reachBytes) :
    ∃ (V : Option Addr) (l : List Pl) (c : Nat), v = .slice V l.length c ∧ Recs W V l ∧ (∀ p ∈ l, RecFit p.1) ∧ l.length * 96 ≤ 140737488351232 ∧ l.length ≤ c := by
  rcases Go.Deep.open_slice Tryz.underlying22 hf with ⟨hcs, hx⟩ | ⟨a, len, cap, m, n, D, Pq, hcs, hb, hl, hm, hmm, hx, hcell⟩
  · simp only [List.cons.injEq, and_true] at hcs
    subst hcs
    exact ⟨none, [], 0, rfl, Recs.nil _ _, fun p hp => (by cases hp), by simp, Nat.le_refl _⟩
  · simp only [List.cons.injEq, and_true] at hcs
    subst hcs
    rw [rec_cells6] at hcell
    have hml : len ≤ m := by rw [hmm]; split <;> omega
    rw [hx] at hw
    simp only [DataW.weights, Tryz.underlying22] at hw
    have hbytes : Tryz.prog.bytesOf 33 = 96 := by kernel_rfl
    have hlen96 := hw ((((List.range len).map D).length + ((List.range (m - len)).map fun j => D (len + j)).length) * Tryz.prog.bytesOf 33) (by simp)
    rw [hbytes] at hlen96
    simp only [List.length_map, List.length_range] at hlen96
    rw [reach_is] at hlen96
    have each : ∀ i, i < len → ∃ y : Pl, (RecIn W y.1 y.2 ∧ RecFit y.1) ∧ W.cells? base (a.add (i * 6)) 6 = some (plE y) := by
      intro i hi
      obtain ⟨cs', h1, h2⟩ := hcell i (by omega)
      obtain ⟨y, rfl, hy⟩ := open_rec h2 (fun q hq => hw q (by
        simp only [List.mem_cons, List.mem_append]
        exact .inr (.inl (weights_all (List.mem_map.2 ⟨i, List.mem_range.2 hi, rfl⟩) q hq))))
      exact ⟨y, hy, h1⟩
    obtain ⟨y, hy⟩ := Go.Deep.choose_lt each
    have hlen : ((List.range len).map y).length = len := by simp
    have hget : ∀ i, i < len → ((List.range len).map y).getD i pl0 = y i := by
      intro i hi
      simp [List.getD_eq_getElem?_getD, hi]
    have hmem : ∀ p ∈ (List.range len).map y, RecIn W p.1 p.2 ∧ RecFit p.1 := by
      intro p hp
      obtain ⟨i, hi, rfl⟩ := List.mem_map.1 hp
      exact (hy i (List.mem_range.1 hi)).1
    refine ⟨some a, (List.range len).map y, cap, by rw [hlen], ⟨?_, fun p hp => (hmem p hp).1⟩, fun p hp => (hmem p hp).2, by rw [hlen]; omega, by rw [hlen]; exact hl⟩
    rcases Nat.eq_zero_or_pos len with h0 | h0
    · have : (List.range len).map y = [] := List.eq_nil_of_length_eq_zero (by rw [hlen]; exact h0)
      rw [this]
      exact .inl rfl
    · obtain ⟨b, o, spot⟩ := a
      obtain ⟨_, hcs0⟩ := hy 0 h0
      obtain ⟨_, _, hc0⟩ := World.cells?_some hcs0
      have hc := hc0 0 (by omega)
      have hspot : spot = none := by
        have := World.cell?_spot (hc.trans rfl)
        simpa [Addr.add] using this
      subst hspot
      have hc00 : W.cell? ⟨b, o, none⟩ = some (.int .i64 (y 0).1.kind) := by
        have : (plE (y 0))[0]? = some (.int .i64 (y 0).1.kind) := rfl
        rw [this] at hc
        simpa [Addr.add] using hc
      refine .inr ⟨b, o, rfl, cell_lt hc00, fun j u hj => ?_⟩
      have hj2 : j < len * 6 := by
        have := (List.getElem?_eq_some_iff.1 hj).1
        rw [flat_len plE 6 plE_len, hlen] at this
        exact this
      have hi : j / 6 < len := by omega
      obtain ⟨_, hcs⟩ := hy (j / 6) hi
      obtain ⟨_, _, hcj⟩ := World.cells?_some hcs
      have h1 := hcj (j % 6) (by omega)
      rw [add_at, add_at] at h1
      have h2 := flat_get plE 6 plE_len ((List.range len).map y) (j / 6) _ (j % 6) (getD_some _ pl0 (by rw [hlen]; exact hi)) (by omega)
      rw [hget _ hi, show j / 6 * 6 + j % 6 = j from by omega, hj] at h2
      rw [← h2, show o + j / 6 * 6 + j % 6 = o + j from by omega] at h1
      exact h1
end
end Go.Proofs.YtpcjnagdanmdpaaGreat
