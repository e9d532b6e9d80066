/- Labels that are handed in: what the bound on the bulk gives for them. -/
import Derived.Test.YtnhaehjkepmbaaaDoorBulk
namespace Go.Proofs.YtnhaehjkepmbaaaDoor
open Go.ChangeShapes Go.WideShapes Go.ChangeAt Go.RowKit Go.Joins
set_option linter.unusedVariables false
section
variable {H : Type} {enc : TypeId × Value → H} {W : World} {base : Nat} {sp : Nat → Bool} {held : Bool}
theorem open_lbl_up {fuel : Nat} {cs : List Value} {x : DataW H × List MemPlace} (h : DataW.trod enc Tryd.prog W base sp held fuel 37 cs = some x) :
    ∃ y : Lbl, cs = lblE y ∧ y.1.size ≤ Rows.uptoBulk x.1 ∧ y.2.size ≤ Rows.uptoBulk x.1 := by
  obtain ⟨f0, f1, hu, hone, hty⟩ := lbl_two
  simp only [List.cons.injEq, and_true] at hty
  obtain ⟨e0, e1⟩ := hty
  obtain ⟨y0, y1, n, hx, hl, h0, h1⟩ := trod_struct2 hu h
  rw [lbl_cells] at hl
  obtain ⟨c0, c1, rfl⟩ := two_of hl
  obtain ⟨o0, k0⟩ := Go.Deep.hone_of hone 0 f0 rfl
  obtain ⟨o1, k1⟩ := Go.Deep.hone_of hone 1 f1 rfl
  have h0' : DataW.trod enc Tryd.prog W base sp held n 9 [c0] = some y0 := by rw [← e0]; simpa [o0, k0] using h0
  have h1' : DataW.trod enc Tryd.prog W base sp held n 9 [c1] = some y1 := by rw [← e1]; simpa [o1, k1] using h1
  obtain ⟨s0, g0, d0, _⟩ := DataW.trod_string Tryd.underlying9 h0'
  obtain ⟨s1, g1, d1, _⟩ := DataW.trod_string Tryd.underlying9 h1'
  simp only [List.cons.injEq, and_true] at g0 g1
  subst g0 g1
  have hd0 : y0.1 = .lit (.string s0.data.toList) := by rw [d0]
  have hd1 : y1.1 = .lit (.string s1.data.toList) := by rw [d1]
  rw [hx, hd0, hd1]
  simp only [Rows.uptoBulk, Rows.uptoBulkAll]
  refine ⟨(s0, s1), rfl, ?_, ?_⟩
  · have : s0.data.toList.length = s0.size := Array.length_toList
    show s0.size ≤ _
    omega
  · have : s1.data.toList.length = s1.size := Array.length_toList
    show s1.size ≤ _
    omega
theorem open_lbls_up {N : Nat} {fuel : Nat} {v : Value} {x : DataW H × List MemPlace} (hf : DataW.trod enc Tryd.prog W base sp held fuel 22 [v] = some x) (hN : Rows.uptoBulk x.1 ≤ N) :
    ∃ (V : Option Addr) (l : List Lbl) (c : Nat), v = .slice V l.length c ∧ Lbls W V l ∧ (∀ y ∈ l, y.1.size ≤ N ∧ y.2.size ≤ N) ∧ l.length ≤ N ∧ l.length ≤ c := by
  rcases Go.Deep.open_slice Tryd.underlying22 hf with ⟨hcs, hx⟩ | ⟨a, len, cap, m, n, D, Pl, hcs, hb, hl, hm, hmm, hx, hcell⟩
  · simp only [List.cons.injEq, and_true] at hcs
    subst hcs
    exact ⟨none, [], 0, rfl, .inl rfl, (fun y hy => by cases hy), Nat.zero_le _, Nat.le_refl _⟩
  · simp only [List.cons.injEq, and_true] at hcs
    subst hcs
    rw [lbl_cells] at hcell
    have hml : len ≤ m := by rw [hmm]; split <;> omega
    rw [hx] at hN
    simp only [Rows.uptoBulk] at hN
    have hcnt := bulk_count ((List.range len).map D)
    simp only [List.length_map, List.length_range] at hcnt
    have each : ∀ i, i < len → ∃ y : Lbl, (y.1.size ≤ N ∧ y.2.size ≤ N) ∧ W.cells? base (a.add (i * 2)) 2 = some (lblE y) := by
      intro i hi
      obtain ⟨cs', h1, h2⟩ := hcell i (by omega)
      obtain ⟨y, rfl, hy1, hy2⟩ := open_lbl_up h2
      have hb2 := bulk_at (l := (List.range len).map D) (j := i) (d := D i) (by simp [hi])
      dsimp only at hy1 hy2
      exact ⟨y, ⟨by omega, by omega⟩, h1⟩
    obtain ⟨y, hy⟩ := Go.Deep.choose_lt each
    have hlen : ((List.range len).map y).length = len := by simp
    have hget : ∀ i, i < len → ((List.range len).map y).getD i lbl0 = y i := by
      intro i hi
      simp [List.getD_eq_getElem?_getD, hi]
    refine ⟨some a, (List.range len).map y, cap, by rw [hlen], ?_, ?_, by rw [hlen]; omega, by rw [hlen]; exact hl⟩
    · rcases Nat.eq_zero_or_pos len with h0 | h0
      · have : (List.range len).map y = [] := List.eq_nil_of_length_eq_zero (by rw [hlen]; exact h0)
        rw [this]
        exact Lbls.nil _ _
      · obtain ⟨b, o, spot⟩ := a
        obtain ⟨_, hcs0⟩ := hy 0 h0
        obtain ⟨_, _, hc0⟩ := World.cells?_some hcs0
        have hc := hc0 0 (by omega)
        have hspot : spot = none := by
          have := World.cell?_spot (hc.trans rfl)
          simpa [Addr.add] using this
        subst hspot
        have hc00 : W.cell? ⟨b, o, none⟩ = some (.string (y 0).1) := by
          have : (lblE (y 0))[0]? = some (.string (y 0).1) := rfl
          rw [this] at hc
          simpa [Addr.add] using hc
        refine .inr ⟨b, o, rfl, cell_lt hc00, fun j u hj => ?_⟩
        have hj2 : j < len * 2 := by
          have := (List.getElem?_eq_some_iff.1 hj).1
          rw [flat_len lblE 2 lblE_len, hlen] at this
          exact this
        have hi : j / 2 < len := by omega
        obtain ⟨_, hcs⟩ := hy (j / 2) hi
        obtain ⟨_, _, hcj⟩ := World.cells?_some hcs
        have h1 := hcj (j % 2) (by omega)
        rw [add_at, add_at] at h1
        have h2 := flat_get lblE 2 lblE_len ((List.range len).map y) (j / 2) _ (j % 2) (getD_some _ lbl0 (by rw [hlen]; exact hi)) (by omega)
        rw [hget _ hi, show j / 2 * 2 + j % 2 = j from by omega, hj] at h2
        rw [← h2, show o + j / 2 * 2 + j % 2 = o + j from by omega] at h1
        exact h1
    · intro z hz
      obtain ⟨i, hi, rfl⟩ := List.mem_map.1 hz
      exact (hy i (List.mem_range.1 hi)).1
theorem small_lbls {l0 : List (DataW H)} (hk : Rows.uptoSmall H l0 = true) {j : Nat} {d : DataW H} (hj : l0[j]? = some d) : Rows.uptoBulk d ≤ 1048576 := Nat.le_trans (bulk_at hj) (bulk_small hk)
theorem cost_small {l : List Lbl} (h : ∀ y ∈ l, y.1.size ≤ 1048576 ∧ y.2.size ≤ 1048576) (hl : l.length ≤ 1048576) : costT l l.length ≤ 140737488355328 := by
  have key : ∀ k, k ≤ l.length → costT l k ≤ 1 + k * 5242886 := by
    intro k
    induction k with
    | zero => intro _; exact Nat.le_refl _
    | succ k ih =>
      intro hk
      have h1 := ih (by omega)
      have h2 := h _ (List.mem_of_getElem? (getD_some l lbl0 (show k < l.length by omega)))
      rw [costT]
      unfold nmOf vlOf
      omega
  have := key l.length (Nat.le_refl _)
  omega
end
end Go.Proofs.YtnhaehjkepmbaaaDoor
