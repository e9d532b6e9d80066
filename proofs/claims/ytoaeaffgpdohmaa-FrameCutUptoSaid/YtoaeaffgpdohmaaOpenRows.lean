/- How rows of bytes among a law's arguments are opened, and what the bound on the bulk gives for them. -/
import Derived.Test.YtoaeaffgpdohmaaBulk
import Derived.Test.YtoaeaffgpdohmaaFrCutLaw
import Derived.Deep.Slices
namespace Go.Proofs.Ytoaeaffgpdohmaa
open Go.ChangeShapes Go.WideShapes Go.ChangeAt Go.RowKit Go.Joins
set_option linter.unusedVariables false

section
variable {H : Type} {enc : TypeId × Value → H} {W : World} {base : Nat} {sp : Nat → Bool} {held : Bool}
theorem open_u8ss {fuel : Nat} {v : Value} {x : DataW H × List MemPlace} (hf : DataW.trod enc Try.prog W base sp held fuel 53 [v] = some x) :
    ∃ (V : Option Addr) (ls : List (List UInt8)) (A : Nat → Option Addr) (C : Nat → Nat) (c : Nat), v = .slice V ls.length c ∧ Bks W V ls A C ∧ ls.length ≤ c ∧
      ((x.1 = .nil ∧ ls = []) ∨ ∃ D rest, x.1 = .slice ((List.range ls.length).map D) rest ∧ ∀ i, i < ls.length → (D i = .nil ∧ ls.getD i [] = []) ∨ ∃ elems spare, D i = .slice elems spare ∧ elems.length = (ls.getD i []).length) := by
  rcases Go.Deep.open_slice1 Try.underlying53 (by kernel_rfl) hf with ⟨hcs, hx⟩ | ⟨a, len, cap, m, n, U, D, Pl, hcs, hb, hl, hm, hmm, hx, hcell⟩
  · simp only [List.cons.injEq, and_true] at hcs
    subst hcs
    exact ⟨none, [], fun _ => none, fun _ => 0, 0, rfl, .inl rfl, Nat.le_refl _, .inl ⟨by rw [hx], rfl⟩⟩
  · simp only [List.cons.injEq, and_true] at hcs
    subst hcs
    have hml : len ≤ m := by rw [hmm]; split <;> omega
    have each : ∀ i, i < len → ∃ y : Option Addr × List UInt8 × Nat, U i = .slice y.1 y.2.1.length y.2.2 ∧ Bys W y.1 y.2.1 ∧ ((D i = .nil ∧ y.2.1 = []) ∨ ∃ elems spare, D i = .slice elems spare ∧ elems.length = y.2.1.length) := by
      intro i hi
      obtain ⟨A, l, c, h1, h2, _, _, h5⟩ := open_u8s (hcell i (by omega)).2
      exact ⟨(A, l, c), h1, h2, h5⟩
    obtain ⟨y, hy⟩ := Go.Deep.choose_lt each
    have hlen : ((List.range len).map fun i => (y i).2.1).length = len := by simp
    have hget : ∀ i, i < len → ((List.range len).map fun i => (y i).2.1).getD i [] = (y i).2.1 := by
      intro i hi
      simp [List.getD_eq_getElem?_getD, hi]
    refine ⟨some a, (List.range len).map fun i => (y i).2.1, fun i => (y i).1, fun i => (y i).2.2, cap, by rw [hlen], ?_, by rw [hlen]; exact hl, .inr ⟨D, _, by rw [hlen, hx], ?_⟩⟩
    · rcases Nat.eq_zero_or_pos len with h0 | h0
      · exact .inl (List.eq_nil_of_length_eq_zero (by rw [hlen]; exact h0))
      · obtain ⟨b, o, spot⟩ := a
        have hc := (hcell 0 (by omega)).1
        have hspot : spot = none := by simpa [Addr.add] using World.cell?_spot hc
        subst hspot
        have hc0 : W.cell? ⟨b, o, none⟩ = some (U 0) := by simpa [Addr.add] using hc
        refine .inr ⟨b, o, rfl, cell_lt hc0, fun i hi => ?_⟩
        rw [hlen] at hi
        obtain ⟨h1, h2, _⟩ := hy i hi
        rw [hget i hi]
        have hci := (hcell i (by omega)).1
        rw [add_at] at hci
        exact ⟨by rw [hci, h1], h2⟩
    · intro i hi
      rw [hlen] at hi
      rw [hget i hi]
      exact (hy i hi).2.2
theorem bulk_append (l r : List (DataW H)) : Rows.uptoBulkAll (l ++ r) = Rows.uptoBulkAll l + Rows.uptoBulkAll r := by
  induction l with
  | nil => simp [Rows.uptoBulkAll]
  | cons d l ih => simp only [List.cons_append, Rows.uptoBulkAll, ih]; omega
theorem bulk_range (ls : List (List UInt8)) (D : Nat → DataW H) : ∀ n, (∀ i, i < n → (ls.getD i []).length + 1 ≤ Rows.uptoBulk (D i)) → total ls n + n ≤ Rows.uptoBulkAll ((List.range n).map D) := by
  intro n
  induction n with
  | zero => intro _; simp [total]
  | succ n ih =>
    intro h
    have h1 := ih (fun i hi => h i (by omega))
    have h2 := h n (by omega)
    rw [List.range_succ, List.map_append, bulk_append, total]
    simp only [List.map_cons, List.map_nil, Rows.uptoBulkAll]
    omega
theorem small_u8ss {l0 : List (DataW H)} (hk : Rows.uptoSmall H l0 = true) {j : Nat} {d : DataW H} {ls : List (List UInt8)} (hj : l0[j]? = some d)
    (h : (d = .nil ∧ ls = []) ∨ ∃ D rest, d = .slice ((List.range ls.length).map D) rest ∧ ∀ i, i < ls.length → (D i = .nil ∧ ls.getD i [] = []) ∨ ∃ elems spare, D i = .slice elems spare ∧ elems.length = (ls.getD i []).length) :
    total ls ls.length + ls.length ≤ 1048576 := by
  have h1 := bulk_small hk
  have h2 := bulk_at hj
  rcases h with ⟨_, rfl⟩ | ⟨D, rest, rfl, hD⟩
  · simp [total]
  · have h3 := bulk_range ls D ls.length (fun i hi => by
      rcases hD i hi with ⟨e1, e2⟩ | ⟨el, spr, e1, e2⟩
      · rw [e1, e2]; simp [Rows.uptoBulk]
      · rw [e1]
        have := bulk_count el
        simp only [Rows.uptoBulk]
        omega)
    simp only [Rows.uptoBulk] at h2
    omega
end
end Go.Proofs.Ytoaeaffgpdohmaa
