/- Matchers that are handed in: what the bound on the bulk gives for them. -/
import Derived.Test.YtojlcipphnegaaaGreatBulk
import Derived.Test.YtojlcipphnegaaaGreatIxLotJ
namespace Go.Proofs.YtojlcipphnegaaaGreat
open Go.ChangeShapes Go.WideShapes Go.ChangeAt Go.RowKit Go.Joins
set_option linter.unusedVariables false
section
variable {H : Type} {enc : TypeId × Value → H} {W : World} {base : Nat} {sp : Nat → Bool} {held : Bool}
theorem mts_reading {fuel : Nat} {V : Option Addr} {n c : Nat} {x : DataW H × List MemPlace} (hf : DataW.trod enc Tryz.prog W base sp held fuel 38 [.slice V n c] = some x) :
    (x.1 = .nil ∧ n = 0) ∨ ∃ elems spare, x.1 = .slice elems spare ∧ elems.length = n := by
  rcases Go.Deep.open_slice Tryz.underlying38 hf with ⟨hcs, rfl⟩ | ⟨a, len, cap, m, n', D, Pl, hcs, hb, hl, hm, hmm, rfl, hcell⟩
  · simp only [List.cons.injEq, and_true, Value.slice.injEq] at hcs
    exact .inl ⟨rfl, hcs.2.1⟩
  · simp only [List.cons.injEq, and_true, Value.slice.injEq] at hcs
    exact .inr ⟨_, _, rfl, by rw [hcs.2.1]; simp⟩
theorem small_mts {l0 : List (DataW H)} (hk : Rows.uptoSmall H l0 = true) {j : Nat} {d : DataW H} {n : Nat} (hj : l0[j]? = some d) (h : (d = .nil ∧ n = 0) ∨ ∃ elems spare, d = .slice elems spare ∧ elems.length = n) : n ≤ 1048576 := by
  have h1 := bulk_small hk
  have h2 := bulk_at hj
  rcases h with ⟨_, rfl⟩ | ⟨el, spr, rfl, hel⟩
  · simp
  · have h3 := bulk_count el
    simp only [Rows.uptoBulk] at h2
    omega
end
end Go.Proofs.YtojlcipphnegaaaGreat
