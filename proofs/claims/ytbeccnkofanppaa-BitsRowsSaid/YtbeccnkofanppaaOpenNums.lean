/- How an argument that is a slice of numbers of 64 bits is opened, with the reach that every row bears. -/
import Derived.Test.YtbeccnkofanppaaBitRowsLaw
namespace Go.Proofs.Ytbeccnkofanppaa
open Go.ChangeShapes Go.WideShapes Go.ChangeAt Go.RowKit Go.Joins
set_option linter.unusedVariables false
section
variable {H : Type} {enc : TypeId × Value → H} {W : World} {base : Nat} {sp : Nat → Bool} {held : Bool}

theorem open_u64s {fuel : Nat} {v : Value} {x : DataW H × List MemPlace} (hf : DataW.trod enc Try.prog W base sp held fuel 53 [v] = some x) :
    ∃ (A : Option Addr) (l : List Nat) (c : Nat), v = .slice A l.length c ∧ Nums W A l ∧ (∀ k, l.getD k 0 ≤ 18446744073709551615) ∧
      ((x.1 = .nil ∧ l = []) ∨ ∃ elems spare, x.1 = .slice elems spare ∧ elems.length = l.length) := by
  rcases open_ints Try.underlying53 Try.underlying25 (by kernel_rfl) hf with ⟨hcs, hx⟩ | ⟨a, len, cap, zs, hcs, _, hl, hm, hz, hx, hcell, hwz⟩
  · simp only [List.cons.injEq, and_true] at hcs
    subst hcs
    exact ⟨none, [], 0, rfl, .inl rfl, fun k => by simp, .inl ⟨by rw [hx], rfl⟩⟩
  · simp only [List.cons.injEq, and_true] at hcs
    subst hcs
    have hlz : len ≤ zs.length := by rw [hz]; split <;> omega
    have hll : ((zs.take len).map Int.toNat).length = len := by simp; omega
    have hget : ∀ i, i < len → ((zs.take len).map Int.toNat).getD i 0 = (zs.getD i 0).toNat ∧ 0 ≤ zs.getD i 0 ∧ zs.getD i 0 ≤ 18446744073709551615 := by
      intro i hi
      have hi2 : i < zs.length := by omega
      have hw := bounds_u64 (hwz (zs.getD i 0) (by rw [getD_in zs 0 hi2]; exact List.getElem_mem hi2))
      refine ⟨?_, hw.1, by omega⟩
      rw [getD_in (List.map Int.toNat (zs.take len)) 0 (by rw [hll]; exact hi), getD_in zs 0 hi2]
      simp only [List.getElem_map, List.getElem_take]
    refine ⟨some a, (zs.take len).map Int.toNat, cap, by rw [hll], ?_, fun k => ?_, .inr ⟨_, _, by rw [hx], by simp [lits]⟩⟩
    · rcases Nat.eq_zero_or_pos len with h0 | h0
      · exact .inl (List.eq_nil_of_length_eq_zero (by rw [hll]; exact h0))
      · obtain ⟨b, off, spot⟩ := a
        have hc := hcell 0 (by omega)
        have hspot : spot = none := by simpa [Addr.add] using World.cell?_spot hc
        subst hspot
        have hc0 : W.cell? ⟨b, off, none⟩ = some (.int .u64 (zs.getD 0 0)) := by simpa [Addr.add] using hc
        refine .inr ⟨b, off, rfl, cell_lt hc0, fun i hi => ?_⟩
        rw [hll] at hi
        have hci := hcell i (by omega)
        rw [add_at] at hci
        obtain ⟨e1, e2, _⟩ := hget i hi
        rw [hci, e1, Int.toNat_of_nonneg e2]
    · rcases Nat.lt_or_ge k len with h | h
      · obtain ⟨e1, e2, e3⟩ := hget k h
        rw [e1]
        omega
      · rw [getD_out _ _ (by rw [hll]; exact h)]
        omega

theorem reach_u64s {ts : List TypeId} {ds : List (DataW H)} (hsz : (DataW.weightsEach Try.prog ts ds).all (· ≤ reachBytes) = true) {j : Nat} {d : DataW H} {l : List Nat} (ht : ts[j]? = some 53) (hd : ds[j]? = some d)
    (h : (d = .nil ∧ l = []) ∨ ∃ elems spare, d = .slice elems spare ∧ elems.length = l.length) : l.length ≤ 17592186044416 := by
  rcases h with ⟨_, rfl⟩ | ⟨el, spr, rfl, hel⟩
  · simp
  · have := sized_slice hsz ht hd Try.underlying53
    have hb : Try.prog.bytesOf 25 = 8 := by kernel_rfl
    rw [hb] at this
    simp [reachBytes] at this
    omega
end
end Go.Proofs.Ytbeccnkofanppaa
