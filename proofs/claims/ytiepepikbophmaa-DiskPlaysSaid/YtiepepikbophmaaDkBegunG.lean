/- A disk behind calls. -/
import Derived.Test.YtiepepikbophmaaDkActs
namespace Go.Proofs.Ytiepepikbophmaa
open Go.RowKit Go.Maps
set_option linter.unusedVariables false

theorem From_far {W : World} {a : ActV} (h : ActOk W a) : a.ks = [] ∨ ∀ ad, a.V = some ad → ¬ From W.heap.size ad.block := by
  rcases h.ks with h0 | ⟨b, o, hV, hlt, _⟩
  · exact .inl h0
  · refine .inr fun ad e => ?_
    rw [hV] at e
    injection e with e
    subst e
    exact Nat.not_le.2 hlt
theorem Told.flat {B : Nat} {w : World} {X : Nat} {d : Dsk} {a : ActV} {e : Ending} {w' : World} (h : Told (From B) w X d a e w') (hB : B ≤ w.heap.size) : ∃ v, e = .returned (.tuple #[.int .i64 (actE d a), v]) ∧ Own w' w.heap.size v (actB d a) ∧ DiskAt (From B) w' X (actD d a) ∧ Below B w w' := by
  obtain ⟨v, h1, h2, h3⟩ := h
  obtain ⟨h4, h5⟩ := h3.flat hB
  exact ⟨v, h1, h2, h4, h5⟩
/-- The i-th of calls in memory, later. -/
theorem acts_at {W w : World} {V : Option Addr} {acs : List ActV} (h : Acts W V acs) (hb : Below W.heap.size W w) {i : Nat} (hi : i < acs.length) :
    ∃ b o, V = some ⟨b, o, none⟩ ∧ ActOk W (acs.getD i default) ∧ ActOk w (acs.getD i default) ∧ ∀ j v, (actC (acs.getD i default))[j]? = some v → w.cell? ⟨b, o + i * 6 + j, none⟩ = some v := by
  rcases h with rfl | ⟨b, o, rfl, hlt, hc⟩
  · simp at hi
  · obtain ⟨hok, hcell⟩ := hc i hi
    exact ⟨b, o, rfl, hok, hok.below hb, fun j v hj => (hb.cell (p := ⟨b, o + i * 6 + j, none⟩) hlt).trans (hcell j v hj)⟩
def runD (d : Dsk) (acs : List ActV) (k : Nat) : Dsk := (acs.take k).foldl actD d
theorem runD_zero (d : Dsk) (acs : List ActV) : runD d acs 0 = d := rfl
theorem runD_succ (d : Dsk) (acs : List ActV) {k : Nat} (hk : k < acs.length) : runD d acs (k + 1) = actD (runD d acs k) (acs.getD k default) := by
  unfold runD
  rw [List.take_succ_eq_append_getElem hk, List.foldl_append]
  simp [List.getD, List.getElem?_eq_getElem hk]
theorem ok_run {N : Nat} {d : Dsk} (h : Ok N d) (acs : List ActV) (hn : ∀ i, i < acs.length → (acs.getD i default).n ≤ 9223372036854775807) : ∀ k, k ≤ acs.length → Ok (N + k) (runD d acs k) := by
  intro k
  induction k with
  | zero => intro _; exact h
  | succ k ih =>
    intro hk
    rw [runD_succ d acs (by omega)]
    exact ok_act (ih (by omega)) _ (hn k (by omega))
theorem acts_n {W : World} {V : Option Addr} {acs : List ActV} (h : Acts W V acs) : ∀ i, i < acs.length → (acs.getD i default).n ≤ 9223372036854775807 := by
  intro i hi
  rcases h with rfl | ⟨b, o, rfl, hlt, hc⟩
  · simp at hi
  · exact (hc i hi).1.n.2

/-- There is a disk behind the calls. -/
def Behind (w : World) (e : Ending) (w' : World) : Prop := ∃ X d, e = .returned (.pointer (some ⟨X, 0, none⟩)) ∧ DiskAt (From w.heap.size) w' X d ∧ Ok 40 d ∧ Below w.heap.size w w'
end Go.Proofs.Ytiepepikbophmaa
