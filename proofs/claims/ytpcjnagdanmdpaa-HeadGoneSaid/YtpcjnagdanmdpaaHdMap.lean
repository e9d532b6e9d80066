/- The ids of a head's series, by their texts: a map in memory. -/
import Derived.Test.YtpcjnagdanmdpaaHdTxt
import Derived.Test.YtpcjnagdanmdpaaHdMath
import Derived.Test.YtpcjnagdanmdpaaBlRows
import Derived.Sort.KeysCollected
namespace Go.Proofs.Ytpcjnagdanmdpaa
open Go.RowKit Go.Maps
set_option linter.unusedVariables false
set_option linter.unusedSimpArgs false
/-- The number of the first of these sets that is l. -/
theorem idF_yes {l : List Lbl} : ∀ {h : List Ser} {k : Nat}, 0 ≤ idF l h k → ∃ i, i < h.length ∧ idF l h k = ((k + i : Nat) : Int) ∧ (h.getD i ser0).1 = l := by
  intro h
  induction h with
  | nil => intro k hk; simp [idF] at hk
  | cons s r ih =>
    intro k hk
    unfold idF at hk ⊢
    by_cases e : s.1 = l
    · rw [if_pos e]
      exact ⟨0, by simp, rfl, by simpa using e⟩
    · rw [if_neg e] at hk ⊢
      obtain ⟨i, h1, h2, h3⟩ := ih hk
      exact ⟨i + 1, by simpa using h1, by rw [h2]; congr 1; omega, by simpa using h3⟩
theorem idH_yes {h : List Ser} {l : List Lbl} (hk : 0 ≤ idH h l) : ∃ i, i < h.length ∧ idH h l = (i : Int) ∧ (h.getD i ser0).1 = l := by
  obtain ⟨i, h1, h2, h3⟩ := idF_yes hk
  exact ⟨i, h1, by unfold idH; rw [h2, Nat.zero_add], h3⟩
theorem idH_of {h : List Ser} (hk : HeadOk h) {i : Nat} (hi : i < h.length) : idH h (h.getD i ser0).1 = (i : Int) := by
  have h0 : 0 ≤ idH h (h.getD i ser0).1 := by
    rcases (show idH h (h.getD i ser0).1 < 0 ∨ 0 ≤ idH h (h.getD i ser0).1 by omega) with h1 | h1
    · exact absurd rfl (idF_neg h1 _ (ser_at hi))
    · exact h1
  obtain ⟨j, hj, e, hl⟩ := idH_yes h0
  have : j = i := by
    have hp := List.pairwise_iff_getElem.1 hk.apart
    rcases Nat.lt_trichotomy i j with h1 | h1 | h1
    · refine absurd ?_ (hp i j (by simpa using hi) (by simpa using hj) h1)
      simpa [List.getD_eq_getElem?_getD, hi, hj] using hl.symm
    · exact h1.symm
    · refine absurd ?_ (hp j i (by simpa using hj) (by simpa using hi) h1)
      simpa [List.getD_eq_getElem?_getD, hi, hj] using hl
  rw [e, this]
def kT (l : List Lbl) : Lit := .string (printL l)
/-- Block b leads from each of these sets' texts to its number, and from no other text to any. -/
def IdsAt (w : World) (b : Nat) (ls : List (List Lbl)) : Prop :=
  ∃ D : DataW Unit, w.ownsMap Try.prog 9 (plainElem Try.prog 3) b ls.length D ∧ (∀ i, i < ls.length → has D (kT (ls.getD i [])) = true ∧ ∀ z, D.atKey (kT (ls.getD i [])) z = .lit (.int .i64 (i : Int))) ∧ ∀ t, has D (.string t) = true → ∃ i, i < ls.length ∧ t = printL (ls.getD i [])
theorem hd_keyed : Keyed Try.prog 9 := string_keyed Try.underlying9
theorem int_zero (w : World) : (zeroValue 3).run Try.prog w = .ok (.int .i64 0) w := by kernel_rfl
theorem hd_key {s : ByteArray} (hs : s.size ≤ maxLen) : keyOf Try.prog 9 (.string s) = some (.string s.data.toList) := Go.WideMaps.keyOf_string_mk Try.underlying9 hs
theorem hd_key_txt {l : List Lbl} (h : lbChk l = 0) : keyOf Try.prog 9 (.string (txt (printL l))) = some (kT l) := by
  have h1 := right_txt h
  have := hd_key (s := txt (printL l)) (by simp only [txt, ByteArray.size, List.size_toArray, maxLen]; omega)
  rw [this]
  rfl
theorem IdsAt.lt {w : World} {b : Nat} {ls : List (List Lbl)} (h : IdsAt w b ls) : b < w.heap.size := by
  obtain ⟨D, hD, _⟩ := h
  exact World.ownsMap.lt hD
theorem IdsAt.block {w w' : World} {b b' : Nat} {ls : List (List Lbl)} (h : IdsAt w b ls) (hb : w'.heap[b']? = w.heap[b]?) : IdsAt w' b' ls := by
  obtain ⟨D, ⟨es, clock, h1, h2⟩, h3⟩ := h
  exact ⟨D, ⟨es, clock, hb.trans h1, h2⟩, h3⟩
theorem IdsAt.map {w : World} {b : Nat} {ls : List (List Lbl)} (h : IdsAt w b ls) : ∃ es clock, w.heap[b]? = some (.map es clock) := by
  obtain ⟨D, ⟨es, clock, h1, h2⟩, h3⟩ := h
  exact ⟨es, clock, h1⟩
theorem ids_made (w : World) : IdsAt (w.alloc (.map #[] 0)) w.heap.size [] := ⟨.map [], World.ownsMap_made w Try.prog 9 (plainElem Try.prog 3), fun i hi => by simp at hi, fun t ht => by cases ht⟩
section
variable {w : World} {b : Nat} {h : List Ser} {l : List Lbl}
theorem sets_get {h : List Ser} {i : Nat} (hi : i < h.length) : (blSets h).getD i [] = (h.getD i ser0).1 := by simp [blSets, List.getD_eq_getElem?_getD, hi]
theorem sets_len (h : List Ser) : (blSets h).length = h.length := by simp [blSets]
/-- 'v, ok := m[k]'. -/
theorem ids_look (hI : IdsAt w b (blSets h)) (hk : HeadOk h) (hl : lbChk l = 0) :
    (Instr.lookup 50 (.map (some b)) (.string (txt (printL l))) true).run Try.prog w = .ok (.tuple #[.int .i64 (if 0 ≤ idH h l then idH h l else 0), .bool (decide (0 ≤ idH h l))]) w := by
  obtain ⟨D, hD, h1, h2⟩ := hI
  obtain ⟨v, ps, hr, hv⟩ := hD.look_ok hd_keyed Try.underlying50 (int_zero w) (plainElem_int Try.underlying3 (by decide)) (hd_key_txt hl)
  rw [hr]
  by_cases h0 : 0 ≤ idH h l
  · obtain ⟨i, hi, e, hil⟩ := idH_yes h0
    obtain ⟨k1, k2⟩ := h1 i (by rw [sets_len]; exact hi)
    rw [sets_get hi, hil] at k1 k2
    rw [k2] at hv
    rw [k1, if_pos h0, decide_eq_true h0, e]
    obtain ⟨c, rfl, hc, _⟩ := plainElem_int_inv Try.underlying3 hv
    simp only [Prod.mk.injEq, DataW.lit.injEq, Lit.int.injEq, true_and] at hc
    rw [← hc.1]
  · have hno : has D (kT l) = false := by
      cases hh : has D (kT l)
      · rfl
      · obtain ⟨i, hi, e⟩ := h2 _ hh
        rw [sets_len] at hi
        rw [sets_get hi] at e
        have := printL_inj hl (hk.right _ (ser_at hi)).1 e
        rw [this, idH_of hk hi] at h0
        omega
    obtain ⟨es, rfl⟩ := hD.isMap
    have hat : (DataW.map es).atKey (kT l) (.lit (.int .i64 0)) = .lit (.int .i64 0) := by
      unfold DataW.atKey
      have : es.find? (fun p => p.1.sameKey (kT l)) = none := by
        rw [List.find?_eq_none]
        intro p hp hs
        have : has (.map es) (kT l) = true := List.any_eq_true.2 ⟨p, hp, hs⟩
        rw [this] at hno
        cases hno
      simp only [this]
    rw [hat] at hv
    rw [hno, if_neg h0, decide_eq_false h0]
    obtain ⟨c, rfl, hc, _⟩ := plainElem_int_inv Try.underlying3 hv
    simp only [Prod.mk.injEq, DataW.lit.injEq, Lit.int.injEq, true_and] at hc
    rw [← hc.1]
/-- 'm[k] = v' of a set that is not there. -/
theorem ids_store (hI : IdsAt w b (blSets h)) (hk : HeadOk h) (hl : lbChk l = 0) (hn : idH h l < 0) (h256 : h.length < 256) :
    ∃ w', (Instr.mapUpdate 50 (.map (some b)) (.string (txt (printL l))) (.int .i64 (h.length : Int))).run Try.prog w = .ok () w' ∧ IdsAt w' b (blSets (h ++ [(l, [])])) ∧ w.mapTurned w' b := by
  obtain ⟨D, hD, h1, h2⟩ := hI
  have hwf : (Lit.int .i64 (h.length : Int)).wf = true := by
    simp [Lit.wf, IntKind.min, IntKind.max, IntKind.bits, IntKind.signed]; omega
  obtain ⟨w', hr, hD', ht⟩ := hD.store hd_keyed Try.underlying50 (by rw [sets_len]; simp only [maxLen]; omega) (hd_key_txt hl) (plainElem_int Try.underlying3 hwf)
  have hm : IsMap D := hD.isMap
  have hkl : WideAt.IsKeyLit (kT l) := trivial
  have hlen : (blSets (h ++ [(l, [])])).length = (blSets h).length + 1 := by simp [blSets]
  have ne : ∀ i, i < h.length → kT (h.getD i ser0).1 ≠ kT l := fun i hi e => by
    have e2 : printL (h.getD i ser0).1 = printL l := by injection e
    exact idF_neg hn _ (ser_at hi) (printL_inj (hk.right _ (ser_at hi)).1 hl e2)
  have old : ∀ i, i < h.length → (blSets (h ++ [(l, [])])).getD i [] = (h.getD i ser0).1 := fun i hi => by
    unfold blSets
    rw [List.map_append, List.getD_eq_getElem?_getD, List.getElem?_append_left (by simpa using hi)]
    simp [List.getD_eq_getElem?_getD, hi]
  have new : (blSets (h ++ [(l, [])])).getD h.length [] = l := by
    simp [blSets, List.getD_eq_getElem?_getD]
  refine ⟨w', hr, ⟨D.put (kT l) (.lit (.int .i64 (h.length : Int))), by rw [hlen]; exact hD', fun i hi => ?_, fun t htt => ?_⟩, ht⟩
  · rw [hlen, sets_len] at hi
    rcases Nat.lt_or_ge i h.length with hi | hi2
    · rw [old i hi]
      have := h1 i (by rw [sets_len]; exact hi)
      rw [sets_get hi] at this
      refine ⟨by rw [has_put_other (ne i hi)]; exact this.1, fun z => by rw [atKey_put_other (ne i hi)]; exact this.2 z⟩
    · obtain rfl : i = h.length := by omega
      rw [new]
      exact ⟨has_put_same hm hkl _, fun z => atKey_put_same hm hkl _ z⟩
  · rw [hlen, sets_len]
    by_cases e : (.string t : Lit) = kT l
    · refine ⟨h.length, by omega, ?_⟩
      rw [new]
      injection e
    · rw [has_put_other e] at htt
      obtain ⟨i, hi, et⟩ := h2 _ htt
      rw [sets_len] at hi
      rw [sets_get hi] at et
      exact ⟨i, by omega, by rw [old i hi]; exact et⟩
end
end Go.Proofs.Ytpcjnagdanmdpaa
