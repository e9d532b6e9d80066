/- Plain mathematics of the law that parts the sets by a name's values: each set that has the name is found by one value alone. No program in sight. -/
import Derived.Test.YtojlcipphnegaaaGreatIxLotG
namespace Go.Proofs.YtojlcipphnegaaaGreat
set_option linter.unusedVariables false
open Classical

theorem pw_fresh {α : Type} {R : α → α → Prop} {l : List α} (h : l.Pairwise R) (hR : ∀ x, ¬ R x x) {k : Nat} (hk : k < l.length) : l[k] ∉ l.take k := by
  intro hm
  obtain ⟨i, hi, e⟩ := List.getElem_of_mem hm
  rw [List.length_take] at hi
  rw [List.getElem_take] at e
  have := List.pairwise_iff_getElem.1 h i k (by omega) hk (by omega)
  rw [e] at this
  exact hR _ this
theorem val_in : ∀ (l : List Lbl) (name : ByteArray), (valOf l name).size ≠ 0 → (name, valOf l name) ∈ l := by
  intro l name
  induction l with
  | nil => intro h; exact absurd rfl h
  | cons x l ih =>
    intro h
    unfold valOf at h ⊢
    by_cases e : x.1 = name
    · rw [if_pos e] at h ⊢
      have : x = (name, x.2) := by rw [← e]
      rw [← this]
      exact List.mem_cons_self
    · rw [if_neg e] at h ⊢
      exact List.mem_cons_of_mem _ (ih h)
theorem val_good {l : List Lbl} (h : lbChk l = 0) {name v : ByteArray} (hx : (name, v) ∈ l) : nameB (strL name) = true ∧ v.size ≤ 64 ∧ 0 < v.size := by
  obtain ⟨i, hi, e⟩ := List.getElem_of_mem hx
  have h1 := lbErrAt_zero.1 ((lbChk_ok.1 h).2 i hi)
  have e2 : l.getD i lbl0 = (name, v) := by rw [List.getD_eq_getElem?_getD, List.getElem?_eq_getElem hi, e]; rfl
  unfold nmOf vlOf at h1
  rw [e2] at h1
  exact ⟨h1.1, h1.2.2.1, h1.2.1⟩
/-- A value that the index tells is a value that a matcher may ask. -/
theorem val_mchk {ss : List (List Lbl)} (hr : ∀ l ∈ ss, lbChk l = 0) {name v : ByteArray} (hv : v ∈ ixValues ss name) : mchk (1, name, v) = 0 ∧ v.size ≠ 0 ∧ ∃ l ∈ ss, valOf l name = v := by
  obtain ⟨h1, l, hl, e⟩ := (values_mem ss name v).1 hv
  have h2 := val_in l name (by rw [e]; exact h1)
  rw [e] at h2
  obtain ⟨h3, h4, _⟩ := val_good (hr l hl) h2
  exact ⟨mchk_eq (by decide) h3 (by omega) (by decide), h1, l, hl, e⟩
theorem mall_one {name v : ByteArray} (h : mchk (1, name, v) = 0) (l : List Lbl) : mall [(1, name, v)] l = decide (valOf l name = v) := by
  unfold mall
  rw [List.all_cons, List.all_nil, Bool.and_true]
  unfold mfits mtake
  rw [h]
  simp
theorem chkall_one {name v : ByteArray} (h : mchk (1, name, v) = 0) (hv : v.size ≠ 0) : mchkAll [(1, name, v)] = 0 := by
  refine chkall_zero.2 ⟨by simp, ?_, ?_⟩
  · unfold merr
    rw [if_pos h]
    rfl
  · rw [mall_one h, decide_eq_false_iff_not]
    intro e
    apply hv
    rw [← e]
    rfl
theorem find_one {ss : List (List Lbl)} {name v : ByteArray} (h : mchk (1, name, v) = 0) (n : Int) : n ∈ findL ss [(1, name, v)] ↔ ∃ i : Nat, i < ss.length ∧ n = (i : Int) ∧ valOf (ss.getD i []) name = v := by
  show n ∈ findK ss _ ss.length ↔ _
  rw [findK_mem]
  simp only [mall_one h, decide_eq_true_eq]
theorem find_pw (ss : List (List Lbl)) (ms : List Mt) : (findL ss ms).Pairwise (· < ·) := by
  show (findK ss ms ss.length).Pairwise _
  unfold findK
  rw [List.pairwise_map]
  refine (List.Pairwise.filter _ List.pairwise_lt_range).imp ?_
  intro a b h
  exact Int.ofNat_lt.2 h
theorem values_pw (ss : List (List Lbl)) (name : ByteArray) : (ixValues ss name).Pairwise fun a b => cmpB a b < 0 := setF_up cmpB_cmp _
theorem values_fresh (ss : List (List Lbl)) (name : ByteArray) {k : Nat} (hk : k < (ixValues ss name).length) : (ixValues ss name)[k] ∉ (ixValues ss name).take k :=
  pw_fresh (values_pw ss name) (fun x h => by have := (cmpB_cmp.zero x x).2 rfl; omega) hk
theorem find_fresh (ss : List (List Lbl)) (ms : List Mt) {k : Nat} (hk : k < (findL ss ms).length) : (findL ss ms)[k] ∉ (findL ss ms).take k :=
  pw_fresh (find_pw ss ms) (fun x h => by omega) hk
/-- How often each set was found: by the values vs, and of one value more by the ids L. -/
noncomputable def seenI (ss : List (List Lbl)) (name : ByteArray) (vs : List ByteArray) (L : List Int) : List Int := (List.range ss.length).map fun q => (if valOf (ss.getD q []) name ∈ vs then (1 : Int) else 0) + (if (q : Int) ∈ L then 1 else 0)
theorem seen_len (ss : List (List Lbl)) (name : ByteArray) (vs : List ByteArray) (L : List Int) : (seenI ss name vs L).length = ss.length := by
  unfold seenI
  rw [List.length_map, List.length_range]
theorem seen_at (ss : List (List Lbl)) (name : ByteArray) (vs : List ByteArray) (L : List Int) {q : Nat} (hq : q < ss.length) : (seenI ss name vs L).getD q 0 = (if valOf (ss.getD q []) name ∈ vs then (1 : Int) else 0) + (if (q : Int) ∈ L then 1 else 0) := by
  unfold seenI
  rw [List.getD_eq_getElem?_getD, List.getElem?_map, List.getElem?_range hq]
  rfl
theorem seen_none (ss : List (List Lbl)) (name : ByteArray) : List.replicate ss.length (0 : Int) = seenI ss name [] [] := by
  refine List.ext_getElem (by rw [seen_len, List.length_replicate]) ?_
  intro i h1 h2
  unfold seenI
  simp
/-- One id more. -/
theorem seen_more (ss : List (List Lbl)) (name v : ByteArray) (vs : List ByteArray) (L : List Int) (q : Nat) (hq : q < ss.length) (hv : valOf (ss.getD q []) name = v) (hf : v ∉ vs) (hn : (q : Int) ∉ L) :
    (seenI ss name vs L).getD q 0 = 0 ∧ (seenI ss name vs L).set q 1 = seenI ss name vs (L ++ [(q : Int)]) := by
  have e1 : (if valOf (ss.getD q []) name ∈ vs then (1 : Int) else 0) = 0 := if_neg (by rw [hv]; exact hf)
  have e2 : (if (q : Int) ∈ L then (1 : Int) else 0) = 0 := if_neg hn
  refine ⟨by rw [seen_at ss name vs L hq, e1, e2]; rfl, ?_⟩
  refine List.ext_getElem (by rw [List.length_set, seen_len, seen_len]) ?_
  intro i h1 h2
  rw [seen_len] at h2
  rw [List.getElem_set]
  unfold seenI
  simp only [List.getElem_map, List.getElem_range, List.mem_append, List.mem_singleton]
  by_cases e : q = i
  · subst e
    rw [if_pos rfl, e1, if_pos (.inr rfl)]
    rfl
  · rw [if_neg e]
    have : ((i : Int) ∈ L ∨ (i : Int) = (q : Int)) ↔ (i : Int) ∈ L := ⟨fun h => h.resolve_right (by omega), .inl⟩
    simp only [this]
/-- All ids of a value. -/
theorem seen_done (ss : List (List Lbl)) (name v : ByteArray) (vs : List ByteArray) (h : mchk (1, name, v) = 0) (hf : v ∉ vs) : seenI ss name vs (findL ss [(1, name, v)]) = seenI ss name (vs ++ [v]) [] := by
  refine List.ext_getElem (by rw [seen_len, seen_len]) ?_
  intro i h1 h2
  rw [seen_len] at h2
  unfold seenI
  simp only [List.getElem_map, List.getElem_range, List.mem_append, List.mem_singleton, find_one h, List.not_mem_nil, if_false]
  have e : (∃ j : Nat, j < ss.length ∧ (i : Int) = (j : Int) ∧ valOf (ss.getD j []) name = v) ↔ valOf (ss.getD i []) name = v := by
    constructor
    · rintro ⟨j, _, e, h⟩
      obtain rfl : i = j := by omega
      exact h
    · intro h; exact ⟨i, h2, rfl, h⟩
  simp only [e]
  by_cases hv : valOf (ss.getD i []) name = v
  · rw [if_neg (by rw [hv]; exact hf), if_pos hv, if_pos (.inr hv)]
    rfl
  · rw [if_neg hv]
    have : (valOf (ss.getD i []) name ∈ vs ∨ valOf (ss.getD i []) name = v) ↔ valOf (ss.getD i []) name ∈ vs := ⟨fun h => h.resolve_right hv, .inl⟩
    simp only [this]
/-- At the end: found once where the set has the name, else never. -/
theorem seen_end (ss : List (List Lbl)) (name : ByteArray) {q : Nat} (hq : q < ss.length) : (seenI ss name (ixValues ss name) []).getD q 0 = if (valOf (ss.getD q []) name).size ≠ 0 then 1 else 0 := by
  rw [seen_at ss name _ _ hq]
  have : valOf (ss.getD q []) name ∈ ixValues ss name ↔ (valOf (ss.getD q []) name).size ≠ 0 := by
    rw [values_mem]
    refine ⟨fun h => h.1, fun h => ⟨h, ss.getD q [], ?_, rfl⟩⟩
    rw [List.getD_eq_getElem?_getD, List.getElem?_eq_getElem hq]
    exact List.getElem_mem hq
  simp only [this, List.not_mem_nil, if_false, Int.add_zero]
/-- What the law's rounds ask: of each value, and of each id that the value finds. -/
theorem parts_val {ss : List (List Lbl)} (hr : ∀ l ∈ ss, lbChk l = 0) (name : ByteArray) {k : Nat} (hk : k < (ixValues ss name).length) :
    ∃ v L, (ixValues ss name).getD k ⟨#[]⟩ = v ∧ findL ss [(1, name, v)] = L ∧ mchkAll [(1, name, v)] = 0 ∧ 0 < L.length ∧ L.length ≤ ss.length ∧
      seenI ss name ((ixValues ss name).take k) L = seenI ss name ((ixValues ss name).take (k + 1)) [] ∧
      ∀ j, j < L.length → ∃ q : Nat, L.getD j 0 = (q : Int) ∧ q < ss.length ∧ (seenI ss name ((ixValues ss name).take k) (L.take j)).getD q 0 = 0 ∧
        (seenI ss name ((ixValues ss name).take k) (L.take j)).set q 1 = seenI ss name ((ixValues ss name).take k) (L.take (j + 1)) := by
  have hf := values_fresh ss name hk
  have hm : (ixValues ss name)[k] ∈ ixValues ss name := List.getElem_mem hk
  obtain ⟨h1, h2, l, hl, h3⟩ := val_mchk hr hm
  refine ⟨(ixValues ss name)[k], _, by rw [List.getD_eq_getElem?_getD, List.getElem?_eq_getElem hk]; rfl, rfl, chkall_one h1 h2, ?_, findK_len _ _ _, ?_, ?_⟩
  · obtain ⟨i, hi, e⟩ := List.getElem_of_mem hl
    have : ((i : Int)) ∈ findL ss [(1, name, (ixValues ss name)[k])] := (find_one h1 _).2 ⟨i, hi, rfl, by rw [List.getD_eq_getElem?_getD, List.getElem?_eq_getElem hi, e]; exact h3⟩
    exact List.length_pos_of_mem this
  · rw [seen_done ss name _ _ h1 hf, List.take_succ_eq_append_getElem hk]
  · intro j hj
    have hfj := find_fresh ss [(1, name, (ixValues ss name)[k])] hj
    have hmj : (findL ss [(1, name, (ixValues ss name)[k])])[j] ∈ findL ss [(1, name, (ixValues ss name)[k])] := List.getElem_mem hj
    obtain ⟨q, hq, e, hv⟩ := (find_one h1 _).1 hmj
    rw [e] at hfj
    obtain ⟨s1, s2⟩ := seen_more ss name _ ((ixValues ss name).take k) _ q hq hv hf hfj
    refine ⟨q, by rw [List.getD_eq_getElem?_getD, List.getElem?_eq_getElem hj, ← e]; rfl, hq, s1, ?_⟩
    rw [s2, List.take_succ_eq_append_getElem hj, e]
end Go.Proofs.YtojlcipphnegaaaGreat
