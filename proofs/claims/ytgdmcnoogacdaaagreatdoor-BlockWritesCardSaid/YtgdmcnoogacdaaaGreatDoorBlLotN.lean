/- In one text, written by lotify.py: IxMath3, IxIds. -/
import Derived.Test.YtgdmcnoogacdaaaGreatDoorBlLotK
import Derived.Test.YtgdmcnoogacdaaaGreatDoorMtMath
import Derived.Test.YtgdmcnoogacdaaaGreatDoorPoMath
namespace Go.Proofs.YtgdmcnoogacdaaaGreatDoor
set_option linter.unusedVariables false

/-- The ids, among the first k, of the sets that all matchers fit. -/
def findK (sets : List (List Lbl)) (ms : List Mt) (k : Nat) : List Int := ((List.range k).filter fun i => mall ms (sets.getD i [])).map Int.ofNat
def findL (sets : List (List Lbl)) (ms : List Mt) : List Int := findK sets ms sets.length
theorem findK_next (sets : List (List Lbl)) (ms : List Mt) (k : Nat) : findK sets ms (k + 1) = findK sets ms k ++ (if mall ms (sets.getD k []) = true then [(k : Int)] else []) := by
  unfold findK
  rw [List.range_succ, List.filter_append, List.map_append]
  congr 1
  rw [List.filter_cons, List.filter_nil]
  split <;> simp
theorem findK_mem (sets : List (List Lbl)) (ms : List Mt) (k : Nat) (n : Int) : n ∈ findK sets ms k ↔ ∃ i : Nat, i < k ∧ n = (i : Int) ∧ mall ms (sets.getD i []) = true := by
  unfold findK
  simp only [List.mem_map, List.mem_filter, List.mem_range]
  constructor
  · rintro ⟨i, ⟨h1, h2⟩, rfl⟩
    exact ⟨i, h1, rfl, h2⟩
  · rintro ⟨i, h1, rfl, h2⟩
    exact ⟨i, ⟨h1, h2⟩, rfl⟩
theorem findK_len (sets : List (List Lbl)) (ms : List Mt) (k : Nat) : (findK sets ms k).length ≤ k := by
  unfold findK
  rw [List.length_map]
  have := List.length_filter_le (fun i => mall ms (sets.getD i [])) (List.range k)
  rwa [List.length_range] at this
theorem up_snoc : ∀ {l : List Int} {p n : Int}, Up p l → p < n → n ≤ 1099511627776 → (∀ x ∈ l, x < n) → Up p (l ++ [n]) := by
  intro l
  induction l with
  | nil => intro p n _ h1 h2 _; exact ⟨h1, h2, trivial⟩
  | cons x l ih =>
    intro p n h h1 h2 h3
    exact ⟨h.1, h.2.1, ih h.2.2 (h3 x (by simp)) h2 fun y hy => h3 y (List.mem_cons_of_mem _ hy)⟩
theorem findK_up (sets : List (List Lbl)) (ms : List Mt) : ∀ k : Nat, k ≤ 1000 → Up (-1) (findK sets ms k) := by
  intro k
  induction k with
  | zero => intro _; exact trivial
  | succ k ih =>
    intro hk
    rw [findK_next]
    split
    · refine up_snoc (ih (by omega)) (by omega) (by omega) fun x hx => ?_
      obtain ⟨i, h1, rfl, _⟩ := (findK_mem _ _ _ _).1 hx
      omega
    · rw [List.append_nil]
      exact ih (by omega)
theorem find_right {sets : List (List Lbl)} (h : sets.length ≤ 256) (ms : List Mt) : pchk (findL sets ms) = 0 := pchk_zero.2 ⟨Nat.le_trans (findK_len _ _ _) (by omega), findK_up sets ms _ (by omega)⟩
theorem mall_app (a b : List Mt) (l : List Lbl) : mall (a ++ b) l = (mall a l && mall b l) := by
  unfold mall
  rw [List.all_append]
/-- What two lists of matchers find together is what is in both that they find alone. -/
theorem find_both {sets : List (List Lbl)} (h : sets.length ≤ 256) (a b : List Mt) : findL sets (a ++ b) = pickL (findL sets a) (findL sets b) true := by
  have u1 := findK_up sets (a ++ b) sets.length (by omega)
  have u2 := findK_up sets a sets.length (by omega)
  refine up_ext u1 (up_filter _ u2) fun n => ?_
  show n ∈ findK sets (a ++ b) sets.length ↔ n ∈ pickL (findK sets a sets.length) (findK sets b sets.length) true
  unfold pickL
  rw [List.mem_filter, findK_mem, findK_mem]
  simp only [beq_true, decide_eq_true_eq, findK_mem, mall_app, Bool.and_eq_true]
  constructor
  · rintro ⟨i, h1, rfl, h2, h3⟩
    exact ⟨⟨i, h1, rfl, h2⟩, i, h1, rfl, h3⟩
  · rintro ⟨⟨i, h1, rfl, h2⟩, j, _, e, h3⟩
    have e : i = j := by omega
    subst e
    exact ⟨i, h1, rfl, h2, h3⟩
theorem merr_app (a b : List Mt) (h : merr a = 0) : merr (a ++ b) = merr b := by
  induction a with
  | nil => rfl
  | cons m a ih =>
    rw [List.cons_append]
    have e1 : ∀ ms : List Mt, merr (m :: ms) = if mchk m = 0 then merr ms else mchk m := fun ms => rfl
    rw [e1] at h ⊢
    by_cases h1 : mchk m = 0
    · rw [if_pos h1] at h ⊢
      exact ih h
    · rw [if_neg h1] at h
      exact absurd h h1
theorem chkall_zero {ms : List Mt} : mchkAll ms = 0 ↔ ms.length ≤ 8 ∧ merr ms = 0 ∧ mall ms [] = false := by
  unfold mchkAll
  by_cases h1 : 8 < ms.length
  · rw [if_pos h1]
    constructor
    · intro h; cases h
    · intro h; omega
  · rw [if_neg h1]
    by_cases h2 : merr ms = 0
    · rw [if_neg (by omega)]
      cases h3 : mall ms []
      · simp; omega
      · simp
    · rw [if_pos h2]
      constructor
      · intro h; exact absurd h h2
      · intro h; exact absurd h.2.1 h2
theorem chkall_app {a b : List Mt} (ha : mchkAll a = 0) (hb : mchkAll b = 0) (hl : a.length + b.length ≤ 8) : mchkAll (a ++ b) = 0 := by
  obtain ⟨_, a2, a3⟩ := chkall_zero.1 ha
  obtain ⟨_, b2, _⟩ := chkall_zero.1 hb
  refine chkall_zero.2 ⟨by rw [List.length_append]; exact hl, by rw [merr_app a b a2]; exact b2, by rw [mall_app, a3]; rfl⟩

/-! ### the values of a name -/
def gotOf (sets : List (List Lbl)) (name : ByteArray) : List ByteArray := (sets.map fun l => valOf l name).filter fun v => decide (v.size ≠ 0)
def ixValues (sets : List (List Lbl)) (name : ByteArray) : List ByteArray := setF cmpB (gotOf sets name)
theorem values_mem (sets : List (List Lbl)) (name v : ByteArray) : v ∈ ixValues sets name ↔ v.size ≠ 0 ∧ ∃ l ∈ sets, valOf l name = v := by
  unfold ixValues gotOf
  rw [setF_mem cmpB_cmp, List.mem_filter, List.mem_map]
  simp only [decide_eq_true_eq]
  constructor
  · rintro ⟨h1, h2⟩; exact ⟨h2, h1⟩
  · rintro ⟨h1, h2⟩; exact ⟨h2, h1⟩
theorem valOf_in {l : List Lbl} {name : ByteArray} : (valOf l name).size ≠ 0 → (name, valOf l name) ∈ l := by
  induction l with
  | nil => intro h; exact absurd rfl h
  | cons x l ih =>
    intro h
    unfold valOf at h ⊢
    by_cases e : x.1 = name
    · rw [if_pos e]
      subst e
      exact List.mem_cons_self
    · rw [if_neg e] at h ⊢
      exact List.mem_cons_of_mem _ (ih h)
/-- A value of a right set may be asked for, and is found where it is. -/
theorem value_chk {l : List Lbl} (h : lbChk l = 0) {name : ByteArray} (hv : (valOf l name).size ≠ 0) : mchkAll [(1, name, valOf l name)] = 0 := by
  have hm := valOf_in hv
  obtain ⟨_, h64, h0⟩ := label_sizes h hm
  obtain ⟨i, hi, e⟩ := List.getElem_of_mem hm
  have h1 := lbErrAt_zero.1 ((lbChk_ok.1 h).2 i hi)
  have e2 : l.getD i lbl0 = (name, valOf l name) := by rw [List.getD_eq_getElem?_getD, List.getElem?_eq_getElem hi, e]; rfl
  unfold nmOf at h1
  rw [e2] at h1
  have hc : mchk (1, name, valOf l name) = 0 := mchk_eq rfl h1.1 (by simp only at h64; omega) (by omega)
  refine chkall_zero.2 ⟨by simp, by unfold merr; rw [if_pos hc]; rfl, ?_⟩
  unfold mall mfits
  simp only [List.all_cons, List.all_nil, Bool.and_true]
  rw [decide_eq_true hc]
  simp only [Bool.true_and]
  show mtake (1, name, valOf l name) ⟨#[]⟩ = false
  unfold mtake
  rw [if_pos rfl]
  refine decide_eq_false fun e3 => hv ?_
  have : (valOf l name).size = (⟨#[]⟩ : ByteArray).size := by
    have e4 : (⟨#[]⟩ : ByteArray) = valOf l name := e3
    rw [← e4]
  exact this
theorem value_fits {name v : ByteArray} (hc : mchkAll [(1, name, v)] = 0) (l : List Lbl) : mall [(1, name, v)] l = decide (valOf l name = v) := by
  obtain ⟨_, h2, _⟩ := chkall_zero.1 hc
  have hm : mchk (1, name, v) = 0 := by
    unfold merr at h2
    by_cases h : mchk (1, name, v) = 0
    · exact h
    · rw [if_neg h] at h2; exact absurd h2 h
  unfold mall mfits
  simp only [List.all_cons, List.all_nil, Bool.and_true]
  rw [decide_eq_true hm]
  simp only [Bool.true_and]
  unfold mtake
  rw [if_pos rfl]
theorem valq_eq {l : List Lbl} {name : ByteArray} {k : Nat} (hk : k < l.length) (h : nmOf l k = name) : valOf (l.drop k) name = vlOf l k := by
  rw [List.drop_eq_getElem_cons hk, valOf]
  have e : l[k] = l.getD k lbl0 := by simp [List.getD, List.getElem?_eq_getElem hk]
  rw [e]
  exact if_pos h
theorem valq_ne {l : List Lbl} {name : ByteArray} {k : Nat} (hk : k < l.length) (h : nmOf l k ≠ name) : valOf (l.drop k) name = valOf (l.drop (k + 1)) name := by
  rw [List.drop_eq_getElem_cons hk, valOf]
  have e : l[k] = l.getD k lbl0 := by simp [List.getD, List.getElem?_eq_getElem hk]
  rw [e]
  exact if_neg h
theorem got_next (ss : List (List Lbl)) (name : ByteArray) {i : Nat} (hi : i < ss.length) : gotOf (ss.take (i + 1)) name = gotOf (ss.take i) name ++ (if (valOf (ss.getD i []) name).size ≠ 0 then [valOf (ss.getD i []) name] else []) := by
  unfold gotOf
  have hg : ss.getD i [] = ss[i] := by rw [List.getD_eq_getElem?_getD, List.getElem?_eq_getElem hi]; rfl
  rw [List.take_succ_eq_append_getElem hi, List.map_append, List.filter_append, hg]
  congr 1
  rw [List.map_cons, List.map_nil, List.filter_cons, List.filter_nil]
  by_cases h : (valOf ss[i] name).size ≠ 0
  · rw [if_pos h, if_pos (decide_eq_true h)]
  · rw [if_neg h, if_neg (by simp [h])]
theorem values_step (ss : List (List Lbl)) (name : ByteArray) {i : Nat} (hi : i < ss.length) : ixValues (ss.take (i + 1)) name = if (valOf (ss.getD i []) name).size ≠ 0 then withF cmpB (ixValues (ss.take i) name) (valOf (ss.getD i []) name) else ixValues (ss.take i) name := by
  unfold ixValues
  rw [got_next ss name hi, setF_app]
  split <;> rfl
theorem values_len (ss : List (List Lbl)) (name : ByteArray) : (ixValues ss name).length ≤ ss.length := by
  unfold ixValues gotOf
  refine Nat.le_trans (setF_len cmpB_cmp _) (Nat.le_trans (List.length_filter_le _ _) ?_)
  rw [List.length_map]
  exact Nat.le_refl _
end Go.Proofs.YtgdmcnoogacdaaaGreatDoor

namespace Go.Proofs.YtgdmcnoogacdaaaGreatDoor
set_option linter.unusedVariables false

instance memDec (p : Lbl) (l : List Lbl) : Decidable (p ∈ l) := decidable_of_iff (l.any (fun x => decide (x = p)) = true) (by simp)
/-- One label, and the id of its set. -/
abbrev Ev := Lbl × Nat
/-- The labels of the first i sets, and k more of the next one. -/
def evsAt (ss : List (List Lbl)) (i k : Nat) : List Ev := ((List.range i).flatMap fun j => (ss.getD j []).map fun x => (x, j)) ++ ((ss.getD i []).take k).map fun x => (x, i)
def idsE (evs : List Ev) (p : Lbl) : List Int := (evs.filter fun e => decide (e.1 = p)).map fun e => (e.2 : Int)
theorem evs_step (ss : List (List Lbl)) (i : Nat) {k : Nat} (hk : k < (ss.getD i []).length) : evsAt ss i (k + 1) = evsAt ss i k ++ [((ss.getD i []).getD k lbl0, i)] := by
  unfold evsAt
  have e : (ss.getD i [])[k] = (ss.getD i []).getD k lbl0 := by rw [List.getD_eq_getElem?_getD (l := ss.getD i []), List.getElem?_eq_getElem hk]; rfl
  rw [List.take_succ_eq_append_getElem hk, List.map_append, ← List.append_assoc, e]
  rfl
theorem evs_row (ss : List (List Lbl)) (i : Nat) : evsAt ss i (ss.getD i []).length = evsAt ss (i + 1) 0 := by
  unfold evsAt
  rw [List.take_length, List.take_zero, List.map_nil, List.append_nil, List.range_succ, List.flatMap_append]
  simp
theorem idsE_app (a b : List Ev) (p : Lbl) : idsE (a ++ b) p = idsE a p ++ idsE b p := by
  unfold idsE
  rw [List.filter_append, List.map_append]
theorem idsE_snoc (a : List Ev) (x : Lbl) (i : Nat) (p : Lbl) : idsE (a ++ [(x, i)]) p = idsE a p ++ (if x = p then [(i : Int)] else []) := by
  rw [idsE_app]
  congr 1
  unfold idsE
  rw [List.filter_cons, List.filter_nil]
  by_cases h : x = p <;> simp [h]
theorem idsE_pos (evs : List Ev) (p : Lbl) : idsE evs p ≠ [] ↔ p ∈ evs.map (·.1) := by
  unfold idsE
  rw [ne_eq, List.map_eq_nil_iff, List.filter_eq_nil_iff, List.mem_map]
  constructor
  · intro h
    refine Classical.byContradiction fun h2 => h fun e he h3 => h2 ⟨e, he, of_decide_eq_true h3⟩
  · rintro ⟨e, he, rfl⟩ h
    exact h e he (by simp)
theorem idsE_len (evs : List Ev) (p : Lbl) : (idsE evs p).length ≤ evs.length := by
  unfold idsE
  rw [List.length_map]
  exact List.length_filter_le _ _
theorem evs_mem (ss : List (List Lbl)) (p : Lbl) : p ∈ (evsAt ss ss.length 0).map (·.1) ↔ ∃ l ∈ ss, p ∈ l := by
  unfold evsAt
  rw [List.take_zero, List.map_nil, List.append_nil, List.mem_map]
  simp only [List.mem_flatMap, List.mem_range, List.mem_map]
  constructor
  · rintro ⟨e, ⟨j, hj, x, hx, rfl⟩, rfl⟩
    refine ⟨ss.getD j [], ?_, hx⟩
    rw [List.getD_eq_getElem?_getD, List.getElem?_eq_getElem hj]
    exact List.getElem_mem hj
  · rintro ⟨l, hl, hp⟩
    obtain ⟨j, hj, e⟩ := List.getElem_of_mem hl
    refine ⟨(p, j), ⟨j, hj, p, ?_, rfl⟩, rfl⟩
    rw [List.getD_eq_getElem?_getD, List.getElem?_eq_getElem hj, e]
    exact hp
/-- The names of a right set are apart. -/
theorem names_up {l : List Lbl} (h : lbChk l = 0) : ∀ i j, i < j → j < l.length → cmpB (nmOf l i) (nmOf l j) < 0 := by
  have h0 := (lbChk_ok.1 h).2
  have step : ∀ i, i + 1 < l.length → cmpB (nmOf l i) (nmOf l (i + 1)) < 0 := by
    intro i hi
    have h1 := (lbErrAt_zero.1 (h0 (i + 1) hi)).2.2.2 (by omega)
    rw [Nat.add_sub_cancel, le_cmp] at h1
    simp only [decide_eq_false_iff_not] at h1
    have h2 := cmpB_cmp.swap (nmOf l (i + 1)) (nmOf l i)
    omega
  intro i j hij
  induction j with
  | zero => omega
  | succ j ih =>
    intro hj
    rcases Nat.lt_or_ge i j with h1 | h1
    · have h2 := ih h1 (by omega)
      have h3 := step j hj
      exact cmpB_cmp.strict h2 (by omega)
    · rw [show i = j from by omega]; exact step j hj
theorem names_apart {l : List Lbl} (h : lbChk l = 0) : l.Pairwise fun x y => x.1 ≠ y.1 := by
  rw [List.pairwise_iff_getElem]
  intro i j hi hj hij e
  have h1 := names_up h i j hij hj
  unfold nmOf at h1
  rw [List.getD_eq_getElem?_getD, List.getElem?_eq_getElem hi, List.getD_eq_getElem?_getD, List.getElem?_eq_getElem hj] at h1
  simp only [Option.getD_some] at h1
  rw [e, cmp_self cmpB_cmp] at h1
  omega
theorem one_of {l : List Lbl} (h : l.Pairwise fun x y => x.1 ≠ y.1) (p : Lbl) (i : Nat) : idsE (l.map fun x => (x, i)) p = if p ∈ l then [(i : Int)] else [] := by
  induction l with
  | nil => simp [idsE]
  | cons x l ih =>
    obtain ⟨h1, h2⟩ := List.pairwise_cons.1 h
    rw [List.map_cons, show ((x, i) :: l.map fun x => (x, i)) = [(x, i)] ++ l.map fun x => (x, i) from rfl, idsE_app, ih h2]
    by_cases e : x = p
    · subst e
      have hn : x ∉ l := fun hm => h1 x hm rfl
      simp [idsE, hn]
    · have e2 : ¬ p = x := fun h => e h.symm
      simp [idsE, e, e2]
/-- The ids of the sets that have a label. -/
def idsK (ss : List (List Lbl)) (n : Nat) (p : Lbl) : List Int := ((List.range n).filter fun i => decide (p ∈ ss.getD i [])).map Int.ofNat
theorem ids_all {ss : List (List Lbl)} (h : ∀ l ∈ ss, lbChk l = 0) (p : Lbl) : ∀ n, n ≤ ss.length → idsE (evsAt ss n 0) p = idsK ss n p := by
  intro n
  induction n with
  | zero => intro _; rfl
  | succ n ih =>
    intro hn
    have e : evsAt ss (n + 1) 0 = evsAt ss n 0 ++ (ss.getD n []).map fun x => (x, n) := by
      rw [← evs_row]
      unfold evsAt
      rw [List.take_length, List.take_zero, List.map_nil, List.append_nil]
    have hm : ss.getD n [] ∈ ss := by
      rw [List.getD_eq_getElem?_getD, List.getElem?_eq_getElem (by omega)]
      exact List.getElem_mem _
    rw [e, idsE_app, ih (by omega), one_of (names_apart (h _ hm))]
    unfold idsK
    rw [List.range_succ, List.filter_append, List.map_append]
    congr 1
    rw [List.filter_cons, List.filter_nil]
    by_cases hp : p ∈ ss.getD n [] <;> simp only [hp, decide_true, decide_false, if_true, Bool.false_eq_true, if_false] <;> rfl
theorem idsK_mem (ss : List (List Lbl)) (n : Nat) (p : Lbl) (z : Int) : z ∈ idsK ss n p ↔ ∃ i : Nat, i < n ∧ z = (i : Int) ∧ p ∈ ss.getD i [] := by
  unfold idsK
  simp only [List.mem_map, List.mem_filter, List.mem_range, decide_eq_true_eq]
  constructor
  · rintro ⟨i, ⟨h1, h2⟩, rfl⟩
    exact ⟨i, h1, rfl, h2⟩
  · rintro ⟨i, h1, rfl, h2⟩
    exact ⟨i, ⟨h1, h2⟩, rfl⟩
theorem idsK_len (ss : List (List Lbl)) (n : Nat) (p : Lbl) : (idsK ss n p).length ≤ n := by
  unfold idsK
  rw [List.length_map]
  have := List.length_filter_le (fun i => decide (p ∈ ss.getD i [])) (List.range n)
  rwa [List.length_range] at this
theorem range_lt (f : Nat → Bool) (n : Nat) : (((List.range n).filter f).map Int.ofNat).Pairwise (· < ·) := by
  rw [List.pairwise_map]
  refine (List.Pairwise.filter _ List.pairwise_lt_range).imp fun h => ?_
  simp only [Int.ofNat_eq_natCast]
  omega
/-- Rising lists with the same numbers are one. -/
theorem lt_ext : ∀ {a b : List Int}, a.Pairwise (· < ·) → b.Pairwise (· < ·) → (∀ x, x ∈ a ↔ x ∈ b) → a = b := by
  intro a
  induction a with
  | nil =>
    intro b _ _ h
    cases b with
    | nil => rfl
    | cons y s => exact absurd ((h y).2 (by simp)) (by simp)
  | cons x r ih =>
    intro b ha hb h
    cases b with
    | nil => exact absurd ((h x).1 (by simp)) (by simp)
    | cons y s =>
      obtain ⟨a1, a2⟩ := List.pairwise_cons.1 ha
      obtain ⟨b1, b2⟩ := List.pairwise_cons.1 hb
      have hxy : x = y := by
        rcases List.mem_cons.1 ((h x).1 (by simp)) with e | hx
        · exact e
        · rcases List.mem_cons.1 ((h y).2 (by simp)) with e | hy
          · exact e.symm
          · have := a1 y hy
            have := b1 x hx
            omega
      subst hxy
      congr 1
      refine ih a2 b2 fun z => ⟨fun hz => ?_, fun hz => ?_⟩
      · rcases List.mem_cons.1 ((h z).1 (by simp [hz])) with rfl | h3
        · exact absurd (a1 z hz) (by omega)
        · exact h3
      · rcases List.mem_cons.1 ((h z).2 (by simp [hz])) with rfl | h3
        · exact absurd (b1 z hz) (by omega)
        · exact h3

/-! ### what one matcher finds -/
theorem valOf_mem : ∀ {l : List Lbl}, (l.Pairwise fun x y => x.1 ≠ y.1) → ∀ {p : Lbl}, p ∈ l → valOf l p.1 = p.2 := by
  intro l
  induction l with
  | nil => intro _ p hp; cases hp
  | cons x l ih =>
    intro h p hp
    obtain ⟨h1, h2⟩ := List.pairwise_cons.1 h
    rw [valOf]
    rcases List.mem_cons.1 hp with rfl | hp
    · rw [if_pos rfl]
    · rw [if_neg (h1 p hp)]
      exact ih h2 hp
theorem valOf_is {l : List Lbl} (h : lbChk l = 0) (n v : ByteArray) : (n, v) ∈ l ↔ valOf l n = v ∧ v.size ≠ 0 := by
  constructor
  · intro hp
    have h1 := valOf_mem (names_apart h) hp
    have h2 := label_sizes h hp
    exact ⟨h1, by have := h2.2.2; simp only at this; omega⟩
  · rintro ⟨rfl, hv⟩
    exact valOf_in hv
theorem fits_val (m : Mt) {l l' : List Lbl} (h : valOf l m.2.1 = valOf l' m.2.1) : mfits m l = mfits m l' := by
  unfold mfits
  rw [h]
theorem valOf_one (n v : ByteArray) : valOf [(n, v)] n = v := by
  rw [valOf, if_pos rfl]
/-- Of this value the matcher tells otherwise than of the empty one. -/
def oddV (m : Mt) (v : ByteArray) : Bool := mfits m [(m.2.1, v)] != mfits m []
def oddS (m : Mt) (l : List Lbl) : Bool := mfits m l != mfits m []
def oddL (ss : List (List Lbl)) (m : Mt) : List Int := ((List.range ss.length).filter fun i => oddS m (ss.getD i [])).map Int.ofNat
def askedL (ss : List (List Lbl)) (m : Mt) : List ByteArray := if m.2.2.size ≠ 0 ∧ (m.1 = 1 ∨ m.1 = 2) then [m.2.2] else ixValues ss m.2.1
def otherL (ss : List (List Lbl)) (m : Mt) (vs : List ByteArray) : List Int := vs.flatMap fun v => if oddV m v = true then idsK ss ss.length (m.2.1, v) else []
theorem odd_val (m : Mt) (l : List Lbl) : oddS m l = oddV m (valOf l m.2.1) := by
  unfold oddS oddV
  rw [fits_val m (l := l) (l' := [(m.2.1, valOf l m.2.1)]) (by rw [valOf_one])]
theorem odd_empty (m : Mt) {l : List Lbl} (h : (valOf l m.2.1).size = 0) : oddS m l = false := by
  unfold oddS
  have e : valOf l m.2.1 = ⟨#[]⟩ := by
    apply ByteArray.ext
    apply Array.ext
    · exact h
    · intro i h1 h2
      simp at h2
  rw [fits_val m (l' := []) (by rw [e]; rfl)]
  simp
theorem odd_asked {ss : List (List Lbl)} (m : Mt) {l : List Lbl} (hl : l ∈ ss) (h : oddS m l = true) : valOf l m.2.1 ∈ askedL ss m := by
  have hv : (valOf l m.2.1).size ≠ 0 := fun e => by rw [odd_empty m e] at h; cases h
  unfold askedL
  by_cases hq : m.2.2.size ≠ 0 ∧ (m.1 = 1 ∨ m.1 = 2)
  · rw [if_pos hq, List.mem_singleton]
    refine Classical.byContradiction fun hne => ?_
    have hne2 : ¬ (⟨#[]⟩ : ByteArray) = m.2.2 := fun e => hq.1 (by rw [← e]; rfl)
    have e : mfits m l = mfits m [] := by
      unfold mfits
      congr 1
      show mtake m (valOf l m.2.1) = mtake m ⟨#[]⟩
      unfold mtake
      rcases hq.2 with h1 | h1
      · rw [if_pos h1, if_pos h1, decide_eq_false hne, decide_eq_false hne2]
      · have h3 : ¬ m.1 = 1 := by omega
        rw [if_neg h3, if_neg h3, if_pos h1, if_pos h1, decide_eq_false hne, decide_eq_false hne2]
    unfold oddS at h
    rw [e] at h
    simp at h
  · rw [if_neg hq]
    exact (values_mem _ _ _).2 ⟨hv, l, hl, rfl⟩
theorem ss_at {ss : List (List Lbl)} {i : Nat} (h : i < ss.length) : ss.getD i [] ∈ ss := by
  rw [List.getD_eq_getElem?_getD, List.getElem?_eq_getElem h]
  exact List.getElem_mem h
theorem other_mem {ss : List (List Lbl)} (hr : ∀ l ∈ ss, lbChk l = 0) (m : Mt) (z : Int) : z ∈ otherL ss m (askedL ss m) ↔ z ∈ oddL ss m := by
  unfold otherL oddL
  simp only [List.mem_flatMap, List.mem_map, List.mem_filter, List.mem_range]
  constructor
  · rintro ⟨v, hv, hz⟩
    by_cases ho : oddV m v = true
    · rw [if_pos ho] at hz
      obtain ⟨i, hi, rfl, hp⟩ := (idsK_mem _ _ _ _).1 hz
      have h1 := (valOf_is (hr _ (ss_at hi)) _ _).1 hp
      exact ⟨i, ⟨hi, by rw [odd_val, h1.1]; exact ho⟩, rfl⟩
    · rw [if_neg ho] at hz
      cases hz
  · rintro ⟨i, ⟨hi, ho⟩, rfl⟩
    refine ⟨valOf (ss.getD i []) m.2.1, odd_asked m (ss_at hi) ho, ?_⟩
    have hv : (valOf (ss.getD i []) m.2.1).size ≠ 0 := fun e => by rw [odd_empty m e] at ho; cases ho
    rw [if_pos (by rw [← odd_val]; exact ho)]
    exact (idsK_mem _ _ _ _).2 ⟨i, hi, rfl, (valOf_is (hr _ (ss_at hi)) _ _).2 ⟨rfl, hv⟩⟩
theorem asked_nodup (ss : List (List Lbl)) (m : Mt) : (askedL ss m).Nodup := by
  unfold askedL
  split
  · simp
  · have := setF_up cmpB_cmp (gotOf ss m.2.1)
    refine this.imp fun {a b} h e => ?_
    rw [e, cmp_self cmpB_cmp] at h
    omega
theorem other_nodup {ss : List (List Lbl)} (hr : ∀ l ∈ ss, lbChk l = 0) (m : Mt) : ∀ {vs : List ByteArray}, vs.Nodup → (otherL ss m vs).Nodup := by
  intro vs
  induction vs with
  | nil => intro _; exact List.nodup_nil
  | cons v vs ih =>
    intro h
    obtain ⟨h1, h2⟩ := List.nodup_cons.1 h
    unfold otherL
    rw [List.flatMap_cons]
    refine List.nodup_append.2 ⟨?_, ih h2, ?_⟩
    · split
      · exact (range_lt _ _).imp fun h e => by omega
      · exact List.nodup_nil
    · intro a ha b hb e
      subst e
      by_cases ho : oddV m v = true
      · rw [if_pos ho] at ha
        obtain ⟨i, hi, rfl, hp⟩ := (idsK_mem _ _ _ _).1 ha
        obtain ⟨v2, hv2, hb⟩ := List.mem_flatMap.1 hb
        by_cases ho2 : oddV m v2 = true
        · rw [if_pos ho2] at hb
          obtain ⟨i2, hi2, e2, hp2⟩ := (idsK_mem _ _ _ _).1 hb
          obtain rfl : i = i2 := by omega
          have q1 := ((valOf_is (hr _ (ss_at hi)) _ _).1 hp).1
          have q2 := ((valOf_is (hr _ (ss_at hi)) _ _).1 hp2).1
          rw [q1] at q2
          exact h1 (by rw [q2]; exact hv2)
        · rw [if_neg ho2] at hb
          cases hb
      · rw [if_neg ho] at ha
        cases ha
/-- What is gathered, in order, is what the matcher tells otherwise of. -/
theorem other_sorted {ss : List (List Lbl)} (hr : ∀ l ∈ ss, lbChk l = 0) (m : Mt) {zs : List Int} (hp : zs.Perm (otherL ss m (askedL ss m))) (hs : zs.Pairwise (· ≤ ·)) : zs = oddL ss m := by
  have hn : zs.Nodup := hp.nodup_iff.2 (other_nodup hr m (asked_nodup ss m))
  refine lt_ext ?_ (range_lt _ _) fun z => by rw [hp.mem_iff, other_mem hr]
  exact hs.imp₂ (fun a b h1 h2 => by omega) hn
theorem findL_one (ss : List (List Lbl)) (m : Mt) : findL ss [m] = ((List.range ss.length).filter fun i => mfits m (ss.getD i [])).map Int.ofNat := by
  unfold findL findK mall
  simp
theorem odd_find {ss : List (List Lbl)} (m : Mt) (h : mfits m [] = false) : oddL ss m = findL ss [m] := by
  rw [findL_one]
  unfold oddL oddS
  rw [h]
  simp
def allIds (n : Nat) : List Int := (List.range n).map Int.ofNat
theorem all_up : ∀ n : Nat, n ≤ 1000 → Up (-1) (allIds n) := by
  intro n
  induction n with
  | zero => intro _; exact trivial
  | succ n ih =>
    intro hn
    unfold allIds
    rw [List.range_succ, List.map_append]
    refine up_snoc (ih (by omega)) (by simp only [Int.ofNat_eq_natCast]; omega) (by simp only [Int.ofNat_eq_natCast]; omega) fun x hx => ?_
    obtain ⟨i, hi, rfl⟩ := List.mem_map.1 hx
    rw [List.mem_range] at hi
    simp only [Int.ofNat_eq_natCast]
    omega
theorem odd_up (ss : List (List Lbl)) (m : Mt) (h : ss.length ≤ 256) : Up (-1) (oddL ss m) := by
  have key : ∀ n : Nat, n ≤ 1000 → Up (-1) (((List.range n).filter fun i => oddS m (ss.getD i [])).map Int.ofNat) := by
    intro n
    induction n with
    | zero => intro _; exact trivial
    | succ n ih =>
      intro hn
      rw [List.range_succ, List.filter_append, List.map_append, List.filter_cons, List.filter_nil]
      split
      · refine up_snoc (ih (by omega)) (by simp only [Int.ofNat_eq_natCast]; omega) (by simp only [Int.ofNat_eq_natCast]; omega) fun x hx => ?_
        obtain ⟨i, hi, rfl⟩ := List.mem_map.1 hx
        have := List.mem_range.1 (List.mem_filter.1 hi).1
        simp only [Int.ofNat_eq_natCast]
        omega
      · rw [List.map_nil, List.append_nil]
        exact ih (by omega)
  exact key _ (by omega)
theorem odd_len (ss : List (List Lbl)) (m : Mt) : (oddL ss m).length ≤ ss.length := by
  unfold oddL
  rw [List.length_map]
  have := List.length_filter_le (fun i => oddS m (ss.getD i [])) (List.range ss.length)
  rwa [List.length_range] at this
theorem odd_right {ss : List (List Lbl)} (h : ss.length ≤ 256) (m : Mt) : pchk (oddL ss m) = 0 := pchk_zero.2 ⟨Nat.le_trans (odd_len _ _) (by omega), odd_up ss m h⟩
theorem all_right {n : Nat} (h : n ≤ 256) : pchk (allIds n) = 0 := pchk_zero.2 ⟨by unfold allIds; rw [List.length_map, List.length_range]; omega, all_up n (by omega)⟩
theorem less_find {ss : List (List Lbl)} (hl : ss.length ≤ 256) (m : Mt) (h : mfits m [] = true) : lessL (allIds ss.length) (oddL ss m) = findL ss [m] := by
  refine up_ext (merge_up' (all_up _ (by omega)) (odd_up ss m hl)) (findK_up ss [m] ss.length (by omega)) fun z => ?_
  show z ∈ lessL (allIds ss.length) (oddL ss m) ↔ z ∈ findL ss [m]
  rw [less_mem (all_up _ (by omega)) (odd_up ss m hl), findL_one]
  unfold allIds oddL oddS
  rw [h]
  simp only [List.mem_map, List.mem_filter, List.mem_range]
  constructor
  · rintro ⟨⟨i, hi, rfl⟩, h2⟩
    refine ⟨i, ⟨hi, ?_⟩, rfl⟩
    cases hf : mfits m (ss.getD i [])
    · exact absurd ⟨i, ⟨hi, by rw [hf]; rfl⟩, rfl⟩ h2
    · rfl
  · rintro ⟨i, ⟨hi, hf⟩, rfl⟩
    refine ⟨⟨i, hi, rfl⟩, ?_⟩
    rintro ⟨j, ⟨_, hj2⟩, e⟩
    simp only [Int.ofNat_eq_natCast] at e
    obtain rfl : j = i := by omega
    rw [hf] at hj2
    simp at hj2
theorem both_find {ss : List (List Lbl)} (h : ss.length ≤ 256) (a : List Mt) (m : Mt) : bothL (findL ss a) (findL ss [m]) = findL ss (a ++ [m]) := by
  rw [find_both h]
  exact both_pick (findK_up ss a ss.length (by omega)) (findK_up ss [m] ss.length (by omega))

/-! ### what is gathered of the labels -/
/-- Which texts of a label are picked. -/
def pickN (x : Lbl) : List ByteArray := [x.1]
def pickV (name : ByteArray) (x : Lbl) : List ByteArray := if x.1 = name then [x.2] else []
def pickT (x : Lbl) : List ByteArray := [x.1, x.2]
theorem pick_names (ss : List (List Lbl)) (s : ByteArray) : (∃ p, (∃ l ∈ ss, p ∈ l) ∧ s ∈ pickN p) ↔ s ∈ namesOf ss := by
  unfold namesOf pickN
  simp only [List.mem_flatMap, List.mem_map, List.mem_singleton]
  constructor
  · rintro ⟨p, ⟨l, hl, hp⟩, rfl⟩; exact ⟨l, hl, p, hp, rfl⟩
  · rintro ⟨l, hl, p, hp, rfl⟩; exact ⟨p, ⟨l, hl, hp⟩, rfl⟩
theorem pick_texts (ss : List (List Lbl)) (s : ByteArray) : (∃ p, (∃ l ∈ ss, p ∈ l) ∧ s ∈ pickT p) ↔ s ∈ textsOf ss := by
  unfold textsOf namesOf pickT
  simp only [List.mem_append, List.mem_flatMap, List.mem_map, List.mem_cons, List.not_mem_nil, or_false]
  constructor
  · rintro ⟨p, ⟨l, hl, hp⟩, rfl | rfl⟩
    · exact .inl ⟨l, hl, p, hp, rfl⟩
    · exact .inr ⟨l, hl, p, hp, rfl⟩
  · rintro (⟨l, hl, p, hp, rfl⟩ | ⟨l, hl, p, hp, rfl⟩)
    · exact ⟨p, ⟨l, hl, hp⟩, .inl rfl⟩
    · exact ⟨p, ⟨l, hl, hp⟩, .inr rfl⟩
theorem pick_values {ss : List (List Lbl)} (hr : ∀ l ∈ ss, lbChk l = 0) (name s : ByteArray) : (∃ p, (∃ l ∈ ss, p ∈ l) ∧ s ∈ pickV name p) ↔ s ∈ gotOf ss name := by
  unfold gotOf pickV
  simp only [List.mem_filter, List.mem_map, decide_eq_true_eq]
  constructor
  · rintro ⟨p, ⟨l, hl, hp⟩, hs⟩
    by_cases e : p.1 = name
    · rw [if_pos e, List.mem_singleton] at hs
      subst hs
      subst e
      have := (valOf_is (hr l hl) p.1 p.2).1 hp
      exact ⟨⟨l, hl, this.1⟩, this.2⟩
    · rw [if_neg e] at hs
      cases hs
  · rintro ⟨⟨l, hl, rfl⟩, hs⟩
    exact ⟨(name, valOf l name), ⟨l, hl, valOf_in hs⟩, by rw [if_pos rfl]; simp⟩
end Go.Proofs.YtgdmcnoogacdaaaGreatDoor
