/- In one text, written by lotify.py: HdMap, HdMem. -/
import Derived.Test.YtpcjnagdanmdpaaGreatHdTxt
import Derived.Test.YtpcjnagdanmdpaaGreatHdLotQ
import Derived.Sort.KeysCollected
namespace Go.Proofs.YtpcjnagdanmdpaaGreat
open Go.RowKit Go.Maps
set_option linter.unusedVariables false
set_option linter.unusedSimpArgs false
/-- The number of the first of these sets that is l. -/
theorem idF_yes {l : List Lbl} : ∀ {h : List Ser} {k : Nat}, 0 ≤ idF l h k → ∃ i, i < h.length ∧ idF l h k = ((k + i : Nat) : Int) ∧ (h.getD i ser0).1 = l := by
  intro h
  induction h with
  | nil => intro k hk; simp [idF] at hk
  | cons s r ih =>
    intro k hk
    unfold idF at hk ⊢
    by_cases e : s.1 = l
    · rw [if_pos e]
      exact ⟨0, by simp, rfl, by simpa using e⟩
    · rw [if_neg e] at hk ⊢
      obtain ⟨i, h1, h2, h3⟩ := ih hk
      exact ⟨i + 1, by simpa using h1, by rw [h2]; congr 1; omega, by simpa using h3⟩
theorem idH_yes {h : List Ser} {l : List Lbl} (hk : 0 ≤ idH h l) : ∃ i, i < h.length ∧ idH h l = (i : Int) ∧ (h.getD i ser0).1 = l := by
  obtain ⟨i, h1, h2, h3⟩ := idF_yes hk
  exact ⟨i, h1, by unfold idH; rw [h2, Nat.zero_add], h3⟩
theorem idH_of {h : List Ser} (hk : HeadOk h) {i : Nat} (hi : i < h.length) : idH h (h.getD i ser0).1 = (i : Int) := by
  have h0 : 0 ≤ idH h (h.getD i ser0).1 := by
    rcases (show idH h (h.getD i ser0).1 < 0 ∨ 0 ≤ idH h (h.getD i ser0).1 by omega) with h1 | h1
    · exact absurd rfl (idF_neg h1 _ (ser_at hi))
    · exact h1
  obtain ⟨j, hj, e, hl⟩ := idH_yes h0
  have : j = i := by
    have hp := List.pairwise_iff_getElem.1 hk.apart
    rcases Nat.lt_trichotomy i j with h1 | h1 | h1
    · refine absurd ?_ (hp i j (by simpa using hi) (by simpa using hj) h1)
      simpa [List.getD_eq_getElem?_getD, hi, hj] using hl.symm
    · exact h1.symm
    · refine absurd ?_ (hp j i (by simpa using hj) (by simpa using hi) h1)
      simpa [List.getD_eq_getElem?_getD, hi, hj] using hl
  rw [e, this]
def kT (l : List Lbl) : Lit := .string (printL l)
/-- Block b leads from each of these sets' texts to its number, and from no other text to any. -/
def IdsAt (w : World) (b : Nat) (ls : List (List Lbl)) : Prop :=
  ∃ D : DataW Unit, w.ownsMap Tryz.prog 9 (plainElem Tryz.prog 3) b ls.length D ∧ (∀ i, i < ls.length → has D (kT (ls.getD i [])) = true ∧ ∀ z, D.atKey (kT (ls.getD i [])) z = .lit (.int .i64 (i : Int))) ∧ ∀ t, has D (.string t) = true → ∃ i, i < ls.length ∧ t = printL (ls.getD i [])
theorem hd_keyed : Keyed Tryz.prog 9 := string_keyed Tryz.underlying9
theorem int_zero (w : World) : (zeroValue 3).run Tryz.prog w = .ok (.int .i64 0) w := by kernel_rfl
theorem hd_key {s : ByteArray} (hs : s.size ≤ maxLen) : keyOf Tryz.prog 9 (.string s) = some (.string s.data.toList) := Go.WideMaps.keyOf_string_mk Tryz.underlying9 hs
theorem hd_key_txt {l : List Lbl} (h : lbChk l = 0) : keyOf Tryz.prog 9 (.string (txt (printL l))) = some (kT l) := by
  have h1 := right_txt h
  have := hd_key (s := txt (printL l)) (by simp only [txt, ByteArray.size, List.size_toArray, maxLen]; omega)
  rw [this]
  rfl
theorem IdsAt.lt {w : World} {b : Nat} {ls : List (List Lbl)} (h : IdsAt w b ls) : b < w.heap.size := by
  obtain ⟨D, hD, _⟩ := h
  exact World.ownsMap.lt hD
theorem IdsAt.block {w w' : World} {b b' : Nat} {ls : List (List Lbl)} (h : IdsAt w b ls) (hb : w'.heap[b']? = w.heap[b]?) : IdsAt w' b' ls := by
  obtain ⟨D, ⟨es, clock, h1, h2⟩, h3⟩ := h
  exact ⟨D, ⟨es, clock, hb.trans h1, h2⟩, h3⟩
theorem IdsAt.map {w : World} {b : Nat} {ls : List (List Lbl)} (h : IdsAt w b ls) : ∃ es clock, w.heap[b]? = some (.map es clock) := by
  obtain ⟨D, ⟨es, clock, h1, h2⟩, h3⟩ := h
  exact ⟨es, clock, h1⟩
theorem ids_made (w : World) : IdsAt (w.alloc (.map #[] 0)) w.heap.size [] := ⟨.map [], World.ownsMap_made w Tryz.prog 9 (plainElem Tryz.prog 3), fun i hi => by simp at hi, fun t ht => by cases ht⟩
section
variable {w : World} {b : Nat} {h : List Ser} {l : List Lbl}
theorem sets_get {h : List Ser} {i : Nat} (hi : i < h.length) : (blSets h).getD i [] = (h.getD i ser0).1 := by simp [blSets, List.getD_eq_getElem?_getD, hi]
theorem sets_len (h : List Ser) : (blSets h).length = h.length := by simp [blSets]
/-- 'v, ok := m[k]'. -/
theorem ids_look (hI : IdsAt w b (blSets h)) (hk : HeadOk h) (hl : lbChk l = 0) :
    (Instr.lookup 56 (.map (some b)) (.string (txt (printL l))) true).run Tryz.prog w = .ok (.tuple #[.int .i64 (if 0 ≤ idH h l then idH h l else 0), .bool (decide (0 ≤ idH h l))]) w := by
  obtain ⟨D, hD, h1, h2⟩ := hI
  obtain ⟨v, ps, hr, hv⟩ := hD.look_ok hd_keyed Tryz.underlying56 (int_zero w) (plainElem_int Tryz.underlying3 (by decide)) (hd_key_txt hl)
  rw [hr]
  by_cases h0 : 0 ≤ idH h l
  · obtain ⟨i, hi, e, hil⟩ := idH_yes h0
    obtain ⟨k1, k2⟩ := h1 i (by rw [sets_len]; exact hi)
    rw [sets_get hi, hil] at k1 k2
    rw [k2] at hv
    rw [k1, if_pos h0, decide_eq_true h0, e]
    obtain ⟨c, rfl, hc, _⟩ := plainElem_int_inv Tryz.underlying3 hv
    simp only [Prod.mk.injEq, DataW.lit.injEq, Lit.int.injEq, true_and] at hc
    rw [← hc.1]
  · have hno : has D (kT l) = false := by
      cases hh : has D (kT l)
      · rfl
      · obtain ⟨i, hi, e⟩ := h2 _ hh
        rw [sets_len] at hi
        rw [sets_get hi] at e
        have := printL_inj hl (hk.right _ (ser_at hi)).1 e
        rw [this, idH_of hk hi] at h0
        omega
    obtain ⟨es, rfl⟩ := hD.isMap
    have hat : (DataW.map es).atKey (kT l) (.lit (.int .i64 0)) = .lit (.int .i64 0) := by
      unfold DataW.atKey
      have : es.find? (fun p => p.1.sameKey (kT l)) = none := by
        rw [List.find?_eq_none]
        intro p hp hs
        have : has (.map es) (kT l) = true := List.any_eq_true.2 ⟨p, hp, hs⟩
        rw [this] at hno
        cases hno
      simp only [this]
    rw [hat] at hv
    rw [hno, if_neg h0, decide_eq_false h0]
    obtain ⟨c, rfl, hc, _⟩ := plainElem_int_inv Tryz.underlying3 hv
    simp only [Prod.mk.injEq, DataW.lit.injEq, Lit.int.injEq, true_and] at hc
    rw [← hc.1]
/-- 'm[k] = v' of a set that is not there. -/
theorem ids_store (hI : IdsAt w b (blSets h)) (hk : HeadOk h) (hl : lbChk l = 0) (hn : idH h l < 0) (h256 : h.length < 256) :
    ∃ w', (Instr.mapUpdate 56 (.map (some b)) (.string (txt (printL l))) (.int .i64 (h.length : Int))).run Tryz.prog w = .ok () w' ∧ IdsAt w' b (blSets (h ++ [(l, [])])) ∧ w.mapTurned w' b := by
  obtain ⟨D, hD, h1, h2⟩ := hI
  have hwf : (Lit.int .i64 (h.length : Int)).wf = true := by
    simp [Lit.wf, IntKind.min, IntKind.max, IntKind.bits, IntKind.signed]; omega
  obtain ⟨w', hr, hD', ht⟩ := hD.store hd_keyed Tryz.underlying56 (by rw [sets_len]; simp only [maxLen]; omega) (hd_key_txt hl) (plainElem_int Tryz.underlying3 hwf)
  have hm : IsMap D := hD.isMap
  have hkl : WideAt.IsKeyLit (kT l) := trivial
  have hlen : (blSets (h ++ [(l, [])])).length = (blSets h).length + 1 := by simp [blSets]
  have ne : ∀ i, i < h.length → kT (h.getD i ser0).1 ≠ kT l := fun i hi e => by
    have e2 : printL (h.getD i ser0).1 = printL l := by injection e
    exact idF_neg hn _ (ser_at hi) (printL_inj (hk.right _ (ser_at hi)).1 hl e2)
  have old : ∀ i, i < h.length → (blSets (h ++ [(l, [])])).getD i [] = (h.getD i ser0).1 := fun i hi => by
    unfold blSets
    rw [List.map_append, List.getD_eq_getElem?_getD, List.getElem?_append_left (by simpa using hi)]
    simp [List.getD_eq_getElem?_getD, hi]
  have new : (blSets (h ++ [(l, [])])).getD h.length [] = l := by
    simp [blSets, List.getD_eq_getElem?_getD]
  refine ⟨w', hr, ⟨D.put (kT l) (.lit (.int .i64 (h.length : Int))), by rw [hlen]; exact hD', fun i hi => ?_, fun t htt => ?_⟩, ht⟩
  · rw [hlen, sets_len] at hi
    rcases Nat.lt_or_ge i h.length with hi | hi2
    · rw [old i hi]
      have := h1 i (by rw [sets_len]; exact hi)
      rw [sets_get hi] at this
      refine ⟨by rw [has_put_other (ne i hi)]; exact this.1, fun z => by rw [atKey_put_other (ne i hi)]; exact this.2 z⟩
    · obtain rfl : i = h.length := by omega
      rw [new]
      exact ⟨has_put_same hm hkl _, fun z => atKey_put_same hm hkl _ z⟩
  · rw [hlen, sets_len]
    by_cases e : (.string t : Lit) = kT l
    · refine ⟨h.length, by omega, ?_⟩
      rw [new]
      injection e
    · rw [has_put_other e] at htt
      obtain ⟨i, hi, et⟩ := h2 _ htt
      rw [sets_len] at hi
      rw [sets_get hi] at et
      exact ⟨i, by omega, by rw [old i hi]; exact et⟩
end
end Go.Proofs.YtpcjnagdanmdpaaGreat

namespace Go.Proofs.YtpcjnagdanmdpaaGreat
open Go.RowKit Go.Maps
open Ch
set_option linter.unusedVariables false
set_option linter.unusedSimpArgs false
/-! ### what turns -/
/-- But for the blocks of S, and for what is new, nothing has turned. -/
structure Kept (S : Nat → Prop) (w w' : World) : Prop where
  os : w'.os = w.os
  tape : w'.tape = w.tape
  output : w'.output = w.output
  size : w.heap.size ≤ w'.heap.size
  block : ∀ k, k < w.heap.size → ¬ S k → w'.heap[k]? = w.heap[k]?
section
variable {S T : Nat → Prop} {w w' w'' : World}
theorem Kept.refl (S : Nat → Prop) (w : World) : Kept S w w := ⟨rfl, rfl, rfl, Nat.le_refl _, fun _ _ _ => rfl⟩
theorem Kept.mono (h : Kept S w w') (hs : ∀ k, S k → T k) : Kept T w w' := ⟨h.os, h.tape, h.output, h.size, fun k hk hn => h.block k hk fun hS => hn (hs k hS)⟩
theorem Kept.trans (h : Kept S w w') (k : Kept T w' w'') (ht : ∀ i, T i → S i ∨ w.heap.size ≤ i) : Kept S w w'' :=
  ⟨k.os.trans h.os, k.tape.trans h.tape, k.output.trans h.output, Nat.le_trans h.size k.size, fun i hi hn =>
    (k.block i (Nat.lt_of_lt_of_le hi h.size) fun hT => (ht i hT).elim hn (fun h2 => by omega)).trans (h.block i hi hn)⟩
theorem Kept.drew (h : Kept S w w') : Kept S w w'.drew := ⟨h.os, h.tape, h.output, h.size, h.block⟩
theorem Kept.alloc (h : Kept S w w') (o : Obj) : Kept S w (w'.alloc o) := ⟨h.os, h.tape, h.output, Nat.le_trans h.size (by simp), fun k hk hn => (Below.heap_alloc w' o k (Nat.lt_of_lt_of_le hk h.size)).trans (h.block k hk hn)⟩
theorem Kept.set (h : Kept S w w') {p : Addr} (hp : S p.block ∨ w.heap.size ≤ p.block) (u : Value) : Kept S w (w'.setCell p u) :=
  ⟨h.os, h.tape, h.output, by simpa [World.setCell] using h.size, fun k hk hn => (Below.heap_setCell w' p u k (fun e => by subst e; exact hp.elim hn (fun h2 => by omega))).trans (h.block k hk hn)⟩
theorem Kept.below (h : Below w.heap.size w w') : Kept S w w' := ⟨h.os, h.tape, h.output, h.size, fun k hk _ => h.block k hk⟩
theorem Kept.grown {row : Option Nat} (h : w.grownBy w' row) (hr : ∀ k, row = some k → S k) : Kept S w w' := ⟨h.os, h.tape, h.output, h.size, fun k hk hn => h.block k hk fun e => hn (hr k e.symm)⟩
theorem Kept.turned {b : Nat} (h : w.mapTurned w' b) (hb : S b) : Kept S w w' := .grown h.grown fun k e => by cases e; exact hb
theorem Kept.to_below {B : Nat} (h : Kept S w w') (hS : ∀ k, S k → B ≤ k) (hB : B ≤ w.heap.size) : Below B w w' := ⟨h.os, h.tape, h.output, h.size, fun k hk => h.block k (by omega) fun hs => by have := hS k hs; omega⟩
end
theorem row_move {w w' : World} {g : Nat} {t : TypeId} {cs : Array Value} (h : Row w g t cs) (hb : w'.heap[g]? = w.heap[g]?) : Row w' g t cs := hb.trans h
theorem ownl_move {w w' : World} {base : Nat} {v : Value} {l : List Lbl} (h : OwnL w base v l) (hb : ∀ k, v.ownBlock = some k → w'.heap[k]? = w.heap[k]?) : OwnL w' base v l := rows_move h hb
theorem owns_move {w w' : World} {base : Nat} {v : Value} {l : List Smp} (h : OwnS w base v l) (hb : ∀ k, v.ownBlock = some k → w'.heap[k]? = w.heap[k]?) : OwnS w' base v l := rows_move h hb
/-! ### the head -/
def ptrV (g : Nat) : Value := .pointer (some ⟨g, 0, none⟩)
def ptrs (fb : Nat → Nat) (n : Nat) : List Value := (List.range n).map fun i => ptrV (fb i)
theorem ptrs_get (fb : Nat → Nat) {n i : Nat} (h : i < n) : (ptrs fb n)[i]? = some (ptrV (fb i)) := by simp [ptrs, h]
theorem ptrs_snoc (fb : Nat → Nat) (n : Nat) : ptrs fb (n + 1) = ptrs fb n ++ [ptrV (fb n)] := by simp [ptrs, List.range_succ]
theorem ptrs_congr {fb gb : Nat → Nat} {n : Nat} (h : ∀ i, i < n → fb i = gb i) : ptrs fb n = ptrs gb n := by
  unfold ptrs
  apply List.map_congr_left
  intro i hi
  rw [h i (List.mem_range.1 hi)]
/-- Where a head's parts lie: its map, its series' pointers, each series' block, labels and samples. -/
structure Plc where
  mb : Nat
  sv : Value
  fb : Nat → Nat
  lv : Nat → Value
  sm : Nat → Value
structure HeadIn (w : World) (X : Nat) (p : Plc) (h : List Ser) (c : Int) : Prop where
  row : Row w X 59 #[p.sv, .map (some p.mb), .int .i64 c]
  ids : IdsAt w p.mb (blSets h)
  sers : w.ownsRow 0 74 1 p.sv h.length (ptrs p.fb h.length)
  ser : ∀ i, i < h.length → Row w (p.fb i) 77 #[p.lv i, p.sm i]
  labs : ∀ i, i < h.length → OwnL w 0 (p.lv i) (h.getD i ser0).1
  smps : ∀ i, i < h.length → OwnS w 0 (p.sm i) (h.getD i ser0).2
  fbs : ∀ i j, i < h.length → j < h.length → i ≠ j → p.fb i ≠ p.fb j
  sms : ∀ i j, i < h.length → j < h.length → i ≠ j → ∀ k, (p.sm i).ownBlock = some k → (p.sm j).ownBlock ≠ some k
/-- The head's blocks. -/
def Foot (X : Nat) (p : Plc) (n k : Nat) : Prop := k = X ∨ k = p.mb ∨ p.sv.ownBlock = some k ∨ ∃ i, i < n ∧ (k = p.fb i ∨ (p.lv i).ownBlock = some k ∨ (p.sm i).ownBlock = some k)
/-- A head that lies in blocks of S. -/
def HeadAt (S : Nat → Prop) (w : World) (X : Nat) (h : List Ser) : Prop := ∃ p, HeadIn w X p h (cntS h : Int) ∧ ∀ k, Foot X p h.length k → S k
section
variable {S T : Nat → Prop} {w w' : World} {X : Nat} {p : Plc} {h : List Ser} {c : Int}
theorem HeadIn.lt (hi : HeadIn w X p h c) : ∀ k, Foot X p h.length k → k < w.heap.size := by
  rintro k (rfl | rfl | hk | ⟨i, hl, rfl | hk | hk⟩)
  · exact hi.row.lt
  · exact hi.ids.lt
  · exact (World.ownsRow.lt hi.sers k hk).2
  · exact (hi.ser i hl).lt
  · exact (World.ownsRow.lt (hi.labs i hl) k hk).2
  · exact (World.ownsRow.lt (hi.smps i hl) k hk).2
theorem HeadIn.move (hi : HeadIn w X p h c) (hb : ∀ k, Foot X p h.length k → w'.heap[k]? = w.heap[k]?) : HeadIn w' X p h c :=
  ⟨row_move hi.row (hb _ (.inl rfl)), hi.ids.block (hb _ (.inr (.inl rfl))), rows_move hi.sers fun k hk => hb k (.inr (.inr (.inl hk))),
    fun i hl => row_move (hi.ser i hl) (hb _ (.inr (.inr (.inr ⟨i, hl, .inl rfl⟩)))), fun i hl => ownl_move (hi.labs i hl) fun k hk => hb k (.inr (.inr (.inr ⟨i, hl, .inr (.inl hk)⟩))),
    fun i hl => owns_move (hi.smps i hl) fun k hk => hb k (.inr (.inr (.inr ⟨i, hl, .inr (.inr hk)⟩))), hi.fbs, hi.sms⟩
theorem HeadIn.below (hi : HeadIn w X p h c) (hb : Below w.heap.size w w') : HeadIn w' X p h c := hi.move fun k hk => hb.block k (hi.lt k hk)
theorem HeadAt.kept (hi : HeadAt S w X h) (hk : Kept T w w') (hST : ∀ k, S k → ¬ T k) : HeadAt S w' X h := by
  obtain ⟨p, hin, hf⟩ := hi
  exact ⟨p, hin.move fun k h => hk.block k (hin.lt k h) (hST k (hf k h)), hf⟩
theorem HeadAt.below (hi : HeadAt S w X h) (hb : Below w.heap.size w w') : HeadAt S w' X h := by
  obtain ⟨p, hin, hf⟩ := hi
  exact ⟨p, hin.below hb, hf⟩
theorem HeadAt.mono (hi : HeadAt S w X h) (hs : ∀ k, S k → T k) : HeadAt T w X h := by
  obtain ⟨p, hin, hf⟩ := hi
  exact ⟨p, hin, fun k hk => hs k (hf k hk)⟩
theorem HeadAt.within (hi : HeadAt S w X h) : HeadAt (fun k => S k ∧ k < w.heap.size) w X h := by
  obtain ⟨p, hin, hf⟩ := hi
  exact ⟨p, hin, fun k hk => ⟨hf k hk, hin.lt k hk⟩⟩
/-- The cells of the struct, for a walk. -/
theorem HeadIn.cells (hi : HeadIn w X p h c) : ∃ P cc, p.sv = .slice P h.length cc ∧ h.length ≤ cc ∧ w.cell? ⟨X, 0, none⟩ = some (.slice P h.length cc) ∧ w.cell? ⟨X, 1, none⟩ = some (.map (some p.mb)) ∧ w.cell? ⟨X, 2, none⟩ = some (.int .i64 c) ∧
    (0 < h.length → ∃ b, P = some ⟨b, 0, none⟩ ∧ b < w.heap.size ∧ ∀ i, i < h.length → w.cell? ⟨b, i, none⟩ = some (.pointer (some ⟨p.fb i, 0, none⟩))) := by
  obtain ⟨P, cc, hv, hc, hA, _⟩ := rows_slice hi.sers
  refine ⟨P, cc, hv, hc, ?_, (hi.row.cell 1).trans rfl, (hi.row.cell 2).trans rfl, fun h0 => ?_⟩
  · rw [← hv]
    exact (hi.row.cell 0).trans rfl
  · rcases hi.sers.2 with ⟨_, e⟩ | ⟨g, cap, cur, e, _, hh, hn, _, _, htk⟩
    · omega
    · rw [hv] at e
      injection e with e1 e2 e3
      subst e1
      have hr : Row w g 74 cur := hh
      refine ⟨g, rfl, hr.lt, fun i hi => (hr.cell i).trans ?_⟩
      have := congrArg (fun l => l[i]?) htk
      simp only [ptrs_get _ hi] at this
      rw [List.getElem?_take_of_lt (by omega)] at this
      rw [← Array.getElem?_toList]
      exact this
/-- The cells of a series. -/
theorem HeadIn.series (hi : HeadIn w X p h c) {i : Nat} (hl : i < h.length) : ∃ L lc P sc, p.lv i = .slice L (h.getD i ser0).1.length lc ∧ p.sm i = .slice P (h.getD i ser0).2.length sc ∧ (h.getD i ser0).1.length ≤ lc ∧ (h.getD i ser0).2.length ≤ sc ∧
    w.cell? ⟨p.fb i, 0, none⟩ = some (.slice L (h.getD i ser0).1.length lc) ∧ w.cell? ⟨p.fb i, 1, none⟩ = some (.slice P (h.getD i ser0).2.length sc) ∧ Lbls w L (h.getD i ser0).1 ∧ Smps w P (h.getD i ser0).2 := by
  obtain ⟨L, lc, e1, h1, h2, _⟩ := ownl_slice (hi.labs i hl)
  obtain ⟨P, sc, e2, h3, h4, _⟩ := owns_slice (hi.smps i hl)
  refine ⟨L, lc, P, sc, e1, e2, h1, h3, ?_, ?_, h2, h4⟩
  · rw [← e1]
    exact ((hi.ser i hl).cell 0).trans rfl
  · rw [← e2]
    exact ((hi.ser i hl).cell 1).trans rfl
end
end Go.Proofs.YtpcjnagdanmdpaaGreat
