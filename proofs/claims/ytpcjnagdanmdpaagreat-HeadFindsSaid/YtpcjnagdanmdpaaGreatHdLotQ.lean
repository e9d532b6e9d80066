/- In one text, written by lotify.py: WaMath, HdMath. -/
import Derived.Test.YtpcjnagdanmdpaaGreatHdLotE
import Derived.Test.YtpcjnagdanmdpaaGreatHdLotN
import Derived.Test.YtpcjnagdanmdpaaGreatHdLotP
namespace Go.Proofs.YtpcjnagdanmdpaaGreat
set_option linter.unusedVariables false
/-! ### records -/
abbrev Wrow := Int × Int × Int
structure RecV where
  kind : Int
  labels : List Lbl
  rows : List Wrow
  ids : List Int
  low : Int
  high : Int
def rec0 : RecV := ⟨0, [], [], [], 0, 0⟩
def wrowErr (x : Wrow) : Int := if x.1 < 0 ∨ 1099511627776 < x.1 then 2 else if Ch.mayB (x.2.1, x.2.2) = false then 11 else 0
def rowsErr : List Wrow → Int
  | [] => 0
  | x :: r => if wrowErr x = 0 then rowsErr r else wrowErr x
def rowsChk (l : List Wrow) : Int := if l.length = 0 ∨ 64 < l.length then 2 else rowsErr l
def delChk (ids : List Int) (low high : Int) : Int := if pchk ids ≠ 0 then pchk ids else if ids.length = 0 then 2 else if low < 0 ∨ 1099511627776 < high then 11 else if high < low then 13 else 0
/-- Something is not empty that the kind does not have, or there is no such kind. -/
def Misfit (r : RecV) : Prop := ¬ (r.kind = 1 ∨ r.kind = 2 ∨ r.kind = 3) ∨ (r.kind ≠ 1 ∧ r.labels.length ≠ 0) ∨ (r.kind ≠ 2 ∧ r.rows.length ≠ 0) ∨ (r.kind ≠ 3 ∧ (r.ids.length ≠ 0 ∨ r.low ≠ 0 ∨ r.high ≠ 0))
instance (r : RecV) : Decidable (Misfit r) := by unfold Misfit; infer_instance
def recChk (r : RecV) : Int := if Misfit r then 2 else if r.kind = 1 then lbChk r.labels else if r.kind = 2 then rowsChk r.rows else delChk r.ids r.low r.high
theorem wrowErr_zero {x : Wrow} : wrowErr x = 0 ↔ 0 ≤ x.1 ∧ x.1 ≤ 1099511627776 ∧ 0 ≤ x.2.1 ∧ x.2.1 ≤ 1099511627776 ∧ -1152921504606846976 ≤ x.2.2 ∧ x.2.2 ≤ 1152921504606846976 := by
  unfold wrowErr
  by_cases h : x.1 < 0 ∨ 1099511627776 < x.1
  · rw [if_pos h]
    constructor
    · intro e; cases e
    · intro e; omega
  · rw [if_neg h]
    by_cases hm : Ch.mayB (x.2.1, x.2.2) = false
    · rw [if_pos hm]
      constructor
      · intro e; cases e
      · intro e
        have := Ch.mayB_iff.2 (show 0 ≤ (x.2.1, x.2.2).1 ∧ (x.2.1, x.2.2).1 ≤ 1099511627776 ∧ -1152921504606846976 ≤ (x.2.1, x.2.2).2 ∧ (x.2.1, x.2.2).2 ≤ 1152921504606846976 from ⟨e.2.2.1, e.2.2.2.1, e.2.2.2.2.1, e.2.2.2.2.2⟩)
        rw [hm] at this
        cases this
    · rw [if_neg hm]
      have := Ch.mayB_iff.1 (Bool.not_eq_false _ ▸ hm)
      constructor
      · intro _; exact ⟨by omega, by omega, this.1, this.2.1, this.2.2.1, this.2.2.2⟩
      · intro _; rfl
theorem rowsErr_zero : ∀ {l : List Wrow}, rowsErr l = 0 ↔ ∀ x ∈ l, wrowErr x = 0 := by
  intro l
  induction l with
  | nil => simp [rowsErr]
  | cons x r ih =>
    rw [rowsErr]
    by_cases h : wrowErr x = 0
    · rw [if_pos h, ih]
      simp [h]
    · rw [if_neg h]
      simp [h]
theorem rowsChk_zero {l : List Wrow} : rowsChk l = 0 ↔ 0 < l.length ∧ l.length ≤ 64 ∧ ∀ x ∈ l, wrowErr x = 0 := by
  unfold rowsChk
  by_cases h : l.length = 0 ∨ 64 < l.length
  · rw [if_pos h]
    constructor
    · intro e; cases e
    · rintro ⟨a, b, _⟩; omega
  · rw [if_neg h, rowsErr_zero]
    constructor
    · intro e; exact ⟨by omega, by omega, e⟩
    · intro e; exact e.2.2
theorem delChk_zero {ids : List Int} {low high : Int} : delChk ids low high = 0 ↔ pchk ids = 0 ∧ ids.length ≠ 0 ∧ 0 ≤ low ∧ high ≤ 1099511627776 ∧ low ≤ high := by
  unfold delChk
  by_cases h1 : pchk ids = 0
  · rw [if_neg (by simpa using h1)]
    by_cases h2 : ids.length = 0
    · rw [if_pos h2]
      constructor
      · intro e; cases e
      · intro e; exact absurd h2 e.2.1
    · rw [if_neg h2]
      by_cases h3 : low < 0 ∨ 1099511627776 < high
      · rw [if_pos h3]
        constructor
        · intro e; cases e
        · intro e; omega
      · rw [if_neg h3]
        by_cases h4 : high < low
        · rw [if_pos h4]
          constructor
          · intro e; cases e
          · intro e; omega
        · rw [if_neg h4]
          exact ⟨fun _ => ⟨h1, h2, by omega, by omega, by omega⟩, fun _ => rfl⟩
  · rw [if_pos h1]
    exact ⟨fun e => absurd e h1, fun e => absurd e.1 h1⟩
/-- What a right record is, by its kind. -/
theorem recChk_zero {r : RecV} : recChk r = 0 ↔ (r.kind = 1 ∧ r.rows = [] ∧ r.ids = [] ∧ r.low = 0 ∧ r.high = 0 ∧ lbChk r.labels = 0) ∨ (r.kind = 2 ∧ r.labels = [] ∧ r.ids = [] ∧ r.low = 0 ∧ r.high = 0 ∧ rowsChk r.rows = 0) ∨ (r.kind = 3 ∧ r.labels = [] ∧ r.rows = [] ∧ delChk r.ids r.low r.high = 0) := by
  have hl : ∀ {α : Type} (l : List α), l.length ≠ 0 ↔ l ≠ [] := fun l => by simp
  unfold recChk Misfit
  simp only [hl]
  obtain ⟨k, la, ro, ids, lo, hi⟩ := r
  simp only
  by_cases h1 : k = 1
  · subst h1
    by_cases h2 : ro = [] <;> by_cases h3 : ids = [] <;> by_cases h4 : lo = 0 <;> by_cases h5 : hi = 0 <;> simp [h2, h3, h4, h5]
  · by_cases h2 : k = 2
    · subst h2
      by_cases h2 : la = [] <;> by_cases h3 : ids = [] <;> by_cases h4 : lo = 0 <;> by_cases h5 : hi = 0 <;> simp [h2, h3, h4, h5]
    · by_cases h3 : k = 3
      · subst h3
        by_cases h2 : la = [] <;> by_cases h3 : ro = [] <;> simp [h2, h3]
      · simp [h1, h2, h3]
end Go.Proofs.YtpcjnagdanmdpaaGreat

namespace Go.Proofs.YtpcjnagdanmdpaaGreat
open Ch
set_option linter.unusedVariables false
set_option linter.unusedSimpArgs false
/-- The id of these labels; -1: there is none. -/
def idF (l : List Lbl) : List Ser → Nat → Int
  | [], _ => -1
  | s :: r, k => if s.1 = l then (k : Int) else idF l r (k + 1)
def idH (h : List Ser) (l : List Lbl) : Int := idF l h 0
/-- A series' last time; -1: it has no sample. -/
def lastT (s : Ser) : Int := if s.2.length = 0 then -1 else tOf s.2 (s.2.length - 1)
/-- A further sample of the series x. -/
def putH (h : List Ser) (x : Wrow) : List Ser := h.set x.1.toNat ((h.getD x.1.toNat ([], [])).1, (h.getD x.1.toNat ([], [])).2 ++ [(x.2.1, x.2.2)])
/-- What one row has against it, where there are m series and n samples. -/
def rowE (m : Nat) (h : List Ser) (n : Nat) (x : Wrow) : Int := if (m : Int) ≤ x.1 then 9 else if 65536 ≤ n then 3 else if x.2.1 ≤ lastT (h.getD x.1.toNat ([], [])) then 13 else 0
/-- Row by row: what is there then, and why not. -/
def rowsH (m : Nat) : List Ser → Nat → List Wrow → List Ser × Int
  | h, _, [] => (h, 0)
  | h, n, x :: r => if rowE m h n x = 0 then rowsH m (putH h x) (n + 1) r else (h, rowE m h n x)
/-- The samples whose times are not from low to high. -/
def outB (lo hi : Int) (s : Smp) : Bool := decide (s.1 < lo) || decide (hi < s.1)
def cutH (h : List Ser) (lo hi : Int) (i : Int) : List Ser := h.set i.toNat ((h.getD i.toNat ([], [])).1, (h.getD i.toNat ([], [])).2.filter (outB lo hi))
def idsH (m : Nat) (lo hi : Int) : List Ser → List Int → List Ser × Int
  | h, [] => (h, 0)
  | h, i :: r => if (m : Int) ≤ i then (h, 9) else idsH m lo hi (cutH h lo hi i) r
/-- What a record makes of a head, and what is answered. -/
def doH (h : List Ser) (r : RecV) : List Ser × Int :=
  if recChk r ≠ 0 then (h, recChk r)
  else if r.kind = 1 then (if 0 ≤ idH h r.labels then (h, 10) else if 256 ≤ h.length then (h, 3) else (h ++ [(r.labels, [])], 0))
  else if r.kind = 2 then (if (rowsH h.length h (cntS h) r.rows).2 = 0 then rowsH h.length h (cntS h) r.rows else (h, (rowsH h.length h (cntS h) r.rows).2))
  else (if (idsH h.length r.low r.high h r.ids).2 = 0 then idsH h.length r.low r.high h r.ids else (h, (idsH h.length r.low r.high h r.ids).2))
/-- What is refused changes nothing. -/
theorem doH_same {h : List Ser} {r : RecV} (he : (doH h r).2 ≠ 0) : (doH h r).1 = h := by
  unfold doH at he ⊢
  split
  · rfl
  · rename_i h0
    rw [if_neg h0] at he
    split
    · rename_i h1
      rw [if_pos h1] at he
      split
      · rfl
      · rename_i h2
        rw [if_neg h2] at he
        split
        · rfl
        · rename_i h3
          rw [if_neg h3] at he
          exact absurd rfl he
    · rename_i h1
      rw [if_neg h1] at he
      split
      · rename_i h2
        rw [if_pos h2] at he
        split
        · rename_i h3
          rw [if_pos h3] at he
          exact absurd h3 he
        · rfl
      · rename_i h2
        rw [if_neg h2] at he
        split
        · rename_i h3
          rw [if_pos h3] at he
          exact absurd h3 he
        · rfl
/-! ### what holds of every head -/
structure HeadOk (h : List Ser) : Prop where
  few : h.length ≤ 256
  all : cntS h ≤ 65536
  right : ∀ s ∈ h, lbChk s.1 = 0 ∧ Ch.Good s.2
  apart : (h.map (·.1)).Pairwise (· ≠ ·)
theorem headOk_nil : HeadOk [] := ⟨by simp, by simp [cntS], (fun s hs => by cases hs), by simp⟩
theorem idF_neg {l : List Lbl} : ∀ {h : List Ser} {k : Nat}, idF l h k < 0 → ∀ s ∈ h, s.1 ≠ l := by
  intro h
  induction h with
  | nil => intro k _ s hs; cases hs
  | cons a r ih =>
    intro k hk s hs
    unfold idF at hk
    by_cases e : a.1 = l
    · rw [if_pos e] at hk; omega
    · rw [if_neg e] at hk
      rcases List.mem_cons.1 hs with rfl | hs
      · exact e
      · exact ih hk s hs
theorem cntS_set : ∀ {h : List Ser} {i : Nat} (s : Ser), i < h.length → cntS (h.set i s) + (h.getD i ([], [])).2.length = cntS h + s.2.length := by
  intro h
  induction h with
  | nil => intro i s hi; simp at hi
  | cons a r ih =>
    intro i s hi
    cases i with
    | zero => simp only [List.set_cons_zero, cntS, List.getD_cons_zero]; omega
    | succ i =>
      have := ih (i := i) s (by simpa using hi)
      simp only [List.set_cons_succ, cntS, List.getD_cons_succ]
      omega
theorem labels_set {h : List Ser} {i : Nat} {l : List Smp} (hi : i < h.length) : (h.set i ((h.getD i ([], [])).1, l)).map (·.1) = h.map (·.1) := by
  apply List.ext_getElem (by simp)
  intro j h1 h2
  simp only [List.length_map, List.length_set] at h1 h2
  simp only [List.getElem_map, List.getElem_set]
  split
  · rename_i e
    subst e
    simp [List.getD_eq_getElem?_getD, hi]
  · rfl
theorem mem_set_cases {h : List Ser} {i : Nat} {s x : Ser} (hx : x ∈ h.set i s) : x = s ∨ x ∈ h := (List.mem_or_eq_of_mem_set hx).symm
theorem good_snoc {l : List Smp} {t v : Int} (hg : Ch.Good l) (h1 : 0 ≤ t ∧ t ≤ 1099511627776) (h2 : -1152921504606846976 ≤ v ∧ v ≤ 1152921504606846976) (hl : (if l.length = 0 then (-1 : Int) else tOf l (l.length - 1)) < t) : Ch.Good (l ++ [(t, v)]) := by
  refine good_app hg ?_ fun ha _ => ?_
  · intro i hi
    simp only [List.length_singleton] at hi
    obtain rfl : i = 0 := by omega
    exact ⟨Ch.mayB_iff.2 ⟨h1.1, h1.2, h2.1, h2.2⟩, fun h => by omega⟩
  · have := List.length_pos_iff.2 ha
    rw [if_neg (by omega)] at hl
    simpa [tOf] using hl
theorem ser_in {h : List Ser} {i : Nat} (hi : i < h.length) : h.getD i ([], []) ∈ h := by
  rw [List.getD_eq_getElem?_getD, List.getElem?_eq_getElem hi]
  exact List.getElem_mem hi
theorem putH_ok {h : List Ser} {x : Wrow} (hk : HeadOk h) (hx : wrowErr x = 0) (he : rowE h.length h (cntS h) x = 0) : HeadOk (putH h x) ∧ (putH h x).length = h.length ∧ cntS (putH h x) = cntS h + 1 := by
  obtain ⟨x0, x1, x2, x3, x4, x5⟩ := wrowErr_zero.1 hx
  unfold rowE at he
  by_cases c1 : (h.length : Int) ≤ x.1
  · rw [if_pos c1] at he; cases he
  rw [if_neg c1] at he
  by_cases c2 : 65536 ≤ cntS h
  · rw [if_pos c2] at he; cases he
  rw [if_neg c2] at he
  by_cases c3 : x.2.1 ≤ lastT (h.getD x.1.toNat ([], []))
  · rw [if_pos c3] at he; cases he
  have hi : x.1.toNat < h.length := by omega
  obtain ⟨r1, r2⟩ := hk.right _ (ser_in hi)
  have hc := cntS_set (h := h) (i := x.1.toNat) ((h.getD x.1.toNat ([], [])).1, (h.getD x.1.toNat ([], [])).2 ++ [(x.2.1, x.2.2)]) hi
  simp only [List.length_append, List.length_singleton] at hc
  have hn : cntS (putH h x) = cntS h + 1 := by unfold putH; omega
  refine ⟨⟨by unfold putH; rw [List.length_set]; exact hk.few, by omega, fun s hs => ?_, ?_⟩, by unfold putH; rw [List.length_set], hn⟩
  · rcases mem_set_cases hs with rfl | hs
    · exact ⟨r1, good_snoc r2 ⟨x2, x3⟩ ⟨x4, x5⟩ (by unfold lastT at c3; omega)⟩
    · exact hk.right s hs
  · unfold putH
    rw [labels_set hi]
    exact hk.apart
theorem rowsH_ok : ∀ (rows : List Wrow) (h : List Ser), HeadOk h → (∀ x ∈ rows, wrowErr x = 0) → HeadOk (rowsH h.length h (cntS h) rows).1 ∧ (rowsH h.length h (cntS h) rows).1.length = h.length := by
  intro rows
  induction rows with
  | nil => intro h hk _; exact ⟨hk, rfl⟩
  | cons x r ih =>
    intro h hk hx
    unfold rowsH
    by_cases he : rowE h.length h (cntS h) x = 0
    · obtain ⟨k1, k2, k3⟩ := putH_ok hk (hx x (by simp)) he
      have := ih (putH h x) k1 fun y hy => hx y (List.mem_cons_of_mem _ hy)
      rw [k2, k3] at this
      rw [if_pos he]
      exact this
    · rw [if_neg he]
      exact ⟨hk, rfl⟩
theorem good_lt {l : List Smp} (h : Ch.Good l) : l.Pairwise fun a b => a.1 < b.1 := by
  rw [List.pairwise_iff_getElem]
  intro i j hi hj hij
  have key : ∀ d, i + d + 1 < l.length → tOf l i < tOf l (i + d + 1) := by
    intro d
    induction d with
    | zero => intro hd; have := (h (i + 1) hd).2 (by omega); simpa using this
    | succ d ih =>
      intro hd
      have h1 := ih (by omega)
      have h2 := (h (i + (d + 1) + 1) hd).2 (by omega)
      rw [Nat.add_sub_cancel] at h2
      rw [show i + (d + 1) = i + d + 1 by omega] at h2 ⊢
      omega
  have := key (j - i - 1) (by omega)
  rw [show i + (j - i - 1) + 1 = j by omega] at this
  unfold tOf at this
  rw [List.getD_eq_getElem?_getD, List.getD_eq_getElem?_getD, List.getElem?_eq_getElem hi, List.getElem?_eq_getElem hj] at this
  exact this
theorem good_filter {l : List Smp} (h : Ch.Good l) (p : Smp → Bool) : Ch.Good (l.filter p) := by
  have pw := (good_lt h).filter p
  rw [List.pairwise_iff_getElem] at pw
  intro i hi
  have e : ∀ j (hj : j < (l.filter p).length), (l.filter p).getD j (0, 0) = (l.filter p)[j] := fun j hj => by rw [List.getD_eq_getElem?_getD, List.getElem?_eq_getElem hj]; rfl
  refine ⟨?_, fun h0 => ?_⟩
  · have hm := (List.mem_filter.1 (List.getElem_mem hi)).1
    obtain ⟨k, hk, ek⟩ := List.getElem_of_mem hm
    rw [e i hi, ← ek]
    have := (h k hk).1
    rwa [List.getD_eq_getElem?_getD, List.getElem?_eq_getElem hk] at this
  · unfold tOf
    rw [e i hi, e (i - 1) (by omega)]
    exact pw (i - 1) i (by omega) hi (by omega)
theorem cutH_ok {h : List Ser} {lo hi i : Int} (hk : HeadOk h) (hi0 : 0 ≤ i) (hi1 : i < (h.length : Int)) : HeadOk (cutH h lo hi i) ∧ (cutH h lo hi i).length = h.length := by
  have hl : i.toNat < h.length := by omega
  obtain ⟨r1, r2⟩ := hk.right _ (ser_in hl)
  have hc := cntS_set (h := h) (i := i.toNat) ((h.getD i.toNat ([], [])).1, (h.getD i.toNat ([], [])).2.filter (outB lo hi)) hl
  have hle := List.length_filter_le (outB lo hi) (h.getD i.toNat ([], [])).2
  simp only at hc
  have ha := hk.all
  refine ⟨⟨by unfold cutH; rw [List.length_set]; exact hk.few, by unfold cutH; omega, fun s hs => ?_, ?_⟩, by unfold cutH; rw [List.length_set]⟩
  · rcases mem_set_cases hs with rfl | hs
    · exact ⟨r1, good_filter r2 _⟩
    · exact hk.right s hs
  · unfold cutH
    rw [labels_set hl]
    exact hk.apart
theorem idsH_ok {lo hi : Int} : ∀ (ids : List Int) (h : List Ser), HeadOk h → (∀ i ∈ ids, 0 ≤ i) → HeadOk (idsH h.length lo hi h ids).1 ∧ (idsH h.length lo hi h ids).1.length = h.length := by
  intro ids
  induction ids with
  | nil => intro h hk _; exact ⟨hk, rfl⟩
  | cons i r ih =>
    intro h hk hx
    unfold idsH
    by_cases he : (h.length : Int) ≤ i
    · rw [if_pos he]; exact ⟨hk, rfl⟩
    · obtain ⟨k1, k2⟩ := cutH_ok (lo := lo) (hi := hi) hk (hx i (by simp)) (by omega)
      have := ih (cutH h lo hi i) k1 fun y hy => hx y (List.mem_cons_of_mem _ hy)
      rw [k2] at this
      rw [if_neg he]
      exact this
/-! ### a record keeps it -/
theorem up_nonneg : ∀ {l : List Int} {q : Int}, Up q l → -1 ≤ q → ∀ i ∈ l, 0 ≤ i := by
  intro l
  induction l with
  | nil => intro q _ _ i hi; cases hi
  | cons n r ih =>
    intro q h hq i hi
    obtain ⟨h1, h2, h3⟩ := h
    rcases List.mem_cons.1 hi with rfl | hi
    · omega
    · exact ih h3 (by omega) i hi
theorem headOk_new {h : List Ser} {l : List Lbl} (hk : HeadOk h) (hl : lbChk l = 0) (hid : idH h l < 0) (h256 : h.length < 256) : HeadOk (h ++ [(l, [])]) := by
  have hne := idF_neg hid
  refine ⟨by rw [List.length_append]; simp; omega, by rw [cntS_app]; simp only [cntS, List.length_nil]; exact hk.all, fun s hs => ?_, ?_⟩
  · rcases List.mem_append.1 hs with hs | hs
    · exact hk.right s hs
    · rw [List.mem_singleton.1 hs]
      exact ⟨hl, fun i hi => by simp at hi⟩
  · rw [List.map_append, List.pairwise_append]
    refine ⟨hk.apart, by simp, fun a ha b hb => ?_⟩
    obtain ⟨s, hs, rfl⟩ := List.mem_map.1 ha
    simp only [List.map_cons, List.map_nil, List.mem_singleton] at hb
    subst hb
    exact hne s hs
theorem doH_ok {h : List Ser} {r : RecV} (hk : HeadOk h) : HeadOk (doH h r).1 := by
  by_cases he : (doH h r).2 = 0
  rotate_left
  · rw [doH_same he]; exact hk
  unfold doH at he ⊢
  by_cases h0 : recChk r ≠ 0
  · rw [if_pos h0]; exact hk
  rw [if_neg h0] at he ⊢
  have hc : recChk r = 0 := Classical.byContradiction h0
  unfold recChk at hc
  by_cases hm : Misfit r
  · rw [if_pos hm] at hc; cases hc
  rw [if_neg hm] at hc
  by_cases h1 : r.kind = 1
  · rw [if_pos h1] at hc he ⊢
    by_cases h2 : 0 ≤ idH h r.labels
    · rw [if_pos h2] at he; cases he
    · rw [if_neg h2] at he ⊢
      by_cases h3 : 256 ≤ h.length
      · rw [if_pos h3] at he; cases he
      · rw [if_neg h3]
        exact headOk_new hk hc (by omega) (by omega)
  · rw [if_neg h1] at hc he ⊢
    by_cases h2 : r.kind = 2
    · rw [if_pos h2] at hc he ⊢
      have hx : ∀ x ∈ r.rows, wrowErr x = 0 := by
        unfold rowsChk at hc
        split at hc
        · cases hc
        · exact rowsErr_zero.1 hc
      split
      · exact (rowsH_ok r.rows h hk hx).1
      · exact hk
    · rw [if_neg h2] at hc he ⊢
      have hx : ∀ i ∈ r.ids, 0 ≤ i := by
        unfold delChk at hc
        split at hc
        · rename_i hp; exact absurd hc hp
        · rename_i hp
          exact up_nonneg (pchk_zero.1 (Classical.byContradiction hp)).2 (by omega)
      split
      · exact (idsH_ok r.ids h hk hx).1
      · exact hk
end Go.Proofs.YtpcjnagdanmdpaaGreat
