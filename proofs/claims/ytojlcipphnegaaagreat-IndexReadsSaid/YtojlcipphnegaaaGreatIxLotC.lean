/- In one text, written by lotify.py: LbMath, LbOrd, IxMath, IxMath2. -/
import Derived.Test.YtojlcipphnegaaaGreatIxLotA
import Derived.Lib.Bytealg
import Derived.Test.YtojlcipphnegaaaGreatIxLotB
namespace Go.Proofs.YtojlcipphnegaaaGreat
open Go.RowKit
set_option linter.unusedVariables false

/-- A label: its name and its value. -/
abbrev Lbl := ByteArray × ByteArray
def lbl0 : Lbl := (⟨#[]⟩, ⟨#[]⟩)
def nmOf (l : List Lbl) (i : Nat) : ByteArray := (l.getD i lbl0).1
def vlOf (l : List Lbl) (i : Nat) : ByteArray := (l.getD i lbl0).2
def letterB (c : UInt8) : Bool := (decide (97 ≤ c.toNat) && decide (c.toNat ≤ 122)) || ((decide (65 ≤ c.toNat) && decide (c.toNat ≤ 90)) || decide (c.toNat = 95))
def digitB (c : UInt8) : Bool := decide (48 ≤ c.toNat) && decide (c.toNat ≤ 57)
/-- May the byte c stand at place k of a name? -/
def okB (c : UInt8) (k : Nat) : Bool := letterB c || (decide (0 < k) && digitB c)
/-- From place k on, as many as n bytes. -/
def okF (s : List UInt8) : Nat → Nat → Bool
  | 0, _ => true
  | n + 1, k => if okB (s.getD k 0) k = true then okF s n (k + 1) else false
def nameB (s : List UInt8) : Bool := (decide (0 < s.length) && decide (s.length ≤ 32)) && okF s s.length 0
/-- Is the text a above (or the same as) b, as Go compares texts? -/
def leB (a b : ByteArray) : Bool := Op.bytesLess a.toList b.toList || a.toList == b.toList
/-- What label k of l has against it (0: nothing). -/
def lbErrAt (l : List Lbl) (k : Nat) : Int :=
  if nameB (strL (nmOf l k)) = false then 8
  else if (vlOf l k).size = 0 then 2
  else if 64 < (vlOf l k).size then 3
  else if 0 < k ∧ leB (nmOf l k) (nmOf l (k - 1)) = true then 13
  else 0
def lbErrF (l : List Lbl) : Nat → Nat → Int
  | 0, _ => 0
  | n + 1, k => if lbErrAt l k = 0 then lbErrF l n (k + 1) else lbErrAt l k
/-- What refuses labels (0: nothing: they are a right set). -/
def lbChk (l : List Lbl) : Int := if 8 < l.length then 3 else lbErrF l l.length 0

theorem lbErrF_ok {l : List Lbl} {n k : Nat} (h : lbErrF l n k = 0) : ∀ i, i < n → lbErrAt l (k + i) = 0 := by
  induction n generalizing k with
  | zero => intro i hi; omega
  | succ n ih =>
    intro i hi
    rw [lbErrF] at h
    by_cases h0 : lbErrAt l k = 0
    · rw [if_pos h0] at h
      cases i with
      | zero => exact h0
      | succ i =>
        have := ih h i (by omega)
        rwa [show k + (i + 1) = k + 1 + i from by omega]
    · rw [if_neg h0] at h
      exact absurd h h0
theorem lbErrF_of {l : List Lbl} {n k : Nat} (h : ∀ i, i < n → lbErrAt l (k + i) = 0) : lbErrF l n k = 0 := by
  induction n generalizing k with
  | zero => rfl
  | succ n ih =>
    rw [lbErrF, if_pos (show lbErrAt l k = 0 from h 0 (by omega))]
    exact ih fun i hi => by have := h (i + 1) (by omega); rwa [show k + (i + 1) = k + 1 + i from by omega] at this
theorem lbChk_ok {l : List Lbl} : lbChk l = 0 ↔ l.length ≤ 8 ∧ ∀ i, i < l.length → lbErrAt l i = 0 := by
  unfold lbChk
  by_cases h8 : 8 < l.length
  · rw [if_pos h8]
    constructor
    · intro h; exact absurd h (by omega)
    · rintro ⟨h, _⟩; omega
  · rw [if_neg h8]
    constructor
    · intro h
      exact ⟨by omega, fun i hi => by have := lbErrF_ok h i hi; rwa [Nat.zero_add] at this⟩
    · rintro ⟨_, h⟩
      exact lbErrF_of fun i hi => by rw [Nat.zero_add]; exact h i hi
theorem lbErrAt_zero {l : List Lbl} {k : Nat} : lbErrAt l k = 0 ↔ nameB (strL (nmOf l k)) = true ∧ 0 < (vlOf l k).size ∧ (vlOf l k).size ≤ 64 ∧ (0 < k → leB (nmOf l k) (nmOf l (k - 1)) = false) := by
  unfold lbErrAt
  cases nameB (strL (nmOf l k))
  · simp
  · rw [if_neg (by simp)]
    by_cases h1 : (vlOf l k).size = 0
    · rw [if_pos h1]; constructor
      · intro h; exact absurd h (by omega)
      · rintro ⟨_, h, _⟩; omega
    · rw [if_neg h1]
      by_cases h2 : 64 < (vlOf l k).size
      · rw [if_pos h2]; constructor
        · intro h; exact absurd h (by omega)
        · rintro ⟨_, _, h, _⟩; omega
      · rw [if_neg h2]
        by_cases h3 : 0 < k ∧ leB (nmOf l k) (nmOf l (k - 1)) = true
        · rw [if_pos h3]; constructor
          · intro h; exact absurd h (by omega)
          · rintro ⟨_, _, _, h⟩; rw [h h3.1] at h3; simp at h3
        · rw [if_neg h3]
          refine ⟨fun _ => ⟨rfl, by omega, by omega, fun hk => ?_⟩, fun _ => rfl⟩
          cases hl : leB (nmOf l k) (nmOf l (k - 1))
          · rfl
          · exact absurd ⟨hk, hl⟩ h3
theorem nameB_size {s : ByteArray} (h : nameB (strL s) = true) : 0 < s.size ∧ s.size ≤ 32 := by
  unfold nameB at h
  rw [strL_length] at h
  simp only [Bool.and_eq_true, decide_eq_true_eq] at h
  exact h.1
end Go.Proofs.YtojlcipphnegaaaGreat

namespace Go.Proofs.YtojlcipphnegaaaGreat
open Go.RowKit
set_option linter.unusedVariables false

/-- What an order's comparison keeps. -/
structure IsCmp {α : Type} (f : α → α → Int) : Prop where
  swap : ∀ a b, f b a = - f a b
  zero : ∀ a b, f a b = 0 ↔ a = b
  rng : ∀ a b, f a b = -1 ∨ f a b = 0 ∨ f a b = 1
  trans : ∀ a b c, f a b ≤ 0 → f b c ≤ 0 → f a c ≤ 0
theorem IsCmp.strict {α : Type} {f : α → α → Int} (h : IsCmp f) {a b c : α} (h1 : f a b < 0) (h2 : f b c ≤ 0) : f a c < 0 := by
  have h3 := h.trans a b c (by omega) h2
  rcases h.rng a c with h4 | h4 | h4
  · omega
  · exfalso
    rw [h.zero] at h4
    subst h4
    have := h.swap a b
    omega
  · omega
/-- By the first, then by the second. -/
def lex2 {α β : Type} (f : α → α → Int) (g : β → β → Int) (x y : α × β) : Int := if f x.1 y.1 ≠ 0 then f x.1 y.1 else g x.2 y.2
theorem lex2_cmp {α β : Type} {f : α → α → Int} {g : β → β → Int} (hf : IsCmp f) (hg : IsCmp g) : IsCmp (lex2 f g) := by
  refine ⟨?_, ?_, ?_, ?_⟩
  · intro a b
    unfold lex2
    rw [hf.swap a.1 b.1, hg.swap a.2 b.2]
    by_cases h : f a.1 b.1 = 0
    · rw [if_neg (by omega), if_neg (by omega)]
    · rw [if_pos (by omega), if_pos h]
  · intro a b
    unfold lex2
    by_cases h : f a.1 b.1 = 0
    · rw [if_neg (by omega), hg.zero]
      rw [hf.zero] at h
      constructor
      · intro h2; exact Prod.ext h h2
      · intro h2; rw [h2]
    · rw [if_pos h]
      constructor
      · intro h2; exact absurd h2 h
      · intro h2; exact (hf.zero _ _).2 (by rw [h2])
  · intro a b
    unfold lex2
    split
    · exact hf.rng _ _
    · exact hg.rng _ _
  · intro a b c h1 h2
    unfold lex2 at *
    by_cases e1 : f a.1 b.1 = 0
    · rw [if_neg (by omega)] at h1
      have e := (hf.zero _ _).1 e1
      rw [e]
      by_cases e2 : f b.1 c.1 = 0
      · rw [if_neg (by omega)] at h2 ⊢
        exact hg.trans _ _ _ h1 h2
      · rw [if_pos e2] at h2 ⊢
        exact h2
    · rw [if_pos e1] at h1
      have h3 : f b.1 c.1 ≤ 0 := by
        by_cases e2 : f b.1 c.1 = 0
        · omega
        · rw [if_pos e2] at h2; exact h2
      have := hf.strict (show f a.1 b.1 < 0 by omega) h3
      rw [if_pos (by omega)]
      omega
def lexL {α : Type} (f : α → α → Int) : List α → List α → Int
  | [], [] => 0
  | [], _ :: _ => -1
  | _ :: _, [] => 1
  | x :: a, y :: b => if f x y ≠ 0 then f x y else lexL f a b
theorem lexL_cmp {α : Type} {f : α → α → Int} (hf : IsCmp f) : IsCmp (lexL f) := by
  refine ⟨?_, ?_, ?_, ?_⟩
  · intro a
    induction a with
    | nil => intro b; cases b <;> rfl
    | cons x a ih =>
      intro b
      cases b with
      | nil => rfl
      | cons y b =>
        simp only [lexL]
        rw [hf.swap x y, ih b]
        by_cases h : f x y = 0
        · rw [if_neg (by omega), if_neg (by omega)]
        · rw [if_pos (by omega), if_pos h]
  · intro a
    induction a with
    | nil => intro b; cases b <;> simp [lexL]
    | cons x a ih =>
      intro b
      cases b with
      | nil => simp [lexL]
      | cons y b =>
        simp only [lexL, List.cons.injEq]
        by_cases h : f x y = 0
        · rw [if_neg (by omega), ih b]
          rw [hf.zero] at h
          exact ⟨fun h2 => ⟨h, h2⟩, fun h2 => h2.2⟩
        · rw [if_pos h]
          exact ⟨fun h2 => absurd h2 h, fun h2 => absurd ((hf.zero _ _).2 h2.1) h⟩
  · intro a
    induction a with
    | nil => intro b; cases b <;> simp [lexL]
    | cons x a ih =>
      intro b
      cases b with
      | nil => simp [lexL]
      | cons y b =>
        simp only [lexL]
        split
        · exact hf.rng _ _
        · exact ih b
  · intro a
    induction a with
    | nil =>
      intro b c h1 h2
      cases c with
      | nil => simp [lexL]
      | cons z c => simp [lexL]
    | cons x a ih =>
      intro b c h1 h2
      cases b with
      | nil => simp [lexL] at h1
      | cons y b =>
        cases c with
        | nil => simp [lexL] at h2
        | cons z c =>
          simp only [lexL] at *
          by_cases e1 : f x y = 0
          · rw [if_neg (by omega)] at h1
            have e := (hf.zero _ _).1 e1
            subst e
            by_cases e2 : f x z = 0
            · rw [if_neg (by omega)] at h2 ⊢
              exact ih b c h1 h2
            · rw [if_pos e2] at h2 ⊢
              exact h2
          · rw [if_pos e1] at h1
            have h3 : f y z ≤ 0 := by
              by_cases e2 : f y z = 0
              · omega
              · rw [if_pos e2] at h2; exact h2
            have := hf.strict (show f x y < 0 by omega) h3
            rw [if_pos (by omega)]
            omega
def cmpU (a b : UInt8) : Int := if a < b then -1 else if b < a then 1 else 0
theorem cmpU_cases (a b : UInt8) : (a.toNat < b.toNat ∧ cmpU a b = -1) ∨ (a.toNat = b.toNat ∧ cmpU a b = 0) ∨ (b.toNat < a.toNat ∧ cmpU a b = 1) := by
  unfold cmpU
  by_cases h1 : a < b
  · exact .inl ⟨UInt8.lt_iff_toNat_lt.1 h1, if_pos h1⟩
  · have n1 : ¬ a.toNat < b.toNat := fun h => h1 (UInt8.lt_iff_toNat_lt.2 h)
    by_cases h2 : b < a
    · exact .inr (.inr ⟨UInt8.lt_iff_toNat_lt.1 h2, by rw [if_neg h1, if_pos h2]⟩)
    · have n2 : ¬ b.toNat < a.toNat := fun h => h2 (UInt8.lt_iff_toNat_lt.2 h)
      exact .inr (.inl ⟨by omega, by rw [if_neg h1, if_neg h2]⟩)
theorem cmpU_cmp : IsCmp cmpU := by
  refine ⟨?_, ?_, ?_, ?_⟩
  · intro a b
    rcases cmpU_cases a b with ⟨h, e⟩ | ⟨h, e⟩ | ⟨h, e⟩ <;> rcases cmpU_cases b a with ⟨h', e'⟩ | ⟨h', e'⟩ | ⟨h', e'⟩ <;> omega
  · intro a b
    rw [← UInt8.toNat_inj]
    rcases cmpU_cases a b with ⟨h, e⟩ | ⟨h, e⟩ | ⟨h, e⟩ <;> omega
  · intro a b
    rcases cmpU_cases a b with ⟨h, e⟩ | ⟨h, e⟩ | ⟨h, e⟩ <;> omega
  · intro a b c
    rcases cmpU_cases a b with ⟨h, e⟩ | ⟨h, e⟩ | ⟨h, e⟩ <;> rcases cmpU_cases b c with ⟨h', e'⟩ | ⟨h', e'⟩ | ⟨h', e'⟩ <;> rcases cmpU_cases a c with ⟨h2, e2⟩ | ⟨h2, e2⟩ | ⟨h2, e2⟩ <;> omega
theorem compare_lex : ∀ a b : List UInt8, Lib.compareBytes a b = lexL cmpU a b
  | [], [] => rfl
  | [], _ :: _ => rfl
  | _ :: _, [] => rfl
  | a :: x, b :: y => by
    rw [Lib.compareBytes, lexL, compare_lex x y]
    unfold cmpU
    by_cases h1 : a < b
    · rw [if_pos h1, if_pos h1]; rfl
    · rw [if_neg h1, if_neg h1]
      by_cases h2 : b < a
      · rw [if_pos h2, if_pos h2]; rfl
      · rw [if_neg h2, if_neg h2]; rfl
theorem less_lex : ∀ a b : List UInt8, Op.bytesLess a b = decide (lexL cmpU a b = -1)
  | [], [] => rfl
  | [], _ :: _ => rfl
  | _ :: _, [] => rfl
  | a :: x, b :: y => by
    rw [Op.bytesLess, lexL, less_lex x y]
    have hz := cmpU_cmp.zero a b
    by_cases h1 : a < b
    · have : cmpU a b = -1 := by unfold cmpU; rw [if_pos h1]
      rw [this]
      simp [h1]
    · by_cases h2 : a = b
      · subst h2
        have : cmpU a a = 0 := hz.2 rfl
        rw [this]
        simp
      · have h3 : cmpU a b = 1 := by
          unfold cmpU
          rw [if_neg h1]
          unfold cmpU at hz
          by_cases h4 : b < a
          · rw [if_pos h4]
          · rw [if_neg h1, if_neg h4] at hz
            exact absurd (hz.1 rfl) h2
        rw [h3]
        simp [h1, h2]
def cmpB (a b : ByteArray) : Int := lexL cmpU (strL a) (strL b)
theorem strL_inj {a b : ByteArray} (h : strL a = strL b) : a = b := by rw [← txt_strL a, h, txt_strL]
theorem cmpB_cmp : IsCmp cmpB := by
  have h := lexL_cmp cmpU_cmp
  exact ⟨fun a b => h.swap _ _, fun a b => ⟨fun e => strL_inj ((h.zero _ _).1 e), fun e => (h.zero _ _).2 (by rw [e])⟩, fun a b => h.rng _ _, fun a b c => h.trans _ _ _⟩
def cmpLbl : Lbl → Lbl → Int := lex2 cmpB cmpB
theorem cmpLbl_cmp : IsCmp cmpLbl := lex2_cmp cmpB_cmp cmpB_cmp
/-- How two sets of labels stand to one another. -/
def cmpLs : List Lbl → List Lbl → Int := lexL cmpLbl
theorem cmpLs_cmp : IsCmp cmpLs := lexL_cmp cmpLbl_cmp
theorem less_cmp (a b : ByteArray) : Op.bytesLess a.toList b.toList = decide (cmpB a b = -1) := by
  rw [ByteArray.toList_eq, ByteArray.toList_eq, less_lex]; rfl
theorem eq_cmp (a b : ByteArray) : (a.toList == b.toList) = decide (cmpB a b = 0) := by
  rw [ByteArray.toList_eq, ByteArray.toList_eq, Bool.eq_iff_iff, beq_iff_eq, decide_eq_true_eq, cmpB_cmp.zero]
  constructor
  · intro h; exact strL_inj h
  · intro h; rw [h]
theorem le_cmp (a b : ByteArray) : leB a b = decide (cmpB a b ≤ 0) := by
  unfold leB
  rw [less_cmp, eq_cmp]
  rcases cmpB_cmp.rng a b with h | h | h <;> rw [h] <;> rfl
end Go.Proofs.YtojlcipphnegaaaGreat

namespace Go.Proofs.YtojlcipphnegaaaGreat
set_option linter.unusedVariables false

section
variable {α : Type} {f : α → α → Int}
theorem cmp_self (hf : IsCmp f) (a : α) : f a a = 0 := (hf.zero a a).2 rfl
theorem cmp_ne (hf : IsCmp f) {a b : α} (h : a ≠ b) : f a b < 0 ∨ f b a < 0 := by
  have h1 := hf.swap a b
  rcases hf.rng a b with h2 | h2 | h2
  · exact .inl (by omega)
  · exact absurd ((hf.zero a b).1 h2) h
  · exact .inr (by omega)
theorem filter_two {p q : α → Bool} (h : ∀ x, p x = true → q x = false) : ∀ a : List α, (a.filter p).length + (a.filter q).length ≤ a.length := by
  intro a
  induction a with
  | nil => simp
  | cons x a ih =>
    rw [List.filter_cons, List.filter_cons]
    cases hp : p x
    · cases hq : q x
      · simp; omega
      · simp; omega
    · rw [h x hp]
      simp
      omega
end
section
variable {α : Type} [DecidableEq α] {f : α → α → Int}
def UpF (f : α → α → Int) (l : List α) : Prop := l.Pairwise fun a b => f a b < 0
/-- One more laid into a rising list, if it is not there. -/
def withF (f : α → α → Int) (l : List α) (s : α) : List α := if s ∈ l then l else l.filter (fun x => decide (f x s < 0)) ++ s :: l.filter (fun x => decide (f s x < 0))
theorem withF_mem (hf : IsCmp f) (l : List α) (s x : α) : x ∈ withF f l s ↔ x ∈ l ∨ x = s := by
  unfold withF
  split
  · rename_i h
    constructor
    · exact .inl
    · rintro (h1 | rfl)
      · exact h1
      · exact h
  · rename_i h
    simp only [List.mem_append, List.mem_cons, List.mem_filter, decide_eq_true_eq]
    constructor
    · rintro (⟨h1, _⟩ | rfl | ⟨h1, _⟩)
      · exact .inl h1
      · exact .inr rfl
      · exact .inl h1
    · rintro (h1 | rfl)
      · rcases cmp_ne hf (show x ≠ s from fun e => h (e ▸ h1)) with h2 | h2
        · exact .inl ⟨h1, h2⟩
        · exact .inr (.inr ⟨h1, h2⟩)
      · exact .inr (.inl rfl)
theorem withF_up (hf : IsCmp f) {l : List α} (h : UpF f l) (s : α) : UpF f (withF f l s) := by
  unfold withF
  split
  · exact h
  · refine List.pairwise_append.2 ⟨h.filter _, List.pairwise_cons.2 ⟨?_, h.filter _⟩, ?_⟩
    · intro x hx
      exact of_decide_eq_true (List.mem_filter.1 hx).2
    · intro a ha b hb
      have h1 : f a s < 0 := of_decide_eq_true (List.mem_filter.1 ha).2
      rcases List.mem_cons.1 hb with rfl | hb
      · exact h1
      · have h2 : f s b < 0 := of_decide_eq_true (List.mem_filter.1 hb).2
        exact hf.strict h1 (by omega)
theorem upF_ext (hf : IsCmp f) : ∀ {a b : List α}, UpF f a → UpF f b → (∀ x, x ∈ a ↔ x ∈ b) → a = b := by
  intro a
  induction a with
  | nil =>
    intro b _ _ h
    cases b with
    | nil => rfl
    | cons y b => exact absurd ((h y).2 (by simp)) (by simp)
  | cons x a ih =>
    intro b ha hb h
    cases b with
    | nil => exact absurd ((h x).1 (by simp)) (by simp)
    | cons y b =>
      obtain ⟨ha1, ha2⟩ := List.pairwise_cons.1 ha
      obtain ⟨hb1, hb2⟩ := List.pairwise_cons.1 hb
      have hxy : x = y := by
        rcases List.mem_cons.1 ((h x).1 (by simp)) with e | e
        · exact e
        · rcases List.mem_cons.1 ((h y).2 (by simp)) with e2 | e2
          · exact e2.symm
          · have h1 := hb1 x e
            have h2 := ha1 y e2
            have h3 := hf.swap x y
            omega
      subst hxy
      have hni : ∀ {l : List α}, (∀ z ∈ l, f x z < 0) → x ∉ l := fun h1 h2 => by
        have := h1 x h2
        rw [cmp_self hf] at this
        omega
      rw [ih ha2 hb2 fun z => ?_]
      constructor
      · intro hz
        rcases List.mem_cons.1 ((h z).1 (List.mem_cons_of_mem _ hz)) with e | e
        · subst e; exact absurd hz (hni ha1)
        · exact e
      · intro hz
        rcases List.mem_cons.1 ((h z).2 (List.mem_cons_of_mem _ hz)) with e | e
        · subst e; exact absurd hz (hni hb1)
        · exact e
theorem withF_here (l : List α) {s : α} (h : s ∈ l) : withF f l s = l := by unfold withF; exact if_pos h
/-- Where it is laid: at the first that is above it. -/
theorem withF_at (hf : IsCmp f) {l : List α} (h : UpF f l) (s : α) (p : Nat) (h1 : ∀ x ∈ l.take p, f x s < 0) (h2 : ∀ x ∈ l.drop p, f s x < 0) : withF f l s = l.take p ++ s :: l.drop p := by
  have hn : s ∉ l := fun hs => by
    rw [← List.take_append_drop p l] at hs
    rcases List.mem_append.1 hs with h3 | h3
    · have := h1 s h3; rw [cmp_self hf] at this; omega
    · have := h2 s h3; rw [cmp_self hf] at this; omega
  refine upF_ext hf (withF_up hf h s) ?_ fun x => ?_
  · refine List.pairwise_append.2 ⟨h.sublist (List.take_sublist _ _), List.pairwise_cons.2 ⟨h2, h.sublist (List.drop_sublist _ _)⟩, ?_⟩
    intro a ha b hb
    rcases List.mem_cons.1 hb with rfl | hb
    · exact h1 a ha
    · exact hf.strict (h1 a ha) (by have := h2 b hb; omega)
  · rw [withF_mem hf]
    conv => lhs; lhs; rw [← List.take_append_drop p l]
    simp only [List.mem_append, List.mem_cons]
    constructor
    · rintro ((h3 | h3) | h3)
      · exact .inl h3
      · exact .inr (.inr h3)
      · exact .inr (.inl h3)
    · rintro (h3 | h3 | h3)
      · exact .inl (.inl h3)
      · exact .inr h3
      · exact .inl (.inr h3)
/-- All of many, each once, rising. -/
def setF (f : α → α → Int) (l : List α) : List α := l.foldl (withF f) []
theorem foldW_up (hf : IsCmp f) : ∀ (m l : List α), UpF f l → UpF f (m.foldl (withF f) l) := by
  intro m
  induction m with
  | nil => intro l h; exact h
  | cons x m ih => intro l h; exact ih _ (withF_up hf h x)
theorem foldW_mem (hf : IsCmp f) : ∀ (m l : List α) (x : α), x ∈ m.foldl (withF f) l ↔ x ∈ l ∨ x ∈ m := by
  intro m
  induction m with
  | nil => intro l x; simp
  | cons y m ih =>
    intro l x
    rw [List.foldl_cons, ih, withF_mem hf, List.mem_cons]
    constructor
    · rintro ((h | h) | h)
      · exact .inl h
      · exact .inr (.inl h)
      · exact .inr (.inr h)
    · rintro (h | h | h)
      · exact .inl (.inl h)
      · exact .inl (.inr h)
      · exact .inr h
theorem setF_up (hf : IsCmp f) (l : List α) : UpF f (setF f l) := foldW_up hf l [] List.Pairwise.nil
theorem setF_mem (hf : IsCmp f) (l : List α) (x : α) : x ∈ setF f l ↔ x ∈ l := by
  unfold setF
  rw [foldW_mem hf]
  simp
theorem setF_of (hf : IsCmp f) {l m : List α} (hu : UpF f m) (h : ∀ x, x ∈ m ↔ x ∈ l) : m = setF f l := upF_ext hf hu (setF_up hf l) fun x => by rw [h, setF_mem hf]
theorem setF_app (l m : List α) : setF f (l ++ m) = m.foldl (withF f) (setF f l) := by
  unfold setF
  rw [List.foldl_append]
theorem withF_len (hf : IsCmp f) (a : List α) (x : α) : (withF f a x).length ≤ a.length + 1 := by
  unfold withF
  split
  · omega
  · have h := filter_two (p := fun y => decide (f y x < 0)) (q := fun y => decide (f x y < 0)) (fun y hy => by
      have h1 : f y x < 0 := of_decide_eq_true hy
      have h2 := hf.swap y x
      exact decide_eq_false (by omega)) a
    rw [List.length_append, List.length_cons]
    omega
theorem foldW_len (hf : IsCmp f) : ∀ (m a : List α), (m.foldl (withF f) a).length ≤ a.length + m.length := by
  intro m
  induction m with
  | nil => intro a; simp
  | cons x m ih =>
    intro a
    rw [List.foldl_cons, List.length_cons]
    have h1 := ih (withF f a x)
    have h2 := withF_len hf a x
    omega
theorem setF_len (hf : IsCmp f) (l : List α) : (setF f l).length ≤ l.length := by
  have := foldW_len hf l []
  simpa [setF] using this
/-- A text's place. -/
def placeF (l : List α) (s : α) : Nat := l.idxOf s
theorem place_at (hf : IsCmp f) {l : List α} (h : UpF f l) {i : Nat} (hi : i < l.length) : placeF l l[i] = i := by
  have hnd : l.Nodup := h.imp fun {a b} hab e => by subst e; rw [cmp_self hf] at hab; omega
  exact hnd.idxOf_getElem i hi
theorem place_get {l : List α} {s : α} (h : s ∈ l) : ∃ hlt : placeF l s < l.length, l[placeF l s] = s := ⟨List.idxOf_lt_length_of_mem h, List.getElem_idxOf _⟩
theorem placeF_first {l : List α} {s : α} {k : Nat} (hk : k < l.length) (he : l[k] = s) (hb : ∀ j (hj : j < k), l[j]'(Nat.lt_trans hj hk) ≠ s) : placeF l s = k := by
  unfold placeF
  rw [List.idxOf, List.findIdx_eq hk]
  exact ⟨by simpa using he, fun j hj => by simpa using hb j hj⟩
end

/-! ### an index -/
def namesOf (sets : List (List Lbl)) : List ByteArray := sets.flatMap fun l => l.map (·.1)
def textsOf (sets : List (List Lbl)) : List ByteArray := namesOf sets ++ sets.flatMap fun l => l.map (·.2)
def ixNames (sets : List (List Lbl)) : List ByteArray := setF cmpB (namesOf sets)
def ixTexts (sets : List (List Lbl)) : List ByteArray := setF cmpB (textsOf sets)
/-- Why label sets are no index, number by number; 0: they are one. -/
def ixChkF : List Lbl → List (List Lbl) → Int
  | _, [] => 0
  | prev, l :: r => if lbChk l ≠ 0 then lbChk l else if 0 ≤ cmpLs prev l then 13 else ixChkF l r
def ixChk (sets : List (List Lbl)) : Int :=
  if 256 < sets.length then 3 else match sets with
    | [] => 0
    | l :: r => if lbChk l ≠ 0 then lbChk l else ixChkF l r
def placeL (t : List ByteArray) (x : Lbl) : List UInt8 := uintL (placeF t x.1) ++ uintL (placeF t x.2)
def setL (t : List ByteArray) (l : List Lbl) : List UInt8 := uintL l.length ++ l.flatMap (placeL t)
def ixBytes (sets : List (List Lbl)) : List UInt8 :=
  uintL (ixTexts sets).length ++ (ixTexts sets).flatMap (fun s => uintL s.size ++ strL s) ++ uintL sets.length ++ sets.flatMap (setL (ixTexts sets))
theorem ixChkF_up : ∀ (sets : List (List Lbl)) (prev : List Lbl), ixChkF prev sets = 0 → UpF cmpLs (prev :: sets) ∧ ∀ l ∈ sets, lbChk l = 0 := by
  intro sets
  induction sets with
  | nil => intro prev _; exact ⟨by simp [UpF], by simp⟩
  | cons l r ih =>
    intro prev h
    unfold ixChkF at h
    by_cases h1 : lbChk l = 0
    · rw [if_neg (by omega)] at h
      by_cases h2 : 0 ≤ cmpLs prev l
      · rw [if_pos h2] at h; cases h
      · rw [if_neg h2] at h
        obtain ⟨h3, h4⟩ := ih l h
        refine ⟨List.pairwise_cons.2 ⟨?_, h3⟩, ?_⟩
        · intro x hx
          rcases List.mem_cons.1 hx with rfl | hx
          · omega
          · have h5 := (List.pairwise_cons.1 h3).1 x hx
            have h6 : cmpLs prev l < 0 := by omega
            have h7 : cmpLs l x ≤ 0 := by omega
            exact cmpLs_cmp.strict h6 h7
        · intro x hx
          rcases List.mem_cons.1 hx with rfl | hx
          · exact h1
          · exact h4 x hx
    · rw [if_pos h1] at h
      exact absurd h h1
theorem ixChk_right {sets : List (List Lbl)} (h : ixChk sets = 0) : sets.length ≤ 256 ∧ UpF cmpLs sets ∧ ∀ l ∈ sets, lbChk l = 0 := by
  unfold ixChk at h
  by_cases hb : 256 < sets.length
  · rw [if_pos hb] at h; cases h
  · rw [if_neg hb] at h
    cases sets with
    | nil => exact ⟨by omega, List.Pairwise.nil, by simp⟩
    | cons l r =>
      simp only at h
      by_cases h1 : lbChk l = 0
      · rw [if_neg (by omega)] at h
        obtain ⟨h3, h4⟩ := ixChkF_up r l h
        refine ⟨by omega, h3, ?_⟩
        intro x hx
        rcases List.mem_cons.1 hx with rfl | hx
        · exact h1
        · exact h4 x hx
      · rw [if_pos h1] at h
        exact absurd h h1
end Go.Proofs.YtojlcipphnegaaaGreat

namespace Go.Proofs.YtojlcipphnegaaaGreat
set_option linter.unusedVariables false

section
variable (G : Nat → Nat → Nat → Nat → Prop) (X : Nat → ByteArray → Nat → Nat → Prop)
/-- So many texts, of at most 64 bytes each. -/
inductive TsO : Nat → Nat → Option (List ByteArray × Nat) → Prop
  | done (a : Nat) : TsO 0 a (some ([], a))
  | bad (n a : Nat) (s : ByteArray) (k e : Nat) (h : X a s k e) (he : e ≠ 0 ∨ 64 < s.size) : TsO (n + 1) a none
  | no (n a : Nat) (s : ByteArray) (k : Nat) (h : X a s k 0) (hs : s.size ≤ 64) (r : TsO n k none) : TsO (n + 1) a none
  | more (n a : Nat) (s : ByteArray) (k : Nat) (ts : List ByteArray) (p : Nat) (h : X a s k 0) (hs : s.size ≤ 64) (r : TsO n k (some (ts, p))) : TsO (n + 1) a (some (s :: ts, p))
/-- So many labels, by the places of their texts. -/
inductive LsO (t : List ByteArray) : Nat → Nat → Option (List Lbl × Nat) → Prop
  | done (a : Nat) : LsO t 0 a (some ([], a))
  | bad1 (n a p k e : Nat) (h : G a p k e) (he : e ≠ 0 ∨ t.length ≤ p) : LsO t (n + 1) a none
  | bad2 (n a p k q j e : Nat) (h : G a p k 0) (hp : p < t.length) (h2 : G k q j e) (he : e ≠ 0 ∨ t.length ≤ q) : LsO t (n + 1) a none
  | no (n a p k q j : Nat) (h : G a p k 0) (hp : p < t.length) (h2 : G k q j 0) (hq : q < t.length) (r : LsO t n j none) : LsO t (n + 1) a none
  | more (n a p k q j : Nat) (l : List Lbl) (z : Nat) (h : G a p k 0) (hp : p < t.length) (h2 : G k q j 0) (hq : q < t.length) (r : LsO t n j (some (l, z))) : LsO t (n + 1) a (some ((t[p], t[q]) :: l, z))
/-- So many sets, of at most 8 labels each. -/
inductive SsO (t : List ByteArray) : Nat → Nat → Option (List (List Lbl) × Nat) → Prop
  | done (a : Nat) : SsO t 0 a (some ([], a))
  | bad (n a m k e : Nat) (h : G a m k e) (he : e ≠ 0 ∨ 8 < m) : SsO t (n + 1) a none
  | wrong (n a m k : Nat) (h : G a m k 0) (hm : m ≤ 8) (r : LsO G t m k none) : SsO t (n + 1) a none
  | no (n a m k : Nat) (l : List Lbl) (j : Nat) (h : G a m k 0) (hm : m ≤ 8) (r : LsO G t m k (some (l, j))) (r2 : SsO t n j none) : SsO t (n + 1) a none
  | more (n a m k : Nat) (l : List Lbl) (j : Nat) (ls : List (List Lbl)) (z : Nat) (h : G a m k 0) (hm : m ≤ 8) (r : LsO G t m k (some (l, j))) (r2 : SsO t n j (some (ls, z))) : SsO t (n + 1) a (some (l :: ls, z))
/-- An index's sets, as far as they may be read. -/
inductive IxO : Option (List (List Lbl)) → Prop
  | bad (n k e : Nat) (h : G 0 n k e) (he : e ≠ 0 ∨ 4096 < n) : IxO none
  | texts (n k : Nat) (h : G 0 n k 0) (hn : n ≤ 4096) (r : TsO X n k none) : IxO none
  | many (n k : Nat) (t : List ByteArray) (a m j e : Nat) (h : G 0 n k 0) (hn : n ≤ 4096) (r : TsO X n k (some (t, a))) (h2 : G a m j e) (he : e ≠ 0 ∨ 256 < m) : IxO none
  | sets (n k : Nat) (t : List ByteArray) (a m j : Nat) (h : G 0 n k 0) (hn : n ≤ 4096) (r : TsO X n k (some (t, a))) (h2 : G a m j 0) (hm : m ≤ 256) (r2 : SsO G t m j none) : IxO none
  | ok (n k : Nat) (t : List ByteArray) (a m j : Nat) (ls : List (List Lbl)) (z : Nat) (h : G 0 n k 0) (hn : n ≤ 4096) (r : TsO X n k (some (t, a))) (h2 : G a m j 0) (hm : m ≤ 256) (r2 : SsO G t m j (some (ls, z))) : IxO (some ls)
variable {G X}
variable {P : Nat → Prop} (hG : ∀ a, P a → ∃ n k e, G a n k e ∧ (e = 0 → P k)) (hX : ∀ a, P a → ∃ s k e, X a s k e ∧ (e = 0 → P k))
include hX in
theorem tsO_total : ∀ (n a : Nat), P a → ∃ r, TsO X n a r ∧ ∀ ts p, r = some (ts, p) → P p := by
  intro n
  induction n with
  | zero => intro a ha; exact ⟨_, .done a, fun ts p e => by cases e; exact ha⟩
  | succ n ih =>
    intro a ha
    obtain ⟨s, k, e, h, hk⟩ := hX a ha
    by_cases he : e ≠ 0 ∨ 64 < s.size
    · exact ⟨_, .bad n a s k e h he, fun _ _ e => by cases e⟩
    · obtain rfl : e = 0 := by omega
      obtain ⟨r, hr, hp⟩ := ih k (hk rfl)
      cases r with
      | none => exact ⟨_, .no n a s k h (by omega) hr, fun _ _ e => by cases e⟩
      | some q => exact ⟨_, .more n a s k q.1 q.2 h (by omega) hr, fun ts p e => by cases e; exact hp _ _ rfl⟩
include hG in
theorem lsO_total (t : List ByteArray) : ∀ (n a : Nat), P a → ∃ r, LsO G t n a r ∧ ∀ l p, r = some (l, p) → P p := by
  intro n
  induction n with
  | zero => intro a ha; exact ⟨_, .done a, fun ts p e => by cases e; exact ha⟩
  | succ n ih =>
    intro a ha
    obtain ⟨p, k, e, h, hk⟩ := hG a ha
    by_cases he : e ≠ 0 ∨ t.length ≤ p
    · exact ⟨_, .bad1 n a p k e h he, fun _ _ e => by cases e⟩
    · obtain rfl : e = 0 := by omega
      obtain ⟨q, j, e2, h2, hj⟩ := hG k (hk rfl)
      by_cases he2 : e2 ≠ 0 ∨ t.length ≤ q
      · exact ⟨_, .bad2 n a p k q j e2 h (by omega) h2 he2, fun _ _ e => by cases e⟩
      · obtain rfl : e2 = 0 := by omega
        obtain ⟨r, hr, hp⟩ := ih j (hj rfl)
        cases r with
        | none => exact ⟨_, .no n a p k q j h (by omega) h2 (by omega) hr, fun _ _ e => by cases e⟩
        | some z => exact ⟨_, .more n a p k q j z.1 z.2 h (by omega) h2 (by omega) hr, fun l y e => by cases e; exact hp _ _ rfl⟩
include hG in
theorem ssO_total (t : List ByteArray) : ∀ (n a : Nat), P a → ∃ r, SsO G t n a r := by
  intro n
  induction n with
  | zero => intro a ha; exact ⟨_, .done a⟩
  | succ n ih =>
    intro a ha
    obtain ⟨m, k, e, h, hk⟩ := hG a ha
    by_cases he : e ≠ 0 ∨ 8 < m
    · exact ⟨_, .bad n a m k e h he⟩
    · obtain rfl : e = 0 := by omega
      obtain ⟨r, hr, hp⟩ := lsO_total hG t m k (hk rfl)
      cases r with
      | none => exact ⟨_, .wrong n a m k h (by omega) hr⟩
      | some z =>
        obtain ⟨r2, hr2⟩ := ih z.2 (hp z.1 z.2 rfl)
        cases r2 with
        | none => exact ⟨_, .no n a m k z.1 z.2 h (by omega) hr hr2⟩
        | some y => exact ⟨_, .more n a m k z.1 z.2 y.1 y.2 h (by omega) hr hr2⟩
include hG hX in
theorem ixO_total (h0 : P 0) : ∃ r, IxO G X r := by
  obtain ⟨n, k, e, h, hk⟩ := hG 0 h0
  by_cases he : e ≠ 0 ∨ 4096 < n
  · exact ⟨_, .bad n k e h he⟩
  · obtain rfl : e = 0 := by omega
    obtain ⟨r, hr, hp⟩ := tsO_total hX n k (hk rfl)
    cases r with
    | none => exact ⟨_, .texts n k h (by omega) hr⟩
    | some z =>
      obtain ⟨m, j, e2, h2, hj⟩ := hG z.2 (hp z.1 z.2 rfl)
      by_cases he2 : e2 ≠ 0 ∨ 256 < m
      · exact ⟨_, .many n k z.1 z.2 m j e2 h (by omega) hr h2 he2⟩
      · obtain rfl : e2 = 0 := by omega
        obtain ⟨r2, hr2⟩ := ssO_total hG z.1 m j (hj rfl)
        cases r2 with
        | none => exact ⟨_, .sets n k z.1 z.2 m j h (by omega) hr h2 (by omega) hr2⟩
        | some y => exact ⟨_, .ok n k z.1 z.2 m j y.1 y.2 h (by omega) hr h2 (by omega) hr2⟩
end

/-! ### there and back -/
section
variable {G : Nat → Nat → Nat → Nat → Prop} {X : Nat → ByteArray → Nat → Nat → Prop} {b : List UInt8}
  (hG : ∀ (pre more : List UInt8) (n : Nat), n < 9223372036854775808 → pre ++ uintL n ++ more = b → G pre.length n (pre ++ uintL n).length 0)
  (hX : ∀ (pre more : List UInt8) (s : ByteArray), s.size ≤ 65535 → pre ++ (uintL s.size ++ strL s) ++ more = b → X pre.length s (pre ++ (uintL s.size ++ strL s)).length 0)
include hX in
theorem ts_back : ∀ (ts : List ByteArray) (pre more : List UInt8), (∀ s ∈ ts, s.size ≤ 64) → pre ++ ts.flatMap (fun s => uintL s.size ++ strL s) ++ more = b →
    TsO X ts.length pre.length (some (ts, (pre ++ ts.flatMap (fun s => uintL s.size ++ strL s)).length)) := by
  intro ts
  induction ts with
  | nil =>
    intro pre more _ _
    have : (pre ++ ([] : List ByteArray).flatMap (fun s => uintL s.size ++ strL s)).length = pre.length := by simp
    rw [this]
    exact .done _
  | cons s ts ih =>
    intro pre more hs hb
    have h1 := hX pre (ts.flatMap (fun s => uintL s.size ++ strL s) ++ more) s (by have := hs s (by simp); omega) (by rw [← hb]; simp)
    have h2 := ih (pre ++ (uintL s.size ++ strL s)) more (fun x hx => hs x (List.mem_cons_of_mem _ hx)) (by rw [← hb]; simp)
    have e : (pre ++ (s :: ts).flatMap (fun s => uintL s.size ++ strL s)).length = (pre ++ (uintL s.size ++ strL s) ++ ts.flatMap (fun s => uintL s.size ++ strL s)).length := by simp
    rw [e]
    exact .more _ _ s _ ts _ h1 (hs s (by simp)) h2
include hG in
theorem ls_back (t : List ByteArray) (ht : t.length < 9223372036854775808) : ∀ (l : List Lbl) (pre more : List UInt8), (∀ x ∈ l, x.1 ∈ t ∧ x.2 ∈ t) → pre ++ l.flatMap (placeL t) ++ more = b →
    LsO G t l.length pre.length (some (l, (pre ++ l.flatMap (placeL t)).length)) := by
  intro l
  induction l with
  | nil =>
    intro pre more _ _
    have : (pre ++ ([] : List Lbl).flatMap (placeL t)).length = pre.length := by simp
    rw [this]
    exact .done _
  | cons x l ih =>
    intro pre more hs hb
    obtain ⟨m1, m2⟩ := hs x (by simp)
    obtain ⟨p1, g1⟩ := place_get m1
    obtain ⟨p2, g2⟩ := place_get m2
    have h1 := hG pre (uintL (placeF t x.2) ++ (l.flatMap (placeL t) ++ more)) (placeF t x.1) (by omega) (by rw [← hb]; simp [placeL])
    have h2 := hG (pre ++ uintL (placeF t x.1)) (l.flatMap (placeL t) ++ more) (placeF t x.2) (by omega) (by rw [← hb]; simp [placeL])
    have h3 := ih (pre ++ uintL (placeF t x.1) ++ uintL (placeF t x.2)) more (fun y hy => hs y (List.mem_cons_of_mem _ hy)) (by rw [← hb]; simp [placeL])
    have e : (pre ++ (x :: l).flatMap (placeL t)).length = (pre ++ uintL (placeF t x.1) ++ uintL (placeF t x.2) ++ l.flatMap (placeL t)).length := by simp [placeL]
    have ex : x = (t[placeF t x.1], t[placeF t x.2]) := Prod.ext g1.symm g2.symm
    rw [e]
    have h4 := LsO.more (G := G) (t := t) l.length pre.length _ _ _ _ l _ h1 p1 h2 p2 h3
    rw [← ex] at h4
    exact h4
include hG in
theorem ss_back (t : List ByteArray) (ht : t.length < 9223372036854775808) : ∀ (ls : List (List Lbl)) (pre more : List UInt8), (∀ l ∈ ls, l.length ≤ 8 ∧ ∀ x ∈ l, x.1 ∈ t ∧ x.2 ∈ t) → pre ++ ls.flatMap (setL t) ++ more = b →
    SsO G t ls.length pre.length (some (ls, (pre ++ ls.flatMap (setL t)).length)) := by
  intro ls
  induction ls with
  | nil =>
    intro pre more _ _
    have : (pre ++ ([] : List (List Lbl)).flatMap (setL t)).length = pre.length := by simp
    rw [this]
    exact .done _
  | cons l ls ih =>
    intro pre more hs hb
    obtain ⟨m1, m2⟩ := hs l (by simp)
    have h1 := hG pre (l.flatMap (placeL t) ++ (ls.flatMap (setL t) ++ more)) l.length (by omega) (by rw [← hb]; simp [setL])
    have h2 := ls_back hG t ht l (pre ++ uintL l.length) (ls.flatMap (setL t) ++ more) m2 (by rw [← hb]; simp [setL])
    have h3 := ih (pre ++ uintL l.length ++ l.flatMap (placeL t)) more (fun y hy => hs y (List.mem_cons_of_mem _ hy)) (by rw [← hb]; simp [setL])
    have e : (pre ++ (l :: ls).flatMap (setL t)).length = (pre ++ uintL l.length ++ l.flatMap (placeL t) ++ ls.flatMap (setL t)).length := by simp [setL]
    rw [e]
    exact .more _ _ _ _ l _ ls _ h1 m1 h2 h3
end
theorem texts_in {sets : List (List Lbl)} {l : List Lbl} (hl : l ∈ sets) {x : Lbl} (hx : x ∈ l) : x.1 ∈ ixTexts sets ∧ x.2 ∈ ixTexts sets := by
  unfold ixTexts textsOf namesOf
  rw [setF_mem cmpB_cmp, setF_mem cmpB_cmp]
  exact ⟨List.mem_append.2 (.inl (List.mem_flatMap.2 ⟨l, hl, List.mem_map.2 ⟨x, hx, rfl⟩⟩)), List.mem_append.2 (.inr (List.mem_flatMap.2 ⟨l, hl, List.mem_map.2 ⟨x, hx, rfl⟩⟩))⟩
theorem texts_of {sets : List (List Lbl)} {s : ByteArray} (hs : s ∈ ixTexts sets) : ∃ l ∈ sets, ∃ x ∈ l, s = x.1 ∨ s = x.2 := by
  unfold ixTexts textsOf namesOf at hs
  rw [setF_mem cmpB_cmp] at hs
  rcases List.mem_append.1 hs with h | h
  · obtain ⟨l, hl, h2⟩ := List.mem_flatMap.1 h
    obtain ⟨x, hx, rfl⟩ := List.mem_map.1 h2
    exact ⟨l, hl, x, hx, .inl rfl⟩
  · obtain ⟨l, hl, h2⟩ := List.mem_flatMap.1 h
    obtain ⟨x, hx, rfl⟩ := List.mem_map.1 h2
    exact ⟨l, hl, x, hx, .inr rfl⟩
theorem texts_few : ∀ (sets : List (List Lbl)), (∀ l ∈ sets, l.length ≤ 8) → (textsOf sets).length ≤ 16 * sets.length := by
  intro sets h
  have h1 : ∀ (g : Lbl → ByteArray) (ls : List (List Lbl)), (∀ l ∈ ls, l.length ≤ 8) → (ls.flatMap fun l => l.map g).length ≤ 8 * ls.length := by
    intro g ls
    induction ls with
    | nil => intro _; simp
    | cons l ls ih =>
      intro h
      rw [List.flatMap_cons, List.length_append, List.length_map, List.length_cons]
      have h2 := ih (fun x hx => h x (List.mem_cons_of_mem _ hx))
      have h3 := h l (by simp)
      omega
  unfold textsOf namesOf
  rw [List.length_append]
  have h2 := h1 (·.1) sets h
  have h3 := h1 (·.2) sets h
  omega
theorem label_sizes {l : List Lbl} (h : lbChk l = 0) {x : Lbl} (hx : x ∈ l) : x.1.size ≤ 64 ∧ x.2.size ≤ 64 ∧ 0 < x.2.size := by
  obtain ⟨i, hi, e⟩ := List.getElem_of_mem hx
  have h1 := lbErrAt_zero.1 ((lbChk_ok.1 h).2 i hi)
  have e2 : l.getD i lbl0 = x := by rw [List.getD_eq_getElem?_getD, List.getElem?_eq_getElem hi, e]; rfl
  unfold nmOf vlOf at h1
  rw [e2] at h1
  obtain ⟨h2, h3, h4, _⟩ := h1
  have := (nameB_size h2).2
  exact ⟨by omega, h4, h3⟩
section
variable {G : Nat → Nat → Nat → Nat → Prop} {X : Nat → ByteArray → Nat → Nat → Prop} {b : List UInt8}
theorem ix_back (hG : ∀ (pre more : List UInt8) (n : Nat), n < 9223372036854775808 → pre ++ uintL n ++ more = b → G pre.length n (pre ++ uintL n).length 0)
    (hX : ∀ (pre more : List UInt8) (s : ByteArray), s.size ≤ 65535 → pre ++ (uintL s.size ++ strL s) ++ more = b → X pre.length s (pre ++ (uintL s.size ++ strL s)).length 0)
    {sets : List (List Lbl)} (h : ixChk sets = 0) (hb : ixBytes sets = b) : IxO G X (some sets) := by
  obtain ⟨h1, h2, h3⟩ := ixChk_right h
  have h8 : ∀ l ∈ sets, l.length ≤ 8 := fun l hl => (lbChk_ok.1 (h3 l hl)).1
  have hsz : ∀ s ∈ ixTexts sets, s.size ≤ 64 := fun s hs => by
    obtain ⟨l, hl, x, hx, e⟩ := texts_of hs
    have := label_sizes (h3 l hl) hx
    rcases e with rfl | rfl
    · exact this.1
    · exact this.2.1
  have hn : (ixTexts sets).length ≤ 4096 := by
    have h4 := setF_len cmpB_cmp (textsOf sets)
    have h5 := texts_few sets h8
    unfold ixTexts
    omega
  unfold ixBytes at hb
  generalize ht : ixTexts sets = t at *
  have g1 := hG [] (t.flatMap (fun s => uintL s.size ++ strL s) ++ uintL sets.length ++ sets.flatMap (setL t)) t.length (by omega) (by rw [← hb]; simp)
  have g2 := ts_back hX t ([] ++ uintL t.length) (uintL sets.length ++ sets.flatMap (setL t)) hsz (by rw [← hb]; simp)
  have g3 := hG ([] ++ uintL t.length ++ t.flatMap (fun s => uintL s.size ++ strL s)) (sets.flatMap (setL t)) sets.length (by omega) (by rw [← hb]; simp)
  have g4 := ss_back hG t (by omega) sets ([] ++ uintL t.length ++ t.flatMap (fun s => uintL s.size ++ strL s) ++ uintL sets.length) [] (fun l hl => ⟨h8 l hl, fun x hx => by rw [← ht]; exact texts_in hl hx⟩) (by rw [← hb]; simp)
  exact .ok t.length _ t _ sets.length _ sets _ g1 hn g2 g3 h1 g4
end
end Go.Proofs.YtojlcipphnegaaaGreat
