/- The order of texts, of labels and of sets of labels. No program. -/
import Derived.Test.YtnhaehjkepmbaaaDoorLtLotL
import Derived.Lib.Bytealg
namespace Go.Proofs.YtnhaehjkepmbaaaDoor
open Go.RowKit
set_option linter.unusedVariables false

/-- What an order's comparison keeps. -/
structure IsCmp {α : Type} (f : α → α → Int) : Prop where
  swap : ∀ a b, f b a = - f a b
  zero : ∀ a b, f a b = 0 ↔ a = b
  rng : ∀ a b, f a b = -1 ∨ f a b = 0 ∨ f a b = 1
  trans : ∀ a b c, f a b ≤ 0 → f b c ≤ 0 → f a c ≤ 0
theorem IsCmp.strict {α : Type} {f : α → α → Int} (h : IsCmp f) {a b c : α} (h1 : f a b < 0) (h2 : f b c ≤ 0) : f a c < 0 := by
  have h3 := h.trans a b c (by omega) h2
  rcases h.rng a c with h4 | h4 | h4
  · omega
  · exfalso
    rw [h.zero] at h4
    subst h4
    have := h.swap a b
    omega
  · omega
/-- By the first, then by the second. -/
def lex2 {α β : Type} (f : α → α → Int) (g : β → β → Int) (x y : α × β) : Int := if f x.1 y.1 ≠ 0 then f x.1 y.1 else g x.2 y.2
theorem lex2_cmp {α β : Type} {f : α → α → Int} {g : β → β → Int} (hf : IsCmp f) (hg : IsCmp g) : IsCmp (lex2 f g) := by
  refine ⟨?_, ?_, ?_, ?_⟩
  · intro a b
    unfold lex2
    rw [hf.swap a.1 b.1, hg.swap a.2 b.2]
    by_cases h : f a.1 b.1 = 0
    · rw [if_neg (by omega), if_neg (by omega)]
    · rw [if_pos (by omega), if_pos h]
  · intro a b
    unfold lex2
    by_cases h : f a.1 b.1 = 0
    · rw [if_neg (by omega), hg.zero]
      rw [hf.zero] at h
      constructor
      · intro h2; exact Prod.ext h h2
      · intro h2; rw [h2]
    · rw [if_pos h]
      constructor
      · intro h2; exact absurd h2 h
      · intro h2; exact (hf.zero _ _).2 (by rw [h2])
  · intro a b
    unfold lex2
    split
    · exact hf.rng _ _
    · exact hg.rng _ _
  · intro a b c h1 h2
    unfold lex2 at *
    by_cases e1 : f a.1 b.1 = 0
    · rw [if_neg (by omega)] at h1
      have e := (hf.zero _ _).1 e1
      rw [e]
      by_cases e2 : f b.1 c.1 = 0
      · rw [if_neg (by omega)] at h2 ⊢
        exact hg.trans _ _ _ h1 h2
      · rw [if_pos e2] at h2 ⊢
        exact h2
    · rw [if_pos e1] at h1
      have h3 : f b.1 c.1 ≤ 0 := by
        by_cases e2 : f b.1 c.1 = 0
        · omega
        · rw [if_pos e2] at h2; exact h2
      have := hf.strict (show f a.1 b.1 < 0 by omega) h3
      rw [if_pos (by omega)]
      omega
def lexL {α : Type} (f : α → α → Int) : List α → List α → Int
  | [], [] => 0
  | [], _ :: _ => -1
  | _ :: _, [] => 1
  | x :: a, y :: b => if f x y ≠ 0 then f x y else lexL f a b
theorem lexL_cmp {α : Type} {f : α → α → Int} (hf : IsCmp f) : IsCmp (lexL f) := by
  refine ⟨?_, ?_, ?_, ?_⟩
  · intro a
    induction a with
    | nil => intro b; cases b <;> rfl
    | cons x a ih =>
      intro b
      cases b with
      | nil => rfl
      | cons y b =>
        simp only [lexL]
        rw [hf.swap x y, ih b]
        by_cases h : f x y = 0
        · rw [if_neg (by omega), if_neg (by omega)]
        · rw [if_pos (by omega), if_pos h]
  · intro a
    induction a with
    | nil => intro b; cases b <;> simp [lexL]
    | cons x a ih =>
      intro b
      cases b with
      | nil => simp [lexL]
      | cons y b =>
        simp only [lexL, List.cons.injEq]
        by_cases h : f x y = 0
        · rw [if_neg (by omega), ih b]
          rw [hf.zero] at h
          exact ⟨fun h2 => ⟨h, h2⟩, fun h2 => h2.2⟩
        · rw [if_pos h]
          exact ⟨fun h2 => absurd h2 h, fun h2 => absurd ((hf.zero _ _).2 h2.1) h⟩
  · intro a
    induction a with
    | nil => intro b; cases b <;> simp [lexL]
    | cons x a ih =>
      intro b
      cases b with
      | nil => simp [lexL]
      | cons y b =>
        simp only [lexL]
        split
        · exact hf.rng _ _
        · exact ih b
  · intro a
    induction a with
    | nil =>
      intro b c h1 h2
      cases c with
      | nil => simp [lexL]
      | cons z c => simp [lexL]
    | cons x a ih =>
      intro b c h1 h2
      cases b with
      | nil => simp [lexL] at h1
      | cons y b =>
        cases c with
        | nil => simp [lexL] at h2
        | cons z c =>
          simp only [lexL] at *
          by_cases e1 : f x y = 0
          · rw [if_neg (by omega)] at h1
            have e := (hf.zero _ _).1 e1
            subst e
            by_cases e2 : f x z = 0
            · rw [if_neg (by omega)] at h2 ⊢
              exact ih b c h1 h2
            · rw [if_pos e2] at h2 ⊢
              exact h2
          · rw [if_pos e1] at h1
            have h3 : f y z ≤ 0 := by
              by_cases e2 : f y z = 0
              · omega
              · rw [if_pos e2] at h2; exact h2
            have := hf.strict (show f x y < 0 by omega) h3
            rw [if_pos (by omega)]
            omega
def cmpU (a b : UInt8) : Int := if a < b then -1 else if b < a then 1 else 0
theorem cmpU_cases (a b : UInt8) : (a.toNat < b.toNat ∧ cmpU a b = -1) ∨ (a.toNat = b.toNat ∧ cmpU a b = 0) ∨ (b.toNat < a.toNat ∧ cmpU a b = 1) := by
  unfold cmpU
  by_cases h1 : a < b
  · exact .inl ⟨UInt8.lt_iff_toNat_lt.1 h1, if_pos h1⟩
  · have n1 : ¬ a.toNat < b.toNat := fun h => h1 (UInt8.lt_iff_toNat_lt.2 h)
    by_cases h2 : b < a
    · exact .inr (.inr ⟨UInt8.lt_iff_toNat_lt.1 h2, by rw [if_neg h1, if_pos h2]⟩)
    · have n2 : ¬ b.toNat < a.toNat := fun h => h2 (UInt8.lt_iff_toNat_lt.2 h)
      exact .inr (.inl ⟨by omega, by rw [if_neg h1, if_neg h2]⟩)
theorem cmpU_cmp : IsCmp cmpU := by
  refine ⟨?_, ?_, ?_, ?_⟩
  · intro a b
    rcases cmpU_cases a b with ⟨h, e⟩ | ⟨h, e⟩ | ⟨h, e⟩ <;> rcases cmpU_cases b a with ⟨h', e'⟩ | ⟨h', e'⟩ | ⟨h', e'⟩ <;> omega
  · intro a b
    rw [← UInt8.toNat_inj]
    rcases cmpU_cases a b with ⟨h, e⟩ | ⟨h, e⟩ | ⟨h, e⟩ <;> omega
  · intro a b
    rcases cmpU_cases a b with ⟨h, e⟩ | ⟨h, e⟩ | ⟨h, e⟩ <;> omega
  · intro a b c
    rcases cmpU_cases a b with ⟨h, e⟩ | ⟨h, e⟩ | ⟨h, e⟩ <;> rcases cmpU_cases b c with ⟨h', e'⟩ | ⟨h', e'⟩ | ⟨h', e'⟩ <;> rcases cmpU_cases a c with ⟨h2, e2⟩ | ⟨h2, e2⟩ | ⟨h2, e2⟩ <;> omega
theorem compare_lex : ∀ a b : List UInt8, Lib.compareBytes a b = lexL cmpU a b
  | [], [] => rfl
  | [], _ :: _ => rfl
  | _ :: _, [] => rfl
  | a :: x, b :: y => by
    rw [Lib.compareBytes, lexL, compare_lex x y]
    unfold cmpU
    by_cases h1 : a < b
    · rw [if_pos h1, if_pos h1]; rfl
    · rw [if_neg h1, if_neg h1]
      by_cases h2 : b < a
      · rw [if_pos h2, if_pos h2]; rfl
      · rw [if_neg h2, if_neg h2]; rfl
theorem less_lex : ∀ a b : List UInt8, Op.bytesLess a b = decide (lexL cmpU a b = -1)
  | [], [] => rfl
  | [], _ :: _ => rfl
  | _ :: _, [] => rfl
  | a :: x, b :: y => by
    rw [Op.bytesLess, lexL, less_lex x y]
    have hz := cmpU_cmp.zero a b
    by_cases h1 : a < b
    · have : cmpU a b = -1 := by unfold cmpU; rw [if_pos h1]
      rw [this]
      simp [h1]
    · by_cases h2 : a = b
      · subst h2
        have : cmpU a a = 0 := hz.2 rfl
        rw [this]
        simp
      · have h3 : cmpU a b = 1 := by
          unfold cmpU
          rw [if_neg h1]
          unfold cmpU at hz
          by_cases h4 : b < a
          · rw [if_pos h4]
          · rw [if_neg h1, if_neg h4] at hz
            exact absurd (hz.1 rfl) h2
        rw [h3]
        simp [h1, h2]
def cmpB (a b : ByteArray) : Int := lexL cmpU (strL a) (strL b)
theorem strL_inj {a b : ByteArray} (h : strL a = strL b) : a = b := by rw [← txt_strL a, h, txt_strL]
theorem cmpB_cmp : IsCmp cmpB := by
  have h := lexL_cmp cmpU_cmp
  exact ⟨fun a b => h.swap _ _, fun a b => ⟨fun e => strL_inj ((h.zero _ _).1 e), fun e => (h.zero _ _).2 (by rw [e])⟩, fun a b => h.rng _ _, fun a b c => h.trans _ _ _⟩
def cmpLbl : Lbl → Lbl → Int := lex2 cmpB cmpB
theorem cmpLbl_cmp : IsCmp cmpLbl := lex2_cmp cmpB_cmp cmpB_cmp
/-- How two sets of labels stand to one another. -/
def cmpLs : List Lbl → List Lbl → Int := lexL cmpLbl
theorem cmpLs_cmp : IsCmp cmpLs := lexL_cmp cmpLbl_cmp
theorem less_cmp (a b : ByteArray) : Op.bytesLess a.toList b.toList = decide (cmpB a b = -1) := by
  rw [ByteArray.toList_eq, ByteArray.toList_eq, less_lex]; rfl
theorem eq_cmp (a b : ByteArray) : (a.toList == b.toList) = decide (cmpB a b = 0) := by
  rw [ByteArray.toList_eq, ByteArray.toList_eq, Bool.eq_iff_iff, beq_iff_eq, decide_eq_true_eq, cmpB_cmp.zero]
  constructor
  · intro h; exact strL_inj h
  · intro h; rw [h]
theorem le_cmp (a b : ByteArray) : leB a b = decide (cmpB a b ≤ 0) := by
  unfold leB
  rw [less_cmp, eq_cmp]
  rcases cmpB_cmp.rng a b with h | h | h <;> rw [h] <;> rfl
end Go.Proofs.YtnhaehjkepmbaaaDoor
