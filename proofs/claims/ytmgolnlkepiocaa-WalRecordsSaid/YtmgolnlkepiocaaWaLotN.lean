/- In one text, written by lotify.py: LbOrd, LbCmp, LbCmp2. -/
import Derived.Test.YtmgolnlkepiocaaWaLotC
import Derived.Lib.Bytealg
import Derived.Test.YtmgolnlkepiocaaWaLotF
import Derived.Deep.RegionWith
import Derived.Deep.RegionHeld3
import Derived.Deep.Cut
import Derived.Deep.Quiet
import Derived.Deep.QuietTactic
namespace Go.Proofs.Ytmgolnlkepiocaa
open Go.RowKit
set_option linter.unusedVariables false

/-- What an order's comparison keeps. -/
structure IsCmp {α : Type} (f : α → α → Int) : Prop where
  swap : ∀ a b, f b a = - f a b
  zero : ∀ a b, f a b = 0 ↔ a = b
  rng : ∀ a b, f a b = -1 ∨ f a b = 0 ∨ f a b = 1
  trans : ∀ a b c, f a b ≤ 0 → f b c ≤ 0 → f a c ≤ 0
theorem IsCmp.strict {α : Type} {f : α → α → Int} (h : IsCmp f) {a b c : α} (h1 : f a b < 0) (h2 : f b c ≤ 0) : f a c < 0 := by
  have h3 := h.trans a b c (by omega) h2
  rcases h.rng a c with h4 | h4 | h4
  · omega
  · exfalso
    rw [h.zero] at h4
    subst h4
    have := h.swap a b
    omega
  · omega
/-- By the first, then by the second. -/
def lex2 {α β : Type} (f : α → α → Int) (g : β → β → Int) (x y : α × β) : Int := if f x.1 y.1 ≠ 0 then f x.1 y.1 else g x.2 y.2
theorem lex2_cmp {α β : Type} {f : α → α → Int} {g : β → β → Int} (hf : IsCmp f) (hg : IsCmp g) : IsCmp (lex2 f g) := by
  refine ⟨?_, ?_, ?_, ?_⟩
  · intro a b
    unfold lex2
    rw [hf.swap a.1 b.1, hg.swap a.2 b.2]
    by_cases h : f a.1 b.1 = 0
    · rw [if_neg (by omega), if_neg (by omega)]
    · rw [if_pos (by omega), if_pos h]
  · intro a b
    unfold lex2
    by_cases h : f a.1 b.1 = 0
    · rw [if_neg (by omega), hg.zero]
      rw [hf.zero] at h
      constructor
      · intro h2; exact Prod.ext h h2
      · intro h2; rw [h2]
    · rw [if_pos h]
      constructor
      · intro h2; exact absurd h2 h
      · intro h2; exact (hf.zero _ _).2 (by rw [h2])
  · intro a b
    unfold lex2
    split
    · exact hf.rng _ _
    · exact hg.rng _ _
  · intro a b c h1 h2
    unfold lex2 at *
    by_cases e1 : f a.1 b.1 = 0
    · rw [if_neg (by omega)] at h1
      have e := (hf.zero _ _).1 e1
      rw [e]
      by_cases e2 : f b.1 c.1 = 0
      · rw [if_neg (by omega)] at h2 ⊢
        exact hg.trans _ _ _ h1 h2
      · rw [if_pos e2] at h2 ⊢
        exact h2
    · rw [if_pos e1] at h1
      have h3 : f b.1 c.1 ≤ 0 := by
        by_cases e2 : f b.1 c.1 = 0
        · omega
        · rw [if_pos e2] at h2; exact h2
      have := hf.strict (show f a.1 b.1 < 0 by omega) h3
      rw [if_pos (by omega)]
      omega
def lexL {α : Type} (f : α → α → Int) : List α → List α → Int
  | [], [] => 0
  | [], _ :: _ => -1
  | _ :: _, [] => 1
  | x :: a, y :: b => if f x y ≠ 0 then f x y else lexL f a b
theorem lexL_cmp {α : Type} {f : α → α → Int} (hf : IsCmp f) : IsCmp (lexL f) := by
  refine ⟨?_, ?_, ?_, ?_⟩
  · intro a
    induction a with
    | nil => intro b; cases b <;> rfl
    | cons x a ih =>
      intro b
      cases b with
      | nil => rfl
      | cons y b =>
        simp only [lexL]
        rw [hf.swap x y, ih b]
        by_cases h : f x y = 0
        · rw [if_neg (by omega), if_neg (by omega)]
        · rw [if_pos (by omega), if_pos h]
  · intro a
    induction a with
    | nil => intro b; cases b <;> simp [lexL]
    | cons x a ih =>
      intro b
      cases b with
      | nil => simp [lexL]
      | cons y b =>
        simp only [lexL, List.cons.injEq]
        by_cases h : f x y = 0
        · rw [if_neg (by omega), ih b]
          rw [hf.zero] at h
          exact ⟨fun h2 => ⟨h, h2⟩, fun h2 => h2.2⟩
        · rw [if_pos h]
          exact ⟨fun h2 => absurd h2 h, fun h2 => absurd ((hf.zero _ _).2 h2.1) h⟩
  · intro a
    induction a with
    | nil => intro b; cases b <;> simp [lexL]
    | cons x a ih =>
      intro b
      cases b with
      | nil => simp [lexL]
      | cons y b =>
        simp only [lexL]
        split
        · exact hf.rng _ _
        · exact ih b
  · intro a
    induction a with
    | nil =>
      intro b c h1 h2
      cases c with
      | nil => simp [lexL]
      | cons z c => simp [lexL]
    | cons x a ih =>
      intro b c h1 h2
      cases b with
      | nil => simp [lexL] at h1
      | cons y b =>
        cases c with
        | nil => simp [lexL] at h2
        | cons z c =>
          simp only [lexL] at *
          by_cases e1 : f x y = 0
          · rw [if_neg (by omega)] at h1
            have e := (hf.zero _ _).1 e1
            subst e
            by_cases e2 : f x z = 0
            · rw [if_neg (by omega)] at h2 ⊢
              exact ih b c h1 h2
            · rw [if_pos e2] at h2 ⊢
              exact h2
          · rw [if_pos e1] at h1
            have h3 : f y z ≤ 0 := by
              by_cases e2 : f y z = 0
              · omega
              · rw [if_pos e2] at h2; exact h2
            have := hf.strict (show f x y < 0 by omega) h3
            rw [if_pos (by omega)]
            omega
def cmpU (a b : UInt8) : Int := if a < b then -1 else if b < a then 1 else 0
theorem cmpU_cases (a b : UInt8) : (a.toNat < b.toNat ∧ cmpU a b = -1) ∨ (a.toNat = b.toNat ∧ cmpU a b = 0) ∨ (b.toNat < a.toNat ∧ cmpU a b = 1) := by
  unfold cmpU
  by_cases h1 : a < b
  · exact .inl ⟨UInt8.lt_iff_toNat_lt.1 h1, if_pos h1⟩
  · have n1 : ¬ a.toNat < b.toNat := fun h => h1 (UInt8.lt_iff_toNat_lt.2 h)
    by_cases h2 : b < a
    · exact .inr (.inr ⟨UInt8.lt_iff_toNat_lt.1 h2, by rw [if_neg h1, if_pos h2]⟩)
    · have n2 : ¬ b.toNat < a.toNat := fun h => h2 (UInt8.lt_iff_toNat_lt.2 h)
      exact .inr (.inl ⟨by omega, by rw [if_neg h1, if_neg h2]⟩)
theorem cmpU_cmp : IsCmp cmpU := by
  refine ⟨?_, ?_, ?_, ?_⟩
  · intro a b
    rcases cmpU_cases a b with ⟨h, e⟩ | ⟨h, e⟩ | ⟨h, e⟩ <;> rcases cmpU_cases b a with ⟨h', e'⟩ | ⟨h', e'⟩ | ⟨h', e'⟩ <;> omega
  · intro a b
    rw [← UInt8.toNat_inj]
    rcases cmpU_cases a b with ⟨h, e⟩ | ⟨h, e⟩ | ⟨h, e⟩ <;> omega
  · intro a b
    rcases cmpU_cases a b with ⟨h, e⟩ | ⟨h, e⟩ | ⟨h, e⟩ <;> omega
  · intro a b c
    rcases cmpU_cases a b with ⟨h, e⟩ | ⟨h, e⟩ | ⟨h, e⟩ <;> rcases cmpU_cases b c with ⟨h', e'⟩ | ⟨h', e'⟩ | ⟨h', e'⟩ <;> rcases cmpU_cases a c with ⟨h2, e2⟩ | ⟨h2, e2⟩ | ⟨h2, e2⟩ <;> omega
theorem compare_lex : ∀ a b : List UInt8, Lib.compareBytes a b = lexL cmpU a b
  | [], [] => rfl
  | [], _ :: _ => rfl
  | _ :: _, [] => rfl
  | a :: x, b :: y => by
    rw [Lib.compareBytes, lexL, compare_lex x y]
    unfold cmpU
    by_cases h1 : a < b
    · rw [if_pos h1, if_pos h1]; rfl
    · rw [if_neg h1, if_neg h1]
      by_cases h2 : b < a
      · rw [if_pos h2, if_pos h2]; rfl
      · rw [if_neg h2, if_neg h2]; rfl
theorem less_lex : ∀ a b : List UInt8, Op.bytesLess a b = decide (lexL cmpU a b = -1)
  | [], [] => rfl
  | [], _ :: _ => rfl
  | _ :: _, [] => rfl
  | a :: x, b :: y => by
    rw [Op.bytesLess, lexL, less_lex x y]
    have hz := cmpU_cmp.zero a b
    by_cases h1 : a < b
    · have : cmpU a b = -1 := by unfold cmpU; rw [if_pos h1]
      rw [this]
      simp [h1]
    · by_cases h2 : a = b
      · subst h2
        have : cmpU a a = 0 := hz.2 rfl
        rw [this]
        simp
      · have h3 : cmpU a b = 1 := by
          unfold cmpU
          rw [if_neg h1]
          unfold cmpU at hz
          by_cases h4 : b < a
          · rw [if_pos h4]
          · rw [if_neg h1, if_neg h4] at hz
            exact absurd (hz.1 rfl) h2
        rw [h3]
        simp [h1, h2]
def cmpB (a b : ByteArray) : Int := lexL cmpU (strL a) (strL b)
theorem strL_inj {a b : ByteArray} (h : strL a = strL b) : a = b := by rw [← txt_strL a, h, txt_strL]
theorem cmpB_cmp : IsCmp cmpB := by
  have h := lexL_cmp cmpU_cmp
  exact ⟨fun a b => h.swap _ _, fun a b => ⟨fun e => strL_inj ((h.zero _ _).1 e), fun e => (h.zero _ _).2 (by rw [e])⟩, fun a b => h.rng _ _, fun a b c => h.trans _ _ _⟩
def cmpLbl : Lbl → Lbl → Int := lex2 cmpB cmpB
theorem cmpLbl_cmp : IsCmp cmpLbl := lex2_cmp cmpB_cmp cmpB_cmp
/-- How two sets of labels stand to one another. -/
def cmpLs : List Lbl → List Lbl → Int := lexL cmpLbl
theorem cmpLs_cmp : IsCmp cmpLs := lexL_cmp cmpLbl_cmp
theorem less_cmp (a b : ByteArray) : Op.bytesLess a.toList b.toList = decide (cmpB a b = -1) := by
  rw [ByteArray.toList_eq, ByteArray.toList_eq, less_lex]; rfl
theorem eq_cmp (a b : ByteArray) : (a.toList == b.toList) = decide (cmpB a b = 0) := by
  rw [ByteArray.toList_eq, ByteArray.toList_eq, Bool.eq_iff_iff, beq_iff_eq, decide_eq_true_eq, cmpB_cmp.zero]
  constructor
  · intro h; exact strL_inj h
  · intro h; rw [h]
theorem le_cmp (a b : ByteArray) : leB a b = decide (cmpB a b ≤ 0) := by
  unfold leB
  rw [less_cmp, eq_cmp]
  rcases cmpB_cmp.rng a b with h | h | h <;> rw [h] <;> rfl
end Go.Proofs.Ytmgolnlkepiocaa

namespace Go.Proofs.Ytmgolnlkepiocaa
open Go.RowKit
set_option linter.unusedVariables false

theorem text_cmp (a b : ByteArray) (w : World) : Calls Try.prog 94 #[.string a, .string b] w fun e w' => e = .returned (.int .i64 (cmpB a b)) ∧ w = w' := by
  have h1 := less_cmp a b
  have h2 := eq_cmp a b
  rcases cmpB_cmp.rng a b with h | h | h
  all_goals
    rw [h] at h1 h2 ⊢
    simp only [Int.reduceNeg, Int.reduceEq, decide_true, decide_false] at h1 h2
    clear h
    go_enter Try.func94, Try.ntmps94
    go_wp2
    go_ret
    exact ⟨rfl, rfl⟩
end Go.Proofs.Ytmgolnlkepiocaa

namespace Go.Proofs.Ytmgolnlkepiocaa
open Go.RowKit
set_option linter.unusedVariables false

theorem lb_drop_at (l : List Lbl) {k : Nat} (h : k < l.length) : l.drop k = (nmOf l k, vlOf l k) :: l.drop (k + 1) := by
  rw [List.drop_eq_getElem_cons h]
  congr 1
  unfold nmOf vlOf
  rw [List.getD_eq_getElem?_getD, List.getElem?_eq_getElem h]
  rfl
theorem ls_step (l m : List Lbl) {k : Nat} (h : k < l.length) (h2 : k < m.length) : cmpLs (l.drop k) (m.drop k) = if cmpLbl (nmOf l k, vlOf l k) (nmOf m k, vlOf m k) ≠ 0 then cmpLbl (nmOf l k, vlOf l k) (nmOf m k, vlOf m k) else cmpLs (l.drop (k + 1)) (m.drop (k + 1)) := by
  rw [lb_drop_at l h, lb_drop_at m h2]
  rfl
theorem ls_long (l m : List Lbl) {k : Nat} (h : k < l.length) (h2 : m.length ≤ k) : cmpLs (l.drop k) (m.drop k) = 1 := by
  rw [lb_drop_at l h, List.drop_eq_nil_of_le h2]
  rfl
theorem ls_short (l m : List Lbl) {k : Nat} (h : l.length ≤ k) (h2 : k < m.length) : cmpLs (l.drop k) (m.drop k) = -1 := by
  rw [lb_drop_at m h2, List.drop_eq_nil_of_le h]
  rfl
theorem ls_same (l m : List Lbl) {k : Nat} (h : l.length ≤ k) (h2 : m.length ≤ k) : cmpLs (l.drop k) (m.drop k) = 0 := by
  rw [List.drop_eq_nil_of_le h, List.drop_eq_nil_of_le h2]
  rfl

theorem compare_ref (A B : Option Addr) (l m : List Lbl) (c d : Nat) (w : World) (hA : Lbls w A l) (hB : Lbls w B m) (hl : l.length ≤ 100000000000000) (hm : m.length ≤ 100000000000000) :
    Calls Try.prog 66 #[.slice A l.length c, .slice B m.length d] w fun e w' => e = .returned (.int .i64 (cmpLs l m)) ∧ Below w.heap.size w w' := by
  have HA := Lib.hid hA
  have HB := Lib.hid hB
  clear hA hB
  go_enter Try.func66, Try.ntmps66
  go_wp2_with fail
  go_loopw [5] (fun i wr => ∃ k : Nat, k ≤ l.length ∧ k ≤ m.length ∧ i = .int .i64 (k : Int) ∧ cmpLs (l.drop k) (m.drop k) = cmpLs l m ∧ Below w.heap.size w wr) (fun i _ => l.length - (intOf i).toNat)
  case atStart => exact ⟨0, Nat.zero_le _, Nat.zero_le _, rfl, rfl, Below.refl _ _⟩
  case round =>
    obtain ⟨k, hk, hk2, rfl, he, hbr⟩ := hrel
    have hsz := hbr.size
    by_cases hlt : k < l.length
    · have i2 : decide ((k : Int) < (l.length : Int)) = true := by simp; omega
      by_cases hlt2 : k < m.length
      · obtain ⟨b, o, rfl, hb, g0, g1⟩ := HA.out.at_ hlt
        obtain ⟨b2, o2, rfl, hb2, g2, g3⟩ := HB.out.at_ hlt2
        have i3 : decide ((k : Int) < (m.length : Int)) = true := by simp; omega
        have j2 : (k : Int) < (l.length : Int) := by omega
        have j3 : (k : Int) < (m.length : Int) := by omega
        have c0 := (hbr.cell (p := ⟨b, o + k * 2, none⟩) hb).trans g0
        have c1 := (hbr.cell (p := ⟨b, o + k * 2 + 1, none⟩) hb).trans g1
        have d0 := (hbr.cell (p := ⟨b2, o2 + k * 2, none⟩) hb2).trans g2
        have d1 := (hbr.cell (p := ⟨b2, o2 + k * 2 + 1, none⟩) hb2).trans g3
        have HC2 := Lib.hid (fun W (h : Below w.heap.size w W) => (show W.cell? ⟨b, o + k * 2 + 1, none⟩ = some (.string (vlOf l k)) ∧ W.cell? ⟨b2, o2 + k * 2 + 1, none⟩ = some (.string (vlOf m k)) from ⟨(h.cell hb).trans g1, (h.cell hb2).trans g3⟩))
        have HST := Lib.hid (ls_step l m hlt hlt2)
        have hdef : cmpLbl (nmOf l k, vlOf l k) (nmOf m k, vlOf m k) = if cmpB (nmOf l k) (nmOf m k) ≠ 0 then cmpB (nmOf l k) (nmOf m k) else cmpB (vlOf l k) (vlOf m k) := rfl
        rw [hdef] at HST
        have HT1 := Lib.hid (fun W => text_cmp (nmOf l k) (nmOf m k) W)
        have HT2 := Lib.hid (fun W => text_cmp (vlOf l k) (vlOf m k) W)
        have HE := Lib.hid he
        have HBR := Lib.hid hbr
        clear g0 g1 g2 g3 he hbr hdef
        generalize cmpB (nmOf l k) (nmOf m k) = C1 at *
        generalize cmpB (vlOf l k) (vlOf m k) = C2 at *
        by_cases h0 : C1 = 0
        · subst h0
          rw [show (if (0 : Int) ≠ 0 then (0 : Int) else C2) = C2 from if_neg (by simp)] at HST
          go_upto_region 4 with fail
          go_region_held3 (fun w' => w'.cell? ⟨b, o + k * 2, none⟩ = some (.string (nmOf l k)) ∧ w'.cell? ⟨b2, o2 + k * 2, none⟩ = some (.string (nmOf m k)))
            (first | exact ⟨c0, d0⟩ | exact c0 | exact d0 | go_keep)
            (first | (go_at_call 94; refine (HT1.out _).mono ?_; rintro e w1 ⟨rfl, hw1⟩; subst hw1))
          all_goals
            have HBD := Lib.hid HBR.out.drew
            obtain ⟨q1, q3⟩ := HC2.out _ HBD.out
            obtain ⟨z, hz⟩ : ∃ z, wr.drew = z := ⟨_, rfl⟩
            rw [hz] at q1 q3 HBD
            clear c0 c1 d0 d1
            try rw [hz]
            clear hz
            go_upto_region 7 with fail
            go_region_held3 (fun w' => w'.cell? ⟨b, o + k * 2 + 1, none⟩ = some (.string (vlOf l k)) ∧ w'.cell? ⟨b2, o2 + k * 2 + 1, none⟩ = some (.string (vlOf m k)))
              (first | exact ⟨q1, q3⟩ | exact q1 | exact q3 | go_keep)
              (first | (go_at_call 94; refine (HT2.out _).mono ?_; rintro e w1 ⟨rfl, hw1⟩; subst hw1))
            all_goals
              have HBE := Lib.hid HBD.out.drew
              by_cases h0 : C2 = 0
              · subst h0
                rw [if_neg (by simp)] at HST
                go_wp2_with fail
                go_roundw
                case rel => exact ⟨k + 1, by omega, by omega, by go_num, by rw [← HST.out, HE.out], HBE.out⟩
                case measure => simp [intOf]; omega
              · have j4 : (C2 != 0) = true := bne_iff_ne.2 h0
                have j5 : (C2 == 0) = false := beq_eq_false_iff_ne.2 h0
                rw [if_pos h0] at HST
                clear h0
                go_wp2_with fail
                go_ret
                exact ⟨ret_int (by rw [← HE.out, HST.out]), HBE.out⟩
        · have j4 : (C1 != 0) = true := bne_iff_ne.2 h0
          have j5 : (C1 == 0) = false := beq_eq_false_iff_ne.2 h0
          rw [show (if C1 ≠ 0 then C1 else C2) = C1 from if_pos h0, if_pos h0] at HST
          clear h0
          go_upto_region 4 with fail
          go_region_held3 (fun w' => w'.cell? ⟨b, o + k * 2, none⟩ = some (.string (nmOf l k)) ∧ w'.cell? ⟨b2, o2 + k * 2, none⟩ = some (.string (nmOf m k)))
            (first | exact ⟨c0, d0⟩ | exact c0 | exact d0 | go_keep)
            (first | (go_at_call 94; refine (HT1.out _).mono ?_; rintro e w1 ⟨rfl, hw1⟩; subst hw1))
          all_goals
            have HBD := Lib.hid HBR.out.drew
            go_wp2_with fail
            go_ret
            exact ⟨ret_int (by rw [← HE.out, HST.out]), HBD.out⟩
      · have i3 : decide ((k : Int) < (m.length : Int)) = false := by simp; omega
        have i4 : decide ((l.length : Int) < (m.length : Int)) = false := by simp; omega
        have i5 : decide ((m.length : Int) < (l.length : Int)) = true := by simp; omega
        have HE := Lib.hid he
        have HBR := Lib.hid hbr
        have HST := Lib.hid (ls_long l m hlt (by omega))
        clear he hbr
        go_wp2_with fail
        go_ret
        exact ⟨ret_int (by rw [← HE.out, HST.out]), HBR.out⟩
    · obtain rfl : k = l.length := by omega
      have HE := Lib.hid he
      have HBR := Lib.hid hbr
      clear he hbr
      have i2 : decide ((l.length : Int) < (l.length : Int)) = false := by simp
      by_cases h2 : l.length < m.length
      · have i3 : decide ((l.length : Int) < (m.length : Int)) = true := by simp; omega
        have HST := Lib.hid (ls_short l m (Nat.le_refl _) h2)
        go_wp2_with fail
        go_ret
        exact ⟨ret_int (by rw [← HE.out, HST.out]), HBR.out⟩
      · have i3 : decide ((l.length : Int) < (m.length : Int)) = false := by simp; omega
        have i5 : decide ((m.length : Int) < (l.length : Int)) = false := by simp; omega
        have HST := Lib.hid (ls_same l m (Nat.le_refl _) (by omega))
        go_wp2_with fail
        go_ret
        exact ⟨ret_int (by rw [← HE.out, HST.out]), HBR.out⟩
theorem same_ref (A B : Option Addr) (l m : List Lbl) (c d : Nat) (w : World) (hA : Lbls w A l) (hB : Lbls w B m) (hl : l.length ≤ 100000000000000) (hm : m.length ≤ 100000000000000) :
    Calls Try.prog 42 #[.slice A l.length c, .slice B m.length d] w fun e w' => e = .returned (.bool (decide (l = m))) ∧ Below w.heap.size w w' := by
  have hz := cmpLs_cmp.zero l m
  have HC := Lib.hid (compare_ref A B l m c d w hA hB hl hm)
  generalize cmpLs l m = C at *
  have hd : (C == 0) = decide (l = m) := by rw [Bool.eq_iff_iff, beq_iff_eq, decide_eq_true_eq]; exact hz
  clear hz hA hB
  go_enter Try.func42, Try.ntmps42
  go_wp2_with (first | (go_at_call 66; refine HC.out.mono ?_; rintro e w3 ⟨rfl, hb3⟩))
  go_ret
  exact ⟨rfl, hb3⟩
end Go.Proofs.Ytmgolnlkepiocaa
