/- The examples; fits of the laws'; which bytes are plain. -/
import Derived.Test.YtjljfilflajogaaRePat
namespace Go.Proofs.Ytjljfilflajogaa
open Go.RowKit
set_option linter.unusedVariables false

theorem lives_true (w : World) : Calls Try.prog 18 #[] w fun e w' => e = .returned (.bool true) ∧ Below w.heap.size w w' := by
  have H1 := Lib.hid (fits_prog w ⟨#[40, 97, 98, 124, 99, 41, 42]⟩ ⟨#[97, 98, 99, 97, 98]⟩ (n := 260) (Nat.le_refl _))
  have e1 : fitV 260 (strL ⟨#[40, 97, 98, 124, 99, 41, 42]⟩) (strL ⟨#[97, 98, 99, 97, 98]⟩) = (true, 0) := live_1
  rw [e1] at H1
  go_enter Try.func18, Try.ntmps18
  go_wp2_with (first
    | (go_at_call 16; refine H3.out.mono ?_; rintro e w3 ⟨rfl, hb3⟩; have HB3 := Lib.hid (HB2.out.trans (hb3.mono HB2.out.size)); clear hb3)
    | (go_at_call 19; refine H2.out.mono ?_; rintro e w2 ⟨rfl, hb2⟩
       have HB2 := Lib.hid (HB1.out.trans (hb2.mono HB1.out.size))
       have H3 := Lib.hid (check_prog w2 ⟨#[40, 97]⟩ (n := 260) (Nat.le_refl _))
       have e3 : (parseM 260 (strL ⟨#[40, 97]⟩)).1 = 14 := live_3
       rw [e3] at H3
       clear hb2 e3)
    | (go_at_call 19; refine H1.out.mono ?_; rintro e w1 ⟨rfl, hb1⟩
       have HB1 := Lib.hid hb1
       have H2 := Lib.hid (fits_prog w1 ⟨#[97]⟩ ⟨#[97, 98]⟩ (n := 260) (Nat.le_refl _))
       have e2 : fitV 260 (strL ⟨#[97]⟩) (strL ⟨#[97, 98]⟩) = (false, 0) := live_2
       rw [e2] at H2
       clear hb1 e2))
  go_ret
  exact ⟨rfl, HB3.out⟩
theorem lfits_prog (w : World) (p s : ByteArray) {n : Nat} (hn : 260 ≤ n) : Calls Try.prog 23 #[.string p, .string s] w fun e w' => e = .returned (.bool (fitB n (strL p) (strL s))) ∧ Below w.heap.size w w' := by
  have HF := Lib.hid (fits_prog w p s hn)
  unfold fitB
  generalize fitV n (strL p) (strL s) = q at HF
  obtain ⟨b, c⟩ := q
  simp only at HF ⊢
  have d0 : (c == 0) = decide (c = 0) := by rw [Bool.eq_iff_iff, beq_iff_eq, decide_eq_true_eq]
  generalize decide (c = 0) = k at d0 ⊢
  cases b <;> cases k
  all_goals
    go_enter Try.func23, Try.ntmps23
    go_wp2_with (go_at_call 19; refine HF.out.mono ?_; rintro e w1 ⟨rfl, hb1⟩)
    go_ret
    exact ⟨rfl, hb1⟩
end Go.Proofs.Ytjljfilflajogaa
