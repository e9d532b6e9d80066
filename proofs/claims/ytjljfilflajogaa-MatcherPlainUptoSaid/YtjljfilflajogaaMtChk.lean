/- A matcher's sign; whether it may be; whether one that may be fits a value. -/
import Derived.Test.YtjljfilflajogaaMtMath
import Derived.Test.YtjljfilflajogaaLbName
import Derived.Test.YtjljfilflajogaaRePat
namespace Go.Proofs.Ytjljfilflajogaa
open Go.RowKit
set_option linter.unusedVariables false

theorem sign_prog (k : Int) (w : World) : Calls Try.prog 41 #[.int .i64 k] w fun e w' => e = .returned (.string (signM k)) ∧ w = w' := by
  by_cases h1 : k = 1
  · subst h1
    go_enter Try.func41, Try.ntmps41
    go_wp2
    go_ret
    exact ⟨rfl, rfl⟩
  by_cases h2 : k = 2
  · subst h2
    go_enter Try.func41, Try.ntmps41
    go_wp2
    go_ret
    exact ⟨rfl, rfl⟩
  by_cases h3 : k = 3
  · subst h3
    go_enter Try.func41, Try.ntmps41
    go_wp2
    go_ret
    exact ⟨rfl, rfl⟩
  by_cases h4 : k = 4
  · subst h4
    go_enter Try.func41, Try.ntmps41
    go_wp2
    go_ret
    exact ⟨rfl, rfl⟩
  have d1 : (k == 1) = false := beq_eq_false_iff_ne.2 h1
  have d2 : (k == 2) = false := beq_eq_false_iff_ne.2 h2
  have d3 : (k == 3) = false := beq_eq_false_iff_ne.2 h3
  have d4 : (k == 4) = false := beq_eq_false_iff_ne.2 h4
  rw [show signM k = ⟨#[]⟩ by unfold signM; rw [if_neg h1, if_neg h2, if_neg h3, if_neg h4]]
  clear h1 h2 h3 h4
  go_enter Try.func41, Try.ntmps41
  go_wp2
  go_ret
  exact ⟨rfl, rfl⟩
def MtBox (w : World) (k : Int) (n v : ByteArray) : World := w.alloc (.cells #[.int .i64 k, .string n, .string v] 39)
set_option maxHeartbeats 1000000 in
theorem mchk_prog (k : Int) (n v : ByteArray) (w : World) : Calls Try.prog 24 #[.agg #[.int .i64 k, .string n, .string v]] w fun e w' => e = .returned (.int .i64 (mchk (k, n, v))) ∧ Below w.heap.size w w' := by
  have HS := Lib.hid (fun W => sign_prog k W)
  have HN := Lib.hid (fun W => name_prog n W)
  have HB0 := Lib.hid (below_one w (.cells #[.int .i64 k, .string n, .string v] 39))
  cases hk : kindB k with
  | false =>
    rw [mchk_kind hk]
    rw [sign_none hk] at HS
    clear hk
    go_enter Try.func24, Try.ntmps24
    go_wp2_with (go_at_call 41; refine (HS.out _).mono ?_; rintro e w1 ⟨rfl, rfl⟩)
    go_ret
    exact ⟨rfl, HB0.out⟩
  | true =>
    have hs := sign_some hk
    cases hn : nameB (strL n) with
    | false =>
      rw [mchk_name hk hn]
      rw [hn] at HN
      generalize signM k = sg at HS hs
      clear hk hn
      go_enter Try.func24, Try.ntmps24
      go_wp2_with (first
        | (go_at_call 41; refine (HS.out _).mono ?_; rintro e w1 ⟨rfl, rfl⟩)
        | (go_at_call 42; refine (HN.out _).mono ?_; rintro e w1 ⟨rfl, rfl⟩))
      go_ret
      exact ⟨rfl, HB0.out⟩
    | true =>
      rw [hn] at HN
      by_cases hv : 64 < v.size
      · rw [mchk_big hk hn hv]
        generalize signM k = sg at HS hs
        clear hk hn
        go_enter Try.func24, Try.ntmps24
        go_wp2_with (first
          | (go_at_call 41; refine (HS.out _).mono ?_; rintro e w1 ⟨rfl, rfl⟩)
          | (go_at_call 42; refine (HN.out _).mono ?_; rintro e w1 ⟨rfl, rfl⟩))
        go_ret
        exact ⟨rfl, HB0.out⟩
      · by_cases h2 : k ≤ 2
        · rw [mchk_eq hk hn hv h2]
          have d3 : (k == 3) = false := beq_eq_false_iff_ne.2 (by omega)
          have d4 : (k == 4) = false := beq_eq_false_iff_ne.2 (by omega)
          generalize signM k = sg at HS hs
          clear hk hn h2
          go_enter Try.func24, Try.ntmps24
          go_wp2_with (first
            | (go_at_call 41; refine (HS.out _).mono ?_; rintro e w1 ⟨rfl, rfl⟩)
            | (go_at_call 42; refine (HN.out _).mono ?_; rintro e w1 ⟨rfl, rfl⟩))
          go_ret
          exact ⟨rfl, HB0.out⟩
        · rw [mchk_re hk hn hv h2]
          have HC := Lib.hid (fun W => check_prog W v (n := 300) (by omega))
          have hk34 : k = 3 ∨ k = 4 := by rcases kind_cases hk with h | h | h | h <;> omega
          generalize signM k = sg at HS hs
          clear hk hn h2
          rcases hk34 with rfl | rfl
          all_goals
            go_enter Try.func24, Try.ntmps24
            go_wp2_with (first
              | (go_at_call 41; refine (HS.out _).mono ?_; rintro e w1 ⟨rfl, rfl⟩)
              | (go_at_call 42; refine (HN.out _).mono ?_; rintro e w1 ⟨rfl, rfl⟩)
              | (go_at_call 16; refine (HC.out _).mono ?_; rintro e w2 ⟨rfl, hb2⟩; have HB2 := Lib.hid (below_then HB0.out hb2); clear hb2))
            go_ret
            exact ⟨rfl, HB2.out⟩
set_option maxHeartbeats 1000000 in
theorem takes_prog (k : Int) (n v x : ByteArray) (w : World) : Calls Try.prog 46 #[.agg #[.int .i64 k, .string n, .string v], .string x] w fun e w' => e = .returned (.bool (mtake (k, n, v) x)) ∧ Below w.heap.size w w' := by
  have HB0 := Lib.hid (below_one w (.cells #[.int .i64 k, .string n, .string v] 39))
  by_cases h12 : k = 1 ∨ k = 2
  · have hq := eqT x v
    have HM := Lib.hid (show mtake (k, n, v) x = if k = 1 then decide (x = v) else !decide (x = v) by rcases h12 with rfl | rfl <;> rfl)
    rw [HM.out]
    generalize decide (x = v) = b at hq ⊢
    rcases h12 with rfl | rfl <;> cases b
    all_goals
      go_enter Try.func46, Try.ntmps46
      go_wp2_with fail
      go_ret
      exact ⟨rfl, HB0.out⟩
  · by_cases h34 : k = 3 ∨ k = 4
    · have HF := Lib.hid (fun W => fits_prog W v x (n := 300) (by omega))
      have HM := Lib.hid (show mtake (k, n, v) x = if k = 3 then (fitV 300 (strL v) (strL x)).1 else !(fitV 300 (strL v) (strL x)).1 by rcases h34 with rfl | rfl <;> rfl)
      rw [HM.out]
      generalize fitV 300 (strL v) (strL x) = q at HF ⊢
      obtain ⟨b, c⟩ := q
      clear h12
      rcases h34 with rfl | rfl <;> cases b
      all_goals
        go_enter Try.func46, Try.ntmps46
        go_wp2_with (go_at_call 19; refine (HF.out _).mono ?_; rintro e w2 ⟨rfl, hb2⟩; have HB2 := Lib.hid (below_then HB0.out hb2); clear hb2)
        go_ret
        exact ⟨rfl, HB2.out⟩
    · have HM := Lib.hid (show mtake (k, n, v) x = false by
        unfold mtake
        rw [if_neg (by intro h; exact h12 (.inl h)), if_neg (by intro h; exact h12 (.inr h)), if_neg (by intro h; exact h34 (.inl h)), if_neg (by intro h; exact h34 (.inr h))])
      have d1 : (k == 1) = false := beq_eq_false_iff_ne.2 (by omega)
      have d2 : (k == 2) = false := beq_eq_false_iff_ne.2 (by omega)
      have d3 : (k == 3) = false := beq_eq_false_iff_ne.2 (by omega)
      have d4 : (k == 4) = false := beq_eq_false_iff_ne.2 (by omega)
      rw [HM.out]
      clear h12 h34
      go_enter Try.func46, Try.ntmps46
      go_wp2_with fail
      go_ret
      exact ⟨rfl, HB0.out⟩
end Go.Proofs.Ytjljfilflajogaa
