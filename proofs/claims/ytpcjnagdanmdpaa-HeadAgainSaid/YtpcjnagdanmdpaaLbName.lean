/- Whether a text is a name, as the program and as the document's own answer ask it. -/
import Derived.Test.YtpcjnagdanmdpaaLbMath
import Derived.Deep.RegionWith
namespace Go.Proofs.Ytpcjnagdanmdpaa
open Go.RowKit
set_option linter.unusedVariables false
theorem strL_get (s : ByteArray) {k : Nat} (h : k < s.size) : (strL s).getD k 0 = s[k] := by
  rw [getD_in _ 0 (by rw [strL_length]; exact h)]
  rfl
theorem ret_bool {a b : Bool} (h : a = b) : Ending.returned (.bool a) = .returned (.bool b) := by rw [h]
theorem letter_cases (c : UInt8) (n : Nat) (hn : c.toNat = n) : (decide (97 ≤ n) = true ∧ decide (n ≤ 122) = true ∧ letterB c = true) ∨
    (decide (97 ≤ n) = true ∧ decide (n ≤ 122) = false ∧ decide (65 ≤ n) = true ∧ decide (n ≤ 90) = false ∧ (n == 95) = false ∧ letterB c = false) ∨
    (decide (97 ≤ n) = false ∧ decide (65 ≤ n) = true ∧ decide (n ≤ 90) = true ∧ letterB c = true) ∨
    (decide (97 ≤ n) = false ∧ decide (65 ≤ n) = true ∧ decide (n ≤ 90) = false ∧ (n == 95) = true ∧ letterB c = true) ∨
    (decide (97 ≤ n) = false ∧ decide (65 ≤ n) = true ∧ decide (n ≤ 90) = false ∧ (n == 95) = false ∧ letterB c = false) ∨
    (decide (97 ≤ n) = false ∧ decide (65 ≤ n) = false ∧ (n == 95) = false ∧ letterB c = false) := by
  subst hn
  unfold letterB
  by_cases h1 : 97 ≤ c.toNat <;> by_cases h2 : c.toNat ≤ 122 <;> by_cases h3 : 65 ≤ c.toNat <;> by_cases h4 : c.toNat ≤ 90 <;> by_cases h5 : c.toNat = 95 <;> simp [h1, h2, h3, h4, h5] <;> omega
theorem letter_prog (c : UInt8) (w : World) :
    Calls Try.prog 91 #[.int .u8 (c.toNat : Int)] w fun e w' => e = .returned (.bool (letterB c)) ∧ w = w' := by
  have hc := c.toNat_lt
  obtain ⟨n, hn⟩ : ∃ n, c.toNat = n := ⟨_, rfl⟩
  have k1 : decide ((97 : Int) ≤ (n : Int)) = decide (97 ≤ n) := by rw [decide_eq_decide]; omega
  have k2 : decide ((n : Int) ≤ 122) = decide (n ≤ 122) := by rw [decide_eq_decide]; omega
  have k3 : decide ((65 : Int) ≤ (n : Int)) = decide (65 ≤ n) := by rw [decide_eq_decide]; omega
  have k4 : decide ((n : Int) ≤ 90) = decide (n ≤ 90) := by rw [decide_eq_decide]; omega
  have k5 : ((n : Int) == 95) = (n == 95) := by rw [Bool.eq_iff_iff, beq_iff_eq, beq_iff_eq]; omega
  have key := letter_cases c n hn
  rw [hn] at *
  rcases key with ⟨h1, h2, h⟩ | ⟨h1, h2, h3, h4, h5, h⟩ | ⟨h1, h3, h4, h⟩ | ⟨h1, h3, h4, h5, h⟩ | ⟨h1, h3, h4, h5, h⟩ | ⟨h1, h3, h5, h⟩
  all_goals
    rw [h]
    simp only [h1] at k1
    try simp only [h2] at k2
    try simp only [h3] at k3
    try simp only [h4] at k4
    try simp only [h5] at k5
    clear h hn hc
    go_enter Try.func91, Try.ntmps91
    go_wp2
    go_ret
    exact ⟨rfl, rfl⟩
theorem digit_prog (c : UInt8) (w : World) :
    Calls Try.prog 92 #[.int .u8 (c.toNat : Int)] w fun e w' => e = .returned (.bool (digitB c)) ∧ w = w' := by
  have hc := c.toNat_lt
  unfold digitB
  generalize c.toNat = n at *
  have k1 : decide ((48 : Int) ≤ (n : Int)) = decide (48 ≤ n) := by rw [decide_eq_decide]; omega
  have k2 : decide ((n : Int) ≤ 57) = decide (n ≤ 57) := by rw [decide_eq_decide]; omega
  cases h1 : decide (48 ≤ n) <;> cases h2 : decide (n ≤ 57)
  all_goals
    rw [h1] at k1
    rw [h2] at k2
    go_enter Try.func92, Try.ntmps92
    go_wp2
    go_ret
    exact ⟨rfl, rfl⟩
theorem name_prog (s : ByteArray) (w : World) :
    Calls Try.prog 72 #[.string s] w fun e w' => e = .returned (.bool (nameB (strL s))) ∧ w = w' := by
  by_cases h0 : s.size = 0
  · have e : nameB (strL s) = false := by unfold nameB; rw [strL_length, h0]; rfl
    rw [e]
    have d0 : ((s.size : Int) == 0) = true := by rw [h0]; rfl
    clear e
    go_enter Try.func72, Try.ntmps72
    go_wp2
    go_ret
    exact ⟨rfl, rfl⟩
  have d0 : ((s.size : Int) == 0) = false := by rw [beq_eq_false_iff_ne]; omega
  by_cases h1 : 32 < s.size
  · have e : nameB (strL s) = false := by unfold nameB; rw [strL_length, decide_eq_true (show 0 < s.size by omega), decide_eq_false (show ¬ s.size ≤ 32 by omega)]; rfl
    rw [e]
    have d1 : decide ((32 : Int) < (s.size : Int)) = true := by simp; omega
    clear e
    go_enter Try.func72, Try.ntmps72
    go_wp2
    go_ret
    exact ⟨rfl, rfl⟩
  have d1 : decide ((32 : Int) < (s.size : Int)) = false := by simp; omega
  have HE := Lib.hid (show nameB (strL s) = okF (strL s) s.size 0 by unfold nameB; rw [strL_length, decide_eq_true (show 0 < s.size by omega), decide_eq_true (show s.size ≤ 32 by omega)]; rfl)
  rw [HE.out]
  go_enter Try.func72, Try.ntmps72
  go_wp2_with fail
  go_loop [14] (fun i => ∃ k : Nat, k ≤ s.size ∧ i = .int .i64 (k : Int) ∧ okF (strL s) (s.size - k) k = okF (strL s) s.size 0) (fun i => s.size - (intOf i).toNat)
  case atStart => exact ⟨0, Nat.zero_le _, rfl, rfl⟩
  case round =>
    obtain ⟨k, hk, rfl, hall⟩ := hrel
    by_cases hlt : k < s.size
    · rw [show s.size - k = (s.size - (k + 1)) + 1 from by omega, okF, strL_get s hlt] at hall
      have HA := Lib.hid hall
      clear hall
      have HL := Lib.hid (letter_prog s[k] w)
      have HD := Lib.hid (digit_prog s[k] w)
      cases hl : letterB s[k]
      · rw [hl] at HL
        by_cases hk0 : k = 0
        · have eb : okB s[k] k = false := by unfold okB; rw [hl, decide_eq_false (by omega)]; rfl
          rw [eb] at HA
          have i0 : ((k : Int) == 0) = true := by rw [hk0]; rfl
          clear eb hl hk0
          go_wp2_with fail
          refine HL.out.mono ?_
          rintro e w1 ⟨rfl, rfl⟩
          go_wp2_with fail
          go_ret
          exact ⟨by rw [← HA.out]; rfl, rfl⟩
        · have i0 : ((k : Int) == 0) = false := by rw [beq_eq_false_iff_ne]; omega
          cases hd : digitB s[k]
          · have eb : okB s[k] k = false := by unfold okB; rw [hl, hd]; simp
            rw [eb] at HA
            rw [hd] at HD
            clear eb hl hd hk0
            go_wp2_with fail
            refine HL.out.mono ?_
            rintro e w1 ⟨rfl, rfl⟩
            go_wp2_with fail
            refine HD.out.mono ?_
            rintro e w1 ⟨rfl, rfl⟩
            go_wp2_with fail
            go_ret
            exact ⟨by rw [← HA.out]; rfl, rfl⟩
          · have eb : okB s[k] k = true := by unfold okB; rw [hl, hd, decide_eq_true (by omega)]; rfl
            rw [eb, if_pos rfl] at HA
            rw [hd] at HD
            clear eb hl hd hk0
            go_wp2_with fail
            refine HL.out.mono ?_
            rintro e w1 ⟨rfl, rfl⟩
            go_wp2_with fail
            refine HD.out.mono ?_
            rintro e w1 ⟨rfl, rfl⟩
            go_wp2_with fail
            exact ⟨⟨k + 1, by omega, by go_num, HA.out⟩, by simp [intOf]; omega⟩
      · have eb : okB s[k] k = true := by unfold okB; rw [hl]; rfl
        rw [eb, if_pos rfl] at HA
        rw [hl] at HL
        clear eb hl
        go_wp2_with fail
        refine HL.out.mono ?_
        rintro e w1 ⟨rfl, rfl⟩
        go_wp2_with fail
        exact ⟨⟨k + 1, by omega, by go_num, HA.out⟩, by simp [intOf]; omega⟩
    · obtain rfl : k = s.size := by omega
      rw [Nat.sub_self, okF] at hall
      have HA := Lib.hid hall
      clear hall
      go_wp2_with fail
      go_ret
      exact ⟨ret_bool HA.out, rfl⟩
end Go.Proofs.Ytpcjnagdanmdpaa
