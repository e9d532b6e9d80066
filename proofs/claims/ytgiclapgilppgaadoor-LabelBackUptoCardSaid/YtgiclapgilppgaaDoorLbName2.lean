/- Whether a text is a name, as the document's own answer asks it. -/
import Derived.Test.YtgiclapgilppgaaDoorLbName
namespace Go.Proofs.YtgiclapgilppgaaDoor
open Go.RowKit
set_option linter.unusedVariables false

theorem name_end (s : ByteArray) (hs : s.size ≤ 140737488351232) (h : okF (strL s) s.size 0 = true) : nameB (strL s) = (!(s.toList == []) && decide ((s.size : Int) ≤ 32)) := by
  have e1 : (s.toList == []) = decide (s.size = 0) := by
    rw [ByteArray.toList_eq, Bool.eq_iff_iff, beq_iff_eq, decide_eq_true_eq]
    have := strL_length s
    unfold strL at this
    constructor
    · intro e; rw [e] at this; simpa using this.symm
    · intro e; exact List.eq_nil_of_length_eq_zero (by omega)
  unfold nameB
  rw [strL_length, h, e1]
  by_cases h0 : s.size = 0
  · simp [h0]
  · by_cases h1 : s.size ≤ 32
    · rw [decide_eq_true (show 0 < s.size by omega), decide_eq_true h1, decide_eq_false h0, decide_eq_true (show (s.size : Int) ≤ 32 by omega)]; rfl
    · rw [decide_eq_true (show 0 < s.size by omega), decide_eq_false h1, decide_eq_false h0, decide_eq_false (show ¬ (s.size : Int) ≤ 32 by omega)]; rfl
theorem name_stop (s : ByteArray) (h : okF (strL s) s.size 0 = false) : nameB (strL s) = false := by
  unfold nameB
  rw [strL_length, h, Bool.and_false]

theorem name_ref (s : ByteArray) (w : World) (hs : s.size ≤ 140737488351232) :
    Calls Tryd.prog 12 #[.string s] w fun e w' => e = .returned (.bool (nameB (strL s))) ∧ w = w' := by
  have HE := Lib.hid (name_end s hs)
  have HF := Lib.hid (name_stop s)
  go_enter Tryd.func12, Tryd.ntmps12
  go_wp2_with fail
  go_loop [3] (fun i => ∃ k : Nat, k ≤ s.size ∧ i = .int .i64 (k : Int) ∧ okF (strL s) (s.size - k) k = okF (strL s) s.size 0) (fun i => s.size - (intOf i).toNat)
  case atStart => exact ⟨0, Nat.zero_le _, rfl, rfl⟩
  case round =>
    obtain ⟨k, hk, rfl, hall⟩ := hrel
    by_cases hlt : k < s.size
    · rw [show s.size - k = (s.size - (k + 1)) + 1 from by omega, okF, strL_get s hlt] at hall
      have hc := s[k].toNat_lt
      have key := letter_cases s[k] s[k].toNat rfl
      obtain ⟨cb, hcb⟩ : ∃ c, s[k] = c := ⟨_, rfl⟩
      have ho : okB cb k = (letterB cb || (decide (0 < k) && (decide (48 ≤ cb.toNat) && decide (cb.toNat ≤ 57)))) := rfl
      rw [hcb] at hall key hc
      have HA := Lib.hid hall
      clear hall
      have hn : s[k].toNat = cb.toNat := by rw [hcb]
      generalize cb.toNat = n at *
      have k1 : decide ((97 : Int) ≤ (n : Int)) = decide (97 ≤ n) := by rw [decide_eq_decide]; omega
      have k2 : decide ((n : Int) ≤ 122) = decide (n ≤ 122) := by rw [decide_eq_decide]; omega
      have k3 : decide ((65 : Int) ≤ (n : Int)) = decide (65 ≤ n) := by rw [decide_eq_decide]; omega
      have k4 : decide ((n : Int) ≤ 90) = decide (n ≤ 90) := by rw [decide_eq_decide]; omega
      have k5 : ((n : Int) == 95) = (n == 95) := by rw [Bool.eq_iff_iff, beq_iff_eq, beq_iff_eq]; omega
      have k6 : decide ((n : Int) < 48) = !decide (48 ≤ n) := by by_cases h : 48 ≤ n <;> simp [h] <;> omega
      have k7 : decide ((57 : Int) < (n : Int)) = !decide (n ≤ 57) := by by_cases h : n ≤ 57 <;> simp [h] <;> omega
      rcases key with ⟨h1, h2, h⟩ | ⟨h1, h2, h3, h4, h5, h⟩ | ⟨h1, h3, h4, h⟩ | ⟨h1, h3, h4, h5, h⟩ | ⟨h1, h3, h4, h5, h⟩ | ⟨h1, h3, h5, h⟩
      all_goals
        rw [h] at ho
        simp only [h1] at k1
        try simp only [h2] at k2
        try simp only [h3] at k3
        try simp only [h4] at k4
        try simp only [h5] at k5
        clear h
        rw [← hn] at k1 k2 k3 k4 k5
      all_goals first
        | (have eb : okB cb k = true := by rw [ho]; rfl
           rw [eb, if_pos rfl] at HA
           clear eb ho k6 k7 hcb hc hn
           go_wp2_with fail
           exact ⟨⟨k + 1, by omega, by go_num, HA.out⟩, by simp [intOf]; omega⟩)
        | (rw [Bool.false_or] at ho
           by_cases hk0 : k = 0
           · have i0 : ((k : Int) == 0) = true := by rw [hk0]; rfl
             rw [decide_eq_false (show ¬ 0 < k by omega), Bool.false_and] at ho
             rw [ho] at HA
             clear k6 k7 hcb hc hn ho hk0
             go_wp2_with fail
             go_ret
             exact ⟨ret_bool (HF.out (by rw [← HA.out]; rfl)).symm, rfl⟩
           · have i0 : ((k : Int) == 0) = false := by rw [beq_eq_false_iff_ne]; omega
             rw [decide_eq_true (show 0 < k by omega), Bool.true_and] at ho
             rw [← hn] at k6 k7 ho
             cases d1 : decide (48 ≤ s[k].toNat)
             · rw [d1, Bool.false_and] at ho
               rw [d1] at k6
               rw [ho] at HA
               clear k7 hcb hc hn ho hk0 d1
               go_wp2_with fail
               go_ret
               exact ⟨ret_bool (HF.out (by rw [← HA.out]; rfl)).symm, rfl⟩
             · cases d2 : decide (s[k].toNat ≤ 57)
               · rw [d1, d2] at ho
                 rw [d1] at k6
                 rw [d2] at k7
                 rw [ho] at HA
                 clear hcb hc hn ho hk0 d1 d2
                 go_wp2_with fail
                 go_ret
                 exact ⟨ret_bool (HF.out (by rw [← HA.out]; rfl)).symm, rfl⟩
               · rw [d1, d2] at ho
                 rw [d1] at k6
                 rw [d2] at k7
                 rw [ho, if_pos (by rfl)] at HA
                 clear hcb hc hn ho hk0 d1 d2
                 go_wp2_with fail
                 exact ⟨⟨k + 1, by omega, by go_num, HA.out⟩, by simp [intOf]; omega⟩)
    · obtain rfl : k = s.size := by omega
      rw [Nat.sub_self, okF] at hall
      have HA := Lib.hid (HE.out hall.symm)
      clear hall
      by_cases h0 : s.size = 0
      · have e1 : (s.toList == []) = true := by
          rw [ByteArray.toList_eq, beq_iff_eq]
          exact List.eq_nil_of_length_eq_zero (by have := strL_length s; unfold strL at this; omega)
        rw [e1] at HA
        go_wp2_with fail
        go_ret
        exact ⟨ret_bool HA.out.symm, rfl⟩
      · have e1 : (s.toList == []) = false := by
          rw [ByteArray.toList_eq, beq_eq_false_iff_ne]
          intro e
          have := strL_length s
          unfold strL at this
          rw [e] at this
          simp at this
          omega
        rw [e1] at HA
        go_wp2_with fail
        go_ret
        exact ⟨ret_bool HA.out.symm, rfl⟩
end Go.Proofs.YtgiclapgilppgaaDoor
