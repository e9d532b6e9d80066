/- Whether a text is a file's name, as the program and as the document's own answer ask it. -/
import Derived.Test.YtiepepikbophmaaDkMem
import Derived.Test.YtiepepikbophmaaAppStr
namespace Go.Proofs.Ytiepepikbophmaa
open Go.RowKit
set_option linter.unusedVariables false

theorem strL_get (s : ByteArray) {k : Nat} (h : k < s.size) : (strL s).getD k 0 = s[k] := by
  rw [getD_in _ 0 (by rw [strL_length]; exact h)]
  rfl
theorem strL_take (s : ByteArray) {k : Nat} (h : k < s.size) : (strL s).take (k + 1) = (strL s).take k ++ [s[k]] := by
  rw [List.take_succ_eq_append_getElem (by rw [strL_length]; exact h)]
  rfl
theorem ret_bool {a b : Bool} (h : a = b) : Ending.returned (.bool a) = .returned (.bool b) := by rw [h]
theorem named_no {s : ByteArray} {k : Nat} (h : k < s.size) (hd : nameByte s[k] = false) : namedB (strL s) = false := by
  unfold namedB
  have : (strL s).all nameByte = false := by
    rw [List.all_eq_false]
    refine ⟨s[k], ?_, by simp [hd]⟩
    rw [← strL_get s h, getD_in _ 0 (by rw [strL_length]; exact h)]
    exact List.getElem_mem _
  simp [this]
theorem strL_empty (s : ByteArray) : (strL s).isEmpty = decide (s.size = 0) := by
  have := strL_length s
  cases h : strL s with
  | nil => rw [h] at this; rw [decide_eq_true (by simpa using this.symm)]; rfl
  | cons x r => rw [h, List.length_cons] at this; rw [decide_eq_false (by omega)]; rfl
theorem named_yes {s : ByteArray} (h : (strL s).all nameByte = true) : namedB (strL s) = (!decide (s.size = 0) && decide (s.size ≤ 24)) := by
  unfold namedB
  rw [h, strL_empty, strL_length]
  simp
theorem named_size {s : ByteArray} (h : namedB (strL s) = true) : 0 < s.size ∧ s.size ≤ 24 := by
  unfold namedB at h
  rw [strL_empty, strL_length] at h
  simp only [Bool.and_eq_true, Bool.not_eq_true', decide_eq_true_eq, decide_eq_false_iff_not] at h
  omega
theorem class_of (c : UInt8) : (c.toNat < 45 ∨ c.toNat = 47 ∨ (58 ≤ c.toNat ∧ c.toNat ≤ 96) ∨ 123 ≤ c.toNat) ∧ nameByte c = false ∨ (c.toNat = 45 ∨ c.toNat = 46 ∨ (48 ≤ c.toNat ∧ c.toNat ≤ 57) ∨ (97 ≤ c.toNat ∧ c.toNat ≤ 122)) ∧ nameByte c = true := by
  have := c.toNat_lt
  by_cases h : (97 ≤ c.toNat ∧ c.toNat ≤ 122) ∨ (48 ≤ c.toNat ∧ c.toNat ≤ 57) ∨ c.toNat = 46 ∨ c.toNat = 45
  · refine .inr ⟨by omega, ?_⟩
    unfold nameByte
    simp
    omega
  · refine .inl ⟨by omega, ?_⟩
    unfold nameByte
    simp
    omega

set_option maxHeartbeats 1000000 in
theorem isname_loop (s : ByteArray) (w : World) (h0 : 0 < s.size) (hs : s.size ≤ 24) :
    Calls Try.prog 91 #[.string s] w fun e w' => e = .returned (.bool (namedB (strL s))) ∧ w = w' := by
  have q0 : decide (s.size = 0) = false := decide_eq_false (by omega)
  have q1 : decide ((24 : Int) < (s.size : Int)) = false := decide_eq_false (by omega)
  have qe : (s.toList == []) = false := by
    rw [ByteArray.toList_eq, beq_eq_false_iff_ne]
    intro e
    have := strL_length s
    unfold strL at this
    rw [e] at this
    simp at this
    omega
  go_enter Try.func91, Try.ntmps91
  go_wp2_with fail
  go_loop [16] (fun i => ∃ k : Nat, k ≤ s.size ∧ i = .int .i64 (k : Int) ∧ ((strL s).take k).all nameByte = true) (fun i => s.size - (intOf i).toNat)
  case atStart => exact ⟨0, Nat.zero_le _, rfl, by simp⟩
  case round =>
    obtain ⟨k, hk, rfl, hall⟩ := hrel
    by_cases hlt : k < s.size
    · have HT := Lib.hid (strL_take s hlt)
      have HA := Lib.hid hall
      clear hall
      rcases class_of s[k] with ⟨hcl, hnb⟩ | ⟨hcl, hnb⟩
      · have HN := Lib.hid (named_no hlt hnb)
        clear hnb
        rcases hcl with hcl | hcl | hcl | hcl
        · -- lt45
          have c1 : decide ((97 : Int) ≤ (s[k].toNat : Int)) = false := decide_eq_false (by omega)
          have c2 : decide ((s[k].toNat : Int) ≤ 122) = true := decide_eq_true (by omega)
          have c3 : decide ((48 : Int) ≤ (s[k].toNat : Int)) = false := decide_eq_false (by omega)
          have c4 : decide ((s[k].toNat : Int) ≤ 57) = true := decide_eq_true (by omega)
          have c5 : ((s[k].toNat : Int) != 46) = true := bne_iff_ne.2 (by omega)
          have c6 : ((s[k].toNat : Int) != 45) = true := bne_iff_ne.2 (by omega)
          clear hcl
          go_wp2_with fail
          go_ret
          exact ⟨ret_bool HN.out.symm, rfl⟩
        · -- e47
          have c1 : decide ((97 : Int) ≤ (s[k].toNat : Int)) = false := decide_eq_false (by omega)
          have c2 : decide ((s[k].toNat : Int) ≤ 122) = true := decide_eq_true (by omega)
          have c3 : decide ((48 : Int) ≤ (s[k].toNat : Int)) = false := decide_eq_false (by omega)
          have c4 : decide ((s[k].toNat : Int) ≤ 57) = true := decide_eq_true (by omega)
          have c5 : ((s[k].toNat : Int) != 46) = true := bne_iff_ne.2 (by omega)
          have c6 : ((s[k].toNat : Int) != 45) = true := bne_iff_ne.2 (by omega)
          clear hcl
          go_wp2_with fail
          go_ret
          exact ⟨ret_bool HN.out.symm, rfl⟩
        · -- mid
          have c1 : decide ((97 : Int) ≤ (s[k].toNat : Int)) = false := decide_eq_false (by omega)
          have c2 : decide ((s[k].toNat : Int) ≤ 122) = true := decide_eq_true (by omega)
          have c3 : decide ((48 : Int) ≤ (s[k].toNat : Int)) = true := decide_eq_true (by omega)
          have c4 : decide ((s[k].toNat : Int) ≤ 57) = false := decide_eq_false (by omega)
          have c5 : ((s[k].toNat : Int) != 46) = true := bne_iff_ne.2 (by omega)
          have c6 : ((s[k].toNat : Int) != 45) = true := bne_iff_ne.2 (by omega)
          clear hcl
          go_wp2_with fail
          go_ret
          exact ⟨ret_bool HN.out.symm, rfl⟩
        · -- hi
          have c1 : decide ((97 : Int) ≤ (s[k].toNat : Int)) = true := decide_eq_true (by omega)
          have c2 : decide ((s[k].toNat : Int) ≤ 122) = false := decide_eq_false (by omega)
          have c3 : decide ((48 : Int) ≤ (s[k].toNat : Int)) = true := decide_eq_true (by omega)
          have c4 : decide ((s[k].toNat : Int) ≤ 57) = false := decide_eq_false (by omega)
          have c5 : ((s[k].toNat : Int) != 46) = true := bne_iff_ne.2 (by omega)
          have c6 : ((s[k].toNat : Int) != 45) = true := bne_iff_ne.2 (by omega)
          clear hcl
          go_wp2_with fail
          go_ret
          exact ⟨ret_bool HN.out.symm, rfl⟩
      · have HD := Lib.hid hnb
        clear hnb
        rcases hcl with hcl | hcl | hcl | hcl
        · -- e45
          have c1 : decide ((97 : Int) ≤ (s[k].toNat : Int)) = false := decide_eq_false (by omega)
          have c2 : decide ((s[k].toNat : Int) ≤ 122) = true := decide_eq_true (by omega)
          have c3 : decide ((48 : Int) ≤ (s[k].toNat : Int)) = false := decide_eq_false (by omega)
          have c4 : decide ((s[k].toNat : Int) ≤ 57) = true := decide_eq_true (by omega)
          have c5 : ((s[k].toNat : Int) != 46) = true := bne_iff_ne.2 (by omega)
          have c6 : ((s[k].toNat : Int) != 45) = false := by rw [bne_eq_false_iff_eq]; omega
          clear hcl
          go_wp2_with fail
          go_round
          case rel => exact ⟨k + 1, by omega, by go_num, by rw [HT.out, List.all_append, HA.out]; simp [HD.out]⟩
          case measure => simp [intOf]; omega
        · -- e46
          have c1 : decide ((97 : Int) ≤ (s[k].toNat : Int)) = false := decide_eq_false (by omega)
          have c2 : decide ((s[k].toNat : Int) ≤ 122) = true := decide_eq_true (by omega)
          have c3 : decide ((48 : Int) ≤ (s[k].toNat : Int)) = false := decide_eq_false (by omega)
          have c4 : decide ((s[k].toNat : Int) ≤ 57) = true := decide_eq_true (by omega)
          have c5 : ((s[k].toNat : Int) != 46) = false := by rw [bne_eq_false_iff_eq]; omega
          have c6 : ((s[k].toNat : Int) != 45) = true := bne_iff_ne.2 (by omega)
          clear hcl
          go_wp2_with fail
          go_round
          case rel => exact ⟨k + 1, by omega, by go_num, by rw [HT.out, List.all_append, HA.out]; simp [HD.out]⟩
          case measure => simp [intOf]; omega
        · -- dig
          have c1 : decide ((97 : Int) ≤ (s[k].toNat : Int)) = false := decide_eq_false (by omega)
          have c2 : decide ((s[k].toNat : Int) ≤ 122) = true := decide_eq_true (by omega)
          have c3 : decide ((48 : Int) ≤ (s[k].toNat : Int)) = true := decide_eq_true (by omega)
          have c4 : decide ((s[k].toNat : Int) ≤ 57) = true := decide_eq_true (by omega)
          have c5 : ((s[k].toNat : Int) != 46) = true := bne_iff_ne.2 (by omega)
          have c6 : ((s[k].toNat : Int) != 45) = true := bne_iff_ne.2 (by omega)
          clear hcl
          go_wp2_with fail
          go_round
          case rel => exact ⟨k + 1, by omega, by go_num, by rw [HT.out, List.all_append, HA.out]; simp [HD.out]⟩
          case measure => simp [intOf]; omega
        · -- let
          have c1 : decide ((97 : Int) ≤ (s[k].toNat : Int)) = true := decide_eq_true (by omega)
          have c2 : decide ((s[k].toNat : Int) ≤ 122) = true := decide_eq_true (by omega)
          have c3 : decide ((48 : Int) ≤ (s[k].toNat : Int)) = true := decide_eq_true (by omega)
          have c4 : decide ((s[k].toNat : Int) ≤ 57) = false := decide_eq_false (by omega)
          have c5 : ((s[k].toNat : Int) != 46) = true := bne_iff_ne.2 (by omega)
          have c6 : ((s[k].toNat : Int) != 45) = true := bne_iff_ne.2 (by omega)
          clear hcl
          go_wp2_with fail
          go_round
          case rel => exact ⟨k + 1, by omega, by go_num, by rw [HT.out, List.all_append, HA.out]; simp [HD.out]⟩
          case measure => simp [intOf]; omega
    · obtain rfl : k = s.size := by omega
      rw [List.take_of_length_le (by rw [strL_length]; omega)] at hall
      have HN := Lib.hid (named_yes hall)
      clear hall
      go_wp2_with fail
      go_ret
      exact ⟨ret_bool (by rw [HN.out, q0]; simp; omega), rfl⟩
theorem named_empty {s : ByteArray} (h : s.size = 0) : namedB (strL s) = false := by
  unfold namedB
  rw [strL_empty, decide_eq_true h]
  simp
theorem named_long {s : ByteArray} (h : 24 < s.size) : namedB (strL s) = false := by
  unfold namedB
  rw [strL_length, decide_eq_false (by omega : ¬ s.size ≤ 24)]
  simp
theorem empty_list {s : ByteArray} (h : s.size = 0) : (s.toList == []) = true := by
  rw [ByteArray.toList_eq, beq_iff_eq]
  exact List.eq_nil_of_length_eq_zero (by have := strL_length s; unfold strL at this; omega)
theorem full_list {s : ByteArray} (h : 0 < s.size) : (s.toList == []) = false := by
  rw [ByteArray.toList_eq, beq_eq_false_iff_ne]
  intro e
  have := strL_length s
  unfold strL at this
  rw [e] at this
  simp at this
  omega
theorem isname_prog (s : ByteArray) (w : World) (hm : s.size ≤ 281474976710656) :
    Calls Try.prog 91 #[.string s] w fun e w' => e = .returned (.bool (namedB (strL s))) ∧ w = w' := by
  by_cases h0 : s.size = 0
  · rw [named_empty h0]
    have qe := empty_list h0
    clear h0
    go_enter Try.func91, Try.ntmps91
    go_wp2_with fail
    go_ret
    exact ⟨rfl, rfl⟩
  · by_cases h1 : s.size ≤ 24
    · exact isname_loop s w (by omega) h1
    · rw [named_long (by omega)]
      have qe := full_list (s := s) (by omega)
      have q1 : decide ((24 : Int) < (s.size : Int)) = true := decide_eq_true (by omega)
      go_enter Try.func91, Try.ntmps91
      go_wp2_with fail
      go_ret
      exact ⟨rfl, rfl⟩

set_option maxHeartbeats 2000000 in
theorem named_ref (s : ByteArray) (w : World) (hs : s.size ≤ 281474976710656) :
    Calls Try.prog 80 #[.string s] w fun e w' => e = .returned (.bool (namedB (strL s))) ∧ w = w' := by
  go_enter Try.func80, Try.ntmps80
  go_wp2_with fail
  go_loop [3] (fun i => ∃ k : Nat, k ≤ s.size ∧ i = .int .i64 (k : Int) ∧ ((strL s).take k).all nameByte = true) (fun i => s.size - (intOf i).toNat)
  case atStart => exact ⟨0, Nat.zero_le _, rfl, by simp⟩
  case round =>
    obtain ⟨k, hk, rfl, hall⟩ := hrel
    by_cases hlt : k < s.size
    · have HT := Lib.hid (strL_take s hlt)
      have HA := Lib.hid hall
      clear hall
      rcases class_of s[k] with ⟨hcl, hnb⟩ | ⟨hcl, hnb⟩
      · have HN := Lib.hid (named_no hlt hnb)
        clear hnb
        rcases hcl with hcl | hcl | hcl | hcl
        · -- lt45
          have c1 : decide ((s[k].toNat : Int) < 97) = true := decide_eq_true (by omega)
          have c2 : decide ((122 : Int) < (s[k].toNat : Int)) = false := decide_eq_false (by omega)
          have c3 : decide ((s[k].toNat : Int) < 48) = true := decide_eq_true (by omega)
          have c4 : decide ((57 : Int) < (s[k].toNat : Int)) = false := decide_eq_false (by omega)
          have c5 : ((s[k].toNat : Int) != 46) = true := bne_iff_ne.2 (by omega)
          have c6 : ((s[k].toNat : Int) != 45) = true := bne_iff_ne.2 (by omega)
          clear hcl
          go_wp2_with fail
          go_ret
          exact ⟨ret_bool HN.out.symm, rfl⟩
        · -- e47
          have c1 : decide ((s[k].toNat : Int) < 97) = true := decide_eq_true (by omega)
          have c2 : decide ((122 : Int) < (s[k].toNat : Int)) = false := decide_eq_false (by omega)
          have c3 : decide ((s[k].toNat : Int) < 48) = true := decide_eq_true (by omega)
          have c4 : decide ((57 : Int) < (s[k].toNat : Int)) = false := decide_eq_false (by omega)
          have c5 : ((s[k].toNat : Int) != 46) = true := bne_iff_ne.2 (by omega)
          have c6 : ((s[k].toNat : Int) != 45) = true := bne_iff_ne.2 (by omega)
          clear hcl
          go_wp2_with fail
          go_ret
          exact ⟨ret_bool HN.out.symm, rfl⟩
        · -- mid
          have c1 : decide ((s[k].toNat : Int) < 97) = true := decide_eq_true (by omega)
          have c2 : decide ((122 : Int) < (s[k].toNat : Int)) = false := decide_eq_false (by omega)
          have c3 : decide ((s[k].toNat : Int) < 48) = false := decide_eq_false (by omega)
          have c4 : decide ((57 : Int) < (s[k].toNat : Int)) = true := decide_eq_true (by omega)
          have c5 : ((s[k].toNat : Int) != 46) = true := bne_iff_ne.2 (by omega)
          have c6 : ((s[k].toNat : Int) != 45) = true := bne_iff_ne.2 (by omega)
          clear hcl
          go_wp2_with fail
          go_ret
          exact ⟨ret_bool HN.out.symm, rfl⟩
        · -- hi
          have c1 : decide ((s[k].toNat : Int) < 97) = false := decide_eq_false (by omega)
          have c2 : decide ((122 : Int) < (s[k].toNat : Int)) = true := decide_eq_true (by omega)
          have c3 : decide ((s[k].toNat : Int) < 48) = false := decide_eq_false (by omega)
          have c4 : decide ((57 : Int) < (s[k].toNat : Int)) = true := decide_eq_true (by omega)
          have c5 : ((s[k].toNat : Int) != 46) = true := bne_iff_ne.2 (by omega)
          have c6 : ((s[k].toNat : Int) != 45) = true := bne_iff_ne.2 (by omega)
          clear hcl
          go_wp2_with fail
          go_ret
          exact ⟨ret_bool HN.out.symm, rfl⟩
      · have HD := Lib.hid hnb
        clear hnb
        rcases hcl with hcl | hcl | hcl | hcl
        · -- e45
          have c1 : decide ((s[k].toNat : Int) < 97) = true := decide_eq_true (by omega)
          have c2 : decide ((122 : Int) < (s[k].toNat : Int)) = false := decide_eq_false (by omega)
          have c3 : decide ((s[k].toNat : Int) < 48) = true := decide_eq_true (by omega)
          have c4 : decide ((57 : Int) < (s[k].toNat : Int)) = false := decide_eq_false (by omega)
          have c5 : ((s[k].toNat : Int) != 46) = true := bne_iff_ne.2 (by omega)
          have c6 : ((s[k].toNat : Int) != 45) = false := by rw [bne_eq_false_iff_eq]; omega
          clear hcl
          go_wp2_with fail
          go_round
          case rel => exact ⟨k + 1, by omega, by go_num, by rw [HT.out, List.all_append, HA.out]; simp [HD.out]⟩
          case measure => simp [intOf]; omega
        · -- e46
          have c1 : decide ((s[k].toNat : Int) < 97) = true := decide_eq_true (by omega)
          have c2 : decide ((122 : Int) < (s[k].toNat : Int)) = false := decide_eq_false (by omega)
          have c3 : decide ((s[k].toNat : Int) < 48) = true := decide_eq_true (by omega)
          have c4 : decide ((57 : Int) < (s[k].toNat : Int)) = false := decide_eq_false (by omega)
          have c5 : ((s[k].toNat : Int) != 46) = false := by rw [bne_eq_false_iff_eq]; omega
          have c6 : ((s[k].toNat : Int) != 45) = true := bne_iff_ne.2 (by omega)
          clear hcl
          go_wp2_with fail
          go_round
          case rel => exact ⟨k + 1, by omega, by go_num, by rw [HT.out, List.all_append, HA.out]; simp [HD.out]⟩
          case measure => simp [intOf]; omega
        · -- dig
          have c1 : decide ((s[k].toNat : Int) < 97) = true := decide_eq_true (by omega)
          have c2 : decide ((122 : Int) < (s[k].toNat : Int)) = false := decide_eq_false (by omega)
          have c3 : decide ((s[k].toNat : Int) < 48) = false := decide_eq_false (by omega)
          have c4 : decide ((57 : Int) < (s[k].toNat : Int)) = false := decide_eq_false (by omega)
          have c5 : ((s[k].toNat : Int) != 46) = true := bne_iff_ne.2 (by omega)
          have c6 : ((s[k].toNat : Int) != 45) = true := bne_iff_ne.2 (by omega)
          clear hcl
          go_wp2_with fail
          go_round
          case rel => exact ⟨k + 1, by omega, by go_num, by rw [HT.out, List.all_append, HA.out]; simp [HD.out]⟩
          case measure => simp [intOf]; omega
        · -- let
          have c1 : decide ((s[k].toNat : Int) < 97) = false := decide_eq_false (by omega)
          have c2 : decide ((122 : Int) < (s[k].toNat : Int)) = false := decide_eq_false (by omega)
          have c3 : decide ((s[k].toNat : Int) < 48) = false := decide_eq_false (by omega)
          have c4 : decide ((57 : Int) < (s[k].toNat : Int)) = true := decide_eq_true (by omega)
          have c5 : ((s[k].toNat : Int) != 46) = true := bne_iff_ne.2 (by omega)
          have c6 : ((s[k].toNat : Int) != 45) = true := bne_iff_ne.2 (by omega)
          clear hcl
          go_wp2_with fail
          go_round
          case rel => exact ⟨k + 1, by omega, by go_num, by rw [HT.out, List.all_append, HA.out]; simp [HD.out]⟩
          case measure => simp [intOf]; omega
    · obtain rfl : k = s.size := by omega
      rw [List.take_of_length_le (by rw [strL_length]; omega)] at hall
      have HN := Lib.hid (named_yes hall)
      clear hall
      by_cases h0 : s.size = 0
      · have qe := empty_list h0
        have HE := Lib.hid (named_empty h0)
        clear h0
        go_wp2_with fail
        go_ret
        exact ⟨ret_bool HE.out.symm, rfl⟩
      · have qe := full_list (s := s) (by omega)
        by_cases h1 : s.size ≤ 24
        · have q1 : decide ((s.size : Int) ≤ 24) = true := decide_eq_true (by omega)
          go_wp2_with fail
          go_ret
          exact ⟨ret_bool (by rw [HN.out, decide_eq_false h0, decide_eq_true h1]; rfl), rfl⟩
        · have q1 : decide ((s.size : Int) ≤ 24) = false := decide_eq_false (by omega)
          go_wp2_with fail
          go_ret
          exact ⟨ret_bool (by rw [HN.out, decide_eq_false h1]; simp), rfl⟩
end Go.Proofs.Ytiepepikbophmaa
