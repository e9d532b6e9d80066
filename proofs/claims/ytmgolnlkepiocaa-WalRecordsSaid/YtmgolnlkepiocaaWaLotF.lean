/- In one text, written by lotify.py: LbName, LbName2, LbCheck, LbCheckRef. -/
import Derived.Test.YtmgolnlkepiocaaWaLotC
import Derived.Deep.RegionWith
import Derived.BigRegion
namespace Go.Proofs.Ytmgolnlkepiocaa
open Go.RowKit
set_option linter.unusedVariables false

theorem strL_get (s : ByteArray) {k : Nat} (h : k < s.size) : (strL s).getD k 0 = s[k] := by
  rw [getD_in _ 0 (by rw [strL_length]; exact h)]
  rfl
theorem ret_bool {a b : Bool} (h : a = b) : Ending.returned (.bool a) = .returned (.bool b) := by rw [h]
theorem letter_cases (c : UInt8) (n : Nat) (hn : c.toNat = n) : (decide (97 ≤ n) = true ∧ decide (n ≤ 122) = true ∧ letterB c = true) ∨
    (decide (97 ≤ n) = true ∧ decide (n ≤ 122) = false ∧ decide (65 ≤ n) = true ∧ decide (n ≤ 90) = false ∧ (n == 95) = false ∧ letterB c = false) ∨
    (decide (97 ≤ n) = false ∧ decide (65 ≤ n) = true ∧ decide (n ≤ 90) = true ∧ letterB c = true) ∨
    (decide (97 ≤ n) = false ∧ decide (65 ≤ n) = true ∧ decide (n ≤ 90) = false ∧ (n == 95) = true ∧ letterB c = true) ∨
    (decide (97 ≤ n) = false ∧ decide (65 ≤ n) = true ∧ decide (n ≤ 90) = false ∧ (n == 95) = false ∧ letterB c = false) ∨
    (decide (97 ≤ n) = false ∧ decide (65 ≤ n) = false ∧ (n == 95) = false ∧ letterB c = false) := by
  subst hn
  unfold letterB
  by_cases h1 : 97 ≤ c.toNat <;> by_cases h2 : c.toNat ≤ 122 <;> by_cases h3 : 65 ≤ c.toNat <;> by_cases h4 : c.toNat ≤ 90 <;> by_cases h5 : c.toNat = 95 <;> simp [h1, h2, h3, h4, h5] <;> omega
theorem letter_prog (c : UInt8) (w : World) :
    Calls Try.prog 91 #[.int .u8 (c.toNat : Int)] w fun e w' => e = .returned (.bool (letterB c)) ∧ w = w' := by
  have hc := c.toNat_lt
  obtain ⟨n, hn⟩ : ∃ n, c.toNat = n := ⟨_, rfl⟩
  have k1 : decide ((97 : Int) ≤ (n : Int)) = decide (97 ≤ n) := by rw [decide_eq_decide]; omega
  have k2 : decide ((n : Int) ≤ 122) = decide (n ≤ 122) := by rw [decide_eq_decide]; omega
  have k3 : decide ((65 : Int) ≤ (n : Int)) = decide (65 ≤ n) := by rw [decide_eq_decide]; omega
  have k4 : decide ((n : Int) ≤ 90) = decide (n ≤ 90) := by rw [decide_eq_decide]; omega
  have k5 : ((n : Int) == 95) = (n == 95) := by rw [Bool.eq_iff_iff, beq_iff_eq, beq_iff_eq]; omega
  have key := letter_cases c n hn
  rw [hn] at *
  rcases key with ⟨h1, h2, h⟩ | ⟨h1, h2, h3, h4, h5, h⟩ | ⟨h1, h3, h4, h⟩ | ⟨h1, h3, h4, h5, h⟩ | ⟨h1, h3, h4, h5, h⟩ | ⟨h1, h3, h5, h⟩
  all_goals
    rw [h]
    simp only [h1] at k1
    try simp only [h2] at k2
    try simp only [h3] at k3
    try simp only [h4] at k4
    try simp only [h5] at k5
    clear h hn hc
    go_enter Try.func91, Try.ntmps91
    go_wp2
    go_ret
    exact ⟨rfl, rfl⟩
theorem digit_prog (c : UInt8) (w : World) :
    Calls Try.prog 92 #[.int .u8 (c.toNat : Int)] w fun e w' => e = .returned (.bool (digitB c)) ∧ w = w' := by
  have hc := c.toNat_lt
  unfold digitB
  generalize c.toNat = n at *
  have k1 : decide ((48 : Int) ≤ (n : Int)) = decide (48 ≤ n) := by rw [decide_eq_decide]; omega
  have k2 : decide ((n : Int) ≤ 57) = decide (n ≤ 57) := by rw [decide_eq_decide]; omega
  cases h1 : decide (48 ≤ n) <;> cases h2 : decide (n ≤ 57)
  all_goals
    rw [h1] at k1
    rw [h2] at k2
    go_enter Try.func92, Try.ntmps92
    go_wp2
    go_ret
    exact ⟨rfl, rfl⟩

theorem name_prog (s : ByteArray) (w : World) :
    Calls Try.prog 62 #[.string s] w fun e w' => e = .returned (.bool (nameB (strL s))) ∧ w = w' := by
  by_cases h0 : s.size = 0
  · have e : nameB (strL s) = false := by unfold nameB; rw [strL_length, h0]; rfl
    rw [e]
    have d0 : ((s.size : Int) == 0) = true := by rw [h0]; rfl
    clear e
    go_enter Try.func62, Try.ntmps62
    go_wp2
    go_ret
    exact ⟨rfl, rfl⟩
  have d0 : ((s.size : Int) == 0) = false := by rw [beq_eq_false_iff_ne]; omega
  by_cases h1 : 32 < s.size
  · have e : nameB (strL s) = false := by unfold nameB; rw [strL_length, decide_eq_true (show 0 < s.size by omega), decide_eq_false (show ¬ s.size ≤ 32 by omega)]; rfl
    rw [e]
    have d1 : decide ((32 : Int) < (s.size : Int)) = true := by simp; omega
    clear e
    go_enter Try.func62, Try.ntmps62
    go_wp2
    go_ret
    exact ⟨rfl, rfl⟩
  have d1 : decide ((32 : Int) < (s.size : Int)) = false := by simp; omega
  have HE := Lib.hid (show nameB (strL s) = okF (strL s) s.size 0 by unfold nameB; rw [strL_length, decide_eq_true (show 0 < s.size by omega), decide_eq_true (show s.size ≤ 32 by omega)]; rfl)
  rw [HE.out]
  go_enter Try.func62, Try.ntmps62
  go_wp2_with fail
  go_loop [14] (fun i => ∃ k : Nat, k ≤ s.size ∧ i = .int .i64 (k : Int) ∧ okF (strL s) (s.size - k) k = okF (strL s) s.size 0) (fun i => s.size - (intOf i).toNat)
  case atStart => exact ⟨0, Nat.zero_le _, rfl, rfl⟩
  case round =>
    obtain ⟨k, hk, rfl, hall⟩ := hrel
    by_cases hlt : k < s.size
    · rw [show s.size - k = (s.size - (k + 1)) + 1 from by omega, okF, strL_get s hlt] at hall
      have HA := Lib.hid hall
      clear hall
      have HL := Lib.hid (letter_prog s[k] w)
      have HD := Lib.hid (digit_prog s[k] w)
      cases hl : letterB s[k]
      · rw [hl] at HL
        by_cases hk0 : k = 0
        · have eb : okB s[k] k = false := by unfold okB; rw [hl, decide_eq_false (by omega)]; rfl
          rw [eb] at HA
          have i0 : ((k : Int) == 0) = true := by rw [hk0]; rfl
          clear eb hl hk0
          go_wp2_with fail
          refine HL.out.mono ?_
          rintro e w1 ⟨rfl, rfl⟩
          go_wp2_with fail
          go_ret
          exact ⟨by rw [← HA.out]; rfl, rfl⟩
        · have i0 : ((k : Int) == 0) = false := by rw [beq_eq_false_iff_ne]; omega
          cases hd : digitB s[k]
          · have eb : okB s[k] k = false := by unfold okB; rw [hl, hd]; simp
            rw [eb] at HA
            rw [hd] at HD
            clear eb hl hd hk0
            go_wp2_with fail
            refine HL.out.mono ?_
            rintro e w1 ⟨rfl, rfl⟩
            go_wp2_with fail
            refine HD.out.mono ?_
            rintro e w1 ⟨rfl, rfl⟩
            go_wp2_with fail
            go_ret
            exact ⟨by rw [← HA.out]; rfl, rfl⟩
          · have eb : okB s[k] k = true := by unfold okB; rw [hl, hd, decide_eq_true (by omega)]; rfl
            rw [eb, if_pos rfl] at HA
            rw [hd] at HD
            clear eb hl hd hk0
            go_wp2_with fail
            refine HL.out.mono ?_
            rintro e w1 ⟨rfl, rfl⟩
            go_wp2_with fail
            refine HD.out.mono ?_
            rintro e w1 ⟨rfl, rfl⟩
            go_wp2_with fail
            exact ⟨⟨k + 1, by omega, by go_num, HA.out⟩, by simp [intOf]; omega⟩
      · have eb : okB s[k] k = true := by unfold okB; rw [hl]; rfl
        rw [eb, if_pos rfl] at HA
        rw [hl] at HL
        clear eb hl
        go_wp2_with fail
        refine HL.out.mono ?_
        rintro e w1 ⟨rfl, rfl⟩
        go_wp2_with fail
        exact ⟨⟨k + 1, by omega, by go_num, HA.out⟩, by simp [intOf]; omega⟩
    · obtain rfl : k = s.size := by omega
      rw [Nat.sub_self, okF] at hall
      have HA := Lib.hid hall
      clear hall
      go_wp2_with fail
      go_ret
      exact ⟨ret_bool HA.out, rfl⟩
end Go.Proofs.Ytmgolnlkepiocaa

namespace Go.Proofs.Ytmgolnlkepiocaa
open Go.RowKit
set_option linter.unusedVariables false

theorem name_end (s : ByteArray) (hs : s.size ≤ 140737488351232) (h : okF (strL s) s.size 0 = true) : nameB (strL s) = (!(s.toList == []) && decide ((s.size : Int) ≤ 32)) := by
  have e1 : (s.toList == []) = decide (s.size = 0) := by
    rw [ByteArray.toList_eq, Bool.eq_iff_iff, beq_iff_eq, decide_eq_true_eq]
    have := strL_length s
    unfold strL at this
    constructor
    · intro e; rw [e] at this; simpa using this.symm
    · intro e; exact List.eq_nil_of_length_eq_zero (by omega)
  unfold nameB
  rw [strL_length, h, e1]
  by_cases h0 : s.size = 0
  · simp [h0]
  · by_cases h1 : s.size ≤ 32
    · rw [decide_eq_true (show 0 < s.size by omega), decide_eq_true h1, decide_eq_false h0, decide_eq_true (show (s.size : Int) ≤ 32 by omega)]; rfl
    · rw [decide_eq_true (show 0 < s.size by omega), decide_eq_false h1, decide_eq_false h0, decide_eq_false (show ¬ (s.size : Int) ≤ 32 by omega)]; rfl
theorem name_stop (s : ByteArray) (h : okF (strL s) s.size 0 = false) : nameB (strL s) = false := by
  unfold nameB
  rw [strL_length, h, Bool.and_false]

theorem name_ref (s : ByteArray) (w : World) (hs : s.size ≤ 140737488351232) :
    Calls Try.prog 64 #[.string s] w fun e w' => e = .returned (.bool (nameB (strL s))) ∧ w = w' := by
  have HE := Lib.hid (name_end s hs)
  have HF := Lib.hid (name_stop s)
  go_enter Try.func64, Try.ntmps64
  go_wp2_with fail
  go_loop [3] (fun i => ∃ k : Nat, k ≤ s.size ∧ i = .int .i64 (k : Int) ∧ okF (strL s) (s.size - k) k = okF (strL s) s.size 0) (fun i => s.size - (intOf i).toNat)
  case atStart => exact ⟨0, Nat.zero_le _, rfl, rfl⟩
  case round =>
    obtain ⟨k, hk, rfl, hall⟩ := hrel
    by_cases hlt : k < s.size
    · rw [show s.size - k = (s.size - (k + 1)) + 1 from by omega, okF, strL_get s hlt] at hall
      have hc := s[k].toNat_lt
      have key := letter_cases s[k] s[k].toNat rfl
      obtain ⟨cb, hcb⟩ : ∃ c, s[k] = c := ⟨_, rfl⟩
      have ho : okB cb k = (letterB cb || (decide (0 < k) && (decide (48 ≤ cb.toNat) && decide (cb.toNat ≤ 57)))) := rfl
      rw [hcb] at hall key hc
      have HA := Lib.hid hall
      clear hall
      have hn : s[k].toNat = cb.toNat := by rw [hcb]
      generalize cb.toNat = n at *
      have k1 : decide ((97 : Int) ≤ (n : Int)) = decide (97 ≤ n) := by rw [decide_eq_decide]; omega
      have k2 : decide ((n : Int) ≤ 122) = decide (n ≤ 122) := by rw [decide_eq_decide]; omega
      have k3 : decide ((65 : Int) ≤ (n : Int)) = decide (65 ≤ n) := by rw [decide_eq_decide]; omega
      have k4 : decide ((n : Int) ≤ 90) = decide (n ≤ 90) := by rw [decide_eq_decide]; omega
      have k5 : ((n : Int) == 95) = (n == 95) := by rw [Bool.eq_iff_iff, beq_iff_eq, beq_iff_eq]; omega
      have k6 : decide ((n : Int) < 48) = !decide (48 ≤ n) := by by_cases h : 48 ≤ n <;> simp [h] <;> omega
      have k7 : decide ((57 : Int) < (n : Int)) = !decide (n ≤ 57) := by by_cases h : n ≤ 57 <;> simp [h] <;> omega
      rcases key with ⟨h1, h2, h⟩ | ⟨h1, h2, h3, h4, h5, h⟩ | ⟨h1, h3, h4, h⟩ | ⟨h1, h3, h4, h5, h⟩ | ⟨h1, h3, h4, h5, h⟩ | ⟨h1, h3, h5, h⟩
      all_goals
        rw [h] at ho
        simp only [h1] at k1
        try simp only [h2] at k2
        try simp only [h3] at k3
        try simp only [h4] at k4
        try simp only [h5] at k5
        clear h
        rw [← hn] at k1 k2 k3 k4 k5
      all_goals first
        | (have eb : okB cb k = true := by rw [ho]; rfl
           rw [eb, if_pos rfl] at HA
           clear eb ho k6 k7 hcb hc hn
           go_wp2_with fail
           exact ⟨⟨k + 1, by omega, by go_num, HA.out⟩, by simp [intOf]; omega⟩)
        | (rw [Bool.false_or] at ho
           by_cases hk0 : k = 0
           · have i0 : ((k : Int) == 0) = true := by rw [hk0]; rfl
             rw [decide_eq_false (show ¬ 0 < k by omega), Bool.false_and] at ho
             rw [ho] at HA
             clear k6 k7 hcb hc hn ho hk0
             go_wp2_with fail
             go_ret
             exact ⟨ret_bool (HF.out (by rw [← HA.out]; rfl)).symm, rfl⟩
           · have i0 : ((k : Int) == 0) = false := by rw [beq_eq_false_iff_ne]; omega
             rw [decide_eq_true (show 0 < k by omega), Bool.true_and] at ho
             rw [← hn] at k6 k7 ho
             cases d1 : decide (48 ≤ s[k].toNat)
             · rw [d1, Bool.false_and] at ho
               rw [d1] at k6
               rw [ho] at HA
               clear k7 hcb hc hn ho hk0 d1
               go_wp2_with fail
               go_ret
               exact ⟨ret_bool (HF.out (by rw [← HA.out]; rfl)).symm, rfl⟩
             · cases d2 : decide (s[k].toNat ≤ 57)
               · rw [d1, d2] at ho
                 rw [d1] at k6
                 rw [d2] at k7
                 rw [ho] at HA
                 clear hcb hc hn ho hk0 d1 d2
                 go_wp2_with fail
                 go_ret
                 exact ⟨ret_bool (HF.out (by rw [← HA.out]; rfl)).symm, rfl⟩
               · rw [d1, d2] at ho
                 rw [d1] at k6
                 rw [d2] at k7
                 rw [ho, if_pos (by rfl)] at HA
                 clear hcb hc hn ho hk0 d1 d2
                 go_wp2_with fail
                 exact ⟨⟨k + 1, by omega, by go_num, HA.out⟩, by simp [intOf]; omega⟩)
    · obtain rfl : k = s.size := by omega
      rw [Nat.sub_self, okF] at hall
      have HA := Lib.hid (HE.out hall.symm)
      clear hall
      by_cases h0 : s.size = 0
      · have e1 : (s.toList == []) = true := by
          rw [ByteArray.toList_eq, beq_iff_eq]
          exact List.eq_nil_of_length_eq_zero (by have := strL_length s; unfold strL at this; omega)
        rw [e1] at HA
        go_wp2_with fail
        go_ret
        exact ⟨ret_bool HA.out.symm, rfl⟩
      · have e1 : (s.toList == []) = false := by
          rw [ByteArray.toList_eq, beq_eq_false_iff_ne]
          intro e
          have := strL_length s
          unfold strL at this
          rw [e] at this
          simp at this
          omega
        rw [e1] at HA
        go_wp2_with fail
        go_ret
        exact ⟨ret_bool HA.out.symm, rfl⟩
end Go.Proofs.Ytmgolnlkepiocaa

namespace Go.Proofs.Ytmgolnlkepiocaa
open Go.RowKit
set_option linter.unusedVariables false

theorem ret_int {a b : Int} (h : a = b) : Ending.returned (.int .i64 a) = .returned (.int .i64 b) := by rw [h]
theorem err_name {l : List Lbl} {k : Nat} (h : nameB (strL (nmOf l k)) = false) : lbErrAt l k = 8 := by unfold lbErrAt; rw [if_pos h]
theorem err_arg {l : List Lbl} {k : Nat} (h : nameB (strL (nmOf l k)) = true) (h2 : (vlOf l k).size = 0) : lbErrAt l k = 2 := by unfold lbErrAt; rw [if_neg (by rw [h]; simp), if_pos h2]
theorem err_big {l : List Lbl} {k : Nat} (h : nameB (strL (nmOf l k)) = true) (h3 : 64 < (vlOf l k).size) : lbErrAt l k = 3 := by unfold lbErrAt; rw [if_neg (by rw [h]; simp), if_neg (by omega), if_pos h3]
theorem err_order {l : List Lbl} {k : Nat} (h : nameB (strL (nmOf l k)) = true) (h2 : (vlOf l k).size ≠ 0) (h3 : ¬ 64 < (vlOf l k).size) (h4 : 0 < k ∧ leB (nmOf l k) (nmOf l (k - 1)) = true) : lbErrAt l k = 13 := by
  unfold lbErrAt; rw [if_neg (by rw [h]; simp), if_neg h2, if_neg h3, if_pos h4]

theorem lbchk_prog (A : Option Addr) (l : List Lbl) (c : Nat) (w : World) (hA : Lbls w A l) (hl : l.length ≤ 100000000000000) :
    Calls Try.prog 35 #[.slice A l.length c] w fun e w' => e = .returned (.int .i64 (lbChk l)) ∧ Below w.heap.size w w' := by
  by_cases h1 : 8 < l.length
  · have e : lbChk l = 3 := by unfold lbChk; rw [if_pos h1]
    rw [e]
    clear e
    have i1 : decide ((8 : Int) < (l.length : Int)) = true := by simp; omega
    go_enter Try.func35, Try.ntmps35
    go_wp2
    go_ret
    exact ⟨rfl, Below.refl _ _⟩
  have hC : lbErrF l l.length 0 = lbChk l := by unfold lbChk; rw [if_neg h1]
  have i1 : decide ((8 : Int) < (l.length : Int)) = false := by simp; omega
  by_cases h0 : l.length = 0
  · have e : lbChk l = 0 := by rw [← hC, h0]; rfl
    rw [e, h0]
    clear e hC i1 h1
    go_enter Try.func35, Try.ntmps35
    go_wp2_with fail
    go_loop [10] (fun i => i = .int .i64 0) (fun _ => 0)
    case atStart => rfl
    case round =>
      subst hrel
      go_wp2_with fail
      go_ret
      exact ⟨rfl, Below.refl _ _⟩
  have HC := Lib.hid hC
  clear hC
  obtain ⟨b, o, rfl, hb, hc⟩ := hA.all (by omega)
  have Hc := Lib.hid hc
  clear hc hA
  go_enter Try.func35, Try.ntmps35
  go_wp2_with fail
  go_loopw [10] (fun i wr => ∃ k : Nat, k ≤ l.length ∧ i = .int .i64 (k : Int) ∧ lbErrF l (l.length - k) k = lbChk l ∧ Below w.heap.size w wr) (fun i _ => l.length - (intOf i).toNat)
  case atStart => exact ⟨0, Nat.zero_le _, rfl, HC.out, Below.refl _ _⟩
  case round =>
    obtain ⟨k, hk, rfl, he, hbr⟩ := hrel
    have hsz := hbr.size
    by_cases hlt : k < l.length
    · obtain ⟨g0, g1⟩ := Hc.out k hlt
      have c0 := (hbr.cell (p := ⟨b, o + k * 2, none⟩) hb).trans g0
      have c1 := (hbr.cell (p := ⟨b, o + k * 2 + 1, none⟩) hb).trans g1
      have i2 : (k : Int) < (l.length : Int) := by omega
      have hM := name_prog (nmOf l k)
      have HE := Lib.hid he
      clear he g0 g1
      rw [show l.length - k = (l.length - (k + 1)) + 1 from by omega, lbErrF] at HE
      cases hm : nameB (strL (nmOf l k))
      · rw [hm] at hM
        rw [err_name hm] at HE
        have HM := Lib.hid hM
        clear hM hm
        go_wp2_with fail
        refine (HM.out _).mono ?_
        rintro e w2 ⟨rfl, hw2⟩
        subst hw2
        go_wp2
        go_ret
        exact ⟨by rw [← HE.out]; rfl, hbr.alloc hsz _⟩
      · rw [hm] at hM
        have HM := Lib.hid hM
        clear hM
        go_wp2_with fail
        refine (HM.out _).mono ?_
        rintro e w2 ⟨rfl, hw2⟩
        have hW2 := hbr.alloc hsz (.cells #[.string (nmOf l k), .string (vlOf l k)] 108)
        have R : Row (wr.alloc (.cells #[.string (nmOf l k), .string (vlOf l k)] 108)) wr.heap.size 108 #[.string (nmOf l k), .string (vlOf l k)] := Row.new wr _ _
        by_cases hv0 : (vlOf l k).size = 0
        · rw [err_arg hm hv0] at HE
          have j0 : (((vlOf l k).size : Int) == 0) = true := by rw [hv0]; rfl
          have HW := Lib.hid hW2
          clear hm hv0 R c0 c1 hW2
          subst hw2
          go_wp2_with fail
          go_ret
          exact ⟨by rw [← HE.out]; rfl, HW.out⟩
        have j0 : (((vlOf l k).size : Int) == 0) = false := by rw [beq_eq_false_iff_ne]; omega
        by_cases hv1 : 64 < (vlOf l k).size
        · rw [err_big hm hv1] at HE
          have j1 : decide ((64 : Int) < ((vlOf l k).size : Int)) = true := by simp; omega
          have HW := Lib.hid hW2
          clear hm hv0 R c0 c1 hW2
          subst hw2
          go_wp2_with fail
          go_ret
          exact ⟨by rw [← HE.out]; rfl, HW.out⟩
        have j1 : decide ((64 : Int) < ((vlOf l k).size : Int)) = false := by simp; omega
        rw [hw2] at R hW2
        clear hw2
        have r0 : w2.cell? ⟨wr.heap.size, 0, none⟩ = some (.string (nmOf l k)) := R.cell 0
        have r1 : w2.cell? ⟨wr.heap.size, 1, none⟩ = some (.string (vlOf l k)) := R.cell 1
        have hd2 : Below w.heap.size w w2.drew := hW2.drew
        clear R c0 c1
        by_cases hk0 : 0 < k
        · obtain ⟨p0, _⟩ := Hc.out (k - 1) (by omega)
          have d0 := (hW2.cell (p := ⟨b, o + (k - 1) * 2, none⟩) hb).trans p0
          have i3 : decide ((0 : Int) < (k : Int)) = true := by simp; omega
          clear p0
          cases hle : leB (nmOf l k) (nmOf l (k - 1))
          · have i4 : (Op.bytesLess (nmOf l k).toList (nmOf l (k - 1)).toList || (nmOf l k).toList == (nmOf l (k - 1)).toList) = false := hle
            rw [lbErrAt_zero.2 ⟨hm, by omega, by omega, fun _ => hle⟩, if_pos rfl] at HE
            clear hm hle
            go_wp2_with fail
            go_region
            all_goals
              go_wp2_with fail
              go_roundw
              case rel => exact ⟨k + 1, by omega, by go_num, HE.out, hd2⟩
              case measure => simp [intOf]; omega
          · have i4 : (Op.bytesLess (nmOf l k).toList (nmOf l (k - 1)).toList || (nmOf l k).toList == (nmOf l (k - 1)).toList) = true := hle
            rw [err_order hm hv0 hv1 ⟨hk0, hle⟩] at HE
            clear hm hle
            go_wp2_with fail
            go_region
            all_goals
              go_wp2_with fail
              go_ret
              exact ⟨by rw [← HE.out]; rfl, hd2⟩
        · have i3 : decide ((0 : Int) < (k : Int)) = false := by simp; omega
          rw [lbErrAt_zero.2 ⟨hm, by omega, by omega, fun h => absurd h hk0⟩, if_pos rfl] at HE
          clear hm
          go_wp2_with fail
          go_region
          all_goals
            go_wp2_with fail
            go_roundw
            case rel => exact ⟨k + 1, by omega, by go_num, HE.out, hd2⟩
            case measure => simp [intOf]; omega
    · obtain rfl : k = l.length := by omega
      rw [Nat.sub_self] at he
      have HE := Lib.hid he
      clear he
      go_wp2_with fail
      go_ret
      exact ⟨by rw [← HE.out]; rfl, hbr⟩
end Go.Proofs.Ytmgolnlkepiocaa

namespace Go.Proofs.Ytmgolnlkepiocaa
open Go.RowKit
set_option linter.unusedVariables false

theorem empty_of (s : ByteArray) : (s.toList == []) = decide (s.size = 0) := by
  rw [ByteArray.toList_eq, Bool.eq_iff_iff, beq_iff_eq, decide_eq_true_eq]
  have := strL_length s
  unfold strL at this
  constructor
  · intro e; rw [e] at this; simpa using this.symm
  · intro e; exact List.eq_nil_of_length_eq_zero (by omega)

theorem lbchk_ref (A : Option Addr) (l : List Lbl) (c : Nat) (w : World) (hA : Lbls w A l) (hl : l.length ≤ 100000000000000) (hf : LFits l) :
    Calls Try.prog 38 #[.slice A l.length c] w fun e w' => e = .returned (.int .i64 (lbChk l)) ∧ Below w.heap.size w w' := by
  by_cases h1 : 8 < l.length
  · have e : lbChk l = 3 := by unfold lbChk; rw [if_pos h1]
    rw [e]
    clear e
    have i1 : decide ((8 : Int) < (l.length : Int)) = true := by simp; omega
    go_enter Try.func38, Try.ntmps38
    go_wp2
    go_ret
    exact ⟨rfl, Below.refl _ _⟩
  have hC : lbErrF l l.length 0 = lbChk l := by unfold lbChk; rw [if_neg h1]
  have i1 : decide ((8 : Int) < (l.length : Int)) = false := by simp; omega
  by_cases h0 : l.length = 0
  · have e : lbChk l = 0 := by rw [← hC, h0]; rfl
    rw [e, h0]
    clear e hC i1 h1
    go_enter Try.func38, Try.ntmps38
    go_wp2_with fail
    go_loop [3] (fun i => i = .int .i64 0) (fun _ => 0)
    case atStart => rfl
    case round =>
      subst hrel
      go_wp2_with fail
      go_ret
      exact ⟨rfl, Below.refl _ _⟩
  have HC := Lib.hid hC
  clear hC
  obtain ⟨b, o, rfl, hb, hc⟩ := hA.all (by omega)
  have Hc := Lib.hid hc
  have HF := Lib.hid hf
  clear hc hA hf
  go_enter Try.func38, Try.ntmps38
  go_wp2_with fail
  go_loopw [3] (fun i wr => ∃ k : Nat, k ≤ l.length ∧ i = .int .i64 (k : Int) ∧ lbErrF l (l.length - k) k = lbChk l ∧ Below w.heap.size w wr) (fun i _ => l.length - (intOf i).toNat)
  case atStart => exact ⟨0, Nat.zero_le _, rfl, HC.out, Below.refl _ _⟩
  case round =>
    obtain ⟨k, hk, rfl, he, hbr⟩ := hrel
    have hsz := hbr.size
    by_cases hlt : k < l.length
    · obtain ⟨g0, g1⟩ := Hc.out k hlt
      have c0 := (hbr.cell (p := ⟨b, o + k * 2, none⟩) hb).trans g0
      have c1 := (hbr.cell (p := ⟨b, o + k * 2 + 1, none⟩) hb).trans g1
      have i2 : (k : Int) < (l.length : Int) := by omega
      have hM := name_ref (nmOf l k) wr (HF.out k hlt).1
      have HE := Lib.hid he
      clear he g0 g1
      rw [show l.length - k = (l.length - (k + 1)) + 1 from by omega, lbErrF] at HE
      cases hm : nameB (strL (nmOf l k))
      · rw [hm] at hM
        rw [err_name hm] at HE
        have HM := Lib.hid hM
        clear hM hm
        go_wp2_with fail
        refine HM.out.mono ?_
        rintro e w2 ⟨rfl, rfl⟩
        go_wp2
        go_ret
        exact ⟨by rw [← HE.out]; rfl, hbr⟩
      · rw [hm] at hM
        have HM := Lib.hid hM
        clear hM
        have q0 := empty_of (vlOf l k)
        by_cases hv0 : (vlOf l k).size = 0
        · rw [err_arg hm hv0] at HE
          rw [decide_eq_true hv0] at q0
          clear hm hv0
          go_wp2_with fail
          refine HM.out.mono ?_
          rintro e w2 ⟨rfl, rfl⟩
          go_wp2_with fail
          go_ret
          exact ⟨by rw [← HE.out]; rfl, hbr⟩
        rw [decide_eq_false hv0] at q0
        by_cases hv1 : 64 < (vlOf l k).size
        · rw [err_big hm hv1] at HE
          have j1 : decide ((64 : Int) < ((vlOf l k).size : Int)) = true := by simp; omega
          clear hm hv0
          go_wp2_with fail
          refine HM.out.mono ?_
          rintro e w2 ⟨rfl, rfl⟩
          go_wp2_with fail
          go_ret
          exact ⟨by rw [← HE.out]; rfl, hbr⟩
        have j1 : decide ((64 : Int) < ((vlOf l k).size : Int)) = false := by simp; omega
        have hd2 : Below w.heap.size w wr.drew := hbr.drew
        by_cases hk0 : 0 < k
        · obtain ⟨p0, _⟩ := Hc.out (k - 1) (by omega)
          have d0 := (hbr.cell (p := ⟨b, o + (k - 1) * 2, none⟩) hb).trans p0
          have i3 : decide ((0 : Int) < (k : Int)) = true := by simp; omega
          clear p0
          cases hle : leB (nmOf l k) (nmOf l (k - 1))
          · have i4 : (Op.bytesLess (nmOf l k).toList (nmOf l (k - 1)).toList || (nmOf l k).toList == (nmOf l (k - 1)).toList) = false := hle
            rw [lbErrAt_zero.2 ⟨hm, by omega, by omega, fun _ => hle⟩, if_pos rfl] at HE
            clear hm hle
            go_wp2_with fail
            refine HM.out.mono ?_
            rintro e w2 ⟨rfl, rfl⟩
            go_wp2_with fail
            go_region
            all_goals
              go_wp2_with fail
              go_roundw
              case rel => exact ⟨k + 1, by omega, by go_num, HE.out, hd2⟩
              case measure => simp [intOf]; omega
          · have i4 : (Op.bytesLess (nmOf l k).toList (nmOf l (k - 1)).toList || (nmOf l k).toList == (nmOf l (k - 1)).toList) = true := hle
            rw [err_order hm hv0 hv1 ⟨hk0, hle⟩] at HE
            clear hm hle
            go_wp2_with fail
            refine HM.out.mono ?_
            rintro e w2 ⟨rfl, rfl⟩
            go_wp2_with fail
            go_region
            all_goals
              go_wp2_with fail
              go_ret
              exact ⟨by rw [← HE.out]; rfl, hd2⟩
        · have i3 : decide ((0 : Int) < (k : Int)) = false := by simp; omega
          rw [lbErrAt_zero.2 ⟨hm, by omega, by omega, fun h => absurd h hk0⟩, if_pos rfl] at HE
          clear hm
          go_wp2_with fail
          refine HM.out.mono ?_
          rintro e w2 ⟨rfl, rfl⟩
          go_wp2_with fail
          go_region
          all_goals
            go_wp2_with fail
            go_roundw
            case rel => exact ⟨k + 1, by omega, by go_num, HE.out, hd2⟩
            case measure => simp [intOf]; omega
    · obtain rfl : k = l.length := by omega
      rw [Nat.sub_self] at he
      have HE := Lib.hid he
      clear he
      go_wp2_with fail
      go_ret
      exact ⟨by rw [← HE.out]; rfl, hbr⟩
end Go.Proofs.Ytmgolnlkepiocaa
