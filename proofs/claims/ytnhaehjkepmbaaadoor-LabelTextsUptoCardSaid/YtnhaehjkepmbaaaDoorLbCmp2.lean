/- Two sets of labels: how they stand to one another, as the program and as the document's own answer tell it. -/
import Derived.Test.YtnhaehjkepmbaaaDoorLbCmp
import Derived.Deep.QuietTactic
namespace Go.Proofs.YtnhaehjkepmbaaaDoor
open Go.RowKit
set_option linter.unusedVariables false

theorem lb_drop_at (l : List Lbl) {k : Nat} (h : k < l.length) : l.drop k = (nmOf l k, vlOf l k) :: l.drop (k + 1) := by
  rw [List.drop_eq_getElem_cons h]
  congr 1
  unfold nmOf vlOf
  rw [List.getD_eq_getElem?_getD, List.getElem?_eq_getElem h]
  rfl
theorem ls_step (l m : List Lbl) {k : Nat} (h : k < l.length) (h2 : k < m.length) : cmpLs (l.drop k) (m.drop k) = if cmpLbl (nmOf l k, vlOf l k) (nmOf m k, vlOf m k) ≠ 0 then cmpLbl (nmOf l k, vlOf l k) (nmOf m k, vlOf m k) else cmpLs (l.drop (k + 1)) (m.drop (k + 1)) := by
  rw [lb_drop_at l h, lb_drop_at m h2]
  rfl
theorem ls_long (l m : List Lbl) {k : Nat} (h : k < l.length) (h2 : m.length ≤ k) : cmpLs (l.drop k) (m.drop k) = 1 := by
  rw [lb_drop_at l h, List.drop_eq_nil_of_le h2]
  rfl
theorem ls_short (l m : List Lbl) {k : Nat} (h : l.length ≤ k) (h2 : k < m.length) : cmpLs (l.drop k) (m.drop k) = -1 := by
  rw [lb_drop_at m h2, List.drop_eq_nil_of_le h]
  rfl
theorem ls_same (l m : List Lbl) {k : Nat} (h : l.length ≤ k) (h2 : m.length ≤ k) : cmpLs (l.drop k) (m.drop k) = 0 := by
  rw [List.drop_eq_nil_of_le h, List.drop_eq_nil_of_le h2]
  rfl

theorem compare_ref (A B : Option Addr) (l m : List Lbl) (c d : Nat) (w : World) (hA : Lbls w A l) (hB : Lbls w B m) (hl : l.length ≤ 100000000000000) (hm : m.length ≤ 100000000000000) :
    Calls Tryd.prog 16 #[.slice A l.length c, .slice B m.length d] w fun e w' => e = .returned (.int .i64 (cmpLs l m)) ∧ Below w.heap.size w w' := by
  have HA := Lib.hid hA
  have HB := Lib.hid hB
  clear hA hB
  go_enter Tryd.func16, Tryd.ntmps16
  go_wp2_with fail
  go_loopw [5] (fun i wr => ∃ k : Nat, k ≤ l.length ∧ k ≤ m.length ∧ i = .int .i64 (k : Int) ∧ cmpLs (l.drop k) (m.drop k) = cmpLs l m ∧ Below w.heap.size w wr) (fun i _ => l.length - (intOf i).toNat)
  case atStart => exact ⟨0, Nat.zero_le _, Nat.zero_le _, rfl, rfl, Below.refl _ _⟩
  case round =>
    obtain ⟨k, hk, hk2, rfl, he, hbr⟩ := hrel
    have hsz := hbr.size
    by_cases hlt : k < l.length
    · have i2 : decide ((k : Int) < (l.length : Int)) = true := by simp; omega
      by_cases hlt2 : k < m.length
      · obtain ⟨b, o, rfl, hb, g0, g1⟩ := HA.out.at_ hlt
        obtain ⟨b2, o2, rfl, hb2, g2, g3⟩ := HB.out.at_ hlt2
        have i3 : decide ((k : Int) < (m.length : Int)) = true := by simp; omega
        have j2 : (k : Int) < (l.length : Int) := by omega
        have j3 : (k : Int) < (m.length : Int) := by omega
        have c0 := (hbr.cell (p := ⟨b, o + k * 2, none⟩) hb).trans g0
        have c1 := (hbr.cell (p := ⟨b, o + k * 2 + 1, none⟩) hb).trans g1
        have d0 := (hbr.cell (p := ⟨b2, o2 + k * 2, none⟩) hb2).trans g2
        have d1 := (hbr.cell (p := ⟨b2, o2 + k * 2 + 1, none⟩) hb2).trans g3
        have HC2 := Lib.hid (fun W (h : Below w.heap.size w W) => (show W.cell? ⟨b, o + k * 2 + 1, none⟩ = some (.string (vlOf l k)) ∧ W.cell? ⟨b2, o2 + k * 2 + 1, none⟩ = some (.string (vlOf m k)) from ⟨(h.cell hb).trans g1, (h.cell hb2).trans g3⟩))
        have HST := Lib.hid (ls_step l m hlt hlt2)
        have hdef : cmpLbl (nmOf l k, vlOf l k) (nmOf m k, vlOf m k) = if cmpB (nmOf l k) (nmOf m k) ≠ 0 then cmpB (nmOf l k) (nmOf m k) else cmpB (vlOf l k) (vlOf m k) := rfl
        rw [hdef] at HST
        have HT1 := Lib.hid (fun W => text_cmp (nmOf l k) (nmOf m k) W)
        have HT2 := Lib.hid (fun W => text_cmp (vlOf l k) (vlOf m k) W)
        have HE := Lib.hid he
        have HBR := Lib.hid hbr
        clear g0 g1 g2 g3 he hbr hdef
        generalize cmpB (nmOf l k) (nmOf m k) = C1 at *
        generalize cmpB (vlOf l k) (vlOf m k) = C2 at *
        by_cases h0 : C1 = 0
        · subst h0
          rw [show (if (0 : Int) ≠ 0 then (0 : Int) else C2) = C2 from if_neg (by simp)] at HST
          go_upto_region 4 with fail
          go_region_held3 (fun w' => w'.cell? ⟨b, o + k * 2, none⟩ = some (.string (nmOf l k)) ∧ w'.cell? ⟨b2, o2 + k * 2, none⟩ = some (.string (nmOf m k)))
            (first | exact ⟨c0, d0⟩ | exact c0 | exact d0 | go_keep)
            (first | (go_at_call 23; refine (HT1.out _).mono ?_; rintro e w1 ⟨rfl, hw1⟩; subst hw1))
          all_goals
            have HBD := Lib.hid HBR.out.drew
            obtain ⟨q1, q3⟩ := HC2.out _ HBD.out
            obtain ⟨z, hz⟩ : ∃ z, wr.drew = z := ⟨_, rfl⟩
            rw [hz] at q1 q3 HBD
            clear c0 c1 d0 d1
            try rw [hz]
            clear hz
            go_upto_region 7 with fail
            go_region_held3 (fun w' => w'.cell? ⟨b, o + k * 2 + 1, none⟩ = some (.string (vlOf l k)) ∧ w'.cell? ⟨b2, o2 + k * 2 + 1, none⟩ = some (.string (vlOf m k)))
              (first | exact ⟨q1, q3⟩ | exact q1 | exact q3 | go_keep)
              (first | (go_at_call 23; refine (HT2.out _).mono ?_; rintro e w1 ⟨rfl, hw1⟩; subst hw1))
            all_goals
              have HBE := Lib.hid HBD.out.drew
              by_cases h0 : C2 = 0
              · subst h0
                rw [if_neg (by simp)] at HST
                go_wp2_with fail
                go_roundw
                case rel => exact ⟨k + 1, by omega, by omega, by go_num, by rw [← HST.out, HE.out], HBE.out⟩
                case measure => simp [intOf]; omega
              · have j4 : (C2 != 0) = true := bne_iff_ne.2 h0
                have j5 : (C2 == 0) = false := beq_eq_false_iff_ne.2 h0
                rw [if_pos h0] at HST
                clear h0
                go_wp2_with fail
                go_ret
                exact ⟨ret_int (by rw [← HE.out, HST.out]), HBE.out⟩
        · have j4 : (C1 != 0) = true := bne_iff_ne.2 h0
          have j5 : (C1 == 0) = false := beq_eq_false_iff_ne.2 h0
          rw [show (if C1 ≠ 0 then C1 else C2) = C1 from if_pos h0, if_pos h0] at HST
          clear h0
          go_upto_region 4 with fail
          go_region_held3 (fun w' => w'.cell? ⟨b, o + k * 2, none⟩ = some (.string (nmOf l k)) ∧ w'.cell? ⟨b2, o2 + k * 2, none⟩ = some (.string (nmOf m k)))
            (first | exact ⟨c0, d0⟩ | exact c0 | exact d0 | go_keep)
            (first | (go_at_call 23; refine (HT1.out _).mono ?_; rintro e w1 ⟨rfl, hw1⟩; subst hw1))
          all_goals
            have HBD := Lib.hid HBR.out.drew
            go_wp2_with fail
            go_ret
            exact ⟨ret_int (by rw [← HE.out, HST.out]), HBD.out⟩
      · have i3 : decide ((k : Int) < (m.length : Int)) = false := by simp; omega
        have i4 : decide ((l.length : Int) < (m.length : Int)) = false := by simp; omega
        have i5 : decide ((m.length : Int) < (l.length : Int)) = true := by simp; omega
        have HE := Lib.hid he
        have HBR := Lib.hid hbr
        have HST := Lib.hid (ls_long l m hlt (by omega))
        clear he hbr
        go_wp2_with fail
        go_ret
        exact ⟨ret_int (by rw [← HE.out, HST.out]), HBR.out⟩
    · obtain rfl : k = l.length := by omega
      have HE := Lib.hid he
      have HBR := Lib.hid hbr
      clear he hbr
      have i2 : decide ((l.length : Int) < (l.length : Int)) = false := by simp
      by_cases h2 : l.length < m.length
      · have i3 : decide ((l.length : Int) < (m.length : Int)) = true := by simp; omega
        have HST := Lib.hid (ls_short l m (Nat.le_refl _) h2)
        go_wp2_with fail
        go_ret
        exact ⟨ret_int (by rw [← HE.out, HST.out]), HBR.out⟩
      · have i3 : decide ((l.length : Int) < (m.length : Int)) = false := by simp; omega
        have i5 : decide ((m.length : Int) < (l.length : Int)) = false := by simp; omega
        have HST := Lib.hid (ls_same l m (Nat.le_refl _) (by omega))
        go_wp2_with fail
        go_ret
        exact ⟨ret_int (by rw [← HE.out, HST.out]), HBR.out⟩
theorem same_ref (A B : Option Addr) (l m : List Lbl) (c d : Nat) (w : World) (hA : Lbls w A l) (hB : Lbls w B m) (hl : l.length ≤ 100000000000000) (hm : m.length ≤ 100000000000000) :
    Calls Tryd.prog 8 #[.slice A l.length c, .slice B m.length d] w fun e w' => e = .returned (.bool (decide (l = m))) ∧ Below w.heap.size w w' := by
  have hz := cmpLs_cmp.zero l m
  have HC := Lib.hid (compare_ref A B l m c d w hA hB hl hm)
  generalize cmpLs l m = C at *
  have hd : (C == 0) = decide (l = m) := by rw [Bool.eq_iff_iff, beq_iff_eq, decide_eq_true_eq]; exact hz
  clear hz hA hB
  go_enter Tryd.func8, Tryd.ntmps8
  go_wp2_with (first | (go_at_call 16; refine HC.out.mono ?_; rintro e w3 ⟨rfl, hb3⟩))
  go_ret
  exact ⟨rfl, hb3⟩
end Go.Proofs.YtnhaehjkepmbaaaDoor
