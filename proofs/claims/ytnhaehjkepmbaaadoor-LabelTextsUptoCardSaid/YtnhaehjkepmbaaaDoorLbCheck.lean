/- Whether labels are a right set: as the program and as the document's own answer tell it. -/
import Derived.Test.YtnhaehjkepmbaaaDoorLtLotM
namespace Go.Proofs.YtnhaehjkepmbaaaDoor
open Go.RowKit
set_option linter.unusedVariables false

theorem ret_int {a b : Int} (h : a = b) : Ending.returned (.int .i64 a) = .returned (.int .i64 b) := by rw [h]
theorem err_name {l : List Lbl} {k : Nat} (h : nameB (strL (nmOf l k)) = false) : lbErrAt l k = 8 := by unfold lbErrAt; rw [if_pos h]
theorem err_arg {l : List Lbl} {k : Nat} (h : nameB (strL (nmOf l k)) = true) (h2 : (vlOf l k).size = 0) : lbErrAt l k = 2 := by unfold lbErrAt; rw [if_neg (by rw [h]; simp), if_pos h2]
theorem err_big {l : List Lbl} {k : Nat} (h : nameB (strL (nmOf l k)) = true) (h3 : 64 < (vlOf l k).size) : lbErrAt l k = 3 := by unfold lbErrAt; rw [if_neg (by rw [h]; simp), if_neg (by omega), if_pos h3]
theorem err_order {l : List Lbl} {k : Nat} (h : nameB (strL (nmOf l k)) = true) (h2 : (vlOf l k).size ≠ 0) (h3 : ¬ 64 < (vlOf l k).size) (h4 : 0 < k ∧ leB (nmOf l k) (nmOf l (k - 1)) = true) : lbErrAt l k = 13 := by
  unfold lbErrAt; rw [if_neg (by rw [h]; simp), if_neg h2, if_neg h3, if_pos h4]

theorem lbchk_prog (A : Option Addr) (l : List Lbl) (c : Nat) (w : World) (hA : Lbls w A l) (hl : l.length ≤ 100000000000000) :
    Calls Tryd.prog 11 #[.slice A l.length c] w fun e w' => e = .returned (.int .i64 (lbChk l)) ∧ Below w.heap.size w w' := by
  by_cases h1 : 8 < l.length
  · have e : lbChk l = 3 := by unfold lbChk; rw [if_pos h1]
    rw [e]
    clear e
    have i1 : decide ((8 : Int) < (l.length : Int)) = true := by simp; omega
    go_enter Tryd.func11, Tryd.ntmps11
    go_wp2
    go_ret
    exact ⟨rfl, Below.refl _ _⟩
  have hC : lbErrF l l.length 0 = lbChk l := by unfold lbChk; rw [if_neg h1]
  have i1 : decide ((8 : Int) < (l.length : Int)) = false := by simp; omega
  by_cases h0 : l.length = 0
  · have e : lbChk l = 0 := by rw [← hC, h0]; rfl
    rw [e, h0]
    clear e hC i1 h1
    go_enter Tryd.func11, Tryd.ntmps11
    go_wp2_with fail
    go_loop [10] (fun i => i = .int .i64 0) (fun _ => 0)
    case atStart => rfl
    case round =>
      subst hrel
      go_wp2_with fail
      go_ret
      exact ⟨rfl, Below.refl _ _⟩
  have HC := Lib.hid hC
  clear hC
  obtain ⟨b, o, rfl, hb, hc⟩ := hA.all (by omega)
  have Hc := Lib.hid hc
  clear hc hA
  go_enter Tryd.func11, Tryd.ntmps11
  go_wp2_with fail
  go_loopw [10] (fun i wr => ∃ k : Nat, k ≤ l.length ∧ i = .int .i64 (k : Int) ∧ lbErrF l (l.length - k) k = lbChk l ∧ Below w.heap.size w wr) (fun i _ => l.length - (intOf i).toNat)
  case atStart => exact ⟨0, Nat.zero_le _, rfl, HC.out, Below.refl _ _⟩
  case round =>
    obtain ⟨k, hk, rfl, he, hbr⟩ := hrel
    have hsz := hbr.size
    by_cases hlt : k < l.length
    · obtain ⟨g0, g1⟩ := Hc.out k hlt
      have c0 := (hbr.cell (p := ⟨b, o + k * 2, none⟩) hb).trans g0
      have c1 := (hbr.cell (p := ⟨b, o + k * 2 + 1, none⟩) hb).trans g1
      have i2 : (k : Int) < (l.length : Int) := by omega
      have hM := name_prog (nmOf l k)
      have HE := Lib.hid he
      clear he g0 g1
      rw [show l.length - k = (l.length - (k + 1)) + 1 from by omega, lbErrF] at HE
      cases hm : nameB (strL (nmOf l k))
      · rw [hm] at hM
        rw [err_name hm] at HE
        have HM := Lib.hid hM
        clear hM hm
        go_wp2_with fail
        refine (HM.out _).mono ?_
        rintro e w2 ⟨rfl, hw2⟩
        subst hw2
        go_wp2
        go_ret
        exact ⟨by rw [← HE.out]; rfl, hbr.alloc hsz _⟩
      · rw [hm] at hM
        have HM := Lib.hid hM
        clear hM
        go_wp2_with fail
        refine (HM.out _).mono ?_
        rintro e w2 ⟨rfl, hw2⟩
        have hW2 := hbr.alloc hsz (.cells #[.string (nmOf l k), .string (vlOf l k)] 37)
        have R : Row (wr.alloc (.cells #[.string (nmOf l k), .string (vlOf l k)] 37)) wr.heap.size 37 #[.string (nmOf l k), .string (vlOf l k)] := Row.new wr _ _
        by_cases hv0 : (vlOf l k).size = 0
        · rw [err_arg hm hv0] at HE
          have j0 : (((vlOf l k).size : Int) == 0) = true := by rw [hv0]; rfl
          have HW := Lib.hid hW2
          clear hm hv0 R c0 c1 hW2
          subst hw2
          go_wp2_with fail
          go_ret
          exact ⟨by rw [← HE.out]; rfl, HW.out⟩
        have j0 : (((vlOf l k).size : Int) == 0) = false := by rw [beq_eq_false_iff_ne]; omega
        by_cases hv1 : 64 < (vlOf l k).size
        · rw [err_big hm hv1] at HE
          have j1 : decide ((64 : Int) < ((vlOf l k).size : Int)) = true := by simp; omega
          have HW := Lib.hid hW2
          clear hm hv0 R c0 c1 hW2
          subst hw2
          go_wp2_with fail
          go_ret
          exact ⟨by rw [← HE.out]; rfl, HW.out⟩
        have j1 : decide ((64 : Int) < ((vlOf l k).size : Int)) = false := by simp; omega
        rw [hw2] at R hW2
        clear hw2
        have r0 : w2.cell? ⟨wr.heap.size, 0, none⟩ = some (.string (nmOf l k)) := R.cell 0
        have r1 : w2.cell? ⟨wr.heap.size, 1, none⟩ = some (.string (vlOf l k)) := R.cell 1
        have hd2 : Below w.heap.size w w2.drew := hW2.drew
        clear R c0 c1
        by_cases hk0 : 0 < k
        · obtain ⟨p0, _⟩ := Hc.out (k - 1) (by omega)
          have d0 := (hW2.cell (p := ⟨b, o + (k - 1) * 2, none⟩) hb).trans p0
          have i3 : decide ((0 : Int) < (k : Int)) = true := by simp; omega
          clear p0
          cases hle : leB (nmOf l k) (nmOf l (k - 1))
          · have i4 : (Op.bytesLess (nmOf l k).toList (nmOf l (k - 1)).toList || (nmOf l k).toList == (nmOf l (k - 1)).toList) = false := hle
            rw [lbErrAt_zero.2 ⟨hm, by omega, by omega, fun _ => hle⟩, if_pos rfl] at HE
            clear hm hle
            go_wp2_with fail
            go_region
            all_goals
              go_wp2_with fail
              go_roundw
              case rel => exact ⟨k + 1, by omega, by go_num, HE.out, hd2⟩
              case measure => simp [intOf]; omega
          · have i4 : (Op.bytesLess (nmOf l k).toList (nmOf l (k - 1)).toList || (nmOf l k).toList == (nmOf l (k - 1)).toList) = true := hle
            rw [err_order hm hv0 hv1 ⟨hk0, hle⟩] at HE
            clear hm hle
            go_wp2_with fail
            go_region
            all_goals
              go_wp2_with fail
              go_ret
              exact ⟨by rw [← HE.out]; rfl, hd2⟩
        · have i3 : decide ((0 : Int) < (k : Int)) = false := by simp; omega
          rw [lbErrAt_zero.2 ⟨hm, by omega, by omega, fun h => absurd h hk0⟩, if_pos rfl] at HE
          clear hm
          go_wp2_with fail
          go_region
          all_goals
            go_wp2_with fail
            go_roundw
            case rel => exact ⟨k + 1, by omega, by go_num, HE.out, hd2⟩
            case measure => simp [intOf]; omega
    · obtain rfl : k = l.length := by omega
      rw [Nat.sub_self] at he
      have HE := Lib.hid he
      clear he
      go_wp2_with fail
      go_ret
      exact ⟨by rw [← HE.out]; rfl, hbr⟩
end Go.Proofs.YtnhaehjkepmbaaaDoor
