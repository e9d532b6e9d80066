/- Whether labels are a right set: as the document's own answer tells it. -/
import Derived.Test.YtnhaehjkepmbaaaDoorLbCheck
namespace Go.Proofs.YtnhaehjkepmbaaaDoor
open Go.RowKit
set_option linter.unusedVariables false

theorem empty_of (s : ByteArray) : (s.toList == []) = decide (s.size = 0) := by
  rw [ByteArray.toList_eq, Bool.eq_iff_iff, beq_iff_eq, decide_eq_true_eq]
  have := strL_length s
  unfold strL at this
  constructor
  · intro e; rw [e] at this; simpa using this.symm
  · intro e; exact List.eq_nil_of_length_eq_zero (by omega)

theorem lbchk_ref (A : Option Addr) (l : List Lbl) (c : Nat) (w : World) (hA : Lbls w A l) (hl : l.length ≤ 100000000000000) (hf : LFits l) :
    Calls Tryd.prog 13 #[.slice A l.length c] w fun e w' => e = .returned (.int .i64 (lbChk l)) ∧ Below w.heap.size w w' := by
  by_cases h1 : 8 < l.length
  · have e : lbChk l = 3 := by unfold lbChk; rw [if_pos h1]
    rw [e]
    clear e
    have i1 : decide ((8 : Int) < (l.length : Int)) = true := by simp; omega
    go_enter Tryd.func13, Tryd.ntmps13
    go_wp2
    go_ret
    exact ⟨rfl, Below.refl _ _⟩
  have hC : lbErrF l l.length 0 = lbChk l := by unfold lbChk; rw [if_neg h1]
  have i1 : decide ((8 : Int) < (l.length : Int)) = false := by simp; omega
  by_cases h0 : l.length = 0
  · have e : lbChk l = 0 := by rw [← hC, h0]; rfl
    rw [e, h0]
    clear e hC i1 h1
    go_enter Tryd.func13, Tryd.ntmps13
    go_wp2_with fail
    go_loop [3] (fun i => i = .int .i64 0) (fun _ => 0)
    case atStart => rfl
    case round =>
      subst hrel
      go_wp2_with fail
      go_ret
      exact ⟨rfl, Below.refl _ _⟩
  have HC := Lib.hid hC
  clear hC
  obtain ⟨b, o, rfl, hb, hc⟩ := hA.all (by omega)
  have Hc := Lib.hid hc
  have HF := Lib.hid hf
  clear hc hA hf
  go_enter Tryd.func13, Tryd.ntmps13
  go_wp2_with fail
  go_loopw [3] (fun i wr => ∃ k : Nat, k ≤ l.length ∧ i = .int .i64 (k : Int) ∧ lbErrF l (l.length - k) k = lbChk l ∧ Below w.heap.size w wr) (fun i _ => l.length - (intOf i).toNat)
  case atStart => exact ⟨0, Nat.zero_le _, rfl, HC.out, Below.refl _ _⟩
  case round =>
    obtain ⟨k, hk, rfl, he, hbr⟩ := hrel
    have hsz := hbr.size
    by_cases hlt : k < l.length
    · obtain ⟨g0, g1⟩ := Hc.out k hlt
      have c0 := (hbr.cell (p := ⟨b, o + k * 2, none⟩) hb).trans g0
      have c1 := (hbr.cell (p := ⟨b, o + k * 2 + 1, none⟩) hb).trans g1
      have i2 : (k : Int) < (l.length : Int) := by omega
      have hM := name_ref (nmOf l k) wr (HF.out k hlt).1
      have HE := Lib.hid he
      clear he g0 g1
      rw [show l.length - k = (l.length - (k + 1)) + 1 from by omega, lbErrF] at HE
      cases hm : nameB (strL (nmOf l k))
      · rw [hm] at hM
        rw [err_name hm] at HE
        have HM := Lib.hid hM
        clear hM hm
        go_wp2_with fail
        refine HM.out.mono ?_
        rintro e w2 ⟨rfl, rfl⟩
        go_wp2
        go_ret
        exact ⟨by rw [← HE.out]; rfl, hbr⟩
      · rw [hm] at hM
        have HM := Lib.hid hM
        clear hM
        have q0 := empty_of (vlOf l k)
        by_cases hv0 : (vlOf l k).size = 0
        · rw [err_arg hm hv0] at HE
          rw [decide_eq_true hv0] at q0
          clear hm hv0
          go_wp2_with fail
          refine HM.out.mono ?_
          rintro e w2 ⟨rfl, rfl⟩
          go_wp2_with fail
          go_ret
          exact ⟨by rw [← HE.out]; rfl, hbr⟩
        rw [decide_eq_false hv0] at q0
        by_cases hv1 : 64 < (vlOf l k).size
        · rw [err_big hm hv1] at HE
          have j1 : decide ((64 : Int) < ((vlOf l k).size : Int)) = true := by simp; omega
          clear hm hv0
          go_wp2_with fail
          refine HM.out.mono ?_
          rintro e w2 ⟨rfl, rfl⟩
          go_wp2_with fail
          go_ret
          exact ⟨by rw [← HE.out]; rfl, hbr⟩
        have j1 : decide ((64 : Int) < ((vlOf l k).size : Int)) = false := by simp; omega
        have hd2 : Below w.heap.size w wr.drew := hbr.drew
        by_cases hk0 : 0 < k
        · obtain ⟨p0, _⟩ := Hc.out (k - 1) (by omega)
          have d0 := (hbr.cell (p := ⟨b, o + (k - 1) * 2, none⟩) hb).trans p0
          have i3 : decide ((0 : Int) < (k : Int)) = true := by simp; omega
          clear p0
          cases hle : leB (nmOf l k) (nmOf l (k - 1))
          · have i4 : (Op.bytesLess (nmOf l k).toList (nmOf l (k - 1)).toList || (nmOf l k).toList == (nmOf l (k - 1)).toList) = false := hle
            rw [lbErrAt_zero.2 ⟨hm, by omega, by omega, fun _ => hle⟩, if_pos rfl] at HE
            clear hm hle
            go_wp2_with fail
            refine HM.out.mono ?_
            rintro e w2 ⟨rfl, rfl⟩
            go_wp2_with fail
            go_region
            all_goals
              go_wp2_with fail
              go_roundw
              case rel => exact ⟨k + 1, by omega, by go_num, HE.out, hd2⟩
              case measure => simp [intOf]; omega
          · have i4 : (Op.bytesLess (nmOf l k).toList (nmOf l (k - 1)).toList || (nmOf l k).toList == (nmOf l (k - 1)).toList) = true := hle
            rw [err_order hm hv0 hv1 ⟨hk0, hle⟩] at HE
            clear hm hle
            go_wp2_with fail
            refine HM.out.mono ?_
            rintro e w2 ⟨rfl, rfl⟩
            go_wp2_with fail
            go_region
            all_goals
              go_wp2_with fail
              go_ret
              exact ⟨by rw [← HE.out]; rfl, hd2⟩
        · have i3 : decide ((0 : Int) < (k : Int)) = false := by simp; omega
          rw [lbErrAt_zero.2 ⟨hm, by omega, by omega, fun h => absurd h hk0⟩, if_pos rfl] at HE
          clear hm
          go_wp2_with fail
          refine HM.out.mono ?_
          rintro e w2 ⟨rfl, rfl⟩
          go_wp2_with fail
          go_region
          all_goals
            go_wp2_with fail
            go_roundw
            case rel => exact ⟨k + 1, by omega, by go_num, HE.out, hd2⟩
            case measure => simp [intOf]; omega
    · obtain rfl : k = l.length := by omega
      rw [Nat.sub_self] at he
      have HE := Lib.hid he
      clear he
      go_wp2_with fail
      go_ret
      exact ⟨by rw [← HE.out]; rfl, hbr⟩
end Go.Proofs.YtnhaehjkepmbaaaDoor
