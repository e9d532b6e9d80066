/- Whether matchers may be asked together; the examples. -/
import Derived.Test.YtjljfilflajogaaMtAll
namespace Go.Proofs.Ytjljfilflajogaa
open Go.RowKit
set_option linter.unusedVariables false

theorem merr_at {ms : List Mt} {k : Nat} (h : k < ms.length) : merr (ms.drop k) = if mchk (kdOf ms k, mnOf ms k, mvOf ms k) = 0 then merr (ms.drop (k + 1)) else mchk (kdOf ms k, mnOf ms k, mvOf ms k) := by
  rw [List.drop_eq_getElem_cons h, merr, show ms[k] = (kdOf ms k, mnOf ms k, mvOf ms k) by rw [mt_of]; simp [List.getD, List.getElem?_eq_getElem h]]
theorem ret_i64 {a b : Int} (h : a = b) : Ending.returned (.int .i64 a) = .returned (.int .i64 b) := by rw [h]
set_option maxHeartbeats 1000000 in
theorem chkall_prog (V : Option Addr) (ms : List Mt) (d : Nat) (w : World) (hV : Mts w V ms) (hm : ms.length ≤ 100000000000000) :
    Calls Try.prog 31 #[.slice V ms.length d] w fun e w' => e = .returned (.int .i64 (mchkAll ms)) ∧ Below w.heap.size w w' := by
  by_cases h8 : 8 < ms.length
  · rw [show mchkAll ms = 3 by unfold mchkAll; rw [if_pos h8]]
    go_enter Try.func31, Try.ntmps31
    go_wp2_with fail
    go_ret
    exact ⟨rfl, Below.refl _ _⟩
  have HV := Lib.hid hV
  have HQ := Lib.hid (show mchkAll ms = if merr ms ≠ 0 then merr ms else if mall ms [] = true then 2 else 0 by unfold mchkAll; rw [if_neg h8])
  clear hV
  go_enter Try.func31, Try.ntmps31
  go_wp2_with fail
  go_loopw [11] (fun i wr => ∃ k : Nat, k ≤ ms.length ∧ i = .int .i64 (k : Int) ∧ merr (ms.drop k) = merr ms ∧ Below w.heap.size w wr) (fun i _ => ms.length - (intOf i).toNat)
  case atStart => exact ⟨0, Nat.zero_le _, rfl, rfl, Below.refl _ _⟩
  case round =>
    obtain ⟨k, hk, rfl, he, hbr⟩ := hrel
    by_cases hlt : k < ms.length
    · obtain ⟨b, o, rfl, hb, g0, g1, g2⟩ := HV.out.at_ hlt
      have c0 := (hbr.cell (p := ⟨b, o + k * 3, none⟩) hb).trans g0
      have c1 := (hbr.cell (p := ⟨b, o + k * 3 + 1, none⟩) hb).trans g1
      have c2 := (hbr.cell (p := ⟨b, o + k * 3 + 2, none⟩) hb).trans g2
      have i2 : (k : Int) < (ms.length : Int) := by omega
      rw [merr_at hlt] at he
      have HC := Lib.hid (fun W => mchk_prog (kdOf ms k) (mnOf ms k) (mvOf ms k) W)
      have HB := Lib.hid (hbr.alloc hbr.size (.cells #[.int .i64 (kdOf ms k), .string (mnOf ms k), .string (mvOf ms k)] 39))
      clear g0 g1 g2 hbr
      generalize mchk (kdOf ms k, mnOf ms k, mvOf ms k) = ck at he HC
      generalize kdOf ms k = kd at *
      generalize mnOf ms k = mn at *
      generalize mvOf ms k = mv at *
      by_cases h0 : ck = 0
      · subst h0
        rw [if_pos rfl] at he
        have HE := Lib.hid he
        clear he
        go_wp2_with (go_at_call 24; refine (HC.out _).mono ?_; rintro e w2 ⟨rfl, hb2⟩; have HB2 := Lib.hid (HB.out.trans (hb2.mono HB.out.size)); clear hb2)
        go_roundw
        case rel => exact ⟨k + 1, by omega, by go_num, HE.out, HB2.out⟩
        case measure => simp [intOf]; omega
      · rw [if_neg h0] at he
        have HE := Lib.hid (show ck = mchkAll ms by rw [HQ.out, ← he, if_pos h0])
        have z0 : (ck == 0) = false := beq_eq_false_iff_ne.2 h0
        have z1 : (ck != 0) = true := by rw [bne, z0]; rfl
        clear he h0
        go_wp2_with (go_at_call 24; refine (HC.out _).mono ?_; rintro e w2 ⟨rfl, hb2⟩; have HB2 := Lib.hid (HB.out.trans (hb2.mono HB.out.size)); clear hb2)
        go_ret
        exact ⟨ret_i64 HE.out, HB2.out⟩
    · obtain rfl : k = ms.length := by omega
      have hz : merr ms = 0 := by rw [← he, List.drop_length]; rfl
      have HA := Lib.hid (show Calls Try.prog 33 #[.slice V ms.length d, .slice none 0 0] wr fun e w' => e = .returned (.bool (mall ms [])) ∧ Below wr.heap.size wr w' from all_prog V ms d none [] 0 wr (HV.out.below hbr) hm (Lbls.nil _ _) (by simp))
      have HE := Lib.hid (show (if mall ms [] = true then (2 : Int) else 0) = mchkAll ms by rw [HQ.out, hz, if_neg (show ¬ (0 : Int) ≠ 0 by simp)])
      have HB := Lib.hid hbr
      generalize mall ms [] = b at HA HE
      clear he hbr hz
      cases b
      all_goals
        go_wp2_with (go_at_call 33; refine HA.out.mono ?_; rintro e w2 ⟨rfl, hb2⟩; have HB2 := Lib.hid (HB.out.trans (hb2.mono HB.out.size)); clear hb2)
        go_ret
        exact ⟨ret_i64 HE.out, HB2.out⟩
def exS : List Lbl := [(⟨#[97]⟩, ⟨#[121]⟩)]
theorem ex_1 : mfits (3, ⟨#[97]⟩, ⟨#[120, 124, 121]⟩) exS = true := by decide +kernel
theorem ex_2 : mfits (3, ⟨#[97]⟩, ⟨#[120, 124, 121]⟩) [] = false := by decide +kernel
theorem ex_3 : mchkAll [(3, ⟨#[97]⟩, ⟨#[120, 124, 121]⟩)] = 0 := by decide +kernel
theorem ex_4 : mchkAll [] = 2 := by decide +kernel
set_option maxHeartbeats 1000000 in
theorem mlives_true (w : World) : Calls Try.prog 28 #[] w fun e w' => e = .returned (.bool true) ∧ Below w.heap.size w w' := by
  obtain ⟨nm, hnm⟩ : ∃ nm : ByteArray, (⟨#[97]⟩ : ByteArray) = nm := ⟨_, rfl⟩
  have F1 := Lib.hid (fun W (h : Lbls W (some ⟨w.heap.size, 0, none⟩) exS) => (show Calls Try.prog 29 #[.agg #[.int .i64 3, .string ⟨#[97]⟩, .string ⟨#[120, 124, 121]⟩], .slice (some ⟨w.heap.size, 0, none⟩) 1 1] W fun e w' => e = .returned (.bool true) ∧ Below W.heap.size W w' from by have := mfits_prog 3 ⟨#[97]⟩ ⟨#[120, 124, 121]⟩ _ exS 1 W h (by simp [exS]); rw [ex_1] at this; exact this))
  have F2 := Lib.hid (fun W => (show Calls Try.prog 29 #[.agg #[.int .i64 3, .string ⟨#[97]⟩, .string ⟨#[120, 124, 121]⟩], .slice none 0 0] W fun e w' => e = .returned (.bool false) ∧ Below W.heap.size W w' from by have := mfits_prog 3 ⟨#[97]⟩ ⟨#[120, 124, 121]⟩ none [] 0 W (Lbls.nil _ _) (by simp); rw [ex_2] at this; exact this))
  have F3 := Lib.hid (fun W g (h : Row W g 39 #[.int .i64 3, .string ⟨#[97]⟩, .string ⟨#[120, 124, 121]⟩]) => (show Calls Try.prog 31 #[.slice (some ⟨g, 0, none⟩) 1 1] W fun e w' => e = .returned (.int .i64 0) ∧ Below W.heap.size W w' from by have := chkall_prog (some ⟨g, 0, none⟩) [(3, ⟨#[97]⟩, ⟨#[120, 124, 121]⟩)] 1 W (mts_cell h) (by simp); rw [ex_3] at this; exact this))
  have F4 := Lib.hid (fun W => (show Calls Try.prog 31 #[.slice none 0 0] W fun e w' => e = .returned (.int .i64 2) ∧ Below W.heap.size W w' from by have := chkall_prog none [] 0 W (Mts.nil _ _) (by simp); rw [ex_4] at this; exact this))
  have hL := lbls_cell (Row.new w 63 #[.string ⟨#[97]⟩, .string ⟨#[121]⟩])
  have hb0 := below_one w (.cells #[.string ⟨#[97]⟩, .string ⟨#[121]⟩] 63)
  have hb1 := below_one (w.alloc (.cells #[.string ⟨#[97]⟩, .string ⟨#[121]⟩] 63)) (.cells #[.int .i64 3, .string ⟨#[97]⟩, .string ⟨#[120, 124, 121]⟩] 39)
  have HB1 := Lib.hid (below_then hb0 hb1)
  have HL1 := Lib.hid (hL.below hb1)
  have hR := row_at w (.cells #[.string ⟨#[97]⟩, .string ⟨#[121]⟩] 63) #[.int .i64 3, .string ⟨#[97]⟩, .string ⟨#[120, 124, 121]⟩] 39
  have HR1 := Lib.hid hR
  clear hL hb0 hb1 hR hnm
  go_enter Try.func28, Try.ntmps28
  go_wp2_with (first
    | (go_at_call 31; (with_reducible refine (F4.out _).mono ?_); rintro e w5 ⟨rfl, hb5⟩; have HB5 := Lib.hid (HB4.out.trans (hb5.mono HB4.out.size)); clear hb5)
    | (go_at_call 31; refine (F3.out _ _ (Row.new _ _ _)).mono ?_; rintro e w4 ⟨rfl, hb4⟩; have HB4 := Lib.hid (below_then HB3.out (below_then (below_one _ _) hb4)); clear hb4)
    | (go_at_call 29; (with_reducible refine (F2.out _).mono ?_); rintro e w3 ⟨rfl, hb3⟩; have HB3 := Lib.hid (HB2.out.trans (hb3.mono HB2.out.size)); have hr3 := HR2.out.below hb3 HR2.out.lt; have r30 := hr3.cell 0; have r31 := hr3.cell 1; have r32 := hr3.cell 2; clear hb3 hr3)
    | (go_at_call 29; refine (F1.out _ HL1.out).mono ?_; rintro e w2 ⟨rfl, hb2⟩; have HB2 := Lib.hid (HB1.out.trans (hb2.mono HB1.out.size)); have hr2 := HR1.out.below hb2 HR1.out.lt; have HR2 := Lib.hid hr2; have r20 := hr2.cell 0; have r21 := hr2.cell 1; have r22 := hr2.cell 2; clear hb2 hr2))
  go_ret
  exact ⟨rfl, HB5.out⟩
end Go.Proofs.Ytjljfilflajogaa
