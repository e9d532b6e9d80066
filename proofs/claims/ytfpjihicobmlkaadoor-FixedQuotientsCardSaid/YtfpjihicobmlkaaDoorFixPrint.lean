/- Layer 3: a number's text, of the program. -/
import Derived.Test.YtfpjihicobmlkaaDoorFixFormat
import Derived.Test.YtfpjihicobmlkaaDoorNumMath
import Derived.Test.YtfpjihicobmlkaaDoorOwn
import Derived.Deep.QuietTactic
import Derived.BigQuiet
namespace Go.Proofs.YtfpjihicobmlkaaDoor
open Go.RowKit
set_option linter.unusedVariables false

theorem bys_one {w : World} {g : Nat} {x : UInt8} {v : Int} (hv : v = (x.toNat : Int)) (h : Row w g 5 #[.int .u8 v]) : Bys w (some ⟨g, 0, none⟩) [x] := by
  subst hv
  exact Row.bys (l := [x]) h
theorem ret_str {a b : ByteArray} (h : a = b) : Ending.returned (.string a) = .returned (.string b) := by rw [h]

set_option maxHeartbeats 1000000 in
theorem behind_prog (p : Nat) (hp : p < 1000000) (w : World) :
    Calls Tryd.prog 37 #[.int .u64 (p : Int)] w fun e w' => e = .returned (.string (txt (behindL p))) ∧ Below w.heap.size w w' := by
  by_cases h0 : p = 0
  · have q : ((p : Int) == 0) = true := by rw [beq_iff_eq]; omega
    rw [show behindL p = [] from by simp [behindL, h0]]
    clear h0
    go_enter Tryd.func37, Tryd.ntmps37
    go_wp2
    go_ret
    exact ⟨rfl, Below.refl _ _⟩
  · have q : ((p : Int) == 0) = false := by rw [beq_eq_false_iff_ne]; omega
    rw [show behindL p = 46 :: frac 6 p from by simp [behindL, h0]]
    clear h0
    go_enter Tryd.func37, Tryd.ntmps37
    go_wp2_with fail
    go_loopw [0, 3, 7] (fun p' v i wr => ∃ (k m : Nat) (x : List UInt8), k ≤ 6 ∧ i = .int .i64 (k : Int) ∧ p' = .int .u64 (m : Int) ∧ m < 1000000 ∧ Own wr w.heap.size v x ∧ x.length ≤ k + 1 ∧ x ++ frac (6 - k) m = 46 :: frac 6 p ∧ Below w.heap.size w wr) (fun _ _ i _ => 6 - (intOf i).toNat)
    case atStart => exact ⟨0, p, [46], by omega, rfl, rfl, hp, own_whole (x := [46]) (Row.new w _ _) (Nat.le_refl _) (by simp [maxLen]), by simp, rfl, below_one _ _⟩
    case round =>
      obtain ⟨k, m, x, hk, rfl, rfl, hm, hor, hxl, hx, bl⟩ := hrel
      by_cases hlt : k < 6
      · by_cases h0 : m = 0
        · have hxe : x = 46 :: frac 6 p := by
            rw [h0, frac_nought, List.append_nil] at hx
            exact hx
          have HX := Lib.hid hxe
          have q2 : ((m : Int) == 0) = true := by rw [beq_iff_eq]; omega
          obtain ⟨B, d, rfl, hB, _⟩ := own_slice' hor
          have hcv := conv_bys wr B x d hB
          clear hx hxe h0 hor
          go_wp2
          go_ret
          exact ⟨ret_str (by rw [HX.out]), bl⟩
        · have q2 : ((m : Int) == 0) = false := by rw [beq_eq_false_iff_ne]; omega
          have HF := Lib.hid (frac_next (k := 5 - k) h0)
          have HX := Lib.hid hx
          have HXL := Lib.hid hxl
          have c1 : (m : Int) * 10 / 1000000 = ((10 * m / 1000000 : Nat) : Int) := by omega
          have c2 : (m : Int) * 10 % 1000000 = ((10 * m % 1000000 : Nat) : Int) := by omega
          have hq : 10 * m / 1000000 ≤ 9 := by omega
          have hr : 10 * m % 1000000 < 1000000 := by omega
          clear hx h0 hxl
          generalize 10 * m / 1000000 = t at *
          generalize 10 * m % 1000000 = r at *
          have Hd : (48 : Int) + (t : Int) = ((UInt8.ofNat (48 + t)).toNat : Int) := by rw [UInt8.toNat_ofNat']; omega
          have HD := Lib.hid Hd
          have hsr := bl.size
          clear Hd
          go_wp2_with (at_builtin; refine app_u8 rfl (.tmp 13) (.tmp 18) rfl w.heap.size _ x rfl (own_alloc hor _) _ [UInt8.ofNat (48 + t)] 1 rfl (bys_one HD.out (Row.new wr _ _)) (by have := HXL.out; simp only [List.length_singleton]; omega) (Nat.le_trans hsr (by simp)) ?_; intro v1 w1 hown1 hb1 hg1; clear hg1)
          go_roundw
          case rel => exact ⟨k + 1, r, x ++ [UInt8.ofNat (48 + t)], by omega, by go_num, by rw [c2], hr, hown1, by have := HXL.out; simp; omega, by
            rw [List.append_assoc, List.singleton_append, show 6 - (k + 1) = 5 - k from by omega, ← HF.out, ← HX.out, show 5 - k + 1 = 6 - k from by omega], (bl.alloc hsr _).trans hb1⟩
          case measure => simp [intOf]; omega
      · have hxe : x = 46 :: frac 6 p := by
          rw [show 6 - k = 0 from by omega, frac, List.append_nil] at hx
          exact hx
        have HX := Lib.hid hxe
        obtain ⟨B, d, rfl, hB, _⟩ := own_slice' hor
        have hcv := conv_bys wr B x d hB
        clear hx hxe hor
        go_wp2
        go_ret
        exact ⟨ret_str (by rw [HX.out]), bl⟩

theorem txt_append (a b : List UInt8) : txt a ++ txt b = txt (a ++ b) := by
  simp [txt, ByteArray.ext_iff]
theorem digits_20 (u : Nat) (h : u < 18446744073709551616) : (Lib.decDigits u).length ≤ 20 := by
  rw [Lib.decDigits_length]
  by_cases h0 : u < 10
  · rw [Lib.nDigits_small h0]
    omega
  · have := Lib.numDigits_eq u (by omega) h
    split at this <;> omega
theorem behind_7 (p : Nat) : (behindL p).length ≤ 7 := by
  unfold behindL
  split
  · simp
  · have := frac_length 6 p
    simp
    omega
theorem txt_size (l : List UInt8) : (txt l).size = l.length := by simp [txt, ByteArray.size]
theorem print_prog (n : Int) (w : World) (hn : fitsB n = true) (ht : n.natAbs / 1000000 < 100 ∨ Pows w) :
    Calls Tryd.prog 27 #[.int .i64 n] w fun e w' => e = .returned (.tuple #[.string (txt (printL n)), .int .i64 0]) ∧ Below w.heap.size w w' := by
  have HA := fits_prog n w
  rw [hn] at HA
  have k := fits_of hn
  have HS := size_prog n w (by omega) (by omega)
  have HF := format_prog (n.natAbs / 1000000) (by omega) w ht
  have HB := fun w => behind_prog (n.natAbs % 1000000) (by omega) w
  have c1 : ((n.natAbs : Nat) : Int) / 1000000 = ((n.natAbs / 1000000 : Nat) : Int) := by omega
  have c2 : ((n.natAbs : Nat) : Int) % 1000000 = ((n.natAbs % 1000000 : Nat) : Int) := by omega
  unfold printL partsL
  have hnb : n.natAbs ≤ 1152921504606846976 := by omega
  have d1 := digits_20 (n.natAbs / 1000000) (by omega)
  have d2 := behind_7 (n.natAbs % 1000000)
  have s1 : ((txt (Lib.decDigits (n.natAbs / 1000000))).size : Int) ≤ 8388608 := by rw [txt_size]; omega
  have s2 : ((txt (behindL (n.natAbs % 1000000))).size : Int) ≤ 8388608 := by rw [txt_size]; omega
  have s3 : ((txt (Lib.decDigits (n.natAbs / 1000000)) ++ txt (behindL (n.natAbs % 1000000))).size : Int) ≤ 8388608 := by rw [txt_append, txt_size, List.length_append]; omega
  have s4 : (({ data := #[45] } : ByteArray).size : Int) ≤ 8388608 := by decide
  clear d1 d2
  by_cases h : n < 0
  · rw [if_pos h]
    have E := Lib.hid (show txt (45 :: (Lib.decDigits (n.natAbs / 1000000) ++ behindL (n.natAbs % 1000000))) = txt [45] ++ (txt (Lib.decDigits (n.natAbs / 1000000)) ++ txt (behindL (n.natAbs % 1000000))) from by rw [txt_append, txt_append]; rfl)
    rw [E.out]
    clear hn ht E
    generalize txt (Lib.decDigits (n.natAbs / 1000000)) = D at *
    generalize txt (behindL (n.natAbs % 1000000)) = B at *
    generalize n.natAbs / 1000000 = t at *
    generalize n.natAbs % 1000000 = r at *
    go_enter Tryd.func27, Tryd.ntmps27
    go_wp2_with fail
    refine HA.mono ?_
    rintro e w1 ⟨rfl, rfl⟩
    go_wp2_with fail
    refine HS.mono ?_
    rintro e w1 ⟨rfl, rfl⟩
    go_wp2_with fail
    refine HF.mono ?_
    rintro e w1 ⟨rfl, hb1⟩
    go_wp2_with fail
    refine (HB w1).mono ?_
    rintro e w2 ⟨rfl, hb2⟩
    go_wp2_with fail
    go_ret2
    exact ⟨rfl, below_then hb1 hb2⟩
  · rw [if_neg h]
    have E := Lib.hid (show txt (Lib.decDigits (n.natAbs / 1000000) ++ behindL (n.natAbs % 1000000)) = txt (Lib.decDigits (n.natAbs / 1000000)) ++ txt (behindL (n.natAbs % 1000000)) from by rw [txt_append])
    rw [E.out]
    clear hn ht E
    generalize txt (Lib.decDigits (n.natAbs / 1000000)) = D at *
    generalize txt (behindL (n.natAbs % 1000000)) = B at *
    generalize n.natAbs / 1000000 = t at *
    generalize n.natAbs % 1000000 = r at *
    go_enter Tryd.func27, Tryd.ntmps27
    go_wp2_with fail
    refine HA.mono ?_
    rintro e w1 ⟨rfl, rfl⟩
    go_wp2_with fail
    refine HS.mono ?_
    rintro e w1 ⟨rfl, rfl⟩
    go_wp2_with fail
    refine HF.mono ?_
    rintro e w1 ⟨rfl, hb1⟩
    go_wp2_with fail
    refine (HB w1).mono ?_
    rintro e w2 ⟨rfl, hb2⟩
    go_wp2_with fail
    go_ret2
    exact ⟨rfl, below_then hb1 hb2⟩
theorem print_bad (n : Int) (w : World) (hn : fitsB n = false) :
    Calls Tryd.prog 27 #[.int .i64 n] w fun e w' => e = .returned (.tuple #[.string ByteArray.empty, .int .i64 2]) ∧ w = w' := by
  have HA := fits_prog n w
  rw [hn] at HA
  clear hn
  go_enter Tryd.func27, Tryd.ntmps27
  go_wp2_with fail
  refine HA.mono ?_
  rintro e w1 ⟨rfl, rfl⟩
  go_wp2
  go_ret2
  exact ⟨rfl, rfl⟩
end Go.Proofs.YtfpjihicobmlkaaDoor
