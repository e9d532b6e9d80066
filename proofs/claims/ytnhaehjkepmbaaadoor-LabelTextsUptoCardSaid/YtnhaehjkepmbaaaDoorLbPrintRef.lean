/- The text of labels: as the document's own answer tells it. -/
import Derived.Test.YtnhaehjkepmbaaaDoorMtQuo
namespace Go.Proofs.YtnhaehjkepmbaaaDoor
open Go.RowKit
set_option linter.unusedVariables false

theorem strL_both (a b : ByteArray) : strL (a ++ b) = strL a ++ strL b := by
  unfold strL
  simp
theorem quoT_len (s : ByteArray) : (txt (quoL s)).size ≤ 2 + 4 * s.size := by
  have hel := escL_len (strL s)
  rw [strL_length] at hel
  show (quoL s).toArray.size ≤ _
  rw [List.size_toArray]
  simp [quoL]
  omega
theorem lblT_join (t n s : ByteArray) : strL (t ++ n ++ ⟨#[61]⟩ ++ txt (quoL s)) = strL t ++ lblT (n, s) := by
  rw [strL_both, strL_both, strL_both, strL_txt]
  simp [lblT, quoL, strL]
set_option maxRecDepth 100000 in
set_option maxHeartbeats 4000000 in
theorem refprint_prog (A : Option Addr) (l : List Lbl) (c : Nat) (w : World) (hA : Lbls w A l) (hl : l.length ≤ 100000000000000) (hc : costT l l.length ≤ 140737488355328) :
    Calls Tryd.prog 7 #[.slice A l.length c] w fun e w' => e = .returned (.string (txt (printL l))) ∧ Below w.heap.size w w' := by
  go_enter Tryd.func7, Tryd.ntmps7
  go_wp2_with fail
  go_loopw [4, 3] (fun i u wr => ∃ (k : Nat) (t : ByteArray), k ≤ l.length ∧ i = .int .i64 (k : Int) ∧ u = .string t ∧ strL t = [123] ++ lblsT l k ∧ Below w.heap.size w wr) (fun i _ _ => l.length - (intOf i).toNat)
  case atStart => exact ⟨0, ⟨#[123]⟩, Nat.zero_le _, rfl, rfl, rfl, Below.refl _ _⟩
  case round =>
    obtain ⟨k, t, hk, rfl, rfl, ht, hbr⟩ := hrel
    have hsz := hbr.size
    have hts : t.size ≤ costT l k := by
      have h1 := lblsT_len l k
      have h2 := congrArg List.length ht
      rw [strL_length, List.length_append, List.length_singleton] at h2
      omega
    by_cases hlt : k < l.length
    · obtain ⟨b, o, rfl, hb, g0, g1⟩ := hA.at_ hlt
      have c0 := (hbr.cell (p := ⟨b, o + k * 2, none⟩) hb).trans g0
      have c1 := (hbr.cell (p := ⟨b, o + k * 2 + 1, none⟩) hb).trans g1
      have i2 : (k : Int) < (l.length : Int) := by omega
      have hm := costT_mono l (show k + 1 ≤ l.length from hlt)
      rw [costT] at hm
      have hq := quoT_len (vlOf l k)
      have HQ := Lib.hid (fun W => refquo_prog (vlOf l k) W (by omega))
      have HJ := Lib.hid (fun t => lblT_join t (nmOf l k) (vlOf l k))
      have HT : Hid (lblsT l (k + 1) = lblsT l k ++ (if 0 < k then [44, 32] else []) ++ lblT (nmOf l k, vlOf l k)) := Lib.hid rfl
      have HB0 := Lib.hid hbr.drew
      have c0' : (wr.drew).cell? ⟨b, o + k * 2, none⟩ = some (.string (nmOf l k)) := c0
      have c1' : (wr.drew).cell? ⟨b, o + k * 2 + 1, none⟩ = some (.string (vlOf l k)) := c1
      generalize hqq : txt (quoL (vlOf l k)) = q at HQ HJ hq
      generalize nmOf l k = nm at *
      generalize vlOf l k = vl at *
      by_cases hk0 : 0 < k
      · have i3 : decide ((0 : Int) < (k : Int)) = true := by simp; omega
        have fn : ¬ 9223372036854775807 < t.size + 2 := by omega
        rw [if_pos hk0] at HT
        have HT2 : Hid (strL (t ++ ⟨#[44, 32]⟩) = [123] ++ lblsT l k ++ [44, 32]) := Lib.hid (by rw [strL_both, ht]; rfl)
        have e0 : ¬ 9223372036854775807 < t.size + 2 + nm.size := by omega
        have e1 : ¬ 9223372036854775807 < t.size + 2 + nm.size + 1 := by omega
        have e2 : ¬ 9223372036854775807 < t.size + 2 + nm.size + (⟨#[61]⟩ : ByteArray).size := show ¬ 9223372036854775807 < t.size + 2 + nm.size + 1 by omega
        have e3 : ¬ 9223372036854775807 < t.size + 2 + nm.size + 1 + q.size := by omega
        have e4 : ¬ 9223372036854775807 < t.size + 2 + nm.size + (⟨#[61]⟩ : ByteArray).size + q.size := show ¬ 9223372036854775807 < t.size + 2 + nm.size + 1 + q.size by omega
        have e5 : ¬ 9223372036854775807 < t.size + (⟨#[44, 32]⟩ : ByteArray).size + nm.size := show ¬ 9223372036854775807 < t.size + 2 + nm.size by omega
        have e6 : ¬ 9223372036854775807 < t.size + (⟨#[44, 32]⟩ : ByteArray).size + nm.size + 1 := show ¬ 9223372036854775807 < t.size + 2 + nm.size + 1 by omega
        have e7 : ¬ 9223372036854775807 < t.size + (⟨#[44, 32]⟩ : ByteArray).size + nm.size + (⟨#[61]⟩ : ByteArray).size := show ¬ 9223372036854775807 < t.size + 2 + nm.size + 1 by omega
        have e8 : ¬ 9223372036854775807 < t.size + (⟨#[44, 32]⟩ : ByteArray).size + nm.size + 1 + q.size := show ¬ 9223372036854775807 < t.size + 2 + nm.size + 1 + q.size by omega
        have e9 : ¬ 9223372036854775807 < t.size + (⟨#[44, 32]⟩ : ByteArray).size + nm.size + (⟨#[61]⟩ : ByteArray).size + q.size := show ¬ 9223372036854775807 < t.size + 2 + nm.size + 1 + q.size by omega
        go_upto_region 7 with fail
        go_region_held3 (fun w' => w'.cell? ⟨b, o + k * 2, none⟩ = some (.string nm) ∧ w'.cell? ⟨b, o + k * 2 + 1, none⟩ = some (.string vl)) (go_keep)
          (first
            | (go_at_call 15; (with_reducible refine (HQ.out _).mono ?_); rintro e w1 ⟨rfl, hb1⟩
               have HB1 := Lib.hid (HB0.out.trans (hb1.mono HB0.out.size))
               have r10 : w1.cell? ⟨b, o + k * 2, none⟩ = some (.string nm) := (HB1.out.cell hb).trans g0
               have r11 : w1.cell? ⟨b, o + k * 2 + 1, none⟩ = some (.string vl) := (HB1.out.cell hb).trans g1
               clear hb1))
        all_goals
          go_wp2_with fail
          go_roundw
          case rel => exact ⟨k + 1, _, by omega, by go_num, rfl, by rw [HJ.out, HT.out, HT2.out]; simp, HB1.out⟩
          case measure => simp [intOf]; omega
      · have i3 : decide ((0 : Int) < (k : Int)) = false := by simp; omega
        rw [if_neg hk0] at HT
        have f1 : ¬ 9223372036854775807 < t.size + nm.size := by omega
        have f2 : ¬ 9223372036854775807 < t.size + nm.size + 1 := by omega
        have f3 : ¬ 9223372036854775807 < t.size + nm.size + 1 + q.size := by omega
        have f4 : ¬ 9223372036854775807 < t.size + nm.size + (⟨#[61]⟩ : ByteArray).size := f2
        have f5 : ¬ 9223372036854775807 < t.size + nm.size + (⟨#[61]⟩ : ByteArray).size + q.size := f3
        go_upto_region 7 with fail
        go_region_held3 (fun w' => w'.cell? ⟨b, o + k * 2, none⟩ = some (.string nm) ∧ w'.cell? ⟨b, o + k * 2 + 1, none⟩ = some (.string vl)) (go_keep)
          (first
            | (go_at_call 15; (with_reducible refine (HQ.out _).mono ?_); rintro e w1 ⟨rfl, hb1⟩
               have HB1 := Lib.hid (HB0.out.trans (hb1.mono HB0.out.size))
               have r10 : w1.cell? ⟨b, o + k * 2, none⟩ = some (.string nm) := (HB1.out.cell hb).trans g0
               have r11 : w1.cell? ⟨b, o + k * 2 + 1, none⟩ = some (.string vl) := (HB1.out.cell hb).trans g1
               clear hb1))
        all_goals
          go_wp2_with fail
          go_roundw
          case rel => exact ⟨k + 1, _, by omega, by go_num, rfl, by rw [HJ.out, HT.out, ht]; simp, HB1.out⟩
          case measure => simp [intOf]; omega
    · obtain rfl : k = l.length := by omega
      have fn : ¬ 9223372036854775807 < t.size + 1 := by omega
      have HX : Hid (t ++ ⟨#[125]⟩ = txt (printL l)) := Lib.hid (by rw [← txt_strL (t ++ ⟨#[125]⟩), strL_both, ht]; rfl)
      go_wp2_with fail
      go_ret
      exact ⟨by rw [← HX.out]; rfl, hbr⟩
end Go.Proofs.YtnhaehjkepmbaaaDoor
