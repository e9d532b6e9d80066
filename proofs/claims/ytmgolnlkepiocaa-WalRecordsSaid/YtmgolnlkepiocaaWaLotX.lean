/- In one text, written by lotify.py: WaSame. -/
import Derived.Test.YtmgolnlkepiocaaWaLotK
import Derived.Test.YtmgolnlkepiocaaWaLotN
import Derived.Test.YtmgolnlkepiocaaWaLotH
/- Two records that are the same, held against one another (gaugeref11.Same, gaugeref11.SameAll). -/
namespace Go.Proofs.Ytmgolnlkepiocaa
open Go.RowKit Go.Maps
set_option linter.unusedVariables false

theorem row_neq (a b c : Int) (w : World) : (binOp .neq 62 (.agg #[.int .i64 a, .int .i64 b, .int .i64 c]) (.agg #[.int .i64 a, .int .i64 b, .int .i64 c])).run Try.prog w = .ok (.bool false) w := by
  have hs : ∀ (d : Nat) (xs ys : Array Value) (w : World), (Op.equalIn (d + 1) 60 (.agg xs) (.agg ys)).run Try.prog w = (Op.eqFields d xs ys (Try.prog.fieldsOf 60).toList).run Try.prog w := fun d xs ys w => run_equalIn_agg w d _ xs ys (by kernel_rfl) (by kernel_rfl)
  rw [run_neq_struct, run_equalIn_agg w 9999 _ _ _ (by kernel_rfl) (by kernel_rfl)]
  simp [go_sem, Try.underlying62, Try.underlying60, Try.underlying3, hs]
set_option maxRecDepth 20000 in
set_option maxHeartbeats 1000000 in
theorem recsame_prog (R : RecV) (m n : RecM) (w : World) (h : RecIn w R m) (k : RecIn w R n) (hf : RecFit R) :
    Calls Try.prog 12 #[.agg (recC R m).toArray, .agg (recC R n).toArray] w fun e w' => e = .returned (.bool true) ∧ Below w.heap.size w w' := by
  have HW := Lib.hid ((below_one w (.cells (recC R m).toArray 26)).trans ((below_one (w.alloc (.cells (recC R m).toArray 26)) (.cells (recC R n).toArray 26)).mono (by simp)))
  have HI := Lib.hid (fun W (hW : Below w.heap.size w W) => po_same_ref m.ia n.ia R.ids R.ids m.ic n.ic W (h.ids.below hW) (k.ids.below hW) (by have := hf.ids; omega))
  have HL := Lib.hid (fun W (hW : Below w.heap.size w W) => same_ref m.la n.la R.labels R.labels m.lc n.lc W (h.labels.below hW) (k.labels.below hW) (by have := hf.labels; omega) (by have := hf.labels; omega))
  rw [decide_eq_true rfl] at HI HL
  have hX := heap_alloc2_new w (.cells (recC R m).toArray 26) (.cells (recC R n).toArray 26)
  have HX := Lib.hid (fun W (hW : Below (w.heap.size + 2) ((w.alloc (.cells (recC R m).toArray 26)).alloc (.cells (recC R n).toArray 26)) W) => rec_cells (((Row.new w 26 (recC R m).toArray).alloc (.cells (recC R n).toArray 26)).below hW (by omega)) rfl)
  have HY := Lib.hid (fun W (hW : Below (w.heap.size + 2) ((w.alloc (.cells (recC R m).toArray 26)).alloc (.cells (recC R n).toArray 26)) W) => rec_cells ((show Row _ (w.heap.size + 1) 26 (recC R n).toArray from hX).below hW (by omega)) rfl)
  have HR := Lib.hid h.rows
  have HQ := Lib.hid k.rows
  have HFR := Lib.hid (show R.rows.length ≤ 100000000000000 by have := hf.rows; omega)
  clear h k hf hX
  obtain ⟨kd, la, ro, ids, lo, hi⟩ := R
  obtain ⟨A1, c1, B1, b1, C1, d1⟩ := m
  obtain ⟨A2, c2, B2, b2, C2, d2⟩ := n
  simp only [recC] at *
  obtain ⟨x0, x1, x2, x3, x4, x5⟩ := HX.out _ (Below.refl _ _)
  obtain ⟨y0, y1, y2, y3, y4, y5⟩ := HY.out _ (Below.refl _ _)
  generalize la.length = na at *
  generalize ids.length = ni at *
  have i0 : (kd != kd) = false := by simp
  have i1 : (lo != lo) = false := by simp
  have i2 : (hi != hi) = false := by simp
  have i3 : ((na : Int) != (na : Int)) = false := by simp
  have i4 : ((ro.length : Int) != (ro.length : Int)) = false := by simp
  have HN := row_neq
  go_enter Try.func12, Try.ntmps12
  go_wp2_with (first
    | (go_at_call 41; refine (HI.out _ HW.out).mono ?_; rintro e w1 ⟨rfl, hb1⟩
       have HB1 := Lib.hid (HW.out.trans (hb1.mono HW.out.size))
       have HB1' := Lib.hid (hb1.mono (show w.heap.size + 2 ≤ _ by simp))
       obtain ⟨u0, u1, u2, u3, u4, u5⟩ := HX.out _ HB1'.out
       obtain ⟨v0, v1, v2, v3, v4, v5⟩ := HY.out _ HB1'.out
       have HZ1 := Lib.hid (show w.heap.size + 2 ≤ w1.heap.size by have := hb1.size; simp at this; omega)
       clear hb1)
    | (go_at_call 42; refine (HL.out _ HB1.out).mono ?_; rintro e w2 ⟨rfl, hb2⟩
       have HB2 := Lib.hid (below_then HB1.out hb2)
       have HB2' := Lib.hid (HB1'.out.trans (hb2.mono HZ1.out))
       obtain ⟨p0, p1, p2, p3, p4, p5⟩ := HX.out _ HB2'.out
       obtain ⟨q0, q1, q2, q3, q4, q5⟩ := HY.out _ HB2'.out
       clear hb2))
  go_loopw [5] (fun i wr => ∃ j : Nat, j ≤ ro.length ∧ i = .int .i64 (j : Int) ∧ Below w.heap.size w wr ∧ Below (w.heap.size + 2) ((w.alloc (.cells #[.int .i64 kd, .slice A1 na c1, .slice B1 ro.length b1, .slice C1 ni d1, .int .i64 lo, .int .i64 hi] 26)).alloc (.cells #[.int .i64 kd, .slice A2 na c2, .slice B2 ro.length b2, .slice C2 ni d2, .int .i64 lo, .int .i64 hi] 26)) wr) (fun i _ => ro.length - (intOf i).toNat)
  case atStart => exact ⟨0, Nat.zero_le _, rfl, HB2.out, HB2'.out⟩
  case round =>
    obtain ⟨j, hj, rfl, hbr, hbr'⟩ := hrel
    have HBR := Lib.hid hbr
    have HBR' := Lib.hid hbr'
    obtain ⟨s0, s1, s2, s3, s4, s5⟩ := HX.out _ hbr'
    obtain ⟨t0, t1, t2, t3, t4, t5⟩ := HY.out _ hbr'
    by_cases hlt : j < ro.length
    · obtain ⟨gb, go, rfl, hgb, hg⟩ := HR.out.all (by omega)
      obtain ⟨kb, ko, rfl, hkb, hk⟩ := HQ.out.all (by omega)
      obtain ⟨g0, g1, g2⟩ := hg j hlt
      obtain ⟨k0, k1, k2⟩ := hk j hlt
      have l0 := (hbr.cell (p := ⟨gb, go + j * 3, none⟩) hgb).trans g0
      have l1 := (hbr.cell (p := ⟨gb, go + j * 3 + 1, none⟩) hgb).trans g1
      have l2 := (hbr.cell (p := ⟨gb, go + j * 3 + 2, none⟩) hgb).trans g2
      have r0 := (hbr.cell (p := ⟨kb, ko + j * 3, none⟩) hkb).trans k0
      have r1 := (hbr.cell (p := ⟨kb, ko + j * 3 + 1, none⟩) hkb).trans k1
      have r2 := (hbr.cell (p := ⟨kb, ko + j * 3 + 2, none⟩) hkb).trans k2
      have i5 : (j : Int) < (ro.length : Int) := by omega
      have i6 : j < ro.length := hlt
      have HF := Lib.hid HFR.out
      clear g0 g1 g2 k0 k1 k2 hg hk hbr hbr'
      generalize ro.getD j wrow0 = x at *
      obtain ⟨a, b, c⟩ := x
      simp only at l0 l1 l2 r0 r1 r2
      have hd1 := HBR.out.drew
      have hd2 := HBR'.out.drew
      have i7 : ro.length ≤ 100000000000000 := HF.out
      go_wp2_with fail
      go_region
      all_goals
        go_wp2_with fail
        go_roundw
        case rel => exact ⟨j + 1, hlt, by go_num, hd1, hd2⟩
        case measure => simp [intOf]; omega
    · obtain rfl : j = ro.length := by omega
      clear hbr hbr'
      go_wp2_with fail
      go_ret
      exact ⟨rfl, HBR.out⟩
end Go.Proofs.Ytmgolnlkepiocaa
