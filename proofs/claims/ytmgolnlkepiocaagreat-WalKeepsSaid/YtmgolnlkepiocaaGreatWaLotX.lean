/- In one text, written by lotify.py: WaSame, WaSameAll. -/
import Derived.Test.YtmgolnlkepiocaaGreatWaLotK
import Derived.Test.YtmgolnlkepiocaaGreatWaLotN
import Derived.Test.YtmgolnlkepiocaaGreatWaLotH
namespace Go.Proofs.YtmgolnlkepiocaaGreat
open Go.RowKit Go.Maps
set_option linter.unusedVariables false

theorem row_neq (a b c : Int) (w : World) : (binOp .neq 76 (.agg #[.int .i64 a, .int .i64 b, .int .i64 c]) (.agg #[.int .i64 a, .int .i64 b, .int .i64 c])).run Tryz.prog w = .ok (.bool false) w := by
  have hs : ∀ (d : Nat) (xs ys : Array Value) (w : World), (Op.equalIn (d + 1) 74 (.agg xs) (.agg ys)).run Tryz.prog w = (Op.eqFields d xs ys (Tryz.prog.fieldsOf 74).toList).run Tryz.prog w := fun d xs ys w => run_equalIn_agg w d _ xs ys (by kernel_rfl) (by kernel_rfl)
  rw [run_neq_struct, run_equalIn_agg w 9999 _ _ _ (by kernel_rfl) (by kernel_rfl)]
  simp [go_sem, Tryz.underlying76, Tryz.underlying74, Tryz.underlying3, hs]
set_option maxRecDepth 20000 in
set_option maxHeartbeats 1000000 in
theorem recsame_prog (R : RecV) (m n : RecM) (w : World) (h : RecIn w R m) (k : RecIn w R n) (hf : RecFit R) :
    Calls Tryz.prog 44 #[.agg (recC R m).toArray, .agg (recC R n).toArray] w fun e w' => e = .returned (.bool true) ∧ Below w.heap.size w w' := by
  have HW := Lib.hid ((below_one w (.cells (recC R m).toArray 47)).trans ((below_one (w.alloc (.cells (recC R m).toArray 47)) (.cells (recC R n).toArray 47)).mono (by simp)))
  have HI := Lib.hid (fun W (hW : Below w.heap.size w W) => po_same_ref m.ia n.ia R.ids R.ids m.ic n.ic W (h.ids.below hW) (k.ids.below hW) (by have := hf.ids; omega))
  have HL := Lib.hid (fun W (hW : Below w.heap.size w W) => same_ref m.la n.la R.labels R.labels m.lc n.lc W (h.labels.below hW) (k.labels.below hW) (by have := hf.labels; omega) (by have := hf.labels; omega))
  rw [decide_eq_true rfl] at HI HL
  have hX := heap_alloc2_new w (.cells (recC R m).toArray 47) (.cells (recC R n).toArray 47)
  have HX := Lib.hid (fun W (hW : Below (w.heap.size + 2) ((w.alloc (.cells (recC R m).toArray 47)).alloc (.cells (recC R n).toArray 47)) W) => rec_cells (((Row.new w 47 (recC R m).toArray).alloc (.cells (recC R n).toArray 47)).below hW (by omega)) rfl)
  have HY := Lib.hid (fun W (hW : Below (w.heap.size + 2) ((w.alloc (.cells (recC R m).toArray 47)).alloc (.cells (recC R n).toArray 47)) W) => rec_cells ((show Row _ (w.heap.size + 1) 47 (recC R n).toArray from hX).below hW (by omega)) rfl)
  have HR := Lib.hid h.rows
  have HQ := Lib.hid k.rows
  have HFR := Lib.hid (show R.rows.length ≤ 100000000000000 by have := hf.rows; omega)
  clear h k hf hX
  obtain ⟨kd, la, ro, ids, lo, hi⟩ := R
  obtain ⟨A1, c1, B1, b1, C1, d1⟩ := m
  obtain ⟨A2, c2, B2, b2, C2, d2⟩ := n
  simp only [recC] at *
  obtain ⟨x0, x1, x2, x3, x4, x5⟩ := HX.out _ (Below.refl _ _)
  obtain ⟨y0, y1, y2, y3, y4, y5⟩ := HY.out _ (Below.refl _ _)
  generalize la.length = na at *
  generalize ids.length = ni at *
  have i0 : (kd != kd) = false := by simp
  have i1 : (lo != lo) = false := by simp
  have i2 : (hi != hi) = false := by simp
  have i3 : ((na : Int) != (na : Int)) = false := by simp
  have i4 : ((ro.length : Int) != (ro.length : Int)) = false := by simp
  have HN := row_neq
  go_enter Tryz.func44, Tryz.ntmps44
  go_wp2_with (first
    | (go_at_call 82; refine (HI.out _ HW.out).mono ?_; rintro e w1 ⟨rfl, hb1⟩
       have HB1 := Lib.hid (HW.out.trans (hb1.mono HW.out.size))
       have HB1' := Lib.hid (hb1.mono (show w.heap.size + 2 ≤ _ by simp))
       obtain ⟨u0, u1, u2, u3, u4, u5⟩ := HX.out _ HB1'.out
       obtain ⟨v0, v1, v2, v3, v4, v5⟩ := HY.out _ HB1'.out
       have HZ1 := Lib.hid (show w.heap.size + 2 ≤ w1.heap.size by have := hb1.size; simp at this; omega)
       clear hb1)
    | (go_at_call 83; refine (HL.out _ HB1.out).mono ?_; rintro e w2 ⟨rfl, hb2⟩
       have HB2 := Lib.hid (below_then HB1.out hb2)
       have HB2' := Lib.hid (HB1'.out.trans (hb2.mono HZ1.out))
       obtain ⟨p0, p1, p2, p3, p4, p5⟩ := HX.out _ HB2'.out
       obtain ⟨q0, q1, q2, q3, q4, q5⟩ := HY.out _ HB2'.out
       clear hb2))
  go_loopw [5] (fun i wr => ∃ j : Nat, j ≤ ro.length ∧ i = .int .i64 (j : Int) ∧ Below w.heap.size w wr ∧ Below (w.heap.size + 2) ((w.alloc (.cells #[.int .i64 kd, .slice A1 na c1, .slice B1 ro.length b1, .slice C1 ni d1, .int .i64 lo, .int .i64 hi] 47)).alloc (.cells #[.int .i64 kd, .slice A2 na c2, .slice B2 ro.length b2, .slice C2 ni d2, .int .i64 lo, .int .i64 hi] 47)) wr) (fun i _ => ro.length - (intOf i).toNat)
  case atStart => exact ⟨0, Nat.zero_le _, rfl, HB2.out, HB2'.out⟩
  case round =>
    obtain ⟨j, hj, rfl, hbr, hbr'⟩ := hrel
    have HBR := Lib.hid hbr
    have HBR' := Lib.hid hbr'
    obtain ⟨s0, s1, s2, s3, s4, s5⟩ := HX.out _ hbr'
    obtain ⟨t0, t1, t2, t3, t4, t5⟩ := HY.out _ hbr'
    by_cases hlt : j < ro.length
    · obtain ⟨gb, go, rfl, hgb, hg⟩ := HR.out.all (by omega)
      obtain ⟨kb, ko, rfl, hkb, hk⟩ := HQ.out.all (by omega)
      obtain ⟨g0, g1, g2⟩ := hg j hlt
      obtain ⟨k0, k1, k2⟩ := hk j hlt
      have l0 := (hbr.cell (p := ⟨gb, go + j * 3, none⟩) hgb).trans g0
      have l1 := (hbr.cell (p := ⟨gb, go + j * 3 + 1, none⟩) hgb).trans g1
      have l2 := (hbr.cell (p := ⟨gb, go + j * 3 + 2, none⟩) hgb).trans g2
      have r0 := (hbr.cell (p := ⟨kb, ko + j * 3, none⟩) hkb).trans k0
      have r1 := (hbr.cell (p := ⟨kb, ko + j * 3 + 1, none⟩) hkb).trans k1
      have r2 := (hbr.cell (p := ⟨kb, ko + j * 3 + 2, none⟩) hkb).trans k2
      have i5 : (j : Int) < (ro.length : Int) := by omega
      have i6 : j < ro.length := hlt
      have HF := Lib.hid HFR.out
      clear g0 g1 g2 k0 k1 k2 hg hk hbr hbr'
      generalize ro.getD j wrow0 = x at *
      obtain ⟨a, b, c⟩ := x
      simp only at l0 l1 l2 r0 r1 r2
      have hd1 := HBR.out.drew
      have hd2 := HBR'.out.drew
      have i7 : ro.length ≤ 100000000000000 := HF.out
      go_wp2_with fail
      go_region
      all_goals
        go_wp2_with fail
        go_roundw
        case rel => exact ⟨j + 1, hlt, by go_num, hd1, hd2⟩
        case measure => simp [intOf]; omega
    · obtain rfl : j = ro.length := by omega
      clear hbr hbr'
      go_wp2_with fail
      go_ret
      exact ⟨rfl, HBR.out⟩
end Go.Proofs.YtmgolnlkepiocaaGreat

namespace Go.Proofs.YtmgolnlkepiocaaGreat
open Go.RowKit Go.Maps
set_option linter.unusedVariables false

theorem recs_at {w w' : World} {gb go : Nat} {ps : List Pl} {i : Nat} (hgb : gb < w.heap.size) (hb : Below w.heap.size w w') (hg : ∀ j u, (plE (ps.getD i pl0))[j]? = some u → w.cell? ⟨gb, go + i * 6 + j, none⟩ = some u) {R : RecV} {m : RecM} (e : ps.getD i pl0 = (R, m)) :
    w'.cell? ⟨gb, go + i * 6, none⟩ = some (.int .i64 R.kind) ∧ w'.cell? ⟨gb, go + i * 6 + 1, none⟩ = some (.slice m.la R.labels.length m.lc) ∧ w'.cell? ⟨gb, go + i * 6 + 2, none⟩ = some (.slice m.ra R.rows.length m.rc) ∧
    w'.cell? ⟨gb, go + i * 6 + 3, none⟩ = some (.slice m.ia R.ids.length m.ic) ∧ w'.cell? ⟨gb, go + i * 6 + 4, none⟩ = some (.int .i64 R.low) ∧ w'.cell? ⟨gb, go + i * 6 + 5, none⟩ = some (.int .i64 R.high) := by
  rw [e] at hg
  exact ⟨(hb.cell (p := ⟨gb, go + i * 6, none⟩) hgb).trans (hg 0 _ rfl), (hb.cell (p := ⟨gb, go + i * 6 + 1, none⟩) hgb).trans (hg 1 _ rfl), (hb.cell (p := ⟨gb, go + i * 6 + 2, none⟩) hgb).trans (hg 2 _ rfl),
    (hb.cell (p := ⟨gb, go + i * 6 + 3, none⟩) hgb).trans (hg 3 _ rfl), (hb.cell (p := ⟨gb, go + i * 6 + 4, none⟩) hgb).trans (hg 4 _ rfl), (hb.cell (p := ⟨gb, go + i * 6 + 5, none⟩) hgb).trans (hg 5 _ rfl)⟩
theorem fst_at {ps qs : List Pl} (he : ps.map Prod.fst = qs.map Prod.fst) (i : Nat) : (ps.getD i pl0).1 = (qs.getD i pl0).1 := by
  have h : (ps.map Prod.fst)[i]? = (qs.map Prod.fst)[i]? := by rw [he]
  rw [List.getElem?_map, List.getElem?_map] at h
  rw [List.getD_eq_getElem?_getD, List.getD_eq_getElem?_getD]
  cases h1 : ps[i]? <;> cases h2 : qs[i]? <;> rw [h1, h2] at h <;> simp at h
  · show (_ : Pl).1 = (_ : Pl).1
    exact h
set_option maxRecDepth 20000 in
set_option maxHeartbeats 2000000 in
theorem sameall_prog (ps qs : List Pl) (he : ps.map Prod.fst = qs.map Prod.fst) (A B : Option Addr) (c c' : Nat) (w : World) (hA : Recs w A ps) (hB : Recs w B qs) (hf : ∀ x ∈ ps, RecFit x.1) (hl : ps.length ≤ 1000000000) :
    Calls Tryz.prog 19 #[.slice A ps.length c, .slice B qs.length c'] w fun e w' => e = .returned (.bool true) ∧ Below w.heap.size w w' := by
  have hle : qs.length = ps.length := by have := congrArg List.length he; simpa using this.symm
  have HA := Lib.hid hA
  have HB := Lib.hid hB
  have HF := Lib.hid hf
  have HE := Lib.hid (fst_at he)
  have HL := Lib.hid hl
  have HQ := Lib.hid hle
  rw [hle]
  have i0 : ((ps.length : Int) != (ps.length : Int)) = false := by simp
  clear hA hB hf he hl hle
  go_enter Tryz.func19, Tryz.ntmps19
  go_wp2_with fail
  go_loopw [5] (fun i wr => ∃ j : Nat, j ≤ ps.length ∧ i = .int .i64 (j : Int) ∧ Below w.heap.size w wr) (fun i _ => ps.length - (intOf i).toNat)
  case atStart => exact ⟨0, Nat.zero_le _, rfl, Below.refl _ _⟩
  case round =>
    obtain ⟨j, hj, rfl, hbr⟩ := hrel
    have HBR := Lib.hid hbr
    by_cases hlt : j < ps.length
    · obtain ⟨gb, go, rfl, hgb, hg⟩ := HA.out.all (by omega)
      obtain ⟨kb, ko, rfl, hkb, hk⟩ := HB.out.all (by have := HQ.out; omega)
      obtain ⟨hi1, hg⟩ := hg j hlt
      obtain ⟨hi2, hk⟩ := hk j (by have := HQ.out; omega)
      have hfit : RecFit (ps.getD j pl0).1 := HF.out _ (List.mem_of_getElem? (getD_some ps pl0 hlt))
      have heq := HE.out j
      obtain ⟨⟨R, m⟩, e1⟩ : ∃ x, ps.getD j pl0 = x := ⟨_, rfl⟩
      obtain ⟨⟨R2, n⟩, e2⟩ : ∃ x, qs.getD j pl0 = x := ⟨_, rfl⟩
      rw [e1] at hi1 hfit heq
      rw [e2] at hi2 heq
      simp only at hi1 hi2 hfit heq
      subst heq
      obtain ⟨g0, g1, g2, g3, g4, g5⟩ := recs_at hgb hbr hg e1
      obtain ⟨k0, k1, k2, k3, k4, k5⟩ := recs_at hkb hbr hk e2
      have HS := Lib.hid (fun W (hW : Below w.heap.size w W) => recsame_prog R m n W (hi1.below hW) (hi2.below hW) hfit)
      have i1 : (j : Int) < (ps.length : Int) := by omega
      have i7 : j < ps.length := hlt
      have hlb := HL.out
      clear hg hk e1 e2 hi1 hi2 hfit hbr
      obtain ⟨kd, la, ro, ids, lo, hi⟩ := R
      obtain ⟨A1, c1, B1, b1, C1, d1⟩ := m
      obtain ⟨A2, c2, B2, b2, C2, d2⟩ := n
      simp only [recC] at *
      generalize la.length = na at *
      generalize ro.length = nr at *
      generalize ids.length = ni at *
      go_wp2_with fail
      go_region_with (first | (go_at_call 44; (refine (HS.out _ HBR.out.drew).mono ?_; rintro e w1 ⟨rfl, hb1⟩; have HB1 := Lib.hid (HBR.out.drew.trans (hb1.mono HBR.out.size)); clear hb1)))
      all_goals
        go_wp2_with fail
        go_roundw
        case rel => exact ⟨j + 1, hlt, by go_num, HB1.out⟩
        case measure => simp [intOf]; omega
    · obtain rfl : j = ps.length := by omega
      clear hbr
      go_wp2_with fail
      go_ret
      exact ⟨rfl, HBR.out⟩
theorem sameall_n (ps qs : List Pl) (n : Nat) (h1 : ps.length = n) (he : ps.map Prod.fst = qs.map Prod.fst) (A B : Option Addr) (c c' : Nat) (w : World) (hA : Recs w A ps) (hB : Recs w B qs) (hf : ∀ x ∈ ps, RecFit x.1) (hl : n ≤ 1000000000) :
    Calls Tryz.prog 19 #[.slice A n c, .slice B n c'] w fun e w' => e = .returned (.bool true) ∧ Below w.heap.size w w' := by
  have h2 : qs.length = n := by have := congrArg List.length he; simpa [h1] using this.symm
  have := sameall_prog ps qs he A B c c' w hA hB hf (by omega)
  rwa [h1, h2] at this
theorem rights_fit {ps : List Pl} {rs : List RecV} (h : ps.map Prod.fst = rs) (hr : ∀ r ∈ rs, recChk r = 0) : ∀ x ∈ ps, RecFit x.1 := fun x hx => right_fit (hr x.1 (by rw [← h]; exact List.mem_map.2 ⟨x, hx, rfl⟩))
end Go.Proofs.YtmgolnlkepiocaaGreat
