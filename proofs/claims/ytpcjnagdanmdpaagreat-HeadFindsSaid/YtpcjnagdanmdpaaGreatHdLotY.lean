/- In one text, written by lotify.py: WaRefChk, HdRefDo. -/
import Derived.Test.YtpcjnagdanmdpaaGreatHdLotS
namespace Go.Proofs.YtpcjnagdanmdpaaGreat
open Go.RowKit Go.Maps
set_option linter.unusedVariables false
set_option maxRecDepth 20000 in
set_option maxHeartbeats 2000000 in
theorem refrows_prog (A : Option Addr) (l : List Wrow) (c : Nat) (w : World) (hA : Wrows w A l) (hl : l.length ≤ 100000000000000) :
    Calls Tryz.prog 59 #[.slice A l.length c] w fun e w' => e = .returned (.int .i64 (rowsChk l)) ∧ Below w.heap.size w w' := by
  by_cases h0 : l.length = 0
  · have e : rowsChk l = 2 := by unfold rowsChk; rw [if_pos (.inl h0)]
    rw [e, h0]
    clear e
    go_enter Tryz.func59, Tryz.ntmps59
    go_wp2
    go_ret
    exact ⟨rfl, Below.refl _ _⟩
  have i0 : ((l.length : Int) == 0) = false := by rw [beq_eq_false_iff_ne]; omega
  by_cases h1 : 64 < l.length
  · have e : rowsChk l = 2 := by unfold rowsChk; rw [if_pos (.inr h1)]
    rw [e]
    clear e
    have i1 : decide ((64 : Int) < (l.length : Int)) = true := by simp; omega
    go_enter Tryz.func59, Tryz.ntmps59
    go_wp2
    go_ret
    exact ⟨rfl, Below.refl _ _⟩
  have hC := Lib.hid (show rowsErr (l.drop 0) = rowsChk l by unfold rowsChk; rw [if_neg (by omega), List.drop_zero])
  obtain ⟨b, o, rfl, hb, hc⟩ := hA.all (by omega)
  have Hc := Lib.hid hc
  have i1 : decide ((64 : Int) < (l.length : Int)) = false := by simp; omega
  clear hc hA
  go_enter Tryz.func59, Tryz.ntmps59
  go_wp2_with fail
  go_loopw [3] (fun i wr => ∃ k : Nat, k ≤ l.length ∧ i = .int .i64 (k : Int) ∧ rowsErr (l.drop k) = rowsChk l ∧ Below w.heap.size w wr) (fun i _ => l.length - (intOf i).toNat)
  case atStart => exact ⟨0, Nat.zero_le _, rfl, hC.out, Below.refl _ _⟩
  case round =>
    obtain ⟨k, hk, rfl, he, hbr⟩ := hrel
    have hsz := hbr.size
    have HBR := Lib.hid hbr
    by_cases hlt : k < l.length
    · obtain ⟨g0, g1, g2⟩ := Hc.out k hlt
      have c0 := (hbr.cell (p := ⟨b, o + k * 3, none⟩) hb).trans g0
      have c1 := (hbr.cell (p := ⟨b, o + k * 3 + 1, none⟩) hb).trans g1
      have c2 := (hbr.cell (p := ⟨b, o + k * 3 + 2, none⟩) hb).trans g2
      have i2 : (k : Int) < (l.length : Int) := by omega
      rw [wrow_drop l hlt] at he
      have HE := Lib.hid he
      clear he g0 g1 g2
      rw [rowsErr] at HE
      generalize l.getD k wrow0 = x at *
      obtain ⟨id, t, v⟩ := x
      simp only at c0 c1 c2
      by_cases hid0 : id < 0
      · have eA : wrowErr (id, t, v) = 2 := by unfold wrowErr; rw [if_pos (.inl hid0)]
        rw [eA, if_neg (by decide)] at HE
        have i3 : decide (id < 0) = true := decide_eq_true hid0
        clear hbr
        go_wp2_with fail
        go_ret
        exact ⟨by rw [← HE.out]; rfl, HBR.out⟩
      · have i3 : decide (id < 0) = false := decide_eq_false hid0
        by_cases hid1 : 1099511627776 < id
        · have eA : wrowErr (id, t, v) = 2 := by unfold wrowErr; rw [if_pos (.inr hid1)]
          rw [eA, if_neg (by decide)] at HE
          have i4 : decide (1099511627776 < id) = true := decide_eq_true hid1
          clear hbr
          go_wp2_with fail
          go_ret
          exact ⟨by rw [← HE.out]; rfl, HBR.out⟩
        · have i4 : decide (1099511627776 < id) = false := decide_eq_false hid1
          have HM := Lib.hid (Ch.may_ref t v wr)
          cases hm : Ch.mayB (t, v)
          · have eA : wrowErr (id, t, v) = 11 := by unfold wrowErr; rw [if_neg (by simp only; omega), if_pos hm]
            rw [eA, if_neg (by decide)] at HE
            rw [hm] at HM
            clear hbr hm eA
            go_wp2_with (go_at_call 82; refine HM.out.mono ?_; rintro e w1 ⟨rfl, hb1⟩; have HB1 := Lib.hid (HBR.out.trans (hb1.mono HBR.out.size)); clear hb1)
            go_ret
            exact ⟨by rw [← HE.out]; rfl, HB1.out⟩
          · have eA : wrowErr (id, t, v) = 0 := by unfold wrowErr; rw [if_neg (by simp only; omega), if_neg (by rw [hm]; decide)]
            rw [eA, if_pos rfl] at HE
            rw [hm] at HM
            clear hbr hm eA
            go_wp2_with (go_at_call 82; refine HM.out.mono ?_; rintro e w1 ⟨rfl, hb1⟩; have HB1 := Lib.hid (HBR.out.trans (hb1.mono HBR.out.size)); clear hb1)
            go_roundw
            case rel => exact ⟨k + 1, hlt, by go_num, HE.out, HB1.out⟩
            case measure => simp [intOf]; omega
    · obtain rfl : k = l.length := by omega
      rw [List.drop_length] at he
      have HE := Lib.hid he
      clear he hbr
      go_wp2_with fail
      go_ret
      exact ⟨by rw [← HE.out]; rfl, HBR.out⟩
set_option maxRecDepth 20000 in
set_option maxHeartbeats 2000000 in
theorem refcheck_odd (R : RecV) (m : RecM) (w : World) (h : RecIn w R m) (hf : RecFit R) (hk : ¬ (R.kind = 1 ∨ R.kind = 2 ∨ R.kind = 3)) :
    Calls Tryz.prog 26 #[.agg (recC R m).toArray] w fun e w' => e = .returned (.int .i64 (recChk R)) ∧ Below w.heap.size w w' := by
  have HB0 := Lib.hid (below_one w (.cells (recC R m).toArray 33))
  have HL := Lib.hid (fun W (hW : Below w.heap.size w W) => lbchk_ref m.la R.labels m.lc W (h.labels.below hW) (by have := hf.labels; omega) hf.fits)
  have HR := Lib.hid (fun W (hW : Below w.heap.size w W) => refrows_prog m.ra R.rows m.rc W (h.rows.below hW) (by have := hf.rows; omega))
  have HI := Lib.hid (fun W (hW : Below w.heap.size w W) => check_ref m.ia R.ids m.ic W (h.ids.below hW) (by have := hf.ids; omega))
  have HX := Lib.hid (fun W (hW : Below (w.alloc (.cells (recC R m).toArray 33)).heap.size (w.alloc (.cells (recC R m).toArray 33)) W) => rec_cells ((Row.new w 33 (recC R m).toArray).below hW (by simp)) rfl)
  obtain ⟨k, la, ro, ids, lo, hi⟩ := R
  obtain ⟨A, ca, B, cb, C, cc⟩ := m
  simp only [recC] at *
  obtain ⟨x0, x1, x2, x3, x4, x5⟩ := HX.out _ (Below.refl _ _)
  have hchk : recChk ⟨k, la, ro, ids, lo, hi⟩ = if Misfit ⟨k, la, ro, ids, lo, hi⟩ then 2 else if k = 1 then lbChk la else if k = 2 then rowsChk ro else delChk ids lo hi := rfl
  obtain ⟨E, hE⟩ : ∃ E, recChk ⟨k, la, ro, ids, lo, hi⟩ = E := ⟨_, rfl⟩
  rw [hE] at hchk ⊢
  clear h hf hE
  try simp only at hk
  have hE : E = 2 := by rw [hchk, if_pos (.inl hk)]
  subst hE
  clear hchk HL HR HI
  by_cases h1 : k < 1
  · have i0 : decide (k < 1) = true := decide_eq_true h1
    clear hk
    go_enter Tryz.func26, Tryz.ntmps26
    go_wp2_with fail
    go_ret
    exact ⟨rfl, HB0.out⟩
  · have i0 : decide (k < 1) = false := decide_eq_false h1
    have h3 : 3 < k := by omega
    have i1 : decide (3 < k) = true := decide_eq_true h3
    clear hk
    go_enter Tryz.func26, Tryz.ntmps26
    go_wp2_with fail
    go_ret
    exact ⟨rfl, HB0.out⟩
set_option maxRecDepth 20000 in
set_option maxHeartbeats 2000000 in
theorem refcheck_k1 (R : RecV) (m : RecM) (w : World) (h : RecIn w R m) (hf : RecFit R) (hk : R.kind = 1) :
    Calls Tryz.prog 26 #[.agg (recC R m).toArray] w fun e w' => e = .returned (.int .i64 (recChk R)) ∧ Below w.heap.size w w' := by
  have HB0 := Lib.hid (below_one w (.cells (recC R m).toArray 33))
  have HL := Lib.hid (fun W (hW : Below w.heap.size w W) => lbchk_ref m.la R.labels m.lc W (h.labels.below hW) (by have := hf.labels; omega) hf.fits)
  have HR := Lib.hid (fun W (hW : Below w.heap.size w W) => refrows_prog m.ra R.rows m.rc W (h.rows.below hW) (by have := hf.rows; omega))
  have HI := Lib.hid (fun W (hW : Below w.heap.size w W) => check_ref m.ia R.ids m.ic W (h.ids.below hW) (by have := hf.ids; omega))
  have HX := Lib.hid (fun W (hW : Below (w.alloc (.cells (recC R m).toArray 33)).heap.size (w.alloc (.cells (recC R m).toArray 33)) W) => rec_cells ((Row.new w 33 (recC R m).toArray).below hW (by simp)) rfl)
  obtain ⟨k, la, ro, ids, lo, hi⟩ := R
  obtain ⟨A, ca, B, cb, C, cc⟩ := m
  simp only [recC] at *
  obtain ⟨x0, x1, x2, x3, x4, x5⟩ := HX.out _ (Below.refl _ _)
  have hchk : recChk ⟨k, la, ro, ids, lo, hi⟩ = if Misfit ⟨k, la, ro, ids, lo, hi⟩ then 2 else if k = 1 then lbChk la else if k = 2 then rowsChk ro else delChk ids lo hi := rfl
  obtain ⟨E, hE⟩ : ∃ E, recChk ⟨k, la, ro, ids, lo, hi⟩ = E := ⟨_, rfl⟩
  rw [hE] at hchk ⊢
  clear h hf hE
  try simp only at hk
  subst hk
  by_cases h_ro : 0 < ro.length
  · have p_ro : decide ((0 : Int) < (ro.length : Int)) = true := decide_eq_true (by omega)
    have p2_ro : (0 : Int) < (ro.length : Int) := by omega
    have p3_ro : 0 < ro.length := by omega
    have hE : E = 2 := by rw [hchk, if_pos (by unfold Misfit; dsimp only; omega)]
    subst hE
    clear hchk HL HR HI
    go_enter Tryz.func26, Tryz.ntmps26
    go_wp2_with fail
    go_ret
    exact ⟨rfl, HB0.out⟩
  · have p_ro : decide ((0 : Int) < (ro.length : Int)) = false := decide_eq_false (by omega)
    have p2_ro : ¬ (0 : Int) < (ro.length : Int) := by omega
    have p3_ro : ¬ 0 < ro.length := by omega
    by_cases h_ids : 0 < ids.length
    · have p_ids : decide ((0 : Int) < (ids.length : Int)) = true := decide_eq_true (by omega)
      have p2_ids : (0 : Int) < (ids.length : Int) := by omega
      have p3_ids : 0 < ids.length := by omega
      have hE : E = 2 := by rw [hchk, if_pos (by unfold Misfit; dsimp only; omega)]
      subst hE
      clear hchk HL HR HI
      go_enter Tryz.func26, Tryz.ntmps26
      go_wp2_with fail
      go_ret
      exact ⟨rfl, HB0.out⟩
    · have p_ids : decide ((0 : Int) < (ids.length : Int)) = false := decide_eq_false (by omega)
      have p2_ids : ¬ (0 : Int) < (ids.length : Int) := by omega
      have p3_ids : ¬ 0 < ids.length := by omega
      by_cases h_lo : lo = 0
      · subst h_lo
        by_cases h_hi : hi = 0
        · subst h_hi
          have hE : E = lbChk la := by rw [hchk, if_neg (by unfold Misfit; dsimp only; omega), if_pos rfl]
          rw [← hE] at HL
          clear hchk HR HI hE
          go_enter Tryz.func26, Tryz.ntmps26
          go_wp2_with (go_at_call 12; refine (HL.out _ HB0.out).mono ?_; rintro e w1 ⟨rfl, hb1⟩; have HB1 := Lib.hid (below_then HB0.out hb1); clear hb1)
          go_ret
          exact ⟨rfl, HB1.out⟩
        · have p_hi : (hi != 0) = true := bne_iff_ne.2 h_hi
          have hE : E = 2 := by rw [hchk, if_pos (by unfold Misfit; dsimp only; omega)]
          subst hE
          clear hchk HL HR HI
          go_enter Tryz.func26, Tryz.ntmps26
          go_wp2_with fail
          go_ret
          exact ⟨rfl, HB0.out⟩
      · have p_lo : (lo != 0) = true := bne_iff_ne.2 h_lo
        have hE : E = 2 := by rw [hchk, if_pos (by unfold Misfit; dsimp only; omega)]
        subst hE
        clear hchk HL HR HI
        go_enter Tryz.func26, Tryz.ntmps26
        go_wp2_with fail
        go_ret
        exact ⟨rfl, HB0.out⟩
set_option maxRecDepth 20000 in
set_option maxHeartbeats 2000000 in
theorem refcheck_k2 (R : RecV) (m : RecM) (w : World) (h : RecIn w R m) (hf : RecFit R) (hk : R.kind = 2) :
    Calls Tryz.prog 26 #[.agg (recC R m).toArray] w fun e w' => e = .returned (.int .i64 (recChk R)) ∧ Below w.heap.size w w' := by
  have HB0 := Lib.hid (below_one w (.cells (recC R m).toArray 33))
  have HL := Lib.hid (fun W (hW : Below w.heap.size w W) => lbchk_ref m.la R.labels m.lc W (h.labels.below hW) (by have := hf.labels; omega) hf.fits)
  have HR := Lib.hid (fun W (hW : Below w.heap.size w W) => refrows_prog m.ra R.rows m.rc W (h.rows.below hW) (by have := hf.rows; omega))
  have HI := Lib.hid (fun W (hW : Below w.heap.size w W) => check_ref m.ia R.ids m.ic W (h.ids.below hW) (by have := hf.ids; omega))
  have HX := Lib.hid (fun W (hW : Below (w.alloc (.cells (recC R m).toArray 33)).heap.size (w.alloc (.cells (recC R m).toArray 33)) W) => rec_cells ((Row.new w 33 (recC R m).toArray).below hW (by simp)) rfl)
  obtain ⟨k, la, ro, ids, lo, hi⟩ := R
  obtain ⟨A, ca, B, cb, C, cc⟩ := m
  simp only [recC] at *
  obtain ⟨x0, x1, x2, x3, x4, x5⟩ := HX.out _ (Below.refl _ _)
  have hchk : recChk ⟨k, la, ro, ids, lo, hi⟩ = if Misfit ⟨k, la, ro, ids, lo, hi⟩ then 2 else if k = 1 then lbChk la else if k = 2 then rowsChk ro else delChk ids lo hi := rfl
  obtain ⟨E, hE⟩ : ∃ E, recChk ⟨k, la, ro, ids, lo, hi⟩ = E := ⟨_, rfl⟩
  rw [hE] at hchk ⊢
  clear h hf hE
  try simp only at hk
  subst hk
  by_cases h_la : 0 < la.length
  · have p_la : decide ((0 : Int) < (la.length : Int)) = true := decide_eq_true (by omega)
    have p2_la : (0 : Int) < (la.length : Int) := by omega
    have p3_la : 0 < la.length := by omega
    have hE : E = 2 := by rw [hchk, if_pos (by unfold Misfit; dsimp only; omega)]
    subst hE
    clear hchk HL HR HI
    go_enter Tryz.func26, Tryz.ntmps26
    go_wp2_with fail
    go_ret
    exact ⟨rfl, HB0.out⟩
  · have p_la : decide ((0 : Int) < (la.length : Int)) = false := decide_eq_false (by omega)
    have p2_la : ¬ (0 : Int) < (la.length : Int) := by omega
    have p3_la : ¬ 0 < la.length := by omega
    by_cases h_ids : 0 < ids.length
    · have p_ids : decide ((0 : Int) < (ids.length : Int)) = true := decide_eq_true (by omega)
      have p2_ids : (0 : Int) < (ids.length : Int) := by omega
      have p3_ids : 0 < ids.length := by omega
      have hE : E = 2 := by rw [hchk, if_pos (by unfold Misfit; dsimp only; omega)]
      subst hE
      clear hchk HL HR HI
      go_enter Tryz.func26, Tryz.ntmps26
      go_wp2_with fail
      go_ret
      exact ⟨rfl, HB0.out⟩
    · have p_ids : decide ((0 : Int) < (ids.length : Int)) = false := decide_eq_false (by omega)
      have p2_ids : ¬ (0 : Int) < (ids.length : Int) := by omega
      have p3_ids : ¬ 0 < ids.length := by omega
      by_cases h_lo : lo = 0
      · subst h_lo
        by_cases h_hi : hi = 0
        · subst h_hi
          have hE : E = rowsChk ro := by rw [hchk, if_neg (by unfold Misfit; dsimp only; omega), if_neg (by decide), if_pos rfl]
          rw [← hE] at HR
          clear hchk HL HI hE
          go_enter Tryz.func26, Tryz.ntmps26
          go_wp2_with (go_at_call 59; refine (HR.out _ HB0.out).mono ?_; rintro e w1 ⟨rfl, hb1⟩; have HB1 := Lib.hid (below_then HB0.out hb1); clear hb1)
          go_ret
          exact ⟨rfl, HB1.out⟩
        · have p_hi : (hi != 0) = true := bne_iff_ne.2 h_hi
          have hE : E = 2 := by rw [hchk, if_pos (by unfold Misfit; dsimp only; omega)]
          subst hE
          clear hchk HL HR HI
          go_enter Tryz.func26, Tryz.ntmps26
          go_wp2_with fail
          go_ret
          exact ⟨rfl, HB0.out⟩
      · have p_lo : (lo != 0) = true := bne_iff_ne.2 h_lo
        have hE : E = 2 := by rw [hchk, if_pos (by unfold Misfit; dsimp only; omega)]
        subst hE
        clear hchk HL HR HI
        go_enter Tryz.func26, Tryz.ntmps26
        go_wp2_with fail
        go_ret
        exact ⟨rfl, HB0.out⟩
set_option maxRecDepth 20000 in
set_option maxHeartbeats 2000000 in
theorem refcheck_k3 (R : RecV) (m : RecM) (w : World) (h : RecIn w R m) (hf : RecFit R) (hk : R.kind = 3) :
    Calls Tryz.prog 26 #[.agg (recC R m).toArray] w fun e w' => e = .returned (.int .i64 (recChk R)) ∧ Below w.heap.size w w' := by
  have HB0 := Lib.hid (below_one w (.cells (recC R m).toArray 33))
  have HL := Lib.hid (fun W (hW : Below w.heap.size w W) => lbchk_ref m.la R.labels m.lc W (h.labels.below hW) (by have := hf.labels; omega) hf.fits)
  have HR := Lib.hid (fun W (hW : Below w.heap.size w W) => refrows_prog m.ra R.rows m.rc W (h.rows.below hW) (by have := hf.rows; omega))
  have HI := Lib.hid (fun W (hW : Below w.heap.size w W) => check_ref m.ia R.ids m.ic W (h.ids.below hW) (by have := hf.ids; omega))
  have HX := Lib.hid (fun W (hW : Below (w.alloc (.cells (recC R m).toArray 33)).heap.size (w.alloc (.cells (recC R m).toArray 33)) W) => rec_cells ((Row.new w 33 (recC R m).toArray).below hW (by simp)) rfl)
  obtain ⟨k, la, ro, ids, lo, hi⟩ := R
  obtain ⟨A, ca, B, cb, C, cc⟩ := m
  simp only [recC] at *
  obtain ⟨x0, x1, x2, x3, x4, x5⟩ := HX.out _ (Below.refl _ _)
  have hchk : recChk ⟨k, la, ro, ids, lo, hi⟩ = if Misfit ⟨k, la, ro, ids, lo, hi⟩ then 2 else if k = 1 then lbChk la else if k = 2 then rowsChk ro else delChk ids lo hi := rfl
  obtain ⟨E, hE⟩ : ∃ E, recChk ⟨k, la, ro, ids, lo, hi⟩ = E := ⟨_, rfl⟩
  rw [hE] at hchk ⊢
  clear h hf hE
  try simp only at hk
  subst hk
  by_cases h_la : 0 < la.length
  · have p_la : decide ((0 : Int) < (la.length : Int)) = true := decide_eq_true (by omega)
    have p2_la : (0 : Int) < (la.length : Int) := by omega
    have p3_la : 0 < la.length := by omega
    have hE : E = 2 := by rw [hchk, if_pos (by unfold Misfit; dsimp only; omega)]
    subst hE
    clear hchk HL HR HI
    go_enter Tryz.func26, Tryz.ntmps26
    go_wp2_with fail
    go_ret
    exact ⟨rfl, HB0.out⟩
  · have p_la : decide ((0 : Int) < (la.length : Int)) = false := decide_eq_false (by omega)
    have p2_la : ¬ (0 : Int) < (la.length : Int) := by omega
    have p3_la : ¬ 0 < la.length := by omega
    by_cases h_ro : 0 < ro.length
    · have p_ro : decide ((0 : Int) < (ro.length : Int)) = true := decide_eq_true (by omega)
      have p2_ro : (0 : Int) < (ro.length : Int) := by omega
      have p3_ro : 0 < ro.length := by omega
      have hE : E = 2 := by rw [hchk, if_pos (by unfold Misfit; dsimp only; omega)]
      subst hE
      clear hchk HL HR HI
      go_enter Tryz.func26, Tryz.ntmps26
      go_wp2_with fail
      go_ret
      exact ⟨rfl, HB0.out⟩
    · have p_ro : decide ((0 : Int) < (ro.length : Int)) = false := decide_eq_false (by omega)
      have p2_ro : ¬ (0 : Int) < (ro.length : Int) := by omega
      have p3_ro : ¬ 0 < ro.length := by omega
      have hE : E = delChk ids lo hi := by rw [hchk, if_neg (by unfold Misfit; dsimp only; omega), if_neg (by decide), if_neg (by decide)]
      unfold delChk at hE
      clear hchk HL HR
      generalize la.length = na at *
      generalize ro.length = nr at *
      generalize ids.length = ni at *
      by_cases g1 : pchk ids = 0
      · rw [if_neg (by simpa using g1)] at hE
        rw [g1] at HI
        by_cases g2 : ni = 0
        · rw [if_pos g2] at hE
          subst hE
          have e0 : ((ni : Int) == 0) = true := by rw [beq_iff_eq]; omega
          try clear g5
          try clear g4
          try clear g3
          try clear g2
          try clear g1
          go_enter Tryz.func26, Tryz.ntmps26
          go_wp2_with (go_at_call 60; refine (HI.out _ HB0.out).mono ?_; rintro e w1 ⟨rfl, hb1⟩; obtain ⟨y0, y1, y2, y3, y4, y5⟩ := HX.out _ hb1; have HB1 := Lib.hid (below_then HB0.out hb1); clear hb1)
          go_ret
          exact ⟨rfl, HB1.out⟩
        · rw [if_neg g2] at hE
          have e0 : ((ni : Int) == 0) = false := by rw [beq_eq_false_iff_ne]; omega
          by_cases g3 : lo < 0
          · rw [if_pos (.inl g3)] at hE
            subst hE
            have e1 : decide (lo < 0) = true := decide_eq_true g3
            try clear g5
            try clear g4
            try clear g3
            try clear g2
            try clear g1
            go_enter Tryz.func26, Tryz.ntmps26
            go_wp2_with (go_at_call 60; refine (HI.out _ HB0.out).mono ?_; rintro e w1 ⟨rfl, hb1⟩; obtain ⟨y0, y1, y2, y3, y4, y5⟩ := HX.out _ hb1; have HB1 := Lib.hid (below_then HB0.out hb1); clear hb1)
            go_ret
            exact ⟨rfl, HB1.out⟩
          · have e1 : decide (lo < 0) = false := decide_eq_false g3
            by_cases g4 : 1099511627776 < hi
            · rw [if_pos (.inr g4)] at hE
              subst hE
              have e2 : decide (1099511627776 < hi) = true := decide_eq_true g4
              try clear g5
              try clear g4
              try clear g3
              try clear g2
              try clear g1
              go_enter Tryz.func26, Tryz.ntmps26
              go_wp2_with (go_at_call 60; refine (HI.out _ HB0.out).mono ?_; rintro e w1 ⟨rfl, hb1⟩; obtain ⟨y0, y1, y2, y3, y4, y5⟩ := HX.out _ hb1; have HB1 := Lib.hid (below_then HB0.out hb1); clear hb1)
              go_ret
              exact ⟨rfl, HB1.out⟩
            · have e2 : decide (1099511627776 < hi) = false := decide_eq_false g4
              rw [if_neg (by omega)] at hE
              by_cases g5 : hi < lo
              · rw [if_pos g5] at hE
                subst hE
                have e3 : decide (hi < lo) = true := decide_eq_true g5
                try clear g5
                try clear g4
                try clear g3
                try clear g2
                try clear g1
                go_enter Tryz.func26, Tryz.ntmps26
                go_wp2_with (go_at_call 60; refine (HI.out _ HB0.out).mono ?_; rintro e w1 ⟨rfl, hb1⟩; obtain ⟨y0, y1, y2, y3, y4, y5⟩ := HX.out _ hb1; have HB1 := Lib.hid (below_then HB0.out hb1); clear hb1)
                go_ret
                exact ⟨rfl, HB1.out⟩
              · rw [if_neg g5] at hE
                subst hE
                have e3 : decide (hi < lo) = false := decide_eq_false g5
                try clear g5
                try clear g4
                try clear g3
                try clear g2
                try clear g1
                go_enter Tryz.func26, Tryz.ntmps26
                go_wp2_with (go_at_call 60; refine (HI.out _ HB0.out).mono ?_; rintro e w1 ⟨rfl, hb1⟩; obtain ⟨y0, y1, y2, y3, y4, y5⟩ := HX.out _ hb1; have HB1 := Lib.hid (below_then HB0.out hb1); clear hb1)
                go_ret
                exact ⟨rfl, HB1.out⟩
      · rw [if_pos g1] at hE
        rw [← hE] at HI g1
        have e0 : (E != 0) = true := bne_iff_ne.2 g1
        clear hE
        try clear g5
        try clear g4
        try clear g3
        try clear g2
        try clear g1
        go_enter Tryz.func26, Tryz.ntmps26
        go_wp2_with (go_at_call 60; refine (HI.out _ HB0.out).mono ?_; rintro e w1 ⟨rfl, hb1⟩; obtain ⟨y0, y1, y2, y3, y4, y5⟩ := HX.out _ hb1; have HB1 := Lib.hid (below_then HB0.out hb1); clear hb1)
        go_ret
        exact ⟨rfl, HB1.out⟩
theorem refcheck_prog (R : RecV) (m : RecM) (w : World) (h : RecIn w R m) (hf : RecFit R) :
    Calls Tryz.prog 26 #[.agg (recC R m).toArray] w fun e w' => e = .returned (.int .i64 (recChk R)) ∧ Below w.heap.size w w' := by
  by_cases h1 : R.kind = 1
  · exact refcheck_k1 R m w h hf h1
  · by_cases h2 : R.kind = 2
    · exact refcheck_k2 R m w h hf h2
    · by_cases h3 : R.kind = 3
      · exact refcheck_k3 R m w h hf h3
      · exact refcheck_odd R m w h hf (by omega)
end Go.Proofs.YtpcjnagdanmdpaaGreat

namespace Go.Proofs.YtpcjnagdanmdpaaGreat
open Go.RowKit Go.Maps
open Ch
set_option linter.unusedVariables false
set_option linter.unusedSimpArgs false
set_option maxRecDepth 100000
theorem hcnt_step (S : List Ser) {k : Nat} (h : k < S.length) : cntS (S.take (k + 1)) = cntS (S.take k) + (S.getD k ser0).2.length := by
  rw [List.take_add_one, List.getElem?_eq_getElem h, cntS_app, List.getD_eq_getElem?_getD, List.getElem?_eq_getElem h]
  simp [cntS]
theorem hcnt_take (S : List Ser) (k : Nat) : cntS (S.take k) ≤ cntS S := by
  conv => rhs; rw [← List.take_append_drop k S, cntS_app]
  omega
set_option maxHeartbeats 4000000 in
theorem refcount_prog (A : Option Addr) (S : List Ser) (c : Nat) (w : World) (hA : Sers w A S) (hl : S.length ≤ 1000000) (h6 : cntS S ≤ 65536) :
    Calls Tryz.prog 27 #[.slice A S.length c] w fun e w' => e = .returned (.int .i64 (cntS S : Int)) ∧ Below w.heap.size w w' := by
  have HA := Lib.hid hA
  obtain ⟨n, hn⟩ : ∃ n, S.length = n := ⟨_, rfl⟩
  have HN := Lib.hid hn
  rw [hn] at hl ⊢
  have HCS := Lib.hid (fun k (hk : k < n) => hcnt_step S (k := k) (by omega))
  have HCT := Lib.hid (fun k => hcnt_take S k)
  clear hA hn
  go_enter Tryz.func27, Tryz.ntmps27
  go_wp2_with fail
  go_loopw [3, 4] (fun t i wr => ∃ k m : Nat, k ≤ n ∧ i = .int .i64 (k : Int) ∧ t = .int .i64 (m : Int) ∧ m = cntS (S.take k) ∧ m ≤ 65536 ∧ Below w.heap.size w wr) (fun _ i _ => n - (intOf i).toNat)
  case atStart => exact ⟨0, 0, Nat.zero_le _, rfl, rfl, rfl, by omega, Below.refl _ _⟩
  case round =>
    obtain ⟨k, m, hk, rfl, rfl, hm, hmb, hbr⟩ := hrel
    have HB := Lib.hid hbr
    by_cases hlt : k < n
    · have i1 : decide ((k : Int) < (n : Int)) = true := decide_eq_true (by omega)
      have i2 : (k : Int) < (n : Int) := by omega
      have j1 : decide ((m : Int) ≤ 65536) = true := decide_eq_true (by omega)
      have j2 : decide (m ≤ 65536) = true := decide_eq_true hmb
      obtain ⟨b, o, rfl, hb, hat⟩ := HA.out.all (by rw [HN.out]; omega)
      obtain ⟨mm, hsa⟩ := hat k (by rw [HN.out]; exact hlt)
      obtain ⟨_, g1, _⟩ := hsa.below hbr hb
      have hcs := HCS.out k hlt
      have hct := HCT.out (k + 1)
      have HM := Lib.hid (show m + (S.getD k ser0).2.length = cntS (S.take (k + 1)) by omega)
      have hm2 : m + (S.getD k ser0).2.length ≤ 65536 := by omega
      generalize (S.getD k ser0).2.length = l2 at *
      have HM2 := Lib.hid hm2
      have hw1 : IntKind.i64.wrap ((m : Int) + (l2 : Int)) = ((m + l2 : Nat) : Int) := by rw [← Int.natCast_add]; exact IntWalk.i64_in _ (by omega)
      have HK := Lib.hid (show k + 1 ≤ n from hlt)
      clear hbr hat hsa hm hcs hct hm2
      go_wp2_with fail
      go_roundw
      case rel => exact ⟨k + 1, m + l2, HK.out, by go_num, by first | rfl | go_num, HM.out, HM2.out, HB.out⟩
      case measure => simp [intOf]; omega
    · have hkn : k = S.length := by rw [HN.out]; omega
      rw [hkn, List.take_length] at hm
      have i1 : decide ((k : Int) < (n : Int)) = false := decide_eq_false (by omega)
      have i2 : ¬ (k : Int) < (n : Int) := by omega
      have HR := Lib.hid (show (m : Int) = (cntS S : Int) by rw [hm])
      clear hm hbr hkn
      go_wp2_with fail
      go_ret
      exact ⟨ret_int HR.out, HB.out⟩
/-- append of a list of series to an own row, at a walk's built-in. -/
theorem hdapp_sers {w : World} {ops : Array Oper} {rest : List Oper} {o : Oper} {a : Act} {Q : Exit → Act → World → Prop} (hgd : o.guard = none) (s y : Operand)
    (ho : o.op = .call { callee := .builtin .append, args := #[s, y], argTypes := #[27, 27] })
    (base : Nat) (v : Value) (qs : List SPl) (hs : a.eval s = v) (hown : w.ownsRow base 65 2 v qs.length (qs.flatMap spE)) (A : Option Addr) (ps : List SPl) (c : Nat) (hy : a.eval y = .slice A ps.length c) (hA : At w A (ps.flatMap spE)) (hn : qs.length + ps.length ≤ 1000000) (hbase : base ≤ w.heap.size)
    (h : ∀ v' w', w'.ownsRow base 65 2 v' (qs.length + ps.length) ((qs ++ ps).flatMap spE) → Below base w w' → w.grownBy w' v.ownBlock → wpList Tryz.prog ops Q rest (a.put o.dst v') w') : wpList Tryz.prog ops Q (o :: rest) a w := by
  obtain ⟨i0, hi, hz0, hz1, hz2⟩ := info_parts hser_info
  refine wpList_app_at hgd s y 27 ho base 65 i0 _ 2 48 Tryz.underlying27 hi hz0 hz1 hz2 rfl (by omega) v qs.length (qs.flatMap spE) hs hown A ps.length c (ps.flatMap spE) hy (flat_len spE 2 spE_len ps) hA (fun u hu => ?_)
    (by simp only [maxLen]; omega) (by omega) hbase ?_
  · simp only [List.mem_flatMap, spE, List.mem_cons, List.not_mem_nil, or_false] at hu
    obtain ⟨x, _, rfl | rfl⟩ := hu <;> rfl
  · intro v' w' h1 h2 h3
    refine h v' w' ?_ h2 h3
    rw [List.flatMap_append]
    exact h1
/-- What the document's Do answers. -/
def RefDone (T : Nat → Prop) (w : World) (S : List Ser) (E : Int) (e : Ending) (w' : World) : Prop :=
  ∃ A c, e = .returned (.tuple #[.slice A S.length c, .int .i64 E]) ∧ S.length ≤ c ∧ SersT (fun k => T k ∨ w.heap.size ≤ k) w' A S ∧ Below w.heap.size w w'
theorem refDone_same {T : Nat → Prop} {w w' : World} {A : Option Addr} {S : List Ser} {c : Nat} {E : Int} (hA : SersT T w A S) (hc : S.length ≤ c) (hb : Below w.heap.size w w') : RefDone T w S E (.returned (.tuple #[.slice A S.length c, .int .i64 E])) w' :=
  ⟨A, c, rfl, hc, (hA.below hb).mono fun k hk => .inl hk, hb⟩
theorem refdo_bad {T : Nat → Prop} {A : Option Addr} {S : List Ser} {c : Nat} {R : RecV} {m : RecM} {w : World} (hA : SersT T w A S) (hc : S.length ≤ c) (hR : RecIn w R m) (hF : RecFit R) (h0 : recChk R ≠ 0) :
    Calls Tryz.prog 7 #[.slice A S.length c, .agg (recC R m).toArray] w (RefDone T w S (recChk R)) := by
  have hb1 := below_one w (.cells (recC R m).toArray 33)
  have hx := rec_cells (Row.new w 33 (recC R m).toArray) rfl
  have HC := Lib.hid (refcheck_prog R m _ (hR.below hb1) hF)
  have HB := Lib.hid hb1
  have HA := Lib.hid hA
  have HCC := Lib.hid hc
  have q1 : (recChk R != 0) = true := bne_iff_ne.2 h0
  generalize recChk R = E at *
  obtain ⟨kd, la, ro, ids, lo, hi⟩ := R
  obtain ⟨P, ca, Bb, cb, C, cc⟩ := m
  obtain ⟨n, hn⟩ : ∃ n, S.length = n := ⟨_, rfl⟩
  have HN := Lib.hid hn
  rw [hn]
  simp only [recC] at *
  obtain ⟨x0, x1, x2, x3, x4, x5⟩ := hx
  clear hA hc hR hF hb1 h0 hn
  go_enter Tryz.func7, Tryz.ntmps7
  go_wp2_with fail
  refine HC.out.mono ?_
  rintro e w2 ⟨rfl, hb2⟩
  have HB2 := Lib.hid (HB.out.trans (hb2.mono HB.out.size))
  clear hb2
  go_wp2_with fail
  go_ret2
  rw [← HN.out]
  exact refDone_same HA.out HCC.out HB2.out
theorem refdone_new {T : Nat → Prop} {w w' : World} {ps : List SPl} {x : SPl} {P : Option Addr} {c base : Nat} (hps : ∀ y ∈ ps, SerT T w y) (hb : Below w.heap.size w w') (hrow : w'.ownsRow base 65 2 (.slice P (ps.length + 1) c) (ps.length + 1) ((ps ++ [x]).flatMap spE)) (hbase : w.heap.size ≤ base) (hx : SerIn w' x) (hla : ∀ ad, x.2.la = some ad → w.heap.size ≤ ad.block) (hsa : x.1.2 = []) {E : Int} {S : List Ser} (hS : S = ps.map (·.1) ++ [x.1]) :
    RefDone T w S E (.returned (.tuple #[.slice P (ps.length + 1) c, .int .i64 E])) w' := by
  obtain ⟨P', c', e1, h1, h2, h3⟩ := rows_slice hrow
  obtain ⟨rfl, -, rfl⟩ := Value.slice.inj e1
  have hlen : S.length = ps.length + 1 := by rw [hS]; simp
  refine ⟨P, c, by rw [hlen], by rw [hlen]; exact h1, ⟨ps ++ [x], by rw [hS]; simp, h2, fun _ ad e => .inr (Nat.le_trans hbase (h3 ad e)), fun y hy => ?_⟩, hb⟩
  rcases List.mem_append.1 hy with hy | hy
  · exact ((hps y hy).move hb.size fun k hl _ => hb.block k hl).mono fun k hk => .inl hk
  · obtain rfl := List.mem_singleton.1 hy
    exact ⟨hx, fun _ ad e => .inr (hla ad e), fun q => absurd hsa q⟩
set_option maxHeartbeats 2000000 in
theorem refdo_k1 {T : Nat → Prop} {A : Option Addr} {S : List Ser} {c : Nat} {R : RecV} {m : RecM} {w : World} (hA : SersT T w A S) (hc : S.length ≤ c) (hk : HeadOk S) (hR : RecIn w R m) (hF : RecFit R) (h0 : recChk R = 0) (h1 : R.kind = 1) :
    Calls Tryz.prog 7 #[.slice A S.length c, .agg (recC R m).toArray] w (RefDone T w (doH S R).1 (doH S R).2) := by
  have hb1 := below_one w (.cells (recC R m).toArray 33)
  have hrz := Row.new w 33 (recC R m).toArray
  have HC := Lib.hid (refcheck_prog R m _ (hR.below hb1) hF)
  rw [h0] at HC
  have hdo : doH S R = (if 0 ≤ idH S R.labels then (S, 10) else if 256 ≤ S.length then (S, 3) else (S ++ [(R.labels, [])], 0)) := by
    unfold doH
    rw [if_neg (by simpa using h0), if_pos h1]
  have hlab : R.labels.length ≤ 4398046511104 := by have := hF.labels; omega
  obtain ⟨D, hD⟩ : ∃ D, doH S R = D := ⟨_, rfl⟩
  rw [hD] at hdo ⊢
  clear hD
  have HB := Lib.hid hb1
  have HA := Lib.hid hA
  have HCC := Lib.hid hc
  have HR := Lib.hid hR
  obtain ⟨kd, la, ro, ids, lo, hi⟩ := R
  obtain ⟨P, ca, Bb, cb, C, cc⟩ := m
  simp only [recC] at *
  subst h1
  obtain ⟨ps, hps, hat, _, hins⟩ := hA
  have hpl : ps.length = S.length := by rw [← hps, List.length_map]
  obtain ⟨z, hz⟩ : ∃ z, w.alloc (.cells #[.int .i64 1, .slice P la.length ca, .slice Bb ro.length cb, .slice C ids.length cc, .int .i64 lo, .int .i64 hi] 33) = z := ⟨_, rfl⟩
  rw [hz] at HC HB hrz
  have HZ := Lib.hid hz
  have HX := Lib.hid (fun (x : World) (hx : Below z.heap.size z x) => rec_cells (hrz.below hx hrz.lt) rfl)
  have HAT := Lib.hid hat
  have HINS := Lib.hid hins
  have HPL := Lib.hid hpl
  have HPS := Lib.hid hps
  have h256 := hk.few
  have HID := Lib.hid (fun (x : World) (hx : Below w.heap.size w x) => refid_prog A S c P la ca x (HA.out.sers.below hx) (HR.out.labels.below hx) (fun s hs => by have := (lbChk_ok.1 (hk.right s hs).1).1; omega) (by omega) (by omega))
  obtain ⟨E, hE⟩ : ∃ E, idH S la = E := ⟨_, rfl⟩
  rw [hE] at HID hdo
  obtain ⟨n, hn⟩ : ∃ n, S.length = n := ⟨_, rfl⟩
  rw [hn] at hdo h256 HID HPL HCC ⊢
  have HDO := Lib.hid hdo
  have HN := Lib.hid hn
  clear hc hR hF hb1 h0 hz hrz hat hins hps hpl hE hn hdo
  go_enter Tryz.func7, Tryz.ntmps7
  go_upto_region 1 with fail
  rw [HZ.out]
  obtain ⟨x0, x1, x2, x3, x4, x5⟩ := HX.out _ (Below.refl _ _)
  go_wp2_with fail
  refine HC.out.mono ?_
  rintro e w2 ⟨rfl, hb2⟩
  clear x0 x1 x2 x3 x4 x5
  have HB2 := Lib.hid hb2
  have HW2 := Lib.hid (HB.out.trans (hb2.mono HB.out.size))
  have HO2 := Lib.hid (show (w2.alloc (.cells #[] 65)).ownsRow w2.heap.size 65 2 (.slice (some ⟨w2.heap.size, 0, none⟩) 0 0) ([] : List SPl).length (([] : List SPl).flatMap spE) from ⟨rfl, .inr ⟨w2.heap.size, 0, #[], rfl, Nat.le_refl _, Row.new w2 _ _, Nat.le_refl _, by simp [maxLen], by simp, by simp⟩⟩)
  have HA2 := Lib.hid (At.alloc (At.below HAT.out HW2.out) (.cells #[] 65))
  have HPV := Lib.hid (show Value.slice A n c = Value.slice A ps.length c by rw [HPL.out])
  clear hb2
  go_upto_region 5 with (at_builtin; refine hdapp_sers rfl (.tmp 18) (.tmp 19) rfl w2.heap.size _ [] rfl HO2.out A ps c HPV.out HA2.out (by have := HPL.out; simp only [List.length_nil]; omega) (by simp) ?_; intro v3 w3 ho3 hb3 hg3; rw [List.nil_append, List.length_nil, Nat.zero_add] at ho3; have HO3 := Lib.hid ho3; have HB3 := Lib.hid ((below_one w2 (.cells #[] 65)).trans hb3); clear ho3 hb3 hg3)
  obtain ⟨x0, x1, x2, x3, x4, x5⟩ := HX.out w3 (HB2.out.trans (HB3.out.mono HB2.out.size))
  have HW3 := Lib.hid (HW2.out.trans (HB3.out.mono HW2.out.size))
  have HX4 := Lib.hid (fun (x : World) (hx : Below w3.heap.size w3 x) => HX.out x ((HB2.out.trans (HB3.out.mono HB2.out.size)).trans (hx.mono (Nat.le_trans HB2.out.size HB3.out.size))))
  go_wp2_with fail
  refine (HID.out w3 HW3.out).mono ?_
  rintro e w4 ⟨rfl, hb4⟩
  have HB4 := Lib.hid hb4
  have HW4 := Lib.hid (below_then HW3.out hb4)
  clear hb4 x0 x1 x2 x3 x4 x5
  by_cases e0 : 0 ≤ E
  · have d1 : decide (0 ≤ E) = true := decide_eq_true e0
    have hd := HDO.out
    rw [if_pos e0] at hd
    subst hd
    clear e0
    go_wp2_with fail
    go_ret2
    have := refDone_same (E := 10) HA.out (by rw [HN.out]; exact HCC.out) HW4.out
    rw [HN.out] at this
    exact this
  have d1 : decide (0 ≤ E) = false := decide_eq_false e0
  have hd := HDO.out
  rw [if_neg e0] at hd
  by_cases e1 : 256 ≤ n
  · have d2 : decide ((256 : Int) ≤ (n : Int)) = true := decide_eq_true (by omega)
    rw [if_pos e1] at hd
    subst hd
    clear e0 e1
    go_wp2_with fail
    go_ret2
    have := refDone_same (E := 3) HA.out (by rw [HN.out]; exact HCC.out) HW4.out
    rw [HN.out] at this
    exact this
  have d2 : decide ((256 : Int) ≤ (n : Int)) = false := decide_eq_false (by omega)
  rw [if_neg e1] at hd
  subst hd
  obtain ⟨x0, x1, x2, x3, x4, x5⟩ := HX4.out _ (HB4.out.trans ((below_one w4 (.cells #[] 83)).mono HB4.out.size))
  have HO5 := Lib.hid (ownl_empty (base := w4.heap.size) (Row.new w4 83 #[]) (Nat.le_refl _))
  have HL5 := Lib.hid (show Lbls (w4.alloc (.cells #[] 83)) P la from (HR.out.labels.below HW4.out).alloc (.cells #[] 83))
  clear e0 e1
  go_wp2_with (at_builtin; first
    | (refine app_lbls rfl (.tmp 36) (.tmp 38) rfl w4.heap.size _ [] rfl HO5.out P la ca rfl HL5.out (by simp only [List.length_nil]; omega) (by simp) ?_
       intro v5 w5 ho5 hb5 hg5
       rw [List.nil_append] at ho5
       obtain ⟨P5, c5, hv5, hc5, hl5, _⟩ := ownl_slice ho5
       subst hv5
       have HOL5 := Lib.hid ho5
       have HB5 := Lib.hid ((below_one w4 (.cells #[] 83)).trans hb5)
       have HO6 := Lib.hid (rows_below (rows_below (rows_below HO3.out HB4.out) HB5.out) (below_one w5 (.cells #[.slice P5 la.length c5, .slice none 0 0] 65)))
       have HA6 := Lib.hid (show At (w5.alloc (.cells #[.slice P5 la.length c5, .slice none 0 0] 65)) (some ⟨w5.heap.size, 0, none⟩) ([(((la, []), ⟨P5, c5, none, 0⟩) : SPl)].flatMap spE) from At.row (Row.new w5 _ _))
       have hbase6 : w2.heap.size ≤ (w5.alloc (.cells #[.slice P5 la.length c5, .slice none 0 0] 65)).heap.size := Nat.le_trans HB3.out.size (Nat.le_trans HB4.out.size (Nat.le_trans HB5.out.size (by simp)))
       clear ho5 hb5 hg5 hl5)
    | (refine hdapp_sers rfl (.tmp 35) (.tmp 41) rfl w2.heap.size _ ps rfl HO6.out (some ⟨w5.heap.size, 0, none⟩) [((la, []), ⟨P5, c5, none, 0⟩)] 1 rfl HA6.out (by have := HPL.out; simp only [List.length_singleton]; omega) hbase6 ?_
       intro v6 w6 ho6 hb6 hg6
       obtain ⟨P6, c6, hv6, _⟩ := rows_slice ho6
       subst hv6
       have HO7 := Lib.hid ho6
       have HG6 := Lib.hid hg6
       have HB6 := Lib.hid (HW4.out.trans ((HB5.out.mono HW4.out.size).trans (((below_one w5 _).mono (Nat.le_trans HW4.out.size HB5.out.size)).trans (hb6.mono HW2.out.size))))
       have HOL6 := Lib.hid (hrows_far (rows_below HOL5.out (below_one w5 (.cells #[.slice P5 la.length c5, .slice none 0 0] 65))) hg6 HO6.out (by decide))
       clear ho6 hb6 hg6))
  go_ret2
  obtain ⟨P7, c7, hv7, hc7, hl7, hp7⟩ := ownl_slice HOL6.out
  obtain ⟨rfl, -, rfl⟩ := Value.slice.inj hv7
  exact refdone_new HINS.out HB6.out HO7.out HW2.out.size ⟨hl7, .inl rfl, hc7, Nat.le_refl _⟩ (fun ad e => Nat.le_trans HW4.out.size (hp7 ad e)) rfl (by rw [HPS.out])
end Go.Proofs.YtpcjnagdanmdpaaGreat
