/- Whether a record may be, as the document says it (gaugeref11.Check, gaugeref11.rows). Written by genwarefchk.py. -/
import Derived.Test.YtpcjnagdanmdpaaHdLotH
namespace Go.Proofs.Ytpcjnagdanmdpaa
open Go.RowKit Go.Maps
set_option linter.unusedVariables false
set_option maxRecDepth 20000 in
set_option maxHeartbeats 2000000 in
theorem refrows_prog (A : Option Addr) (l : List Wrow) (c : Nat) (w : World) (hA : Wrows w A l) (hl : l.length ≤ 100000000000000) :
    Calls Try.prog 56 #[.slice A l.length c] w fun e w' => e = .returned (.int .i64 (rowsChk l)) ∧ Below w.heap.size w w' := by
  by_cases h0 : l.length = 0
  · have e : rowsChk l = 2 := by unfold rowsChk; rw [if_pos (.inl h0)]
    rw [e, h0]
    clear e
    go_enter Try.func56, Try.ntmps56
    go_wp2
    go_ret
    exact ⟨rfl, Below.refl _ _⟩
  have i0 : ((l.length : Int) == 0) = false := by rw [beq_eq_false_iff_ne]; omega
  by_cases h1 : 64 < l.length
  · have e : rowsChk l = 2 := by unfold rowsChk; rw [if_pos (.inr h1)]
    rw [e]
    clear e
    have i1 : decide ((64 : Int) < (l.length : Int)) = true := by simp; omega
    go_enter Try.func56, Try.ntmps56
    go_wp2
    go_ret
    exact ⟨rfl, Below.refl _ _⟩
  have hC := Lib.hid (show rowsErr (l.drop 0) = rowsChk l by unfold rowsChk; rw [if_neg (by omega), List.drop_zero])
  obtain ⟨b, o, rfl, hb, hc⟩ := hA.all (by omega)
  have Hc := Lib.hid hc
  have i1 : decide ((64 : Int) < (l.length : Int)) = false := by simp; omega
  clear hc hA
  go_enter Try.func56, Try.ntmps56
  go_wp2_with fail
  go_loopw [3] (fun i wr => ∃ k : Nat, k ≤ l.length ∧ i = .int .i64 (k : Int) ∧ rowsErr (l.drop k) = rowsChk l ∧ Below w.heap.size w wr) (fun i _ => l.length - (intOf i).toNat)
  case atStart => exact ⟨0, Nat.zero_le _, rfl, hC.out, Below.refl _ _⟩
  case round =>
    obtain ⟨k, hk, rfl, he, hbr⟩ := hrel
    have hsz := hbr.size
    have HBR := Lib.hid hbr
    by_cases hlt : k < l.length
    · obtain ⟨g0, g1, g2⟩ := Hc.out k hlt
      have c0 := (hbr.cell (p := ⟨b, o + k * 3, none⟩) hb).trans g0
      have c1 := (hbr.cell (p := ⟨b, o + k * 3 + 1, none⟩) hb).trans g1
      have c2 := (hbr.cell (p := ⟨b, o + k * 3 + 2, none⟩) hb).trans g2
      have i2 : (k : Int) < (l.length : Int) := by omega
      rw [wrow_drop l hlt] at he
      have HE := Lib.hid he
      clear he g0 g1 g2
      rw [rowsErr] at HE
      generalize l.getD k wrow0 = x at *
      obtain ⟨id, t, v⟩ := x
      simp only at c0 c1 c2
      by_cases hid0 : id < 0
      · have eA : wrowErr (id, t, v) = 2 := by unfold wrowErr; rw [if_pos (.inl hid0)]
        rw [eA, if_neg (by decide)] at HE
        have i3 : decide (id < 0) = true := decide_eq_true hid0
        clear hbr
        go_wp2_with fail
        go_ret
        exact ⟨by rw [← HE.out]; rfl, HBR.out⟩
      · have i3 : decide (id < 0) = false := decide_eq_false hid0
        by_cases hid1 : 1099511627776 < id
        · have eA : wrowErr (id, t, v) = 2 := by unfold wrowErr; rw [if_pos (.inr hid1)]
          rw [eA, if_neg (by decide)] at HE
          have i4 : decide (1099511627776 < id) = true := decide_eq_true hid1
          clear hbr
          go_wp2_with fail
          go_ret
          exact ⟨by rw [← HE.out]; rfl, HBR.out⟩
        · have i4 : decide (1099511627776 < id) = false := decide_eq_false hid1
          have HM := Lib.hid (Ch.may_ref t v wr)
          cases hm : Ch.mayB (t, v)
          · have eA : wrowErr (id, t, v) = 11 := by unfold wrowErr; rw [if_neg (by simp only; omega), if_pos hm]
            rw [eA, if_neg (by decide)] at HE
            rw [hm] at HM
            clear hbr hm eA
            go_wp2_with (go_at_call 78; refine HM.out.mono ?_; rintro e w1 ⟨rfl, hb1⟩; have HB1 := Lib.hid (HBR.out.trans (hb1.mono HBR.out.size)); clear hb1)
            go_ret
            exact ⟨by rw [← HE.out]; rfl, HB1.out⟩
          · have eA : wrowErr (id, t, v) = 0 := by unfold wrowErr; rw [if_neg (by simp only; omega), if_neg (by rw [hm]; decide)]
            rw [eA, if_pos rfl] at HE
            rw [hm] at HM
            clear hbr hm eA
            go_wp2_with (go_at_call 78; refine HM.out.mono ?_; rintro e w1 ⟨rfl, hb1⟩; have HB1 := Lib.hid (HBR.out.trans (hb1.mono HBR.out.size)); clear hb1)
            go_roundw
            case rel => exact ⟨k + 1, hlt, by go_num, HE.out, HB1.out⟩
            case measure => simp [intOf]; omega
    · obtain rfl : k = l.length := by omega
      rw [List.drop_length] at he
      have HE := Lib.hid he
      clear he hbr
      go_wp2_with fail
      go_ret
      exact ⟨by rw [← HE.out]; rfl, HBR.out⟩
set_option maxRecDepth 20000 in
set_option maxHeartbeats 2000000 in
theorem refcheck_odd (R : RecV) (m : RecM) (w : World) (h : RecIn w R m) (hf : RecFit R) (hk : ¬ (R.kind = 1 ∨ R.kind = 2 ∨ R.kind = 3)) :
    Calls Try.prog 25 #[.agg (recC R m).toArray] w fun e w' => e = .returned (.int .i64 (recChk R)) ∧ Below w.heap.size w w' := by
  have HB0 := Lib.hid (below_one w (.cells (recC R m).toArray 30))
  have HL := Lib.hid (fun W (hW : Below w.heap.size w W) => lbchk_ref m.la R.labels m.lc W (h.labels.below hW) (by have := hf.labels; omega) hf.fits)
  have HR := Lib.hid (fun W (hW : Below w.heap.size w W) => refrows_prog m.ra R.rows m.rc W (h.rows.below hW) (by have := hf.rows; omega))
  have HI := Lib.hid (fun W (hW : Below w.heap.size w W) => check_ref m.ia R.ids m.ic W (h.ids.below hW) (by have := hf.ids; omega))
  have HX := Lib.hid (fun W (hW : Below (w.alloc (.cells (recC R m).toArray 30)).heap.size (w.alloc (.cells (recC R m).toArray 30)) W) => rec_cells ((Row.new w 30 (recC R m).toArray).below hW (by simp)) rfl)
  obtain ⟨k, la, ro, ids, lo, hi⟩ := R
  obtain ⟨A, ca, B, cb, C, cc⟩ := m
  simp only [recC] at *
  obtain ⟨x0, x1, x2, x3, x4, x5⟩ := HX.out _ (Below.refl _ _)
  have hchk : recChk ⟨k, la, ro, ids, lo, hi⟩ = if Misfit ⟨k, la, ro, ids, lo, hi⟩ then 2 else if k = 1 then lbChk la else if k = 2 then rowsChk ro else delChk ids lo hi := rfl
  obtain ⟨E, hE⟩ : ∃ E, recChk ⟨k, la, ro, ids, lo, hi⟩ = E := ⟨_, rfl⟩
  rw [hE] at hchk ⊢
  clear h hf hE
  try simp only at hk
  have hE : E = 2 := by rw [hchk, if_pos (.inl hk)]
  subst hE
  clear hchk HL HR HI
  by_cases h1 : k < 1
  · have i0 : decide (k < 1) = true := decide_eq_true h1
    clear hk
    go_enter Try.func25, Try.ntmps25
    go_wp2_with fail
    go_ret
    exact ⟨rfl, HB0.out⟩
  · have i0 : decide (k < 1) = false := decide_eq_false h1
    have h3 : 3 < k := by omega
    have i1 : decide (3 < k) = true := decide_eq_true h3
    clear hk
    go_enter Try.func25, Try.ntmps25
    go_wp2_with fail
    go_ret
    exact ⟨rfl, HB0.out⟩
set_option maxRecDepth 20000 in
set_option maxHeartbeats 2000000 in
theorem refcheck_k1 (R : RecV) (m : RecM) (w : World) (h : RecIn w R m) (hf : RecFit R) (hk : R.kind = 1) :
    Calls Try.prog 25 #[.agg (recC R m).toArray] w fun e w' => e = .returned (.int .i64 (recChk R)) ∧ Below w.heap.size w w' := by
  have HB0 := Lib.hid (below_one w (.cells (recC R m).toArray 30))
  have HL := Lib.hid (fun W (hW : Below w.heap.size w W) => lbchk_ref m.la R.labels m.lc W (h.labels.below hW) (by have := hf.labels; omega) hf.fits)
  have HR := Lib.hid (fun W (hW : Below w.heap.size w W) => refrows_prog m.ra R.rows m.rc W (h.rows.below hW) (by have := hf.rows; omega))
  have HI := Lib.hid (fun W (hW : Below w.heap.size w W) => check_ref m.ia R.ids m.ic W (h.ids.below hW) (by have := hf.ids; omega))
  have HX := Lib.hid (fun W (hW : Below (w.alloc (.cells (recC R m).toArray 30)).heap.size (w.alloc (.cells (recC R m).toArray 30)) W) => rec_cells ((Row.new w 30 (recC R m).toArray).below hW (by simp)) rfl)
  obtain ⟨k, la, ro, ids, lo, hi⟩ := R
  obtain ⟨A, ca, B, cb, C, cc⟩ := m
  simp only [recC] at *
  obtain ⟨x0, x1, x2, x3, x4, x5⟩ := HX.out _ (Below.refl _ _)
  have hchk : recChk ⟨k, la, ro, ids, lo, hi⟩ = if Misfit ⟨k, la, ro, ids, lo, hi⟩ then 2 else if k = 1 then lbChk la else if k = 2 then rowsChk ro else delChk ids lo hi := rfl
  obtain ⟨E, hE⟩ : ∃ E, recChk ⟨k, la, ro, ids, lo, hi⟩ = E := ⟨_, rfl⟩
  rw [hE] at hchk ⊢
  clear h hf hE
  try simp only at hk
  subst hk
  by_cases h_ro : 0 < ro.length
  · have p_ro : decide ((0 : Int) < (ro.length : Int)) = true := decide_eq_true (by omega)
    have p2_ro : (0 : Int) < (ro.length : Int) := by omega
    have p3_ro : 0 < ro.length := by omega
    have hE : E = 2 := by rw [hchk, if_pos (by unfold Misfit; dsimp only; omega)]
    subst hE
    clear hchk HL HR HI
    go_enter Try.func25, Try.ntmps25
    go_wp2_with fail
    go_ret
    exact ⟨rfl, HB0.out⟩
  · have p_ro : decide ((0 : Int) < (ro.length : Int)) = false := decide_eq_false (by omega)
    have p2_ro : ¬ (0 : Int) < (ro.length : Int) := by omega
    have p3_ro : ¬ 0 < ro.length := by omega
    by_cases h_ids : 0 < ids.length
    · have p_ids : decide ((0 : Int) < (ids.length : Int)) = true := decide_eq_true (by omega)
      have p2_ids : (0 : Int) < (ids.length : Int) := by omega
      have p3_ids : 0 < ids.length := by omega
      have hE : E = 2 := by rw [hchk, if_pos (by unfold Misfit; dsimp only; omega)]
      subst hE
      clear hchk HL HR HI
      go_enter Try.func25, Try.ntmps25
      go_wp2_with fail
      go_ret
      exact ⟨rfl, HB0.out⟩
    · have p_ids : decide ((0 : Int) < (ids.length : Int)) = false := decide_eq_false (by omega)
      have p2_ids : ¬ (0 : Int) < (ids.length : Int) := by omega
      have p3_ids : ¬ 0 < ids.length := by omega
      by_cases h_lo : lo = 0
      · subst h_lo
        by_cases h_hi : hi = 0
        · subst h_hi
          have hE : E = lbChk la := by rw [hchk, if_neg (by unfold Misfit; dsimp only; omega), if_pos rfl]
          rw [← hE] at HL
          clear hchk HR HI hE
          go_enter Try.func25, Try.ntmps25
          go_wp2_with (go_at_call 55; refine (HL.out _ HB0.out).mono ?_; rintro e w1 ⟨rfl, hb1⟩; have HB1 := Lib.hid (below_then HB0.out hb1); clear hb1)
          go_ret
          exact ⟨rfl, HB1.out⟩
        · have p_hi : (hi != 0) = true := bne_iff_ne.2 h_hi
          have hE : E = 2 := by rw [hchk, if_pos (by unfold Misfit; dsimp only; omega)]
          subst hE
          clear hchk HL HR HI
          go_enter Try.func25, Try.ntmps25
          go_wp2_with fail
          go_ret
          exact ⟨rfl, HB0.out⟩
      · have p_lo : (lo != 0) = true := bne_iff_ne.2 h_lo
        have hE : E = 2 := by rw [hchk, if_pos (by unfold Misfit; dsimp only; omega)]
        subst hE
        clear hchk HL HR HI
        go_enter Try.func25, Try.ntmps25
        go_wp2_with fail
        go_ret
        exact ⟨rfl, HB0.out⟩
set_option maxRecDepth 20000 in
set_option maxHeartbeats 2000000 in
theorem refcheck_k2 (R : RecV) (m : RecM) (w : World) (h : RecIn w R m) (hf : RecFit R) (hk : R.kind = 2) :
    Calls Try.prog 25 #[.agg (recC R m).toArray] w fun e w' => e = .returned (.int .i64 (recChk R)) ∧ Below w.heap.size w w' := by
  have HB0 := Lib.hid (below_one w (.cells (recC R m).toArray 30))
  have HL := Lib.hid (fun W (hW : Below w.heap.size w W) => lbchk_ref m.la R.labels m.lc W (h.labels.below hW) (by have := hf.labels; omega) hf.fits)
  have HR := Lib.hid (fun W (hW : Below w.heap.size w W) => refrows_prog m.ra R.rows m.rc W (h.rows.below hW) (by have := hf.rows; omega))
  have HI := Lib.hid (fun W (hW : Below w.heap.size w W) => check_ref m.ia R.ids m.ic W (h.ids.below hW) (by have := hf.ids; omega))
  have HX := Lib.hid (fun W (hW : Below (w.alloc (.cells (recC R m).toArray 30)).heap.size (w.alloc (.cells (recC R m).toArray 30)) W) => rec_cells ((Row.new w 30 (recC R m).toArray).below hW (by simp)) rfl)
  obtain ⟨k, la, ro, ids, lo, hi⟩ := R
  obtain ⟨A, ca, B, cb, C, cc⟩ := m
  simp only [recC] at *
  obtain ⟨x0, x1, x2, x3, x4, x5⟩ := HX.out _ (Below.refl _ _)
  have hchk : recChk ⟨k, la, ro, ids, lo, hi⟩ = if Misfit ⟨k, la, ro, ids, lo, hi⟩ then 2 else if k = 1 then lbChk la else if k = 2 then rowsChk ro else delChk ids lo hi := rfl
  obtain ⟨E, hE⟩ : ∃ E, recChk ⟨k, la, ro, ids, lo, hi⟩ = E := ⟨_, rfl⟩
  rw [hE] at hchk ⊢
  clear h hf hE
  try simp only at hk
  subst hk
  by_cases h_la : 0 < la.length
  · have p_la : decide ((0 : Int) < (la.length : Int)) = true := decide_eq_true (by omega)
    have p2_la : (0 : Int) < (la.length : Int) := by omega
    have p3_la : 0 < la.length := by omega
    have hE : E = 2 := by rw [hchk, if_pos (by unfold Misfit; dsimp only; omega)]
    subst hE
    clear hchk HL HR HI
    go_enter Try.func25, Try.ntmps25
    go_wp2_with fail
    go_ret
    exact ⟨rfl, HB0.out⟩
  · have p_la : decide ((0 : Int) < (la.length : Int)) = false := decide_eq_false (by omega)
    have p2_la : ¬ (0 : Int) < (la.length : Int) := by omega
    have p3_la : ¬ 0 < la.length := by omega
    by_cases h_ids : 0 < ids.length
    · have p_ids : decide ((0 : Int) < (ids.length : Int)) = true := decide_eq_true (by omega)
      have p2_ids : (0 : Int) < (ids.length : Int) := by omega
      have p3_ids : 0 < ids.length := by omega
      have hE : E = 2 := by rw [hchk, if_pos (by unfold Misfit; dsimp only; omega)]
      subst hE
      clear hchk HL HR HI
      go_enter Try.func25, Try.ntmps25
      go_wp2_with fail
      go_ret
      exact ⟨rfl, HB0.out⟩
    · have p_ids : decide ((0 : Int) < (ids.length : Int)) = false := decide_eq_false (by omega)
      have p2_ids : ¬ (0 : Int) < (ids.length : Int) := by omega
      have p3_ids : ¬ 0 < ids.length := by omega
      by_cases h_lo : lo = 0
      · subst h_lo
        by_cases h_hi : hi = 0
        · subst h_hi
          have hE : E = rowsChk ro := by rw [hchk, if_neg (by unfold Misfit; dsimp only; omega), if_neg (by decide), if_pos rfl]
          rw [← hE] at HR
          clear hchk HL HI hE
          go_enter Try.func25, Try.ntmps25
          go_wp2_with (go_at_call 56; refine (HR.out _ HB0.out).mono ?_; rintro e w1 ⟨rfl, hb1⟩; have HB1 := Lib.hid (below_then HB0.out hb1); clear hb1)
          go_ret
          exact ⟨rfl, HB1.out⟩
        · have p_hi : (hi != 0) = true := bne_iff_ne.2 h_hi
          have hE : E = 2 := by rw [hchk, if_pos (by unfold Misfit; dsimp only; omega)]
          subst hE
          clear hchk HL HR HI
          go_enter Try.func25, Try.ntmps25
          go_wp2_with fail
          go_ret
          exact ⟨rfl, HB0.out⟩
      · have p_lo : (lo != 0) = true := bne_iff_ne.2 h_lo
        have hE : E = 2 := by rw [hchk, if_pos (by unfold Misfit; dsimp only; omega)]
        subst hE
        clear hchk HL HR HI
        go_enter Try.func25, Try.ntmps25
        go_wp2_with fail
        go_ret
        exact ⟨rfl, HB0.out⟩
set_option maxRecDepth 20000 in
set_option maxHeartbeats 2000000 in
theorem refcheck_k3 (R : RecV) (m : RecM) (w : World) (h : RecIn w R m) (hf : RecFit R) (hk : R.kind = 3) :
    Calls Try.prog 25 #[.agg (recC R m).toArray] w fun e w' => e = .returned (.int .i64 (recChk R)) ∧ Below w.heap.size w w' := by
  have HB0 := Lib.hid (below_one w (.cells (recC R m).toArray 30))
  have HL := Lib.hid (fun W (hW : Below w.heap.size w W) => lbchk_ref m.la R.labels m.lc W (h.labels.below hW) (by have := hf.labels; omega) hf.fits)
  have HR := Lib.hid (fun W (hW : Below w.heap.size w W) => refrows_prog m.ra R.rows m.rc W (h.rows.below hW) (by have := hf.rows; omega))
  have HI := Lib.hid (fun W (hW : Below w.heap.size w W) => check_ref m.ia R.ids m.ic W (h.ids.below hW) (by have := hf.ids; omega))
  have HX := Lib.hid (fun W (hW : Below (w.alloc (.cells (recC R m).toArray 30)).heap.size (w.alloc (.cells (recC R m).toArray 30)) W) => rec_cells ((Row.new w 30 (recC R m).toArray).below hW (by simp)) rfl)
  obtain ⟨k, la, ro, ids, lo, hi⟩ := R
  obtain ⟨A, ca, B, cb, C, cc⟩ := m
  simp only [recC] at *
  obtain ⟨x0, x1, x2, x3, x4, x5⟩ := HX.out _ (Below.refl _ _)
  have hchk : recChk ⟨k, la, ro, ids, lo, hi⟩ = if Misfit ⟨k, la, ro, ids, lo, hi⟩ then 2 else if k = 1 then lbChk la else if k = 2 then rowsChk ro else delChk ids lo hi := rfl
  obtain ⟨E, hE⟩ : ∃ E, recChk ⟨k, la, ro, ids, lo, hi⟩ = E := ⟨_, rfl⟩
  rw [hE] at hchk ⊢
  clear h hf hE
  try simp only at hk
  subst hk
  by_cases h_la : 0 < la.length
  · have p_la : decide ((0 : Int) < (la.length : Int)) = true := decide_eq_true (by omega)
    have p2_la : (0 : Int) < (la.length : Int) := by omega
    have p3_la : 0 < la.length := by omega
    have hE : E = 2 := by rw [hchk, if_pos (by unfold Misfit; dsimp only; omega)]
    subst hE
    clear hchk HL HR HI
    go_enter Try.func25, Try.ntmps25
    go_wp2_with fail
    go_ret
    exact ⟨rfl, HB0.out⟩
  · have p_la : decide ((0 : Int) < (la.length : Int)) = false := decide_eq_false (by omega)
    have p2_la : ¬ (0 : Int) < (la.length : Int) := by omega
    have p3_la : ¬ 0 < la.length := by omega
    by_cases h_ro : 0 < ro.length
    · have p_ro : decide ((0 : Int) < (ro.length : Int)) = true := decide_eq_true (by omega)
      have p2_ro : (0 : Int) < (ro.length : Int) := by omega
      have p3_ro : 0 < ro.length := by omega
      have hE : E = 2 := by rw [hchk, if_pos (by unfold Misfit; dsimp only; omega)]
      subst hE
      clear hchk HL HR HI
      go_enter Try.func25, Try.ntmps25
      go_wp2_with fail
      go_ret
      exact ⟨rfl, HB0.out⟩
    · have p_ro : decide ((0 : Int) < (ro.length : Int)) = false := decide_eq_false (by omega)
      have p2_ro : ¬ (0 : Int) < (ro.length : Int) := by omega
      have p3_ro : ¬ 0 < ro.length := by omega
      have hE : E = delChk ids lo hi := by rw [hchk, if_neg (by unfold Misfit; dsimp only; omega), if_neg (by decide), if_neg (by decide)]
      unfold delChk at hE
      clear hchk HL HR
      generalize la.length = na at *
      generalize ro.length = nr at *
      generalize ids.length = ni at *
      by_cases g1 : pchk ids = 0
      · rw [if_neg (by simpa using g1)] at hE
        rw [g1] at HI
        by_cases g2 : ni = 0
        · rw [if_pos g2] at hE
          subst hE
          have e0 : ((ni : Int) == 0) = true := by rw [beq_iff_eq]; omega
          try clear g5
          try clear g4
          try clear g3
          try clear g2
          try clear g1
          go_enter Try.func25, Try.ntmps25
          go_wp2_with (go_at_call 57; refine (HI.out _ HB0.out).mono ?_; rintro e w1 ⟨rfl, hb1⟩; obtain ⟨y0, y1, y2, y3, y4, y5⟩ := HX.out _ hb1; have HB1 := Lib.hid (below_then HB0.out hb1); clear hb1)
          go_ret
          exact ⟨rfl, HB1.out⟩
        · rw [if_neg g2] at hE
          have e0 : ((ni : Int) == 0) = false := by rw [beq_eq_false_iff_ne]; omega
          by_cases g3 : lo < 0
          · rw [if_pos (.inl g3)] at hE
            subst hE
            have e1 : decide (lo < 0) = true := decide_eq_true g3
            try clear g5
            try clear g4
            try clear g3
            try clear g2
            try clear g1
            go_enter Try.func25, Try.ntmps25
            go_wp2_with (go_at_call 57; refine (HI.out _ HB0.out).mono ?_; rintro e w1 ⟨rfl, hb1⟩; obtain ⟨y0, y1, y2, y3, y4, y5⟩ := HX.out _ hb1; have HB1 := Lib.hid (below_then HB0.out hb1); clear hb1)
            go_ret
            exact ⟨rfl, HB1.out⟩
          · have e1 : decide (lo < 0) = false := decide_eq_false g3
            by_cases g4 : 1099511627776 < hi
            · rw [if_pos (.inr g4)] at hE
              subst hE
              have e2 : decide (1099511627776 < hi) = true := decide_eq_true g4
              try clear g5
              try clear g4
              try clear g3
              try clear g2
              try clear g1
              go_enter Try.func25, Try.ntmps25
              go_wp2_with (go_at_call 57; refine (HI.out _ HB0.out).mono ?_; rintro e w1 ⟨rfl, hb1⟩; obtain ⟨y0, y1, y2, y3, y4, y5⟩ := HX.out _ hb1; have HB1 := Lib.hid (below_then HB0.out hb1); clear hb1)
              go_ret
              exact ⟨rfl, HB1.out⟩
            · have e2 : decide (1099511627776 < hi) = false := decide_eq_false g4
              rw [if_neg (by omega)] at hE
              by_cases g5 : hi < lo
              · rw [if_pos g5] at hE
                subst hE
                have e3 : decide (hi < lo) = true := decide_eq_true g5
                try clear g5
                try clear g4
                try clear g3
                try clear g2
                try clear g1
                go_enter Try.func25, Try.ntmps25
                go_wp2_with (go_at_call 57; refine (HI.out _ HB0.out).mono ?_; rintro e w1 ⟨rfl, hb1⟩; obtain ⟨y0, y1, y2, y3, y4, y5⟩ := HX.out _ hb1; have HB1 := Lib.hid (below_then HB0.out hb1); clear hb1)
                go_ret
                exact ⟨rfl, HB1.out⟩
              · rw [if_neg g5] at hE
                subst hE
                have e3 : decide (hi < lo) = false := decide_eq_false g5
                try clear g5
                try clear g4
                try clear g3
                try clear g2
                try clear g1
                go_enter Try.func25, Try.ntmps25
                go_wp2_with (go_at_call 57; refine (HI.out _ HB0.out).mono ?_; rintro e w1 ⟨rfl, hb1⟩; obtain ⟨y0, y1, y2, y3, y4, y5⟩ := HX.out _ hb1; have HB1 := Lib.hid (below_then HB0.out hb1); clear hb1)
                go_ret
                exact ⟨rfl, HB1.out⟩
      · rw [if_pos g1] at hE
        rw [← hE] at HI g1
        have e0 : (E != 0) = true := bne_iff_ne.2 g1
        clear hE
        try clear g5
        try clear g4
        try clear g3
        try clear g2
        try clear g1
        go_enter Try.func25, Try.ntmps25
        go_wp2_with (go_at_call 57; refine (HI.out _ HB0.out).mono ?_; rintro e w1 ⟨rfl, hb1⟩; obtain ⟨y0, y1, y2, y3, y4, y5⟩ := HX.out _ hb1; have HB1 := Lib.hid (below_then HB0.out hb1); clear hb1)
        go_ret
        exact ⟨rfl, HB1.out⟩
theorem refcheck_prog (R : RecV) (m : RecM) (w : World) (h : RecIn w R m) (hf : RecFit R) :
    Calls Try.prog 25 #[.agg (recC R m).toArray] w fun e w' => e = .returned (.int .i64 (recChk R)) ∧ Below w.heap.size w w' := by
  by_cases h1 : R.kind = 1
  · exact refcheck_k1 R m w h hf h1
  · by_cases h2 : R.kind = 2
    · exact refcheck_k2 R m w h hf h2
    · by_cases h3 : R.kind = 3
      · exact refcheck_k3 R m w h hf h3
      · exact refcheck_odd R m w h hf (by omega)
end Go.Proofs.Ytpcjnagdanmdpaa
