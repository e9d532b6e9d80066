/- Whatever records are done, a head tells what the document says: HeadPlays' walk. -/
import Derived.Test.YtpcjnagdanmdpaaHdLotV
import Derived.Test.YtpcjnagdanmdpaaHdCopy
import Derived.Test.YtpcjnagdanmdpaaHdLotT
namespace Go.Proofs.Ytpcjnagdanmdpaa
open Go.RowKit Go.Maps
open Ch
set_option linter.unusedVariables false
set_option linter.unusedSimpArgs false
set_option maxRecDepth 100000
section
variable {B : Nat} {w w' w0 w1 w2 w3 w4 w5 w6 w7 w8 w9 w10 : World} {X Y : Nat} {S S' S2 S3 : List Ser} {A A' : Option Addr} {H T U : Nat → Prop}
theorem SersT.within (h : SersT T w A S) : SersT (fun k => T k ∧ k < w.heap.size) w A S := by
  obtain ⟨ps, h1, h2, h3, h4⟩ := h
  refine ⟨ps, h1, h2, fun q ad e => ⟨h3 q ad e, at_block h2 (fun e0 => q ?_) ad e⟩, fun x hx => ?_⟩
  · have := flat_len spE 2 spE_len ps
    rw [e0] at this
    rw [← h1, List.map_eq_nil_iff]
    exact List.eq_nil_of_length_eq_zero (by simp at this; omega)
  · have hs := h4 x hx
    exact ⟨hs.ins, fun q ad e => ⟨hs.la q ad e, at_block hs.ins.labels (fun e0 => q (lblE_nil e0)) ad e⟩, fun q ad e => ⟨hs.sa q ad e, at_block hs.ins.samples (fun e0 => q (smpE_nil e0)) ad e⟩⟩
/-- A head and the document's list of the same series, each in blocks of its own. -/
structure PlAt (B : Nat) (w : World) (H T : Nat → Prop) (X : Nat) (S : List Ser) (A : Option Addr) : Prop where
  head : HeadAt H w X S
  sers : SersT T w A S
  hH : ∀ k, H k → ¬ T k ∧ B ≤ k ∧ k < w.heap.size
  hT : ∀ k, T k → B ≤ k ∧ k < w.heap.size
/-- A record done on both, and its own rows written over. -/
theorem PlAt.did (hp : PlAt B w H T X S A) (hB : B ≤ w.heap.size) (h2 : Below w.heap.size w w2) (h3 : After H w2 X S' w3) (h4 : SersT (fun k => T k ∨ w3.heap.size ≤ k) w4 A' S') (hb4 : Below w3.heap.size w3 w4) (hU : ∀ k, U k → w.heap.size ≤ k ∧ k < w2.heap.size) (h5 : Kept U w4 w5) :
    ∃ H' T', PlAt B w5 H' T' X S' A' := by
  have s2 := h2.size
  have s3 := h3.2.size
  have s4 := hb4.size
  have s5 := h5.size
  have q1 : HeadAt (fun k => (H k ∨ w2.heap.size ≤ k) ∧ k < w3.heap.size) w5 X S' := (HeadAt.below h3.1.within hb4).kept h5 fun k hk hu => by
    have q := hU k hu
    rcases hk.1 with a | a
    · have := (hp.hH k a).2.2
      omega
    · omega
  have q2 : SersT (fun k => (T k ∨ w3.heap.size ≤ k) ∧ k < w4.heap.size) w5 A' S' := h4.within.kept h5 fun k hk hu => by
    have q := hU k hu
    rcases hk.1 with a | a
    · have := (hp.hT k a).2
      omega
    · omega
  refine ⟨_, _, q1, q2, fun k hk => ⟨fun ht => ?_, ?_, by omega⟩, fun k hk => ⟨?_, by omega⟩⟩
  · rcases hk.1 with a | a <;> rcases ht.1 with b | b
    · exact (hp.hH k a).1 b
    · have := (hp.hH k a).2.2
      omega
    · have := (hp.hT k b).2
      omega
    · omega
  · rcases hk.1 with a | a
    · exact (hp.hH k a).2.1
    · omega
  · rcases hk.1 with a | a
    · exact (hp.hT k a).1
    · omega
theorem did_below (hp : PlAt B w H T X S A) (hB : B ≤ w.heap.size) (h2 : Below w.heap.size w w2) (h3 : After H w2 X S' w3) (hb4 : Below w3.heap.size w3 w4) (hU : ∀ k, U k → w.heap.size ≤ k ∧ k < w2.heap.size) (h5 : Kept U w4 w5) : Below B w w5 := by
  have s2 := h2.size
  have s3 := h3.2.size
  have s4 := hb4.size
  exact (h2.mono hB).trans ((h3.2.to_below (fun k hk => (hp.hH k hk).2.1) (by omega)).trans ((hb4.mono (by omega)).trans (h5.to_below (fun k hk => by have := hU k hk; omega) (by omega))))
/-- A copy goes on; the head that it was made of is told more. -/
theorem PlAt.copied (hp : PlAt B w5 H T X S A) (hB : B ≤ w5.heap.size) (hY : HeadAt (fun k => w5.heap.size ≤ k) w6 Y S) (hb6 : Below w5.heap.size w5 w6) (hb7 : Below w6.heap.size w6 w7) (h8 : Kept H w7 w8) (hb9 : Below w8.heap.size w8 w9) (h10 : Kept (fun k => H k ∨ w7.heap.size ≤ k) w9 w10) :
    (∃ H' T', PlAt B w10 H' T' Y S A) ∧ Below B w5 w10 := by
  have s6 := hb6.size
  have s7 := hb7.size
  have s8 := h8.size
  have s9 := hb9.size
  have s10 := h10.size
  have n8 : ∀ k, (w5.heap.size ≤ k ∧ k < w6.heap.size) → ¬ H k := fun k hk hh => by have := (hp.hH k hh).2.2; omega
  have q1 : HeadAt (fun k => w5.heap.size ≤ k ∧ k < w6.heap.size) w10 Y S := HeadAt.kept (HeadAt.below (HeadAt.kept (HeadAt.below hY.within hb7) h8 n8) hb9) h10 fun k hk hh => hh.elim (n8 k hk) fun a => by omega
  have q2 : SersT T w10 A S := (((((hp.sers.below hb6).below hb7).kept h8 fun k hk hh => (hp.hH k hh).1 hk).below hb9).kept h10 fun k hk hh => hh.elim (fun a => (hp.hH k a).1 hk) fun a => by have := (hp.hT k hk).2; omega)
  refine ⟨⟨_, _, q1, q2, fun k hk => ⟨fun ht => by have := (hp.hT k ht).2; omega, by omega, by omega⟩, fun k hk => ⟨(hp.hT k hk).1, by have := (hp.hT k hk).2; omega⟩⟩, ?_⟩
  exact (hb6.mono hB).trans ((hb7.mono (by omega)).trans ((h8.to_below (fun k hk => (hp.hH k hk).2.1) (by omega)).trans ((hb9.mono (by omega)).trans (h10.to_below (fun k hk => hk.elim (fun a => (hp.hH k a).2.1) fun a => by omega) (by omega)))))
end
/-- A record in rows of its own. -/
theorem recin_own {w : World} {base : Nat} {R : RecV} {m : RecM} (hl : OwnL w base (.slice m.la R.labels.length m.lc) R.labels) (hr : OwnW w base (.slice m.ra R.rows.length m.rc) R.rows) (hz : OwnZ w base (.slice m.ia R.ids.length m.ic) R.ids) : RecIn w R m ∧ (∀ ad, m.ra = some ad → base ≤ ad.block) ∧ ∀ ad, m.ia = some ad → base ≤ ad.block := by
  obtain ⟨P1, c1, e1, a1, b1, _⟩ := ownl_slice hl
  obtain ⟨P2, c2, e2, a2, b2, d2⟩ := ownw_slice hr
  obtain ⟨P3, c3, e3, a3, b3, d3⟩ := ownz_slice hz
  obtain ⟨rfl, -, rfl⟩ := Value.slice.inj e1
  obtain ⟨rfl, -, rfl⟩ := Value.slice.inj e2
  obtain ⟨rfl, -, rfl⟩ := Value.slice.inj e3
  exact ⟨⟨b1, b2, b3, a1, a2, a3⟩, d2, d3⟩
def plD : RecV := ⟨3, [], [], [0], 0, 1099511627776⟩
theorem plD_fit : RecFit plD := right_fit (by decide +kernel)
set_option maxHeartbeats 4000000 in
theorem headPlays_walk (w : World) (A : Option Addr) (ps : List Pl) (ca : Nat) (hA : Recs w A ps) (hf : ∀ p ∈ ps, RecFit p.1) (hr : ps.length * 96 ≤ 140737488351232) (hca : ps.length ≤ ca) (lo : Int) (blo : -9223372036854775808 ≤ lo ∧ lo ≤ 9223372036854775807) (hiT : Int) (bhi : -9223372036854775808 ≤ hiT ∧ hiT ≤ 9223372036854775807) :
    Calls Try.prog 3 #[.slice A ps.length ca, .int .i64 lo, .int .i64 hiT] w fun e w' => e = .returned (.bool true) ∧ Below w.heap.size w w' := by
  have q := fun (w : World) (X : Nat) => hd_eqnil w X
  have HA := Lib.hid hA
  have HF := Lib.hid hf
  obtain ⟨n, hn⟩ : ∃ n, ps.length = n := ⟨_, rfl⟩
  have HN := Lib.hid hn
  have HNW := Lib.hid (hdnew_prog w)
  rw [hn] at hr hca ⊢
  clear hA hf hn blo bhi
  go_enter Try.func3, Try.ntmps3
  go_wp2_with fail
  refine HNW.out.mono ?_
  rintro e w1 ⟨rfl, hd1, hb1⟩
  obtain ⟨X0, hX⟩ : ∃ X, w.heap.size + 1 = X := ⟨_, rfl⟩
  rw [hX] at hd1 ⊢
  have HP1 := Lib.hid (show PlAt w.heap.size w1 (fun k => w.heap.size ≤ k ∧ k < w1.heap.size) (fun _ => False) X0 [] none from ⟨hd1.within, SersT.nil _ _ _, fun k hk => ⟨id, hk.1, hk.2⟩, fun k hk => hk.elim⟩)
  have HB1 := Lib.hid hb1
  clear hd1 hb1 hX HNW
  go_wp2_with fail
  go_loopw [7, 8, 9] (fun a v i wr => ∃ (j X c : Nat) (S : List Ser) (P : Option Addr) (H T : Nat → Prop), j ≤ n ∧ j ≤ 60 ∧ a = .pointer (some ⟨X, 0, none⟩) ∧ v = .slice P S.length c ∧ i = .int .i64 (j : Int) ∧ S.length ≤ c ∧ HeadOk S ∧ PlAt w.heap.size wr H T X S P ∧ Below w.heap.size w wr) (fun _ _ a _ => n - (intOf a).toNat)
  case atStart => exact ⟨0, X0, 0, [], none, _, _, Nat.zero_le _, Nat.zero_le _, rfl, rfl, rfl, Nat.le_refl _, headOk_nil, HP1.out, HB1.out⟩
  case round =>
    obtain ⟨j, X, c, S, P, H, T, hj, hj60, rfl, rfl, rfl, hc, hk, hp, hbr⟩ := hrel
    have HK := Lib.hid hk
    have HP := Lib.hid hp
    have HBR := Lib.hid hbr
    by_cases hlt : j < n ∧ j < 60
    · obtain ⟨hl1, hl2⟩ := hlt
      have i1 : decide ((j : Int) < (n : Int)) = true := decide_eq_true (by omega)
      have i2 : decide ((j : Int) < 60) = true := decide_eq_true (by omega)
      have i3 : (j : Int) < (n : Int) := by omega
      obtain ⟨b, o, rfl, hb, hall⟩ := HA.out.all (by rw [HN.out]; omega)
      obtain ⟨hin, hcell⟩ := hall j (by rw [HN.out]; exact hl1)
      have hmem : ps.getD j pl0 ∈ ps := List.mem_of_getElem? (getD_some ps pl0 (by rw [HN.out]; exact hl1))
      have hfit := HF.out _ hmem
      have hlow := rec_low hin
      have HOK := Lib.hid (doH_ok (r := (ps.getD j pl0).1) hk)
      have HHL := Lib.hid (And.intro hl1 hl2)
      generalize hR : ps.getD j pl0 = Rm at *
      obtain ⟨R, m⟩ := Rm
      dsimp only at hin hfit hlow HOK
      have HIN := Lib.hid (fun (x : World) (hx : Below w.heap.size w x) => hin.below hx)
      have HOWN := Lib.hid (hdown_prog R m wr (hin.below hbr) (by have := hfit.labels; omega) (by have := hfit.rows; omega) (by have := hfit.ids; omega))
      have HDO := Lib.hid (fun (x : World) (m2 : RecM) (hx : Below wr.heap.size wr x) (h1 : RecIn x R m2) (h2 : ∀ ad, m2.ra = some ad → wr.heap.size ≤ ad.block) (h3 : ∀ ad, m2.ia = some ad → wr.heap.size ≤ ad.block) => hddo_prog (HeadAt.below hp.head hx) hk h1 hfit ⟨fun _ ad e hh => by have := h2 ad e; have := (hp.hH _ hh).2.2; omega, fun _ ad e hh => by have := h3 ad e; have := (hp.hH _ hh).2.2; omega⟩)
      have HRD := Lib.hid (fun (x : World) (hx : SersT T x P S) (hw : Below w.heap.size w x) (hs : wr.heap.size ≤ x.heap.size) => refdo_prog hx hc hk (hin.below hw) hfit (fun k hk => Nat.lt_of_lt_of_le (hp.hT k hk).2 hs))
      have HSP := Lib.hid (fun (x : World) (m2 : RecM) (h1 : OwnL x wr.heap.size (.slice m2.la R.labels.length m2.lc) R.labels) (h2 : OwnW x wr.heap.size (.slice m2.ra R.rows.length m2.rc) R.rows) => hdspoil_prog R m2 wr.heap.size x h1 h2 (by have := hfit.labels; omega) (by have := hfit.rows; omega))
      obtain ⟨D, hD⟩ : ∃ D, doH S R = D := ⟨_, rfl⟩
      rw [hD] at HDO HRD HOK
      obtain ⟨S', E⟩ := D
      dsimp only at HDO HRD HOK
      obtain ⟨kd, la, ro, ids, l0, h0⟩ := R
      obtain ⟨A1, c1, A2, c2, A3, c3⟩ := m
      have HG := Lib.hid (fun (x : World) (hx : Below w.heap.size w x) => And.intro ((hx.cell (p := ⟨b, o + j * 6 + 0, none⟩) hb).trans (hcell 0 _ rfl)) (And.intro ((hx.cell (p := ⟨b, o + j * 6 + 1, none⟩) hb).trans (hcell 1 _ rfl)) (And.intro ((hx.cell (p := ⟨b, o + j * 6 + 2, none⟩) hb).trans (hcell 2 _ rfl)) (And.intro ((hx.cell (p := ⟨b, o + j * 6 + 3, none⟩) hb).trans (hcell 3 _ rfl)) (And.intro ((hx.cell (p := ⟨b, o + j * 6 + 4, none⟩) hb).trans (hcell 4 _ rfl)) ((hx.cell (p := ⟨b, o + j * 6 + 5, none⟩) hb).trans (hcell 5 _ rfl)))))))
      obtain ⟨g0, g1, g2, g3, g4, g5⟩ := HG.out _ hbr
      rw [Nat.add_zero] at g0
      simp only [recC] at HOWN HDO HRD HSP
      have HHH := Lib.hid (fun k hk => (hp.hH k hk).2.2)
      clear hin hcell hmem hfit hk hp hbr hall hlow hD hR hc
      go_wp2_with fail
      refine HOWN.out.mono ?_
      rintro e w1 ⟨⟨Q1, d1, Q2, d2, Q3, d3⟩, rfl, ol, orr, oz, hb1⟩
      have HOL := Lib.hid ol
      have HOR := Lib.hid orr
      have HRI := Lib.hid (recin_own (R := ⟨kd, la, ro, ids, l0, h0⟩) (m := ⟨Q1, d1, Q2, d2, Q3, d3⟩) ol orr oz)
      have HBO := Lib.hid hb1
      clear ol orr oz hb1
      go_upto_region 9 with fail
      obtain ⟨w2, hw2⟩ : ∃ z, w1.alloc (.cells #[.int .i64 kd, .slice Q1 la.length d1, .slice Q2 ro.length d2, .slice Q3 ids.length d3, .int .i64 l0, .int .i64 h0] 30) = z := ⟨_, rfl⟩
      rw [hw2]
      have hrz := Row.new w1 30 #[.int .i64 kd, .slice Q1 la.length d1, .slice Q2 ro.length d2, .slice Q3 ids.length d3, .int .i64 l0, .int .i64 h0]
      rw [hw2] at hrz
      have hb2 : Below w1.heap.size w1 w2 := by rw [← hw2]; exact below_one _ _
      have HB12 := Lib.hid hb2
      have HRZ := Lib.hid hrz
      have HB2 := Lib.hid (HBO.out.trans (hb2.mono HBO.out.size))
      have x0 := hrz.cell 0
      have x1 := hrz.cell 1
      have x2 := hrz.cell 2
      have x3 := hrz.cell 3
      have x4 := hrz.cell 4
      have x5 := hrz.cell 5
      have HDX := Lib.hid (HDO.out w2 ⟨Q1, d1, Q2, d2, Q3, d3⟩ HB2.out (HRI.out.1.below hb2) HRI.out.2.1 HRI.out.2.2)
      clear hw2 hrz hb2 g0 g1 g2 g3 g4 g5
      dsimp only at HDX
      go_wp2_with fail
      refine HDX.out.mono ?_
      rintro e w3 ⟨rfl, ha3⟩
      have HA3 := Lib.hid ha3
      have HB3 := Lib.hid ((HBR.out.trans (HB2.out.mono HBR.out.size)).trans (ha3.2.to_below (fun k hk => (HP.out.hH k hk).2.1) (Nat.le_trans HBR.out.size HB2.out.size)))
      obtain ⟨g0, g1, g2, g3, g4, g5⟩ := HG.out _ HB3.out
      rw [Nat.add_zero] at g0
      have HRX := Lib.hid (HRD.out w3 ((HP.out.sers.below HB2.out).kept ha3.2 (fun k hk hh => (HP.out.hH k hh).1 hk)) HB3.out (Nat.le_trans HB2.out.size ha3.2.size))
      have hrz3 := row_move HRZ.out (ha3.2.block _ HRZ.out.lt (fun hh => by have := HHH.out _ hh; have := HBO.out.size; omega))
      have HRZ3 := Lib.hid hrz3
      have HNH := Lib.hid (show ∀ k, wr.heap.size ≤ k → ¬ H k from fun k hk hh => by have := HHH.out k hh; omega)
      clear ha3 hrz3 x0 x1 x2 x3 x4 x5
      go_wp2_with fail
      refine HRX.out.mono ?_
      rintro e w4 ⟨P4, c4, rfl, hc4, hs4, hb4⟩
      have HC4 := Lib.hid hc4
      have HS4 := Lib.hid hs4
      have HB4 := Lib.hid hb4
      have hrz4 := HRZ3.out.below hb4 HRZ3.out.lt
      have x0 := hrz4.cell 0
      have x1 := hrz4.cell 1
      have x2 := hrz4.cell 2
      have x3 := hrz4.cell 3
      have x4 := hrz4.cell 4
      have x5 := hrz4.cell 5
      have hol2 := ownl_below HOL.out HB12.out
      have hol4 := ownl_below (ownl_move hol2 (fun k hk => HA3.out.2.block k (World.ownsRow.lt hol2 k hk).2 (HNH.out k (World.ownsRow.lt hol2 k hk).1))) hb4
      have hor2 := rows_below HOR.out HB12.out
      have hor4 := rows_below (rows_move hor2 (fun k hk => HA3.out.2.block k (World.ownsRow.lt hor2 k hk).2 (HNH.out k (World.ownsRow.lt hor2 k hk).1))) hb4
      have HSX := Lib.hid (HSP.out w4 ⟨Q1, d1, Q2, d2, Q3, d3⟩ hol4 hor4)
      dsimp only at HSX
      clear hrz4 hol2 hol4 hor2 hor4 hc4 hs4 hb4 g0 g1 g2 g3 g4 g5
      go_wp2_with fail
      refine HSX.out.mono ?_
      rintro e w5 ⟨rfl, hk5⟩
      have hU : ∀ k, ((Value.slice Q1 la.length d1).ownBlock = some k ∨ (Value.slice Q2 ro.length d2).ownBlock = some k) → wr.heap.size ≤ k ∧ k < w2.heap.size := fun k hk => by
        have h3 := HB12.out.size
        rcases hk with hk | hk
        · have := World.ownsRow.lt HOL.out k hk
          omega
        · have := World.ownsRow.lt HOR.out k hk
          omega
      obtain ⟨H5, T5, hp5⟩ := HP.out.did HBR.out.size HB2.out HA3.out HS4.out HB4.out hU hk5
      have HP5 := Lib.hid hp5
      have HB5 := Lib.hid (HBR.out.trans (did_below HP.out HBR.out.size HB2.out HA3.out HB4.out hU hk5))
      clear hk5 hU hp5 x0 x1 x2 x3 x4 x5
      have m1 : Int.tmod (j : Int) 8 = ((j % 8 : Nat) : Int) := by rw [Int.tmod_eq_emod_of_nonneg (by omega)]; omega
      by_cases h3 : j % 8 = 3
      · rw [h3] at m1
        have HCP := Lib.hid (hdcopy_prog HP5.out.head HOK.out)
        go_wp2_with fail
        refine HCP.out.mono ?_
        rintro e w6 ⟨Y, rfl, hY, hb6⟩
        have HY := Lib.hid hY
        have HB6 := Lib.hid hb6
        have HB7 := Lib.hid (below_one w6 (.cells #[.int .i64 0] 3))
        have HDD := Lib.hid (show Calls Try.prog 8 #[.pointer (some ⟨X, 0, none⟩), .agg #[.int .i64 3, .slice none 0 0, .slice none 0 0, .slice (some ⟨w6.heap.size, 0, none⟩) 1 1, .int .i64 0, .int .i64 1099511627776]] (w6.alloc (.cells #[.int .i64 0] 3)) _ from
          hddo_prog (R := plD) (m := ⟨none, 0, none, 0, some ⟨w6.heap.size, 0, none⟩, 1⟩) (HeadAt.below HP5.out.head (hb6.alloc hb6.size (.cells #[.int .i64 0] 3))) HOK.out ⟨Lbls.nil _ _, Wrows.nil _ _, (show At (w6.alloc (.cells #[.int .i64 0] 3)) (some ⟨w6.heap.size, 0, none⟩) (([0] : List Int).flatMap intE) from At.row (Row.new w6 _ _)), Nat.le_refl _, Nat.le_refl _, Nat.le_refl _⟩ plD_fit
            ⟨fun hne => absurd rfl hne, fun _ ad e hh => by injection e with e; subst e; exact Nat.lt_irrefl _ (Nat.lt_of_lt_of_le (HP5.out.hH _ hh).2.2 hb6.size)⟩)
        have HOK2 := Lib.hid (doH_ok (r := plD) HOK.out)
        generalize doH S' plD = D2 at *
        clear hY hb6
        go_wp2_with fail
        refine HDD.out.mono ?_
        rintro e w8 ⟨rfl, ha8⟩
        have HA8 := Lib.hid ha8
        have HRW := Lib.hid (row_prog 0 1099511627776 3 w8)
        clear ha8
        go_wp2_with fail
        refine HRW.out.mono ?_
        rintro e w9 ⟨g, rfl, hg, hr9, hb9⟩
        have HB9 := Lib.hid hb9
        have HDE := Lib.hid (hddo_prog (HeadAt.below HA8.out.1.within hb9) HOK2.out hr9 (rowR_fit _ _ _) ⟨fun _ ad e hh => by injection e with e; subst e; exact Nat.lt_irrefl _ (Nat.lt_of_lt_of_le hh.2 hg), fun hne => absurd rfl hne⟩)
        simp only [recC, rowR, List.length_nil, List.length_singleton] at HDE
        clear hg hr9 hb9
        simp only [recC, rowR, List.length_nil, List.length_singleton]
        go_wp2_with fail
        refine HDE.out.mono ?_
        rintro e w10 ⟨rfl, ha10⟩
        obtain ⟨⟨H6, T6, hp6⟩, hb10⟩ := HP5.out.copied HB5.out.size HY.out HB6.out HB7.out HA8.out.2 HB9.out (ha10.2.mono fun k hk => hk.1)
        have HP6 := Lib.hid hp6
        have HB10 := Lib.hid (HB5.out.trans hb10)
        clear ha10 hp6 hb10
        go_wp2_with fail
        go_roundw
        case rel => exact ⟨j + 1, Y, c4, S', P4, _, _, HHL.out.1, HHL.out.2, rfl, rfl, by go_num, HC4.out, HOK.out, HP6.out, HB10.out⟩
        case measure => simp [intOf]; omega
      · have m3 : (((j % 8 : Nat) : Int) == 3) = false := beq_eq_false_iff_ne.2 (by omega)
        generalize j % 8 = r at *
        go_wp2_with fail
        go_roundw
        case rel => exact ⟨j + 1, X, c4, S', P4, _, _, HHL.out.1, HHL.out.2, rfl, rfl, by go_num, HC4.out, HOK.out, HP5.out, HB5.out⟩
        case measure => simp [intOf]; omega
    · obtain ⟨p, hin, _⟩ := hp.head
      have HTD := Lib.hid (hdtold_prog hin hk P c hp.sers.sers lo hiT)
      have hx : (decide ((j : Int) < (n : Int)) = true ∧ decide ((j : Int) < 60) = false ∧ ¬ (j : Int) < 60 ∧ (j : Int) < (n : Int)) ∨ (decide ((j : Int) < (n : Int)) = false ∧ ¬ (j : Int) < (n : Int)) := by
        by_cases h1 : j < n
        · exact .inl ⟨decide_eq_true (by omega), decide_eq_false (by omega), by omega, by omega⟩
        · exact .inr ⟨decide_eq_false (by omega), by omega⟩
      clear hlt hj hj60 hr hca hin hp hbr hk hc
      rcases hx with ⟨i1, i2, i3, i4⟩ | ⟨i1, i2⟩
      all_goals
        go_wp2_with (first
          | (go_at_call 13; refine HTD.out.mono ?_; rintro e w6 ⟨rfl, hb6⟩; have HB6 := Lib.hid (below_then HBR.out hb6); clear hb6)
          | (go_at_call 14; refine (hdlives_true _).mono ?_; rintro e w10 ⟨rfl, hb10⟩; have HB10 := Lib.hid (below_then HB6.out hb10); clear hb10))
        go_ret
        exact ⟨rfl, HB10.out⟩
end Go.Proofs.Ytpcjnagdanmdpaa
