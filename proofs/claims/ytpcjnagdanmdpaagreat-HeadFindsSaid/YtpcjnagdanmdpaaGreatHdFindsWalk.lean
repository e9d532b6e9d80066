/- Any matchers find in any head what the document says: HeadFinds' walk. -/
import Derived.Test.YtpcjnagdanmdpaaGreatHdLotW
import Derived.Test.YtpcjnagdanmdpaaGreatHdLotT
namespace Go.Proofs.YtpcjnagdanmdpaaGreat
open Go.RowKit Go.Maps
open Ch
set_option linter.unusedVariables false
set_option linter.unusedSimpArgs false
set_option maxRecDepth 100000
theorem hdrec_low {w : World} {R : RecV} {m : RecM} (hR : RecIn w R m) : (R.rows ≠ [] → ∀ ad, m.ra = some ad → ad.block < w.heap.size) ∧ (R.ids ≠ [] → ∀ ad, m.ia = some ad → ad.block < w.heap.size) :=
  ⟨fun hne ad e => at_block hR.rows (fun h0 => hne ((flat_nil wrowE 2 wrowE_len).1 h0)) ad e, fun hne ad e => at_block hR.ids (fun h0 => hne ((flat_nil intE 0 (fun _ => rfl)).1 h0)) ad e⟩
set_option maxHeartbeats 4000000 in
theorem headFinds_walk (w : World) (A : Option Addr) (ps : List Pl) (ca : Nat) (hA : Recs w A ps) (hf : ∀ p ∈ ps, RecFit p.1) (hr : ps.length * 96 ≤ 140737488351232) (hca : ps.length ≤ ca)
    (M : Option Addr) (ms : List Mt) (cm : Nat) (hM : Mts w M ms) (hmf : MFits ms) (hm : ms.length * 40 ≤ 140737488351232) (hmc : ms.length ≤ cm)
    (L : Option Addr) (l : List Lbl) (lc : Nat) (hL : Lbls w L l) (hlf : LFits l) (hl : l.length * 32 ≤ 140737488351232) (hlc : l.length ≤ lc) :
    Calls Tryz.prog 3 #[.slice A ps.length ca, .slice M ms.length cm, .slice L l.length lc] w fun e w' => e = .returned (.bool true) ∧ Below w.heap.size w w' := by
  have q := fun (w : World) (X : Nat) => hd_eqnil w X
  have HA := Lib.hid hA
  have HF := Lib.hid hf
  have HM := Lib.hid (fun (x : World) (hx : Below w.heap.size w x) => (show Mts x M ms from hM.below hx))
  have HL := Lib.hid (fun (x : World) (hx : Below w.heap.size w x) => hL.below hx)
  have HMF := Lib.hid hmf
  have HML := Lib.hid hm
  have HLL := Lib.hid hl
  have HCR := Lib.hid (fun (x : World) (hx : Below w.heap.size w x) => lbchk_ref L l lc x (hL.below hx) (by omega) hlf)
  obtain ⟨n, hn⟩ : ∃ n, ps.length = n := ⟨_, rfl⟩
  have HN := Lib.hid hn
  have HNW := Lib.hid (hdnew_prog w)
  rw [hn] at hr hca ⊢
  clear hA hf hn hM hmf hm hmc hL hlf hl hlc
  go_enter Tryz.func3, Tryz.ntmps3
  go_wp2_with fail
  refine HNW.out.mono ?_
  rintro e w1 ⟨rfl, hd1, hb1⟩
  obtain ⟨X, hX⟩ : ∃ X, w.heap.size + 1 = X := ⟨_, rfl⟩
  rw [hX] at hd1 ⊢
  have HP1 := Lib.hid (show PlAt w.heap.size w1 (fun k => w.heap.size ≤ k ∧ k < w1.heap.size) (fun _ => False) X [] none from ⟨hd1.within, SersT.nil _ _ _, fun k hk => ⟨id, hk.1, hk.2⟩, fun k hk => hk.elim⟩)
  have HB1 := Lib.hid hb1
  clear hd1 hb1 hX HNW
  go_wp2_with fail
  go_loopw [8, 9] (fun v i wr => ∃ (j c : Nat) (S : List Ser) (P : Option Addr) (H T : Nat → Prop), j ≤ n ∧ j ≤ 60 ∧ v = .slice P S.length c ∧ i = .int .i64 (j : Int) ∧ S.length ≤ c ∧ HeadOk S ∧ PlAt w.heap.size wr H T X S P ∧ Below w.heap.size w wr) (fun _ a _ => n - (intOf a).toNat)
  case atStart => exact ⟨0, 0, [], none, _, _, Nat.zero_le _, Nat.zero_le _, rfl, rfl, Nat.le_refl _, headOk_nil, HP1.out, HB1.out⟩
  case round =>
    obtain ⟨j, c, S, P, H, T, hj, hj60, rfl, rfl, hc, hk, hp, hbr⟩ := hrel
    have HK := Lib.hid hk
    have HP := Lib.hid hp
    have HBR := Lib.hid hbr
    by_cases hlt : j < n ∧ j < 60
    · obtain ⟨hl1, hl2⟩ := hlt
      have i1 : decide ((j : Int) < (n : Int)) = true := decide_eq_true (by omega)
      have i2 : decide ((j : Int) < 60) = true := decide_eq_true (by omega)
      have i3 : (j : Int) < (n : Int) := by omega
      obtain ⟨b, o, rfl, hb, hall⟩ := HA.out.all (by rw [HN.out]; omega)
      obtain ⟨hin, hcell⟩ := hall j (by rw [HN.out]; exact hl1)
      have hmem : ps.getD j pl0 ∈ ps := List.mem_of_getElem? (getD_some ps pl0 (by rw [HN.out]; exact hl1))
      have hfit := HF.out _ hmem
      have hlow := hdrec_low hin
      have HOK := Lib.hid (doH_ok (r := (ps.getD j pl0).1) hk)
      have HHL := Lib.hid (And.intro hl1 hl2)
      generalize hR : ps.getD j pl0 = Rm at *
      obtain ⟨R, m⟩ := Rm
      dsimp only at hin hfit hlow HOK
      have HDO := Lib.hid (hddo_prog hp.head hk (hin.below hbr) hfit ⟨fun hne ad e hh => by have := hlow.1 hne ad e; have := (hp.hH _ hh).2.1; omega, fun hne ad e hh => by have := hlow.2 hne ad e; have := (hp.hH _ hh).2.1; omega⟩)
      have HRD := Lib.hid (fun (x : World) (hx : SersT T x P S) (hw : Below w.heap.size w x) (hs : wr.heap.size ≤ x.heap.size) => refdo_prog hx hc hk (hin.below hw) hfit (fun k hk => Nat.lt_of_lt_of_le (hp.hT k hk).2 hs))
      obtain ⟨D, hD⟩ : ∃ D, doH S R = D := ⟨_, rfl⟩
      rw [hD] at HDO HRD HOK
      obtain ⟨S', E⟩ := D
      dsimp only at HDO HRD HOK
      obtain ⟨kd, la, ro, ids, l0, h0⟩ := R
      obtain ⟨A1, c1, A2, c2, A3, c3⟩ := m
      have HG := Lib.hid (fun (x : World) (hx : Below w.heap.size w x) => And.intro ((hx.cell (p := ⟨b, o + j * 6 + 0, none⟩) hb).trans (hcell 0 _ rfl)) (And.intro ((hx.cell (p := ⟨b, o + j * 6 + 1, none⟩) hb).trans (hcell 1 _ rfl)) (And.intro ((hx.cell (p := ⟨b, o + j * 6 + 2, none⟩) hb).trans (hcell 2 _ rfl)) (And.intro ((hx.cell (p := ⟨b, o + j * 6 + 3, none⟩) hb).trans (hcell 3 _ rfl)) (And.intro ((hx.cell (p := ⟨b, o + j * 6 + 4, none⟩) hb).trans (hcell 4 _ rfl)) ((hx.cell (p := ⟨b, o + j * 6 + 5, none⟩) hb).trans (hcell 5 _ rfl)))))))
      obtain ⟨g0, g1, g2, g3, g4, g5⟩ := HG.out _ hbr
      rw [Nat.add_zero] at g0
      simp only [recC] at HDO HRD
      clear hin hcell hmem hfit hk hp hbr hall hlow hD hR hc
      go_wp2_with fail
      refine HDO.out.mono ?_
      rintro e w3 ⟨rfl, ha3⟩
      have HA3 := Lib.hid ha3
      have HB3 := Lib.hid (HBR.out.trans (ha3.2.to_below (fun k hk => (HP.out.hH k hk).2.1) HBR.out.size))
      obtain ⟨g0, g1, g2, g3, g4, g5⟩ := HG.out _ HB3.out
      rw [Nat.add_zero] at g0
      have HRX := Lib.hid (HRD.out w3 (HP.out.sers.kept ha3.2 (fun k hk hh => (HP.out.hH k hh).1 hk)) HB3.out ha3.2.size)
      clear ha3
      go_wp2_with fail
      refine HRX.out.mono ?_
      rintro e w4 ⟨P4, c4, rfl, hc4, hs4, hb4⟩
      have HC4 := Lib.hid hc4
      obtain ⟨H5, T5, hp5⟩ := HP.out.did (U := fun _ => False) HBR.out.size (Below.refl _ _) HA3.out hs4 hb4 (fun k hk => hk.elim) (Kept.refl _ _)
      have HP5 := Lib.hid hp5
      have HB5 := Lib.hid (HBR.out.trans (did_below (U := fun _ => False) HP.out HBR.out.size (Below.refl _ _) HA3.out hb4 (fun k hk => hk.elim) (Kept.refl _ _)))
      clear hc4 hs4 hb4 hp5
      go_wp2_with fail
      go_roundw
      case rel => exact ⟨j + 1, c4, S', P4, _, _, HHL.out.1, HHL.out.2, rfl, by go_num, HC4.out, HOK.out, HP5.out, HB5.out⟩
      case measure => simp [intOf]; omega
    · obtain ⟨p, hin, _⟩ := hp.head
      have HFD := Lib.hid (fun (x : World) (hx : Below wr.heap.size wr x) P3 c3 (h3 : Mts x P3 ms) => hdfind_prog (hin.below hx) hk P3 ms c3 h3 (by have := HML.out; omega))
      have HFR := Lib.hid (fun (x : World) (hx : Below wr.heap.size wr x) => hdfind_ref P S c M ms cm (hp.sers.sers.below hx) hk.few (fun s hs => by have := (lbChk_ok.1 (hk.right s hs).1).1; omega) (HM.out x (hbr.trans (hx.mono hbr.size))) HMF.out (by have := HML.out; omega))
      have HRI := Lib.hid (fun (x : World) (hx : Below wr.heap.size wr x) => refid_prog P S c L l lc x (hp.sers.sers.below hx) (HL.out x (hbr.trans (hx.mono hbr.size))) (fun s hs => by have := (lbChk_ok.1 (hk.right s hs).1).1; omega) (by have := HLL.out; omega) (by have := hk.few; omega))
      have HFL := Lib.hid (show (if mchkAll ms = 0 then hfind S ms S.length else []).length ≤ 256 by
        split
        · exact Nat.le_trans (hfind_len S ms S.length) hk.few
        · simp)
      have HE := Lib.hid (ownm_empty (base := wr.heap.size) (Row.new wr 107 #[]) (Nat.le_refl _))
      unfold HFound at HFD HFR
      have hid : (lbChk l ≠ 0 ∧ ∀ x, Below wr.heap.size wr x → Calls Tryz.prog 11 #[.pointer (some ⟨X, 0, none⟩), .slice L l.length lc] x fun e w' => e = .returned (.tuple #[.int .i64 0, .int .i64 (lbChk l)]) ∧ Below x.heap.size x w') ∨
          (lbChk l = 0 ∧ 0 ≤ idH S l ∧ ∀ x, Below wr.heap.size wr x → Calls Tryz.prog 11 #[.pointer (some ⟨X, 0, none⟩), .slice L l.length lc] x fun e w' => e = .returned (.tuple #[.int .i64 (idH S l), .int .i64 0]) ∧ Below x.heap.size x w') ∨
          (lbChk l = 0 ∧ idH S l < 0 ∧ ∀ x, Below wr.heap.size wr x → Calls Tryz.prog 11 #[.pointer (some ⟨X, 0, none⟩), .slice L l.length lc] x fun e w' => e = .returned (.tuple #[.int .i64 0, .int .i64 9]) ∧ Below x.heap.size x w') := by
        by_cases h1 : lbChk l = 0
        · by_cases h2 : 0 ≤ idH S l
          · exact .inr (.inl ⟨h1, h2, fun x hx => hdid_yes (hin.below hx) hk h1 L lc (HL.out x (hbr.trans (hx.mono hbr.size))) h2⟩)
          · exact .inr (.inr ⟨h1, by omega, fun x hx => hdid_no (hin.below hx) hk h1 L lc (HL.out x (hbr.trans (hx.mono hbr.size))) h2⟩)
        · exact .inl ⟨h1, fun x hx => hdid_bad X h1 (by have := HLL.out; omega) L lc (HL.out x (hbr.trans (hx.mono hbr.size)))⟩
      generalize (if mchkAll ms = 0 then hfind S ms S.length else []) = F at *
      generalize mchkAll ms = EM at *
      have qm : (EM == EM) = true := by simp
      have qm2 : (EM != EM) = false := by simp
      have hx : (decide ((j : Int) < (n : Int)) = true ∧ decide ((j : Int) < 60) = false ∧ ¬ (j : Int) < 60 ∧ (j : Int) < (n : Int)) ∨ (decide ((j : Int) < (n : Int)) = false ∧ ¬ (j : Int) < (n : Int)) := by
        by_cases h1 : j < n
        · exact .inl ⟨decide_eq_true (by omega), decide_eq_false (by omega), by omega, by omega⟩
        · exact .inr ⟨decide_eq_false (by omega), by omega⟩
      clear hlt hj hj60 hr hca hin hp hbr hk hc
      rcases hid with ⟨h1, hid⟩ | ⟨h1, h2, hid⟩ | ⟨h1, h2, hid⟩
      · have HID := Lib.hid hid
        clear hid
        generalize lbChk l = E at *
        have q1 : (E != 0) = true := bne_iff_ne.2 h1
        have q2 : (E == E) = true := by simp
        clear h1
        rcases hx with ⟨i1, i2, i3, i4⟩ | ⟨i1, i2⟩
        all_goals
          go_wp2_with (first
            | (at_builtin
               refine app_mts rfl (.tmp 48) (.tmp 49) rfl wr.heap.size _ [] rfl HE.out M ms cm rfl (HM.out _ (HBR.out.alloc HBR.out.size _)) (by have := HML.out; simp only [List.length_nil]; omega) (by simp) ?_
               intro v3 w3 ho3 hb3 _
               rw [List.nil_append] at ho3
               obtain ⟨P3, c3, hv3, hc3, hM3, _⟩ := ownm_slice ho3
               subst hv3
               have HM3 := Lib.hid hM3
               have HB3 := Lib.hid (show Below wr.heap.size wr w3 from ((Below.refl _ wr).alloc (Nat.le_refl _) _).trans hb3)
               clear ho3 hb3 hc3 hM3)
            | fail)
          refine (HFD.out _ HB3.out P3 c3 HM3.out).mono ?_
          rintro e w4 ⟨v4, rfl, ho4, hb4⟩
          obtain ⟨P4, c4, hv4, hc4, hZ4, _⟩ := ownz_slice ho4
          subst hv4
          have HZ4 := Lib.hid hZ4
          have HB4 := Lib.hid (below_then HB3.out hb4)
          clear ho4 hb4 hc4 hZ4
          go_wp2_with fail
          refine (HFR.out _ HB4.out).mono ?_
          rintro e w5 ⟨v5, rfl, ho5, hb5⟩
          obtain ⟨P5, c5, hv5, hc5, hZ5, _⟩ := ownz_slice ho5
          subst hv5
          have HZ5 := Lib.hid hZ5
          have HZ45 := Lib.hid (HZ4.out.below hb5)
          have HB5 := Lib.hid (below_then HB4.out hb5)
          clear ho5 hb5 hc5 hZ5
          go_wp2_with fail
          refine (same_yes _ _ F c4 c5 _ HZ45.out HZ5.out (by have := HFL.out; omega)).mono ?_
          rintro e w6 ⟨rfl, hb6⟩
          have HB6 := Lib.hid (below_then HB5.out hb6)
          clear hb6
          go_wp2_with fail
          refine (HID.out _ HB6.out).mono ?_
          rintro e w7 ⟨rfl, hb7⟩
          have HB7 := Lib.hid (below_then HB6.out hb7)
          clear hb7
          go_wp2_with fail
          refine (HCR.out _ (HBR.out.trans (HB7.out.mono HBR.out.size))).mono ?_
          rintro e w8 ⟨rfl, hb8⟩
          have HB8 := Lib.hid (below_then HB7.out hb8)
          clear hb8
          go_wp2_with (first | (go_at_call 13; refine (hdlives_true _).mono ?_; rintro e w9 ⟨rfl, hb9⟩; have HB9 := Lib.hid (below_then HB8.out hb9); clear hb9))
          go_ret
          exact ⟨rfl, HBR.out.trans (HB9.out.mono HBR.out.size)⟩
      · have HID := Lib.hid hid
        clear hid
        rw [h1] at HCR
        generalize idH S l = I at *
        have q1 : decide (0 ≤ I) = true := decide_eq_true h2
        have q2 : (I == I) = true := by simp
        clear h1
        rcases hx with ⟨i1, i2, i3, i4⟩ | ⟨i1, i2⟩
        all_goals
          go_wp2_with (first
            | (at_builtin
               refine app_mts rfl (.tmp 48) (.tmp 49) rfl wr.heap.size _ [] rfl HE.out M ms cm rfl (HM.out _ (HBR.out.alloc HBR.out.size _)) (by have := HML.out; simp only [List.length_nil]; omega) (by simp) ?_
               intro v3 w3 ho3 hb3 _
               rw [List.nil_append] at ho3
               obtain ⟨P3, c3, hv3, hc3, hM3, _⟩ := ownm_slice ho3
               subst hv3
               have HM3 := Lib.hid hM3
               have HB3 := Lib.hid (show Below wr.heap.size wr w3 from ((Below.refl _ wr).alloc (Nat.le_refl _) _).trans hb3)
               clear ho3 hb3 hc3 hM3)
            | fail)
          refine (HFD.out _ HB3.out P3 c3 HM3.out).mono ?_
          rintro e w4 ⟨v4, rfl, ho4, hb4⟩
          obtain ⟨P4, c4, hv4, hc4, hZ4, _⟩ := ownz_slice ho4
          subst hv4
          have HZ4 := Lib.hid hZ4
          have HB4 := Lib.hid (below_then HB3.out hb4)
          clear ho4 hb4 hc4 hZ4
          go_wp2_with fail
          refine (HFR.out _ HB4.out).mono ?_
          rintro e w5 ⟨v5, rfl, ho5, hb5⟩
          obtain ⟨P5, c5, hv5, hc5, hZ5, _⟩ := ownz_slice ho5
          subst hv5
          have HZ5 := Lib.hid hZ5
          have HZ45 := Lib.hid (HZ4.out.below hb5)
          have HB5 := Lib.hid (below_then HB4.out hb5)
          clear ho5 hb5 hc5 hZ5
          go_wp2_with fail
          refine (same_yes _ _ F c4 c5 _ HZ45.out HZ5.out (by have := HFL.out; omega)).mono ?_
          rintro e w6 ⟨rfl, hb6⟩
          have HB6 := Lib.hid (below_then HB5.out hb6)
          clear hb6
          go_wp2_with fail
          refine (HID.out _ HB6.out).mono ?_
          rintro e w7 ⟨rfl, hb7⟩
          have HB7 := Lib.hid (below_then HB6.out hb7)
          clear hb7
          go_wp2_with fail
          refine (HCR.out _ (HBR.out.trans (HB7.out.mono HBR.out.size))).mono ?_
          rintro e w8 ⟨rfl, hb8⟩
          have HB8 := Lib.hid (below_then HB7.out hb8)
          clear hb8
          go_wp2_with fail
          refine (HRI.out _ HB8.out).mono ?_
          rintro e w9 ⟨rfl, hb9⟩
          have HB9 := Lib.hid (below_then HB8.out hb9)
          clear hb9
          go_wp2_with (first | (go_at_call 13; refine (hdlives_true _).mono ?_; rintro e w10 ⟨rfl, hb10⟩; have HB10 := Lib.hid (below_then HB9.out hb10); clear hb10))
          go_ret
          exact ⟨rfl, HBR.out.trans (HB10.out.mono HBR.out.size)⟩
      · have HID := Lib.hid hid
        clear hid
        rw [h1] at HCR
        generalize idH S l = I at *
        have q1 : decide (0 ≤ I) = false := decide_eq_false (by omega)
        have q2 : (I == I) = true := by simp
        clear h1
        rcases hx with ⟨i1, i2, i3, i4⟩ | ⟨i1, i2⟩
        all_goals
          go_wp2_with (first
            | (at_builtin
               refine app_mts rfl (.tmp 48) (.tmp 49) rfl wr.heap.size _ [] rfl HE.out M ms cm rfl (HM.out _ (HBR.out.alloc HBR.out.size _)) (by have := HML.out; simp only [List.length_nil]; omega) (by simp) ?_
               intro v3 w3 ho3 hb3 _
               rw [List.nil_append] at ho3
               obtain ⟨P3, c3, hv3, hc3, hM3, _⟩ := ownm_slice ho3
               subst hv3
               have HM3 := Lib.hid hM3
               have HB3 := Lib.hid (show Below wr.heap.size wr w3 from ((Below.refl _ wr).alloc (Nat.le_refl _) _).trans hb3)
               clear ho3 hb3 hc3 hM3)
            | fail)
          refine (HFD.out _ HB3.out P3 c3 HM3.out).mono ?_
          rintro e w4 ⟨v4, rfl, ho4, hb4⟩
          obtain ⟨P4, c4, hv4, hc4, hZ4, _⟩ := ownz_slice ho4
          subst hv4
          have HZ4 := Lib.hid hZ4
          have HB4 := Lib.hid (below_then HB3.out hb4)
          clear ho4 hb4 hc4 hZ4
          go_wp2_with fail
          refine (HFR.out _ HB4.out).mono ?_
          rintro e w5 ⟨v5, rfl, ho5, hb5⟩
          obtain ⟨P5, c5, hv5, hc5, hZ5, _⟩ := ownz_slice ho5
          subst hv5
          have HZ5 := Lib.hid hZ5
          have HZ45 := Lib.hid (HZ4.out.below hb5)
          have HB5 := Lib.hid (below_then HB4.out hb5)
          clear ho5 hb5 hc5 hZ5
          go_wp2_with fail
          refine (same_yes _ _ F c4 c5 _ HZ45.out HZ5.out (by have := HFL.out; omega)).mono ?_
          rintro e w6 ⟨rfl, hb6⟩
          have HB6 := Lib.hid (below_then HB5.out hb6)
          clear hb6
          go_wp2_with fail
          refine (HID.out _ HB6.out).mono ?_
          rintro e w7 ⟨rfl, hb7⟩
          have HB7 := Lib.hid (below_then HB6.out hb7)
          clear hb7
          go_wp2_with fail
          refine (HCR.out _ (HBR.out.trans (HB7.out.mono HBR.out.size))).mono ?_
          rintro e w8 ⟨rfl, hb8⟩
          have HB8 := Lib.hid (below_then HB7.out hb8)
          clear hb8
          go_wp2_with fail
          refine (HRI.out _ HB8.out).mono ?_
          rintro e w9 ⟨rfl, hb9⟩
          have HB9 := Lib.hid (below_then HB8.out hb9)
          clear hb9
          go_wp2_with (first | (go_at_call 13; refine (hdlives_true _).mono ?_; rintro e w10 ⟨rfl, hb10⟩; have HB10 := Lib.hid (below_then HB9.out hb10); clear hb10))
          go_ret
          exact ⟨rfl, HBR.out.trans (HB10.out.mono HBR.out.size)⟩
end Go.Proofs.YtpcjnagdanmdpaaGreat
