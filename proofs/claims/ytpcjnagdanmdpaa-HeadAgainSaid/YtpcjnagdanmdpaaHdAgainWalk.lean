/- Two heads that are told the same records are one: HeadAgain's walk. -/
import Derived.Test.YtpcjnagdanmdpaaHdLotC
import Derived.Test.YtpcjnagdanmdpaaHdLotF
import Derived.Test.YtpcjnagdanmdpaaHdSame
import Derived.Test.YtpcjnagdanmdpaaWaOpen
namespace Go.Proofs.Ytpcjnagdanmdpaa
open Go.RowKit Go.Maps
open Ch
set_option linter.unusedVariables false
set_option linter.unusedSimpArgs false
set_option maxRecDepth 100000
section
variable {B : Nat} {w w' w1 w2 : World} {X Y : Nat} {h h' : List Ser}
/-- Two heads beside one another, both above B. -/
def TwoH (B : Nat) (w : World) (X Y : Nat) (h h' : List Ser) : Prop :=
  ∃ S T : Nat → Prop, HeadAt S w X h ∧ HeadAt T w Y h' ∧ (∀ k, S k → ¬ T k ∧ B ≤ k ∧ k < w.heap.size) ∧ ∀ k, T k → B ≤ k ∧ k < w.heap.size
theorem TwoH.swap (ht : TwoH B w X Y h h') : TwoH B w Y X h' h := by
  obtain ⟨S, T, h1, h2, h3, h4⟩ := ht
  exact ⟨T, S, h2, h1, fun k hk => ⟨fun hs => (h3 k hs).1 hk, h4 k hk⟩, fun k hk => (h3 k hk).2⟩
theorem TwoH.get (ht : TwoH B w X Y h h') : ∃ p, HeadIn w X p h (cntS h : Int) := by
  obtain ⟨S, T, ⟨p, hp, _⟩, _⟩ := ht
  exact ⟨p, hp⟩
theorem TwoH.do_ (ht : TwoH B w X Y h h') (hB : B ≤ w.heap.size) (hk : HeadOk h) {R : RecV} {m : RecM} (hR : RecIn w R m) (hF : RecFit R) (hO : (R.rows ≠ [] → ∀ ad, m.ra = some ad → ad.block < B) ∧ (R.ids ≠ [] → ∀ ad, m.ia = some ad → ad.block < B)) :
    Calls Try.prog 8 #[.pointer (some ⟨X, 0, none⟩), .agg (recC R m).toArray] w fun e w' => e = .returned (.int .i64 (doH h R).2) ∧ TwoH B w' X Y (doH h R).1 h' ∧ Below B w w' := by
  obtain ⟨S, T, h1, h2, h3, h4⟩ := ht
  refine (hddo_prog h1 hk hR hF ⟨fun hne ad e hs => ?_, fun hne ad e hs => ?_⟩).mono ?_
  · have q1 := (h3 _ hs).2.1
    have q2 := hO.1 hne ad e
    omega
  · have q1 := (h3 _ hs).2.1
    have q2 := hO.2 hne ad e
    omega
  · rintro e w' ⟨rfl, ha⟩
    refine ⟨rfl, ⟨fun k => (S k ∨ w.heap.size ≤ k) ∧ k < w'.heap.size, T, ha.1.within, h2.kept ha.2 fun k hk hs => (h3 k hs).1 hk, fun k hk => ?_, fun k hk => ⟨(h4 k hk).1, Nat.lt_of_lt_of_le (h4 k hk).2 ha.2.size⟩⟩, ha.2.to_below (fun k hk => (h3 k hk).2.1) hB⟩
    rcases hk.1 with q | q
    · exact ⟨(h3 k q).1, (h3 k q).2.1, hk.2⟩
    · exact ⟨fun ht => by have := (h4 k ht).2; omega, Nat.le_trans hB q, hk.2⟩
theorem two_new (h1 : HeadAt (fun k => w.heap.size ≤ k) w1 X []) (hb1 : Below w.heap.size w w1) (h2 : HeadAt (fun k => w1.heap.size ≤ k) w2 Y []) (hb2 : Below w1.heap.size w1 w2) : TwoH w.heap.size w2 X Y [] [] := by
  refine ⟨fun k => w.heap.size ≤ k ∧ k < w1.heap.size, fun k => w1.heap.size ≤ k ∧ k < w2.heap.size, HeadAt.below h1.within hb2, h2.within, fun k hk => ?_, fun k hk => ?_⟩
  · have := hb2.size
    exact ⟨fun q => by have := q.1; have := hk.2; omega, hk.1, by have := hk.2; omega⟩
  · have := hb1.size
    exact ⟨by have := hk.1; omega, hk.2⟩
theorem rec_low {R : RecV} {m : RecM} (hR : RecIn w R m) : (R.rows ≠ [] → ∀ ad, m.ra = some ad → ad.block < w.heap.size) ∧ (R.ids ≠ [] → ∀ ad, m.ia = some ad → ad.block < w.heap.size) :=
  ⟨fun hne ad e => at_block hR.rows (fun h0 => hne ((flat_nil wrowE 2 wrowE_len).1 h0)) ad e, fun hne ad e => at_block hR.ids (fun h0 => hne ((flat_nil intE 0 (fun _ => rfl)).1 h0)) ad e⟩
theorem series_lens (hk : HeadOk h) : (∀ s ∈ seriesH h, s.1.length ≤ 100000000000000 ∧ s.2.length ≤ 100000000000000) ∧ (seriesH h).length ≤ 100000000000000 := by
  have hf := seriesH_facts hk
  refine ⟨fun s hs => ?_, ?_⟩
  · obtain ⟨i, hi, rfl⟩ := List.getElem_of_mem ((hf.2 s).1 hs).1
    have := hdlens hk hi
    have e : h.getD i ser0 = h[i] := by simp [List.getD_eq_getElem?_getD, hi]
    rw [e] at this
    omega
  · have key : ∀ (l out : List Ser), (seriesF out l).length ≤ out.length + l.length := by
      intro l
      have hp : ∀ (s : Ser) (l : List Ser), (placeH s l).length = l.length + 1 := by
        intro s l
        induction l with
        | nil => rfl
        | cons a r ih =>
          unfold placeH
          split
          · rw [List.length_cons, ih, List.length_cons]
          · rfl
      induction l with
      | nil => intro out; simp [seriesF]
      | cons s r ih =>
        intro out
        unfold seriesF
        split
        · have := ih out
          rw [List.length_cons]
          omega
        · have := ih (placeH s out)
          rw [hp] at this
          rw [List.length_cons]
          omega
    have := key h []
    have := hk.few
    unfold seriesH
    simp only [List.length_nil] at *
    omega
end
set_option maxHeartbeats 1000000 in
theorem headAgain_walk (w : World) (A : Option Addr) (ps : List Pl) (ca : Nat) (hA : Recs w A ps) (hf : ∀ p ∈ ps, RecFit p.1) (hr : ps.length * 96 ≤ 140737488351232) (hca : ps.length ≤ ca) :
    Calls Try.prog 4 #[.slice A ps.length ca] w fun e w' => e = .returned (.bool true) ∧ Below w.heap.size w w' := by
  have q := fun (w : World) (X : Nat) => hd_eqnil w X
  have HA := Lib.hid hA
  have HF := Lib.hid hf
  obtain ⟨n, hn⟩ : ∃ n, ps.length = n := ⟨_, rfl⟩
  have HN := Lib.hid hn
  have HNW := Lib.hid (fun w => hdnew_prog w)
  rw [hn] at hr hca ⊢
  clear hA hf hn
  go_enter Try.func4, Try.ntmps4
  go_wp2_with fail
  refine (HNW.out _).mono ?_
  rintro e w1 ⟨rfl, hd1, hb1⟩
  obtain ⟨X, hX⟩ : ∃ X, w.heap.size + 1 = X := ⟨_, rfl⟩
  rw [hX] at hd1 ⊢
  have HD1 := Lib.hid hd1
  have HB1 := Lib.hid hb1
  clear hd1 hb1 hX
  go_wp2_with fail
  refine (HNW.out _).mono ?_
  rintro e w2 ⟨rfl, hd2, hb2⟩
  obtain ⟨Y, hY⟩ : ∃ Y, w1.heap.size + 1 = Y := ⟨_, rfl⟩
  rw [hY] at hd2 ⊢
  have HT2 := Lib.hid (two_new HD1.out HB1.out hd2 hb2)
  have HB2 := Lib.hid (below_then HB1.out hb2)
  clear hd2 hb2 hY HNW
  go_wp2_with fail
  go_loopw [5] (fun a wr => ∃ (j : Nat) (h : List Ser), j ≤ n ∧ j ≤ 60 ∧ a = .int .i64 (j : Int) ∧ HeadOk h ∧ TwoH w.heap.size wr X Y h h ∧ Below w.heap.size w wr) (fun a _ => n - (intOf a).toNat)
  case atStart => exact ⟨0, [], Nat.zero_le _, Nat.zero_le _, rfl, headOk_nil, HT2.out, HB2.out⟩
  case round =>
    obtain ⟨j, h, hj, hj60, rfl, hk, hd, hbr⟩ := hrel
    have HK := Lib.hid hk
    have HD := Lib.hid hd
    have HBR := Lib.hid hbr
    by_cases hlt : j < n ∧ j < 60
    · obtain ⟨hl1, hl2⟩ := hlt
      have i1 : decide ((j : Int) < (n : Int)) = true := decide_eq_true (by omega)
      have i2 : decide ((j : Int) < 60) = true := decide_eq_true (by omega)
      have i3 : (j : Int) < (n : Int) := by omega
      obtain ⟨b, o, rfl, hb, hall⟩ := HA.out.all (by rw [HN.out]; omega)
      obtain ⟨hin, hcell⟩ := hall j (by rw [HN.out]; exact hl1)
      have hmem : ps.getD j pl0 ∈ ps := List.mem_of_getElem? (getD_some ps pl0 (by rw [HN.out]; exact hl1))
      have hfit := HF.out _ hmem
      have hlow := rec_low hin
      have HDO := Lib.hid (fun (x : World) (X Y : Nat) (h' : List Ser) (ht : TwoH w.heap.size x X Y h h') (hx : Below w.heap.size w x) => TwoH.do_ ht hx.size hk (hin.below hx) hfit hlow)
      have HOK := Lib.hid (doH_ok (r := (ps.getD j pl0).1) hk)
      have HSM := Lib.hid (doH_same (h := h) (r := (ps.getD j pl0).1))
      generalize doH h (ps.getD j pl0).1 = R at *
      have HHL := Lib.hid (And.intro hl1 hl2)
      obtain ⟨⟨kd, la, ro, ids, l0, h0⟩, ⟨A1, c1, A2, c2, A3, c3⟩⟩ := ps.getD j pl0
      have HG := Lib.hid (fun (x : World) (hx : Below w.heap.size w x) => And.intro ((hx.cell (p := ⟨b, o + j * 6 + 0, none⟩) hb).trans (hcell 0 _ rfl)) (And.intro ((hx.cell (p := ⟨b, o + j * 6 + 1, none⟩) hb).trans (hcell 1 _ rfl)) (And.intro ((hx.cell (p := ⟨b, o + j * 6 + 2, none⟩) hb).trans (hcell 2 _ rfl)) (And.intro ((hx.cell (p := ⟨b, o + j * 6 + 3, none⟩) hb).trans (hcell 3 _ rfl)) (And.intro ((hx.cell (p := ⟨b, o + j * 6 + 4, none⟩) hb).trans (hcell 4 _ rfl)) ((hx.cell (p := ⟨b, o + j * 6 + 5, none⟩) hb).trans (hcell 5 _ rfl)))))))
      obtain ⟨g0, g1, g2, g3, g4, g5⟩ := HG.out _ hbr
      rw [Nat.add_zero] at g0
      have HDX := Lib.hid (HDO.out wr X Y h hd hbr)
      simp only [recC] at HDO HDX
      obtain ⟨h1, E⟩ := R
      dsimp only at HDO HDX HOK HSM
      clear hin hcell hmem hfit hk hd hbr hall hlow
      by_cases hE : E = 0
      · subst hE
        go_wp2_with (first
          | (go_at_call 8; refine HDY.out.mono ?_; rintro e w5 ⟨rfl, ht5, hb5⟩; have HT5 := Lib.hid ht5.swap; have HB5 := Lib.hid (HB4.out.trans hb5); clear ht5 hb5)
          | (go_at_call 8; refine HDX.out.mono ?_; rintro e w4 ⟨rfl, ht4, hb4⟩; have HT4 := Lib.hid ht4.swap; have HB4 := Lib.hid (HBR.out.trans hb4); obtain ⟨k0, k1, k2, k3, k4, k5⟩ := HG.out _ HB4.out; rw [Nat.add_zero] at k0; have HDY := Lib.hid (HDO.out w4 Y X h1 HT4.out HB4.out); clear ht4 hb4))
        go_roundw
        case rel => exact ⟨j + 1, h1, HHL.out.1, HHL.out.2, by go_num, HOK.out, HT5.out, HB5.out⟩
        case measure => simp [intOf]; omega
      · have j1 : (E == 0) = false := beq_eq_false_iff_ne.2 hE
        obtain rfl := HSM.out hE
        clear hE
        go_wp2_with (first
          | (go_at_call 8; refine HDY.out.mono ?_; rintro e w5 ⟨rfl, ht5, hb5⟩; have HT5 := Lib.hid ht5.swap; have HB5 := Lib.hid (HB4.out.trans hb5); clear ht5 hb5)
          | (go_at_call 8; refine HDX.out.mono ?_; rintro e w4 ⟨rfl, ht4, hb4⟩; have HT4 := Lib.hid ht4; have HB4 := Lib.hid (HBR.out.trans hb4); obtain ⟨k0, k1, k2, k3, k4, k5⟩ := HG.out _ HB4.out; rw [Nat.add_zero] at k0; have HDY := Lib.hid (HDO.out w4 Y X _ HT4.out.swap HB4.out); clear ht4 hb4))
        go_roundw
        case rel => exact ⟨j + 1, _, HHL.out.1, HHL.out.2, by go_num, HK.out, HT4.out, HB4.out⟩
        case measure => simp [intOf]; omega
    · obtain ⟨p, hin⟩ := hd.get
      obtain ⟨p', hin'⟩ := hd.swap.get
      have HLX := Lib.hid (hdlen_prog hin)
      have HCX := Lib.hid (hdcount_prog hin)
      have HLY := Lib.hid (hdlen_prog hin')
      have HCY := Lib.hid (hdcount_prog hin')
      have HSX := Lib.hid (hdseries_prog hin hk)
      have HSY := Lib.hid (fun (x : World) (hx : Below wr.heap.size wr x) => hdseries_prog (hin'.below hx) hk)
      have HLS := Lib.hid (series_lens hk)
      have HSA := Lib.hid (fun (x : World) (P Q : Option Addr) (c d : Nat) (h1 : Sers x P (seriesH h)) (h2 : Sers x Q (seriesH h)) => hdsame12_ref P Q (seriesH h) c d x h1 h2 HLS.out.1 HLS.out.2)
      generalize seriesH h = S at *
      have hx : (decide ((j : Int) < (n : Int)) = true ∧ decide ((j : Int) < 60) = false ∧ ¬ (j : Int) < 60 ∧ (j : Int) < (n : Int)) ∨ (decide ((j : Int) < (n : Int)) = false ∧ ¬ (j : Int) < (n : Int)) := by
        by_cases h1 : j < n
        · exact .inl ⟨decide_eq_true (by omega), decide_eq_false (by omega), by omega, by omega⟩
        · exact .inr ⟨decide_eq_false (by omega), by omega⟩
      clear hlt hj hj60 hr hca hin hin' hd hbr hk
      rcases hx with ⟨i1, i2, i3, i4⟩ | ⟨i1, i2⟩
      all_goals
        go_wp2_with (first
          | (go_at_call 15; refine HLZ.out.mono ?_; rintro e w6 ⟨rfl, rfl⟩)
          | (go_at_call 15; refine HLX.out.mono ?_; rintro e w6 ⟨rfl, rfl⟩; have HLZ := Lib.hid HLY.out)
          | (go_at_call 16; refine HCZ.out.mono ?_; rintro e w6 ⟨rfl, rfl⟩)
          | (go_at_call 16; refine HCX.out.mono ?_; rintro e w6 ⟨rfl, rfl⟩; have HCZ := Lib.hid HCY.out)
          | (go_at_call 18; refine (HSY.out _ HB7.out).mono ?_; rintro e w8 ⟨v8, rfl, ho8, hb8⟩; obtain ⟨P8, c8, hv8, _, hs8⟩ := hownsers_slice ho8; subst hv8; have HB8 := Lib.hid (below_then HBR.out (below_then HB7.out hb8)); have HS78 := Lib.hid (HS7.out.below hb8); have HS8 := Lib.hid hs8; clear ho8 hb8 hs8)
          | (go_at_call 18; refine HSX.out.mono ?_; rintro e w7 ⟨v7, rfl, ho7, hb7⟩; obtain ⟨P7, c7, hv7, _, hs7⟩ := hownsers_slice ho7; subst hv7; have HB7 := Lib.hid hb7; have HS7 := Lib.hid hs7; clear ho7 hb7 hs7)
          | (go_at_call 17; refine (HSA.out _ P7 P8 c7 c8 HS78.out HS8.out).mono ?_; rintro e w9 ⟨rfl, hb9⟩; have HB9 := Lib.hid (below_then HB8.out hb9); clear hb9)
          | (go_at_call 14; refine (hdlives_true _).mono ?_; rintro e w10 ⟨rfl, hb10⟩; have HB10 := Lib.hid (below_then HB9.out hb10); clear hb10))
        go_ret
        exact ⟨rfl, HB10.out⟩
end Go.Proofs.Ytpcjnagdanmdpaa
