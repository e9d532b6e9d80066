/- In one text, written by lotify.py: HdAgainWalk, HdOne. -/
import Derived.Test.YtpcjnagdanmdpaaWaOpen
import Derived.Test.YtpcjnagdanmdpaaHdRefSer
namespace Go.Proofs.Ytpcjnagdanmdpaa
open Go.RowKit Go.Maps
open Ch
set_option linter.unusedVariables false
set_option linter.unusedSimpArgs false
set_option maxRecDepth 100000
section
variable {B : Nat} {w w' w1 w2 : World} {X Y : Nat} {h h' : List Ser}
theorem rec_low {R : RecV} {m : RecM} (hR : RecIn w R m) : (R.rows ≠ [] → ∀ ad, m.ra = some ad → ad.block < w.heap.size) ∧ (R.ids ≠ [] → ∀ ad, m.ia = some ad → ad.block < w.heap.size) :=
  ⟨fun hne ad e => at_block hR.rows (fun h0 => hne ((flat_nil wrowE 2 wrowE_len).1 h0)) ad e, fun hne ad e => at_block hR.ids (fun h0 => hne ((flat_nil intE 0 (fun _ => rfl)).1 h0)) ad e⟩
theorem series_lens (hk : HeadOk h) : (∀ s ∈ seriesH h, s.1.length ≤ 100000000000000 ∧ s.2.length ≤ 100000000000000) ∧ (seriesH h).length ≤ 100000000000000 := by
  have hf := seriesH_facts hk
  refine ⟨fun s hs => ?_, ?_⟩
  · obtain ⟨i, hi, rfl⟩ := List.getElem_of_mem ((hf.2 s).1 hs).1
    have := hdlens hk hi
    have e : h.getD i ser0 = h[i] := by simp [List.getD_eq_getElem?_getD, hi]
    rw [e] at this
    omega
  · have key : ∀ (l out : List Ser), (seriesF out l).length ≤ out.length + l.length := by
      intro l
      have hp : ∀ (s : Ser) (l : List Ser), (placeH s l).length = l.length + 1 := by
        intro s l
        induction l with
        | nil => rfl
        | cons a r ih =>
          unfold placeH
          split
          · rw [List.length_cons, ih, List.length_cons]
          · rfl
      induction l with
      | nil => intro out; simp [seriesF]
      | cons s r ih =>
        intro out
        unfold seriesF
        split
        · have := ih out
          rw [List.length_cons]
          omega
        · have := ih (placeH s out)
          rw [hp] at this
          rw [List.length_cons]
          omega
    have := key h []
    have := hk.few
    unfold seriesH
    simp only [List.length_nil] at *
    omega
end
section
variable {w w' : World} {X : Nat} {p : Plc} {h : List Ser} {c : Int}
set_option maxHeartbeats 1000000 in
theorem hdid_yes (hi : HeadIn w X p h c) (hk : HeadOk h) {l : List Lbl} (hl : lbChk l = 0) (A : Option Addr) (ca : Nat) (hA : Lbls w A l) (h0 : 0 ≤ idH h l) :
    Calls Try.prog 61 #[.pointer (some ⟨X, 0, none⟩), .slice A l.length ca] w fun e w' => e = .returned (.tuple #[.int .i64 (idH h l), .int .i64 0]) ∧ Below w.heap.size w w' := by
  have hle := (lbChk_ok.1 hl).1
  have HC := Lib.hid (lbchk_prog A l ca w hA (by omega))
  rw [hl] at HC
  have HP := Lib.hid (fun (x : World) (hx : Below w.heap.size w x) => print_prog A l ca x (hA.below hx) (by omega) (by have := right_cost hl; omega))
  have HI := Lib.hid (fun w' (hb : Below w.heap.size w w') => (hi.below hb).cells)
  have HL := Lib.hid (fun w' (hb : Below w.heap.size w w') => ids_look (hi.below hb).ids hk hl)
  have h1 : decide (0 ≤ idH h l) = true := decide_eq_true h0
  rw [h1, if_pos h0] at HL
  have q := hd_eqnil w X
  generalize idH h l = I at *
  clear hi hk hl hA h1 hle
  go_enter Try.func61, Try.ntmps61
  go_wp2_with fail
  refine HC.out.mono ?_
  rintro e w2 ⟨rfl, hb2⟩
  have HB2 := Lib.hid hb2
  clear hb2
  go_upto_region 6 with fail
  obtain ⟨P, cc, _, _, x0, x1, _⟩ := HI.out _ HB2.out
  go_region_held3 (fun w' => w'.cell? ⟨X, 1, none⟩ = some (.map (some p.mb)))
    (first | with_reducible assumption | go_keep)
    (first
      | (go_at_call 49
         refine (HP.out _ HB2.out.drew).mono ?_
         rintro e w3 ⟨rfl, hb3⟩
         have hb3' := HB2.out.drew.trans (hb3.mono HB2.out.drew.size)
         obtain ⟨_, _, _, _, _, k1, _⟩ := HI.out _ hb3'
         have hlk := HL.out _ hb3'
         have HB3 := Lib.hid hb3'
         clear hb3 hb3'))
  go_wp2_with fail
  go_ret2
  exact ⟨rfl, HB3.out⟩
theorem hdone_no (hi : HeadIn w X p h c) (A : Option Addr) (ca : Nat) (id lo hiT : Int) (hn : id < 0 ∨ (h.length : Int) ≤ id) :
    Calls Try.prog 34 #[.pointer (some ⟨X, 0, none⟩), .slice A h.length ca, .int .i64 id, .int .i64 lo, .int .i64 hiT] w fun e w' => e = .returned (.bool true) ∧ Below w.heap.size w w' := by
  have HLB := Lib.hid (hdlabels_no hi id hn)
  have HLT := Lib.hid (hdlast_no hi id hn)
  have HSE := Lib.hid (hdselect_no hi id lo hiT hn)
  have hd : (decide (id < 0) = true ∧ True) ∨ (decide (id < 0) = false ∧ decide ((h.length : Int) ≤ id) = true) := by
    by_cases h0 : id < 0
    · exact .inl ⟨decide_eq_true h0, trivial⟩
    · exact .inr ⟨decide_eq_false h0, decide_eq_true (by omega)⟩
  clear hi hn
  rcases hd with ⟨d1, d2⟩ | ⟨d1, d2⟩
  all_goals
    go_enter Try.func34, Try.ntmps34
    go_wp2_with (first
      | (go_at_call 60; refine HLB.out.mono ?_; rintro e w1 ⟨rfl, rfl⟩)
      | (go_at_call 35; refine HLT.out.mono ?_; rintro e w1 ⟨rfl, rfl⟩)
      | (go_at_call 19; refine HSE.out.mono ?_; rintro e w1 ⟨rfl, hb1⟩))
    go_ret
    exact ⟨rfl, hb1⟩
set_option maxHeartbeats 4000000 in
theorem hdone_yes (hi : HeadIn w X p h c) (hk : HeadOk h) (A : Option Addr) (ca : Nat) (hA : Sers w A h) (i : Nat) (hl : i < h.length) (lo hiT : Int) :
    Calls Try.prog 34 #[.pointer (some ⟨X, 0, none⟩), .slice A h.length ca, .int .i64 (i : Int), .int .i64 lo, .int .i64 hiT] w fun e w' => e = .returned (.bool true) ∧ Below w.heap.size w w' := by
  obtain ⟨b, o, rfl, hb, hat⟩ := hA.all (by omega)
  obtain ⟨m, hsa⟩ := hat i hl
  have hlen := hdlens hk hl
  have hright := (hk.right _ (ser_at hl)).1
  have HSA := Lib.hid (fun (x : World) (hx : Below w.heap.size w x) => show x.cell? ⟨b, o + i * 2, none⟩ = some (.slice m.la (h.getD i ser0).1.length m.lc) ∧ x.cell? ⟨b, o + i * 2 + 1, none⟩ = some (.slice m.sa (h.getD i ser0).2.length m.sc) ∧ SerIn x (h.getD i ser0, m) from hsa.below hx hb)
  have HLB := Lib.hid (hdlabels_yes hi hk i hl)
  have HLT := Lib.hid (fun (x : World) (hx : Below w.heap.size w x) => hdlast_yes (hi.below hx) i hl (by omega))
  have HSE := Lib.hid (fun (x : World) (hx : Below w.heap.size w x) => hdselect_yes (hi.below hx) hk i hl lo hiT)
  have HID := Lib.hid (fun (x : World) (hx : Below w.heap.size w x) (P : Option Addr) (d : Nat) (hP : Lbls x P (h.getD i ser0).1) => hdid_yes (hi.below hx) hk hright P d hP (by rw [idH_of hk hl]; omega))
  rw [idH_of hk hl] at HID
  have HSM := Lib.hid (fun (x : World) (P Q : Option Addr) (d f : Nat) (hP : Lbls x P (h.getD i ser0).1) (hQ : Lbls x Q (h.getD i ser0).1) => same_ref P Q (h.getD i ser0).1 (h.getD i ser0).1 d f x hP hQ (by omega) (by omega))
  have HRL := Lib.hid (fun (x : World) (hx : SerIn x (h.getD i ser0, m)) => reflast_prog (h.getD i ser0, m) x hx (by dsimp only; omega))
  have HBW := Lib.hid (fun (x : World) (hx : Smps x m.sa (h.getD i ser0).2) => hdbetween_ref m.sa (h.getD i ser0).2 m.sc lo hiT x hx (by omega))
  have HSS := Lib.hid (fun (x : World) (P Q : Option Addr) (d f : Nat) (hP : Smps x P ((h.getD i ser0).2.filter (inB lo hiT))) (hQ : Smps x Q ((h.getD i ser0).2.filter (inB lo hiT))) => same_smps P Q _ d f x hP hQ (by have := List.length_filter_le (inB lo hiT) (h.getD i ser0).2; omega))
  have d1 : decide ((i : Int) < 0) = false := decide_eq_false (by omega)
  have d2 : decide ((h.length : Int) ≤ (i : Int)) = false := decide_eq_false (by omega)
  have d3 : (i : Int) < (h.length : Int) := by omega
  generalize (h.getD i ser0) = s at *
  generalize h.length = n at *
  clear hi hk hA hat hsa hlen hright
  simp only [lsV, ssV] at HRL
  go_enter Try.func34, Try.ntmps34
  go_wp2_with (first
    | (go_at_call 60
       refine HLB.out.mono ?_
       rintro e w1 ⟨v1, rfl, ho1, hb1⟩
       obtain ⟨P1, c1, hv1, _, hl1, _⟩ := ownl_slice ho1
       subst hv1
       have HB1 := Lib.hid hb1
       have HL1 := Lib.hid (show ∀ x, Below w1.heap.size w1 x → Lbls x P1 s.1 from fun x hx => hl1.below hx)
       clear hb1 ho1 hl1)
    | (go_at_call 35
       refine (HLT.out _ HB1.out).mono ?_
       rintro e w2 ⟨rfl, hb2⟩
       have HB2 := Lib.hid (below_then HB1.out hb2)
       have HC2 := Lib.hid hb2
       clear hb2)
    | (go_at_call 19
       refine (HSE.out _ HB2.out).mono ?_
       rintro e w3 ⟨v3, rfl, ho3, hb3⟩
       obtain ⟨P3, c3, hv3, _, hs3, _⟩ := owns_slice ho3
       subst hv3
       have HB3 := Lib.hid (below_then HB2.out hb3)
       have HC3 := Lib.hid (below_then HC2.out hb3)
       have HS3 := Lib.hid (show ∀ x, Below w3.heap.size w3 x → Smps x P3 (s.2.filter (inB lo hiT)) from fun x hx => hs3.below hx)
       clear hb3 ho3 hs3)
    | (go_at_call 61
       refine (HID.out _ HB3.out P1 c1 (HL1.out _ HC3.out)).mono ?_
       rintro e w4 ⟨rfl, hb4⟩
       have HB4 := Lib.hid (below_then HB3.out hb4)
       have HC4 := Lib.hid (below_then HC3.out hb4)
       have HD4 := Lib.hid hb4
       obtain ⟨g0, g1, _⟩ := HSA.out _ HB4.out
       have HSM4 := Lib.hid (HSM.out _ P1 m.la c1 m.lc (HL1.out _ HC4.out) (HSA.out _ HB4.out).2.2.labels)
       clear hb4)
    | (go_at_call 36
       refine HSM4.out.mono ?_
       rintro e w5 ⟨rfl, hb5⟩
       have HB5 := Lib.hid (below_then HB4.out hb5)
       have HD5 := Lib.hid (below_then HD4.out hb5)
       obtain ⟨g0, g1, _⟩ := HSA.out _ HB5.out
       clear hb5)
    | (go_at_call 28
       refine (HRL.out _ (HSA.out _ HB5.out).2.2).mono ?_
       rintro e w6 ⟨rfl, hb6⟩
       have HB6 := Lib.hid (below_then HB5.out hb6)
       have HD6 := Lib.hid (below_then HD5.out hb6)
       obtain ⟨g0, g1, _⟩ := HSA.out _ HB6.out
       clear hb6)
    | (go_at_call 62
       refine (HBW.out _ (HSA.out _ HB6.out).2.2.samples).mono ?_
       rintro e w7 ⟨v7, rfl, ho7, hb7⟩
       obtain ⟨P7, c7, hv7, _, hs7, _⟩ := owns_slice ho7
       subst hv7
       have HB7 := Lib.hid (below_then HB6.out hb7)
       have HSS7 := Lib.hid (HSS.out _ P3 P7 c3 c7 (HS3.out _ (below_then HD6.out hb7)) hs7)
       clear hb7 ho7 hs7)
    | (go_at_call 20
       refine HSS7.out.mono ?_
       rintro e w8 ⟨rfl, hb8⟩
       have HB8 := Lib.hid (below_then HB7.out hb8)
       clear hb8))
  go_ret
  exact ⟨rfl, HB8.out⟩
set_option maxHeartbeats 4000000 in
theorem hdtold_prog (hi : HeadIn w X p h (cntS h : Int)) (hk : HeadOk h) (A : Option Addr) (ca : Nat) (hA : Sers w A h) (lo hiT : Int) :
    Calls Try.prog 13 #[.pointer (some ⟨X, 0, none⟩), .slice A h.length ca, .int .i64 lo, .int .i64 hiT] w fun e w' => e = .returned (.bool true) ∧ Below w.heap.size w w' := by
  have h256 := hk.few
  have HLN := Lib.hid (hdlen_prog hi)
  have HCN := Lib.hid (hdcount_prog hi)
  have HRC := Lib.hid (refcount_prog A h ca w hA (by omega) hk.all)
  have HSX := Lib.hid (fun (x : World) (hx : Below w.heap.size w x) => hdseries_prog (hi.below hx) hk)
  have HRS := Lib.hid (fun (x : World) (hx : Below w.heap.size w x) => refseries_prog A h ca x (hA.below hx) (by omega) (fun s hs => by have := (lbChk_ok.1 (hk.right s hs).1).1; omega))
  have HLS := Lib.hid (series_lens hk)
  have HSA := Lib.hid (fun (x : World) (P Q : Option Addr) (c d : Nat) (h1 : Sers x P (seriesH h)) (h2 : Sers x Q (seriesH h)) => hdsame12_ref P Q (seriesH h) c d x h1 h2 HLS.out.1 HLS.out.2)
  have HNO := Lib.hid (fun (x : World) (hx : Below w.heap.size w x) id hn => hdone_no (hi.below hx) A ca id lo hiT hn)
  have HYES := Lib.hid (fun (x : World) (hx : Below w.heap.size w x) i hl => hdone_yes (hi.below hx) hk A ca (hA.below hx) i hl lo hiT)
  generalize seriesH h = S at *
  generalize cntS h = q at *
  generalize h.length = n at *
  clear hi hk hA
  go_enter Try.func13, Try.ntmps13
  go_upto_region 3 with (first
    | (go_at_call 15; refine HLN.out.mono ?_; rintro e w1 ⟨rfl, hw1⟩; have hw1 := hw1.symm; subst hw1)
    | (go_at_call 16; refine HCN.out.mono ?_; rintro e w1 ⟨rfl, hw1⟩; have hw1 := hw1.symm; subst hw1)
    | (go_at_call 27; refine HRC.out.mono ?_; rintro e w2 ⟨rfl, hb2⟩; have HB2 := Lib.hid hb2; clear hb2)
    | (go_at_call 18; refine (HSX.out _ HB2.out).mono ?_; rintro e w3 ⟨v3, rfl, ho3, hb3⟩; obtain ⟨P3, c3, hv3, _, hs3⟩ := hownsers_slice ho3; subst hv3; have HB3 := Lib.hid (below_then HB2.out hb3); have HS3 := Lib.hid (show ∀ x, Below w3.heap.size w3 x → Sers x P3 S from fun x hx => hs3.below hx); clear ho3 hb3 hs3)
    | (go_at_call 33; refine (HRS.out _ HB3.out).mono ?_; rintro e w4 ⟨P4, c4, rfl, hs4, hb4⟩; have HB4 := Lib.hid (below_then HB3.out hb4); have HSA4 := Lib.hid (HSA.out _ P3 P4 c3 c4 (HS3.out _ hb4) hs4); clear hb4 hs4)
    | (go_at_call 17; refine HSA4.out.mono ?_; rintro e w5 ⟨rfl, hb5⟩; have HB5 := Lib.hid (below_then HB4.out hb5); clear hb5))
  go_wp2_with fail
  go_loopw [9] (fun i wr => ∃ j : Nat, j ≤ n + 2 ∧ i = .int .i64 ((j : Int) - 1) ∧ Below w.heap.size w wr) (fun i _ => ((n : Int) + 1 - intOf i).toNat)
  case atStart => exact ⟨0, by omega, rfl, HB5.out⟩
  case round =>
    obtain ⟨j, hj, rfl, hbr⟩ := hrel
    have HBR := Lib.hid hbr
    clear hbr
    by_cases hlt : (j : Int) - 1 ≤ (n : Int)
    · have i1 : decide ((j : Int) - 1 ≤ (n : Int)) = true := decide_eq_true hlt
      have hone : Calls Try.prog 34 #[.pointer (some ⟨X, 0, none⟩), .slice A n ca, .int .i64 ((j : Int) - 1), .int .i64 lo, .int .i64 hiT] wr fun e w' => e = .returned (.bool true) ∧ Below wr.heap.size wr w' := by
        by_cases h1 : (j : Int) - 1 < 0 ∨ (n : Int) ≤ (j : Int) - 1
        · exact HNO.out wr HBR.out _ h1
        · have := HYES.out wr HBR.out (j - 1) (by omega)
          rw [show ((j - 1 : Nat) : Int) = (j : Int) - 1 by omega] at this
          exact this
      have HONE := Lib.hid hone
      clear hone
      go_wp2_with (go_at_call 34; refine HONE.out.mono ?_; rintro e w6 ⟨rfl, hb6⟩; have HB6 := Lib.hid (below_then HBR.out hb6); clear hb6)
      go_roundw
      case rel => exact ⟨j + 1, by omega, by rw [show ((j + 1 : Nat) : Int) - 1 = (j : Int) by omega], HB6.out⟩
      case measure => simp [intOf]; omega
    · have i1 : decide ((j : Int) - 1 ≤ (n : Int)) = false := decide_eq_false hlt
      go_wp2_with fail
      go_ret
      exact ⟨rfl, HBR.out⟩
end
end Go.Proofs.Ytpcjnagdanmdpaa
