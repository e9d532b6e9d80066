/- What is written is read as it was; what is read is written as just those bytes: BlockBack's walk. -/
import Derived.Test.YtgdmcnoogacdaaaGreatDoorBlLives
import Derived.Test.YtgdmcnoogacdaaaGreatDoorBlAll
import Derived.Test.YtgdmcnoogacdaaaGreatDoorBlSame
import Derived.Deep.DeepCutAuto
namespace Go.Proofs.YtgdmcnoogacdaaaGreatDoor
open Go.RowKit Go.Maps
open Ch
set_option linter.unusedVariables false
set_option linter.unusedSimpArgs false
set_option maxRecDepth 100000
theorem fit_of {S : List Ser} (h : blChk S = 0) : ∀ s ∈ S, SerFit s := by
  obtain ⟨h1, h2, h3, h4⟩ := blChk_zero.1 h
  intro s hs
  have hm : s.1 ∈ blSets S := List.mem_map_of_mem hs
  have hlb := (ixChk_right h3).2.2 _ hm
  have h8 := (lbChk_ok.1 hlb).1
  have hc := cntS_mem hs
  obtain ⟨_, hg⟩ := h4 s hs
  refine ⟨fun i hi => ?_, by omega, fun i hi => ?_, by omega⟩
  · have hx : (nmOf s.1 i, vlOf s.1 i) ∈ s.1 := by
      have e : s.1[i] = (nmOf s.1 i, vlOf s.1 i) := by
        unfold nmOf vlOf
        rw [List.getD_eq_getElem?_getD, List.getElem?_eq_getElem hi]
        rfl
      rw [← e]
      exact List.getElem_mem hi
    have := label_sizes hlb hx
    simp only at this
    omega
  · have := good_at hg hi
    unfold tOf vOf at this
    unfold Fit
    omega
theorem small_of {S : List Ser} (h : blChk S = 0) : ∀ s ∈ S, s.1.length ≤ 100000000000000 ∧ s.2.length ≤ 100000000000000 := by
  intro s hs
  have := fit_of h s hs
  have h1 := this.ll
  have h2 := this.sl
  omega
set_option maxHeartbeats 8000000 in
theorem blockBack_walk (w : World) (hD : Door w) (A : Option Addr) (S : List Ser) (c : Nat) (hA : Sers w A S) (hf : ∀ s ∈ S, SerFit s) (hr : S.length * 48 ≤ 140737488351232) (hlc : S.length ≤ c)
    (V : Option Addr) (b : List UInt8) (cb : Nat) (hV : Bys w V b) (hrb : b.length ≤ 140737488351232) (hlb : b.length ≤ cb) :
    Calls Tryz.prog 6 #[.slice A S.length c, .slice V b.length cb] w fun e w' => e = .returned (.bool true) ∧ Below w.heap.size w w' := by
  have HW := Lib.hid (fun x (hx : Below w.heap.size w x) => write_prog A S c x (hA.below hx) hf hr hlc)
  have HC := Lib.hid (fun x (h : Below w.heap.size w x) => blcheck_prog A S c x (hA.below h) hf hr hlc)
  have HX := Lib.hid (fun x hx => blLives_true x hx)
  have HD := Lib.hid hD
  have HOP := Lib.hid (open_prog V b cb hlb (by omega) w hV hD)
  have HSX := Lib.hid (fun x (hx : Below w.heap.size w x) => hA.below hx)
  have HVX := Lib.hid (fun x (hx : Below w.heap.size w x) => hV.below hx)
  clear hA hf hD hV
  obtain ⟨n, hn⟩ : ∃ n, S.length = n := ⟨_, rfl⟩
  have HN := Lib.hid hn
  obtain ⟨lb, hlbb⟩ : ∃ lb, b.length = lb := ⟨_, rfl⟩
  have HLB := Lib.hid hlbb
  rw [hn] at HW HC hr hlc ⊢
  rw [hlbb] at HOP ⊢
  clear hn hlbb
  go_enter Tryz.func6, Tryz.ntmps6
  go_upto_if 19 with (go_at_call 17; refine HOP.out.mono ?_; rintro e w2 ⟨hb2, hcase⟩; obtain ⟨p, E, he, hpe⟩ : ∃ (p : Option Addr) (E : Int), e = .returned (.tuple #[.pointer p, .int .i64 E]) ∧ ((E = 0 ∧ ∃ S' X, blChk S' = 0 ∧ blL S' = b ∧ p = some ⟨X, 0, none⟩ ∧ BlkAt w2 w.heap.size X S') ∨ E = 5) := (by rcases hcase with ⟨S', X, h1, h2, h3, h4⟩ | ⟨_, h3⟩; exact ⟨_, _, h3, .inl ⟨rfl, S', X, h1, h2, rfl, h4⟩⟩; exact ⟨_, _, h3, .inr rfl⟩); subst he; have HPE := Lib.hid hpe; have HB2 := Lib.hid hb2; clear hb2 hcase hpe)
  go_cut [] (fun wx => Below w.heap.size w wx)
  case first =>
    rcases HPE.out with ⟨rfl, S', X, hz, hbl, rfl, hX⟩ | rfl
    · have HFT := Lib.hid (fit_of hz)
      have H48 := Lib.hid (show S'.length * 48 ≤ 140737488351232 by have := (blChk_zero.1 hz).1; omega)
      have HAL := Lib.hid (blall_yes hX hz)
      have HZ := Lib.hid hz
      have HBL := Lib.hid hbl
      clear hz hbl hX HPE
      go_wp2_with fail
      refine HAL.out.mono ?_
      rintro e w3 ⟨v3, rfl, ho3, hb3⟩
      obtain ⟨P3, c3, hv3, hc3, hS3⟩ := ownsers_slice ho3
      have HWR := Lib.hid (write_prog P3 S' c3 w3 hS3 HFT.out H48.out hc3)
      have HB3 := Lib.hid (below_then HB2.out hb3)
      subst hv3
      generalize S'.length = n' at *
      clear ho3 hb3 hS3 hc3
      go_wp2_with fail
      refine HWR.out.mono ?_
      rintro e w4 ⟨hb4, ⟨h, _⟩ | ⟨_, v4, rfl, ho4⟩⟩
      · exact absurd HZ.out h
      rw [HBL.out] at ho4
      obtain ⟨P4, d4, hv4, hP4, _⟩ := own_slice' ho4
      have HB4 := Lib.hid (below_then HB3.out hb4)
      have k1 : (convert 24 9 (.slice P4 lb d4)).run Tryz.prog w4 = .ok (.string (txt b)) w4 := by rw [← HLB.out]; exact conv_bys w4 P4 b d4 hP4
      have k2 : (convert 24 9 (.slice V lb cb)).run Tryz.prog w4 = .ok (.string (txt b)) w4 := by rw [← HLB.out]; exact conv_bys w4 V b cb (HVX.out _ HB4.out)
      rw [HLB.out] at hv4
      subst hv4
      generalize txt b = T at *
      have q1 : (T.toList != T.toList) = false := by simp
      clear ho4 hb4 hP4
      go_wp2_with fail
      all_goals go_meet
      all_goals exact HB4.out
    · clear HPE
      go_wp2_with fail
      all_goals go_meet
      all_goals exact HB2.out
  case rest =>
    have HBX := Lib.hid hcut
    clear hcut HB2 HPE HOP
    go_wp2_with fail
    refine (HW.out _ HBX.out).mono ?_
    rintro e w5 ⟨hb5, ⟨hz, rfl⟩ | ⟨hz, v5, rfl, ho5⟩⟩
    · have HB5 := Lib.hid (below_then HBX.out hb5)
      have HC5 := Lib.hid (HC.out _ HB5.out)
      have q1 : (blChk S != 0) = true := bne_iff_ne.2 hz
      generalize blChk S = E' at *
      have q2 : (E' == E') = true := by simp
      clear hz hb5
      go_wp2_with fail
      refine HC5.out.mono ?_
      rintro e w6 ⟨rfl, hb6⟩
      have HB6 := Lib.hid (below_then HB5.out hb6)
      clear hb6
      go_wp2_with fail
      refine (HX.out _ (HD.out.below HB6.out)).mono ?_
      rintro e w7 ⟨rfl, hb7⟩
      have HB7 := Lib.hid (below_then HB6.out hb7)
      clear hb7
      go_wp2
      go_ret
      exact ⟨rfl, HB7.out⟩
    · obtain ⟨P5, d5, hv5, hP5, _, hd5, _⟩ := own_cap ho5
      have HB5 := Lib.hid (below_then HBX.out hb5)
      have hbl := bl_len hz
      have hfl := front_len hz
      have HOY := Lib.hid (open_yes P5 (blL S) d5 hd5 (by omega) w5 hP5 (HD.out.below HB5.out) hz rfl)
      have HAL := Lib.hid (fun X b (x : World) (h : BlkAt x b X S) => blall_yes h hz)
      have HSM := Lib.hid (small_of hz)
      have h256 := (blChk_zero.1 hz).1
      obtain ⟨L, hL⟩ : ∃ L, (blL S).length = L := ⟨_, rfl⟩
      rw [hL] at hv5 HOY
      subst hv5
      clear hb5 ho5 hP5 hd5 hbl hfl hz hL
      go_wp2_with fail
      refine HOY.out.mono ?_
      rintro e w6 ⟨hb6, X, rfl, hX⟩
      have HB6 := Lib.hid (below_then HB5.out hb6)
      have HAX := Lib.hid (HAL.out _ _ _ hX)
      clear hb6 hX HOY HAL
      go_wp2_with fail
      refine HAX.out.mono ?_
      rintro e w7 ⟨v7, rfl, ho7, hb7⟩
      obtain ⟨P7, c7, hv7, hc7, hS7⟩ := ownsers_slice ho7
      have HB7 := Lib.hid (below_then HB6.out hb7)
      have HSA := Lib.hid (same12_ref P7 A S c7 c w7 hS7 (HSX.out _ HB7.out) HSM.out (by omega))
      rw [HN.out] at hv7 HSA
      subst hv7
      clear ho7 hb7 hS7 hc7 HAX
      go_wp2_with fail
      refine HSA.out.mono ?_
      rintro e w8 ⟨rfl, hb8⟩
      have HB8 := Lib.hid (below_then HB7.out hb8)
      clear hb8
      go_wp2_with fail
      refine (HX.out _ (HD.out.below HB8.out)).mono ?_
      rintro e w9 ⟨rfl, hb9⟩
      have HB9 := Lib.hid (below_then HB8.out hb9)
      clear hb9
      go_wp2
      go_ret
      exact ⟨rfl, HB9.out⟩
end Go.Proofs.YtgdmcnoogacdaaaGreatDoor
