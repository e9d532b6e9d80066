/- The bytes of an index, as the document's own answer tells them. -/
import Derived.Test.YtgdmcnoogacdaaaGreatDoorBlLotL
import Derived.Test.YtgdmcnoogacdaaaGreatDoorBlLotN
import Derived.Test.YtgdmcnoogacdaaaGreatDoorBlLotE
import Derived.Deep.RegionHeld3
import Derived.Deep.Cut
namespace Go.Proofs.YtgdmcnoogacdaaaGreatDoor
open Go.RowKit Go.Maps
set_option linter.unusedVariables false
set_option maxRecDepth 100000

theorem acc_small' {ss : List (List Lbl)} (h : ixChk ss = 0) {a r : List UInt8} (e : a ++ r = ixBytes ss) : a.length ≤ 1000000 := by
  have h1 := bytes_len h
  rw [← e, List.length_append] at h1
  omega
set_option maxHeartbeats 4000000 in
theorem bytes_ref (V : Option Addr) (ss : List (List Lbl)) (c : Nat) (w : World) (hV : Sets w V ss) (hr : ixChk ss = 0) :
    Calls Tryz.prog 72 #[.slice V ss.length c] w fun e w' => ∃ v, e = .returned v ∧ Own w' w.heap.size v (ixBytes ss) ∧ Below w.heap.size w w' := by
  obtain ⟨h256, _, hrr⟩ := ixChk_right hr
  have HTX := Lib.hid (texts_ref V ss c w hV h256 (fun l hl => (lbChk_ok.1 (hrr l hl)).1))
  have HT4 := Lib.hid (texts_len hr)
  have HTS := Lib.hid (fun s (hs : s ∈ ixTexts ss) => text_size hr hs)
  have HAC := Lib.hid (fun (a r : List UInt8) (e : a ++ r = ixBytes ss) => acc_small' hr e)
  have HVV := Lib.hid hV
  have HST := Lib.hid (bytes_start ss)
  have HTN := Lib.hid (fun k (h : k < (ixTexts ss).length) => restT_next ss h)
  have HTE := Lib.hid (restT_end ss)
  have HSN := Lib.hid (fun i (h : i < ss.length) => restS_next ss h)
  have HSE := Lib.hid (restS_end ss)
  have HLN := Lib.hid (fun i k (h : k < (ss.getD i []).length) => restL_next ss i h)
  have HLE := Lib.hid (fun i => restL_end ss i)
  have HIN := Lib.hid (fun i (hi : i < ss.length) k (hk : k < (ss.getD i []).length) => texts_in (ss_at hi) (show (nmOf (ss.getD i []) k, vlOf (ss.getD i []) k) ∈ ss.getD i [] from by
    have e : (ss.getD i [])[k] = (nmOf (ss.getD i []) k, vlOf (ss.getD i []) k) := by
      unfold nmOf vlOf
      rw [List.getD_eq_getElem?_getD (l := ss.getD i []), List.getElem?_eq_getElem hk]
      rfl
    rw [← e]
    exact List.getElem_mem hk))
  have H8 := Lib.hid (fun i (hi : i < ss.length) => (lbChk_ok.1 (hrr _ (ss_at hi))).1)
  clear hrr hr hV
  obtain ⟨ts, hts⟩ : ∃ ts, ixTexts ss = ts := ⟨_, rfl⟩
  rw [hts] at HTX HT4 HTS HST HTN HTE HLN HIN
  clear hts
  have ht4 : ts.length ≤ 4096 := HT4.out
  have HUI := Lib.hid (fun (n : Nat) (W : World) (hn : n ≤ 9223372036854775807) => uint_ref n W hn)
  have HU9 := Lib.hid (fun (n : Nat) (hn : n < 9223372036854775808) => uintL_9 hn)
  go_enter Tryz.func72, Tryz.ntmps72
  go_upto_region 2 with (first | (go_at_call 109; refine HTX.out.mono ?_; rintro e w2 ⟨P, cP, rfl, hP, hcP, hb2⟩; have HP2 := Lib.hid hP; have HB2 := Lib.hid hb2; have HV2 := Lib.hid (HVV.out.below hb2); clear hP hb2))
  obtain ⟨B, hB⟩ : ∃ B, w2.heap.size = B := ⟨_, rfl⟩
  have HBEQ := Lib.hid hB
  have HTXX := Lib.hid (show ∀ x : World, Below B w2 x → Tx x P ts from fun x h => HP2.out.below (by rw [hB]; exact h))
  have HVX := Lib.hid (show ∀ x : World, Below B w2 x → Sets x V ss from fun x h => HV2.out.below (by rw [hB]; exact h))
  have HBS := Lib.hid (show ∀ x : World, Below B w2 x → B ≤ x.heap.size from fun x h => by have := h.size; omega)
  have HWB := Lib.hid (show w.heap.size ≤ B from by have := HB2.out.size; omega)
  clear hB HTX HVV
  go_wp2_with (first | (go_at_call 73; refine (HUI.out ts.length _ (by omega)).mono ?_; rintro e w3 ⟨v3, rfl, ho3, hb3⟩; have HO3 : Hid (Own w3 B v3 (uintL ts.length)) := Lib.hid (by rw [← HBEQ.out]; exact ho3); have HB3 : Hid (Below B w2 w3) := Lib.hid (by rw [← HBEQ.out]; exact hb3); clear ho3 hb3))
  go_loopw [4, 5] (fun u i wr => ∃ (k : Nat) (acc : List UInt8), k ≤ ts.length ∧ i = .int .i64 (k : Int) ∧ Own wr B u acc ∧ acc ++ restT ss k = ixBytes ss ∧ Below B w2 wr) (fun _ i _ => ts.length - (intOf i).toNat)
  case atStart => exact ⟨0, uintL ts.length, Nat.zero_le _, rfl, HO3.out, HST.out.symm, HB3.out⟩
  case round =>
    obtain ⟨k, acc, hk, rfl, hO, hE, hB⟩ := hrel
    have HO := Lib.hid hO
    have HE := Lib.hid hE
    have HB := Lib.hid hB
    have hbw := HBS.out _ hB
    have hac := HAC.out _ _ hE
    have hTx := HTXX.out _ hB
    clear hO hE hB
    by_cases hlt : k < ts.length
    · obtain ⟨b1, o1, rfl, hb1, g0⟩ := hTx.at_ hlt
      have i1 : (k : Int) < (ts.length : Int) := by omega
      have HMEM := Lib.hid (show ts.getD k txt0 ∈ ts from by rw [getD_at hlt]; exact List.getElem_mem hlt)
      have HRN := Lib.hid (HTN.out k hlt)
      generalize ts.getD k txt0 = s at *
      have hs64 := HTS.out s HMEM.out
      have htl : (textL s).length ≤ 1000 := by
        unfold textL
        have := uintL_9 (n := s.size) (by omega)
        rw [List.length_append, strL_length]
        omega
      clear hTx
      go_wp2_with (first
        | (go_at_call 110; refine (text_ref s _ (by omega)).mono ?_; rintro e w5 ⟨v5, rfl, ho5, hb5⟩; obtain ⟨B5, d5, hv5, hB5, _⟩ := own_slice' ho5; subst hv5; have HBB5 := Lib.hid hB5; have HB5 := Lib.hid (HB.out.trans (hb5.mono hbw)); have HO5 := Lib.hid (own_below HO.out hb5); clear ho5 hB5 hb5)
        | (at_builtin; refine app_u8 rfl (.tmp 19) (.tmp 24) rfl B u4 acc rfl HO5.out B5 (textL s) d5 rfl HBB5.out (by omega) (HBS.out _ HB5.out) ?_; intro v6 w6 ho6 hb6 hg6; have HO6 := Lib.hid ho6; have HB6 := Lib.hid (HB5.out.trans hb6); clear ho6 hb6 hg6))
      go_roundw
      case rel => exact ⟨k + 1, acc ++ textL s, hlt, by go_num, HO6.out, by rw [List.append_assoc, ← HE.out, HRN.out]; rfl, HB6.out⟩
      case measure => simp [intOf]; omega
    · obtain rfl : k = ts.length := by omega
      rw [HTE.out] at HE
      have hu9 := HU9.out ss.length (by omega)
      clear hTx
      go_wp2_with (first
        | (go_at_call 73; refine (HUI.out ss.length _ (by omega)).mono ?_; rintro e w5 ⟨v5, rfl, ho5, hb5⟩; obtain ⟨B5, d5, hv5, hB5, _⟩ := own_slice' ho5; subst hv5; have HBB5 := Lib.hid hB5; have HB5 := Lib.hid (HB.out.trans (hb5.mono hbw)); have HO5 := Lib.hid (own_below HO.out hb5); clear ho5 hB5 hb5)
        | (at_builtin; refine app_u8 rfl (.tmp 26) (.tmp 29) rfl B u4 acc rfl HO5.out B5 (uintL ss.length) d5 rfl HBB5.out (by omega) (HBS.out _ HB5.out) ?_; intro v8 w8 ho8 hb8 hg8; have HO8 := Lib.hid ho8; have HB8 := Lib.hid (HB5.out.trans hb8); clear ho8 hb8 hg8))
      have HE8 : Hid ((acc ++ uintL ss.length) ++ restS ss 0 = ixBytes ss) := Lib.hid (by rw [List.append_assoc]; exact HE.out)
      generalize acc ++ uintL ss.length = acc8 at *
      clear HB HO HE hbw hac hu9
      generalize hwA : wr = wA at *
      clear hwA
      go_loopw [4, 6] (fun u i wr => ∃ (k : Nat) (acc : List UInt8), k ≤ ss.length ∧ i = .int .i64 (k : Int) ∧ Own wr B u acc ∧ acc ++ restS ss k = ixBytes ss ∧ Below B w2 wr) (fun _ i _ => ss.length - (intOf i).toNat)
      case atStart => exact ⟨0, acc8, Nat.zero_le _, rfl, HO8.out, HE8.out, HB8.out⟩
      case round =>
        obtain ⟨i, acc, hi, rfl, hO, hE, hB⟩ := hrel
        have HO := Lib.hid hO
        have HE := Lib.hid hE
        have HB := Lib.hid hB
        have hbw := HBS.out _ hB
        clear hO hE hB
        by_cases hlt : i < ss.length
        · obtain ⟨b1, o1, A1, c1, rfl, hb1, g0, hL1, hlc1⟩ := HV2.out.at_ hlt
          have HG1 := Lib.hid (show ∀ x : World, Below B w2 x → x.cell? ⟨b1, o1 + i, none⟩ = some (.slice A1 (ss.getD i []).length c1) from fun x h => (h.cell (p := ⟨b1, o1 + i, none⟩) (by rw [← HBEQ.out]; exact hb1)).trans g0)
          have HLX := Lib.hid (show ∀ x : World, Below B w2 x → Lbls x A1 (ss.getD i []) from fun x h => hL1.below (by rw [HBEQ.out]; exact h))
          have i1 : (i : Int) < (ss.length : Int) := by omega
          have HRN := Lib.hid (HSN.out i hlt)
          have HLN2 := Lib.hid (fun k h => HLN.out i k h)
          have HLE2 := Lib.hid (HLE.out i)
          have HIN2 := Lib.hid (fun k hk => HIN.out i hlt k hk)
          have h8 := H8.out i hlt
          clear g0 hL1
          obtain ⟨l, hl2⟩ : ∃ l, ss.getD i [] = l := ⟨_, rfl⟩
          rw [hl2] at HRN HLN2 HLE2 HIN2 h8 HG1 HLX hlc1
          clear hl2
          rw [HRN.out] at HE
          have hac := HAC.out _ _ HE.out
          have hu9 := HU9.out l.length (by omega)
          have g1 := HG1.out _ HB.out
          go_wp2_with (first
            | (go_at_call 73; refine (HUI.out l.length _ (by omega)).mono ?_; rintro e w9 ⟨v9, rfl, ho9, hb9⟩; obtain ⟨B9, d9, hv9, hB9, _⟩ := own_slice' ho9; subst hv9; have HBB9 := Lib.hid hB9; have HB9 := Lib.hid (HB.out.trans (hb9.mono hbw)); have HO9 := Lib.hid (own_below HO.out hb9); clear ho9 hB9 hb9)
            | (at_builtin; refine app_u8 rfl (.tmp 37) (.tmp 43) rfl B u4 acc rfl HO9.out B9 (uintL l.length) d9 rfl HBB9.out (by omega) (HBS.out _ HB9.out) ?_; intro v10 w10 ho10 hb10 hg10; have HO10 := Lib.hid ho10; have HB10 := Lib.hid (HB9.out.trans hb10); clear ho10 hb10 hg10))
          have HE10 : Hid ((acc ++ uintL l.length) ++ restL ss i 0 = ixBytes ss) := Lib.hid (by rw [List.append_assoc]; exact HE.out)
          generalize acc ++ uintL l.length = acc10 at *
          clear HB HO HE g1 hbw hac hu9
          generalize hwB : wr = wB at *
          clear hwB
          go_loopw [4, 7] (fun u j wr => ∃ (k : Nat) (acc : List UInt8), k ≤ l.length ∧ j = .int .i64 (k : Int) ∧ Own wr B u acc ∧ acc ++ restL ss i k = ixBytes ss ∧ Below B w2 wr) (fun _ j _ => l.length - (intOf j).toNat)
          case atStart => exact ⟨0, acc10, Nat.zero_le _, rfl, HO10.out, HE10.out, HB10.out⟩
          case round =>
            obtain ⟨k, acc, hk, rfl, hO, hE, hB⟩ := hrel
            have HO := Lib.hid hO
            have HE := Lib.hid hE
            have HB := Lib.hid hB
            have hbw := HBS.out _ hB
            have g1 := HG1.out _ hB
            clear hO hE hB
            by_cases hkl : k < l.length
            · obtain ⟨b2, o2, rfl, hb2, n0, n1⟩ := (HLX.out _ (show Below B w2 w2 from Below.refl _ _)).at_ hkl
              have i3 : (k : Int) < (l.length : Int) := by omega
              have HRL := Lib.hid (HLN2.out k hkl)
              obtain ⟨hmn, hmv⟩ := HIN2.out k hkl
              have HSB := Lib.hid (show ∀ x : World, Below B w2 x → x.cell? ⟨b1, o1 + i, none⟩ = some (.slice (some ⟨b2, o2, none⟩) l.length c1) ∧ x.cell? ⟨b2, o2 + k * 2, none⟩ = some (.string (nmOf l k)) ∧ x.cell? ⟨b2, o2 + k * 2 + 1, none⟩ = some (.string (vlOf l k)) from
                fun x h => ⟨HG1.out x h, (h.cell (p := ⟨b2, o2 + k * 2, none⟩) (by rw [← HBEQ.out]; exact hb2)).trans n0, (h.cell (p := ⟨b2, o2 + k * 2 + 1, none⟩) (by rw [← HBEQ.out]; exact hb2)).trans n1⟩)
              have hp1 : placeF ts (nmOf l k) < ts.length := (place_get hmn).1
              have hp2 : placeF ts (vlOf l k) < ts.length := (place_get hmv).1
              have HMN := Lib.hid hmn
              have HMV := Lib.hid hmv
              clear hmn hmv n0 n1
              generalize nmOf l k = nm at *
              generalize vlOf l k = vl at *
              rw [HRL.out] at HE
              have HP1 := Lib.hid (fun (x : World) (h : Below B w2 x) => place_ref P ts cP nm x (HTXX.out x h) HMN.out (by omega))
              have HP2 := Lib.hid (fun (x : World) (h : Below B w2 x) => place_ref P ts cP vl x (HTXX.out x h) HMV.out (by omega))
              have hu1 := HU9.out (placeF ts nm) (by omega)
              have hu2 := HU9.out (placeF ts vl) (by omega)
              have HAC1 := Lib.hid (HAC.out _ _ HE.out)
              have HQ1 := Lib.hid (fun (x : World) => HUI.out (placeF ts nm) x (by omega))
              have HQ2 := Lib.hid (fun (x : World) => HUI.out (placeF ts vl) x (by omega))
              generalize placeF ts nm = p1 at *
              generalize placeF ts vl = p2 at *
              obtain ⟨i0, hi0, hz0, hz1, hz2⟩ := info_parts u8_info
              have HN1 := Lib.hid (show acc.length + (uintL p1).length ≤ 211106232532992 by have := HAC1.out; omega)
              have HN2 := Lib.hid (show (acc ++ uintL p1).length + (uintL p2).length ≤ 211106232532992 by rw [List.length_append]; have := HAC1.out; omega)
              generalize uintL p1 = t1 at *
              generalize uintL p2 = t2 at *
              clear hu1 hu2 HMN HMV
              go_upto_region 15 with fail
              have HBD : Hid (Below B w2 wr.drew) := Lib.hid HB.out.drew
              have HOD : Hid (Own wr.drew B u4 acc) := HO
              have sD := HSB.out _ HBD.out
              go_region_held3 (fun w' => w'.cell? ⟨b1, o1 + i, none⟩ = some (.slice (some ⟨b2, o2, none⟩) l.length c1) ∧ w'.cell? ⟨b2, o2 + k * 2, none⟩ = some (.string nm) ∧ w'.cell? ⟨b2, o2 + k * 2 + 1, none⟩ = some (.string vl))
                (first | with_reducible assumption | go_keep)
                (first
                  | (go_at_call_of 111 (Value.string nm); refine (HP1.out _ HBD.out).mono ?_; rintro e w3 ⟨rfl, rfl⟩)
                  | (go_at_call_of 73 (Value.int IntKind.i64 (p1 : Int)); refine (HQ1.out _).mono ?_; rintro e w3 ⟨v3, rfl, ho3, hb3⟩
                     obtain ⟨P3, d3, hv3, hP3, _⟩ := own_slice' ho3
                     subst hv3
                     have HB3 : Hid (Below B w2 w3) := Lib.hid (HBD.out.trans (hb3.mono hbw))
                     have HO3 : Hid (Own w3 B u4 acc) := Lib.hid (own_below HOD.out hb3)
                     have HP3 := Lib.hid hP3
                     have s3 := HSB.out _ HB3.out
                     clear ho3 hb3 hP3)
                  | (refine step_app _ rfl (.tmp 54) (.tmp 65) 24 rfl B i0 Tryz.underlying24 hi0 hz0 hz1 hz2 u4 acc rfl HO3.out P3 t1 d3 rfl HP3.out HN1.out (HBS.out _ HB3.out) ?_
                     intro v4 w4 hown4 hg4 _
                     have HB4 : Hid (Below B w2 w4) := Lib.hid (Below.grown HB3.out hg4 (HBS.out _ HB3.out) (fun q hq => (World.ownsRow.lt HO3.out q hq).1))
                     have HO4 := Lib.hid hown4
                     have s4 := HSB.out _ HB4.out
                     clear hown4 hg4)
                  | (go_at_call_of 111 (Value.string vl); refine (HP2.out _ HB4.out).mono ?_; rintro e w5 ⟨rfl, rfl⟩)
                  | (go_at_call_of 73 (Value.int IntKind.i64 (p2 : Int)); refine (HQ2.out _).mono ?_; rintro e w6 ⟨v6, rfl, ho6, hb6⟩
                     obtain ⟨P6, d6, hv6, hP6, _⟩ := own_slice' ho6
                     subst hv6
                     have HB6 : Hid (Below B w2 w6) := Lib.hid (HB4.out.trans (hb6.mono (HBS.out _ HB4.out)))
                     have HO6 : Hid (Own w6 B v4 (acc ++ t1)) := Lib.hid (own_below HO4.out hb6)
                     have HP6 := Lib.hid hP6
                     have s6 := HSB.out _ HB6.out
                     clear ho6 hb6 hP6)
                  | (refine step_app _ rfl (.tmp 66) (.tmp 77) 24 rfl B i0 Tryz.underlying24 hi0 hz0 hz1 hz2 v4 (acc ++ t1) rfl HO6.out P6 t2 d6 rfl HP6.out HN2.out (HBS.out _ HB6.out) ?_
                     intro v7 w7 hown7 hg7 _
                     have HB7 : Hid (Below B w2 w7) := Lib.hid (Below.grown HB6.out hg7 (HBS.out _ HB6.out) (fun q hq => (World.ownsRow.lt HO6.out q hq).1))
                     have HO7 := Lib.hid hown7
                     have s7 := HSB.out _ HB7.out
                     clear hown7 hg7))
              all_goals
                go_wp2_with fail
                go_roundw
                case rel => exact ⟨k + 1, _, hkl, by go_num, HO7.out, by rw [List.append_assoc, List.append_assoc]; exact HE.out, HB7.out⟩
                case measure => simp [intOf]; omega
            · obtain rfl : k = l.length := by omega
              rw [HLE2.out] at HE
              go_wp2_with fail
              go_roundw
              case rel => exact ⟨i + 1, acc, hlt, by go_num, HO.out, HE.out, HB.out⟩
              case measure => simp [intOf]; omega
        · obtain rfl : i = ss.length := by omega
          rw [HSE.out, List.append_nil] at HE
          go_wp2_with fail
          go_ret
          rw [← HE.out]
          exact ⟨_, rfl, own_lower HO.out HWB.out, HB2.out.trans (HB.out.mono HWB.out)⟩
end Go.Proofs.YtgdmcnoogacdaaaGreatDoor
