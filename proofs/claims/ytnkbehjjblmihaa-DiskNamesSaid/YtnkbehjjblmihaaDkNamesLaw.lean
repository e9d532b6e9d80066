/- The law DiskNames: its walk. -/
import Derived.Test.YtnkbehjjblmihaaDkNames
namespace Go.Proofs.Ytnkbehjjblmihaa
open Go.RowKit Go.Maps
set_option linter.unusedVariables false

theorem names_lower {w : World} {base base' : Nat} {v : Value} {ns : List (List UInt8)} (h : Texts w base v ns) (hb : base' ≤ base) : Texts w base' v ns := by
  refine ⟨h.1, ?_⟩
  rcases h.2 with h2 | ⟨g, cap, cur, hv, hg, r⟩
  · exact .inl h2
  · exact .inr ⟨g, cap, cur, hv, Nat.le_trans hb hg, r⟩
theorem list_few {d : Dsk} (h : Fine d) : (listD d).length ≤ 64 := by
  unfold listD
  split
  · simp
  · rw [List.length_map]
    exact h.live_few
theorem list_live {d : Dsk} (h : d.dark = false) : listD d = (live d).map Ent.name := by
  unfold listD
  rw [h]
  rfl
/-- What holds of the disk and the rows of names while changes are made. -/
structure Named (B : Nat) (W w : World) (X : Nat) (k : Nat) (v : Value) (vs : List Value) (nss : List (List (List UInt8))) (S : Nat → Prop) (d : Dsk) : Prop where
  disk : DiskOf B S w X d
  ok : Ok (40 + k) d
  seen : Seen d nss
  dark : d.dark = false
  left : d.left < 0
  rows : Nss S w B v vs nss
  few : ∀ x ∈ nss, x.length ≤ 64
  len : nss.length ≤ k + 1
  below : Below B W w

set_option maxRecDepth 40000 in
set_option maxHeartbeats 1000000 in
theorem diskNames_walk (w : World) (room : Int) (hroom : -9223372036854775808 ≤ room ∧ room ≤ 9223372036854775807) (V1 : Option Addr) (l : List ActV) (c1 : Nat) (hV1 : Acts w V1 l) (hl : l.length ≤ 140737488351232) (hlc : l.length ≤ c1)
    (V2 : Option Addr) (m : List ActV) (c2 : Nat) (hV2 : Acts w V2 m) (hm : m.length ≤ 140737488351232) (hmc : m.length ≤ c2) (dirs : Int) (hd : -9223372036854775808 ≤ dirs ∧ dirs ≤ 9223372036854775807) :
    Calls Try.prog 6 #[.int .i64 room, .slice V1 l.length c1, .slice V2 m.length c2, .int .i64 dirs] w fun e w' => e = .returned (.bool true) ∧ Below w.heap.size w w' := by
  by_cases hr : room < 1 ∨ 4194304 < room
  · have HN := Lib.hid (begun_no room hr V1 l c1 w hl)
    clear hr hV1 hV2
    go_enter Try.func6, Try.ntmps6
    go_wp2_with fail
    refine HN.out.mono ?_
    rintro e w1 ⟨rfl, hb⟩
    have HB := Lib.hid hb
    have HL := Lib.hid (lives_true w1)
    clear hb
    go_wp2_with fail
    refine HL.out.mono ?_
    rintro e w2 ⟨rfl, hb2⟩
    have HB2 := Lib.hid hb2
    clear hb2
    go_wp2
    go_ret
    exact ⟨rfl, below_then HB.out HB2.out⟩
  · obtain ⟨rm, rfl⟩ : ∃ rm : Nat, room = (rm : Int) := ⟨room.toNat, by omega⟩
    have HN := Lib.hid (begun_ok rm (by omega) V1 l c1 w hV1 hl hlc)
    have HV2 := Lib.hid hV2
    clear hr hV1 hV2 hroom
    go_enter Try.func6, Try.ntmps6
    go_wp2_with fail
    refine HN.out.mono ?_
    rintro e w1 ⟨X, d, rfl, hD, hO, hb⟩
    have HCR := Lib.hid (crash_at hD hO (by decide) 0 (by decide) (by decide) none [] 0 (.inl rfl) (.inl rfl) (by decide) (fun i hi => by simp at hi))
    have HOC := Lib.hid (ok_crash hO 0 [])
    have HSN := Lib.hid (seen_start (d := crashD d 0 []) rfl)
    have HDK := Lib.hid (show (crashD d 0 []).dark = false from rfl)
    have HLF := Lib.hid (show (crashD d 0 []).left < 0 by show (-1 : Int) < 0; omega)
    have HB1 := Lib.hid hb
    clear hD hO hb
    go_wp2_with fail
    refine HCR.out.mono ?_
    rintro e w2 ⟨rfl, ha⟩
    obtain ⟨hD2, hb2⟩ := After.flat (B := w.heap.size) ha HB1.out.size
    generalize crashD d 0 [] = d1 at *
    obtain ⟨S, hS⟩ : ∃ S, DiskOf w.heap.size S w2 X d1 := ⟨_, diskOf_mk hD2⟩
    have HDS := Lib.hid hS
    have HB2 := Lib.hid (HB1.out.trans hb2)
    have HLI := Lib.hid (list_prog hS.at_ HOC.out.fine)
    have HLL := Lib.hid (list_live HDK.out)
    have HFW := Lib.hid (list_few HOC.out.fine)
    rw [HLL.out] at HLI HFW
    clear ha hD2 hb2 hS HCR
    generalize (live d1).map Ent.name = ns at *
    go_wp2_with fail
    refine HLI.out.mono ?_
    rintro e w3 ⟨v, rfl, ht, hb3⟩
    have hs2 := HB2.out.size
    have hs3 := hb3.size
    have hN1 := nss_one (HDS.out.below hb3) (Nat.le_trans hs2 hs3) (names_lower ht hs2) (far_new HDS.out ht)
    have HNM := Lib.hid (show Named w.heap.size w (w3.alloc (.cells #[v] 57)) X 0 (.slice (some ⟨w3.heap.size, 0, none⟩) 1 1) [v] [ns] S d1 from
      ⟨(HDS.out.below hb3).below (below_one _ _), HOC.out, HSN.out, HDK.out, HLF.out, hN1, fun x hx => by rw [List.mem_singleton] at hx; rw [hx]; exact HFW.out, by simp, (HB2.out.trans (hb3.mono hs2)).alloc (Nat.le_trans hs2 hs3) _⟩)
    obtain ⟨P0, c0, hv0, _⟩ := texts_at ht
    subst hv0
    clear ht hb3 hN1
    go_wp2_with fail
    go_loopw [10, 11] (fun v i wr => ∃ (k : Nat) (vs : List Value) (nss : List (List (List UInt8))) (S : Nat → Prop) (d : Dsk), k ≤ m.length ∧ k ≤ 15 ∧ i = .int .i64 (k : Int) ∧ Named w.heap.size w wr X k v vs nss S d) (fun _ i _ => 15 - (intOf i).toNat)
    case atStart => exact ⟨0, _, _, S, d1, Nat.zero_le _, by omega, rfl, HNM.out⟩
    case round =>
      obtain ⟨k, vs, nss, S', dd, hk, hk15, rfl, hN⟩ := hrel
      have HNK := Lib.hid hN
      obtain ⟨P, c, hv, hP⟩ := hN.rows.at_
      subst hv
      have hb := hN.below
      have HBK := Lib.hid hb
      by_cases hgo : k < m.length ∧ k < 15
      · obtain ⟨hlt, h15⟩ := hgo
        obtain ⟨b, o, rfl, ha0, ha, hcell⟩ := acts_at HV2.out hb hlt
        have HDO := Lib.hid (do_prog hN.disk.at_ hN.ok (by omega) _ ha (hN.disk.acts_far ha0 rfl))
        have HCS := Lib.hid (fun h1 h5 => change_seen (kind := (m.getD k default).kind) (name := strL (m.getD k default).name) (to := strL (m.getD k default).to) (b := (m.getD k default).b) hN.seen hN.dark hN.left h1 h5)
        have HOK := Lib.hid (ok_act hN.ok (m.getD k default) ha.n.2)
        have HAD := Lib.hid (show (1 ≤ (m.getD k default).kind ∧ (m.getD k default).kind ≤ 6) → actD dd (m.getD k default) = (change dd (m.getD k default).kind (strL (m.getD k default).name) (strL (m.getD k default).to) (m.getD k default).b).1 from fun h => by
          unfold actD
          rw [if_pos h])
        generalize m.getD k default = aa at *
        obtain ⟨kind, name, to, A, bb, bc, n, V2', ks, kc⟩ := aa
        simp only [actC] at hcell HDO
        have e0 := hcell 0 _ rfl
        have e1 := hcell 1 _ rfl
        have e2 := hcell 2 _ rfl
        have e3 := hcell 3 _ rfl
        have e4 := hcell 4 _ rfl
        have e5 := hcell 5 _ rfl
        rw [Nat.add_zero] at e0
        clear hcell ha ha0 hN hb hP
        by_cases hk15' : 1 ≤ kind ∧ kind ≤ 5
        · have q1 : decide ((1 : Int) ≤ kind) = true := decide_eq_true hk15'.1
          have q2 : decide (kind ≤ (5 : Int)) = true := decide_eq_true hk15'.2
          have HCS' := Lib.hid (HCS.out hk15'.1 hk15'.2)
          have had := HAD.out ⟨hk15'.1, by show kind ≤ 6; omega⟩
          simp only at had HCS'
          rw [← had] at HCS'
          clear HCS hk15' HAD had
          go_wp2_with fail
          refine HDO.out.mono ?_
          rintro e w4 ⟨v4, rfl, ho4, ha4⟩
          obtain ⟨B4, c4, rfl, _⟩ := own_slice' ho4
          have hsz := HBK.out.size
          obtain ⟨hD4, hb4⟩ := HNK.out.disk.after ha4 hsz
          have hR4 := HNK.out.rows.more ha4.2
          have HD4 := Lib.hid hD4
          have HR4 := Lib.hid hR4
          have HB4 := Lib.hid (HBK.out.trans hb4)
          have HL4 := Lib.hid (list_prog hD4.at_ HOK.out.fine)
          have HF4 := Lib.hid (list_few HOK.out.fine)
          clear ho4 ha4 hD4 hR4 hb4 HDO
          generalize more S' wr w4 = S4 at *
          generalize actD dd ⟨kind, name, to, A, bb, bc, n, V2', ks, kc⟩ = d4 at *
          generalize (actB dd ⟨kind, name, to, A, bb, bc, n, V2', ks, kc⟩).length = nb at *
          generalize actE dd ⟨kind, name, to, A, bb, bc, n, V2', ks, kc⟩ = ee at *
          generalize listD d4 = ns4 at *
          go_wp2_with fail
          refine HL4.out.mono ?_
          rintro e w5 ⟨v5, rfl, ht5, hb5⟩
          have hs4 := HB4.out.size
          have hs5 := hb5.size
          have HFR := Lib.hid (far_new HD4.out ht5)
          have HT5 := Lib.hid (names_lower ht5 hs4)
          have HD5 := Lib.hid (HD4.out.below hb5)
          have HR5 := Lib.hid (HR4.out.below hb5)
          have HB5 := Lib.hid (HB4.out.trans (hb5.mono hs4))
          obtain ⟨P5, c5, hv5, _⟩ := texts_at ht5
          have HV5 := Lib.hid (show v5.oneCell' = true by rw [hv5]; rfl)
          have hln := HNK.out.len
          subst hv5
          clear ht5 hb5
          have HFEW := Lib.hid (show ∀ x ∈ nss ++ [ns4], x.length ≤ 64 from fun x hx => by
            rcases List.mem_append.1 hx with h | h
            · exact HNK.out.few x h
            · rw [List.mem_singleton] at h
              rw [h]
              exact HF4.out)
          have HLN := Lib.hid (show (nss ++ [ns4]).length ≤ k + 1 + 1 by rw [List.length_append, List.length_singleton]; omega)
          have hn4 : nss.length ≤ 4000000 := by omega
          generalize ns4.length = n5 at *
          go_wp2_with (at_builtin; refine app_nss rfl (.tmp 62) (.tmp 65) rfl w.heap.size _ vs nss rfl HR5.out HD5.out _ ns4 HT5.out HFR.out rfl 1 rfl hn4 (Nat.le_trans hs4 hs5) ?_; intro v6 w6 hR6 hD6 hb6; have HR6 := Lib.hid hR6; have HD6 := Lib.hid hD6; have HB6 := Lib.hid hb6; obtain ⟨P6, c6, hv6, _⟩ := hR6.at_; clear hR6 hD6 hb6; generalize (nss ++ [ns4]).length = n6 at hv6; subst hv6)
          go_roundw
          case rel => exact ⟨k + 1, _, _, S4, d4, by omega, by omega, by go_num, ⟨HD6.out, HOK.out, HCS'.out.1, HCS'.out.2.1, HCS'.out.2.2, HR6.out, HFEW.out, HLN.out, HB5.out.trans HB6.out⟩⟩
          case measure => simp [intOf]; omega
        · have HM := Lib.hid (show Named w.heap.size w wr X (k + 1) (.slice P nss.length c) vs nss S' dd from
            ⟨HNK.out.disk, HNK.out.ok.mono (by omega), HNK.out.seen, HNK.out.dark, HNK.out.left, HNK.out.rows, HNK.out.few, by have := HNK.out.len; omega, HNK.out.below⟩)
          by_cases h1 : 1 ≤ kind
          · have q1 : decide ((1 : Int) ≤ kind) = true := decide_eq_true h1
            have q2 : decide (kind ≤ (5 : Int)) = false := decide_eq_false (by omega)
            clear HCS hk15' h1
            generalize nss.length = n6 at *
            go_wp2_with fail
            go_roundw
            case rel => exact ⟨k + 1, _, _, S', dd, by omega, by omega, by go_num, HM.out⟩
            case measure => simp [intOf]; omega
          · have q1 : decide ((1 : Int) ≤ kind) = false := decide_eq_false h1
            clear HCS hk15' h1
            generalize nss.length = n6 at *
            go_wp2_with fail
            go_roundw
            case rel => exact ⟨k + 1, _, _, S', dd, by omega, by omega, by go_num, HM.out⟩
            case measure => simp [intOf]; omega
      · have hcr := crash_at hN.disk.at_ hN.ok (by omega) dirs hd.1 hd.2 none [] 0 (.inl rfl) (.inl rfl) (by decide) (fun i hi => by simp at hi)
        have HSC := Lib.hid (seen_crash hN.seen dirs [])
        have HOC2 := Lib.hid (ok_crash hN.ok dirs [])
        have HCR := Lib.hid hcr
        have hcase : k = m.length ∨ (k < m.length ∧ k = 15) := by omega
        clear hN hb hgo hP hcr
        rcases hcase with hkm | ⟨hkm, h15⟩
        · have q0 : decide ((k : Int) < (m.length : Int)) = false := decide_eq_false (by omega)
          go_wp2_with fail
          refine HCR.out.mono ?_
          rintro e w4 ⟨rfl, ha4⟩
          have hsz := HBK.out.size
          obtain ⟨hD4, hb4⟩ := HNK.out.disk.after ha4 hsz
          have hR4 := HNK.out.rows.more ha4.2
          have HD4 := Lib.hid hD4
          have HR4 := Lib.hid hR4
          have HB4 := Lib.hid (HBK.out.trans hb4)
          have HL4 := Lib.hid (list_prog hD4.at_ HOC2.out.fine)
          have HF4 := Lib.hid (list_few HOC2.out.fine)
          clear ha4 hD4 hR4 hb4
          generalize more S' wr w4 = S4 at *
          generalize crashD dd dirs [] = d4 at *
          generalize listD d4 = ns4 at *
          go_wp2_with fail
          refine HL4.out.mono ?_
          rintro e w5 ⟨v5, rfl, ht5, hb5⟩
          have hs4 := HB4.out.size
          have HT5 := Lib.hid ht5
          have HR5 := Lib.hid (HR4.out.below hb5)
          have HB5 := Lib.hid (HB4.out.trans (hb5.mono hs4))
          obtain ⟨P5, c5, hv5, _⟩ := texts_at ht5
          subst hv5
          obtain ⟨P', c', hv', hP'⟩ := HR5.out.at_
          injection hv' with hv1 _ hv2
          subst hv1
          subst hv2
          have HP := Lib.hid hP'
          have hnl : nss.length ≤ 16 := by have := HNK.out.len; omega
          clear ht5 hb5 hP'
          go_wp2_with fail
          go_loopw [13] (fun i wx => ∃ j : Nat, j ≤ nss.length ∧ i = .int .i64 (j : Int) ∧ (∀ q, q < j → nss.getD q [] ≠ ns4) ∧ Below w5.heap.size w5 wx) (fun i _ => nss.length - (intOf i).toNat)
          case atStart => exact ⟨0, Nat.zero_le _, rfl, fun q hq => absurd hq (Nat.not_lt_zero q), Below.refl _ _⟩
          case round =>
            obtain ⟨j, hj, rfl, hne, hbx⟩ := hrel
            have HNE := Lib.hid hne
            have HBX := Lib.hid hbx
            by_cases hlt : j < nss.length
            · obtain ⟨g, rfl, _, hgl, hc⟩ := HP.out j hlt
              have hc' : wr.cell? ⟨g, j, none⟩ = some (vs.getD j undef) := (hbx.cell (p := ⟨g, j, none⟩) hgl).trans hc
              have hE := names_below (HR5.out.each j hlt) hbx
              have hfe : (nss.getD j []).length ≤ 64 := HNK.out.few _ (by
                rw [List.getD_eq_getElem?_getD, List.getElem?_eq_getElem hlt]
                exact List.getElem_mem hlt)
              have HSA := Lib.hid (same_prog hE (names_below HT5.out hbx) (by omega) (by have := HF4.out; omega))
              obtain ⟨Pj, cj, hvj, _⟩ := texts_at hE
              rw [hvj] at hc' HSA
              have HNJ := Lib.hid (show nss.getD j [] = nss.getD j [] from rfl)
              have HNX := Lib.hid (show (∀ q, q < j + 1 → nss.getD q [] ≠ ns4) ∨ nss.getD j [] = ns4 by
                by_cases h : nss.getD j [] = ns4
                · exact .inr h
                · exact .inl fun q hq => by
                    by_cases hqj : q < j
                    · exact hne q hqj
                    · obtain rfl : q = j := by omega
                      exact h)
              clear hne hbx hc hE hvj hgl hfe HNJ
              generalize nss.getD j [] = nj at *
              by_cases hEq : nj = ns4
              · have hdc : decide (nj = ns4) = true := decide_eq_true hEq
                rw [hdc] at HSA
                clear hEq hdc
                generalize nj.length = njl at *
                generalize ns4.length = nsl at *
                generalize nss.length = nl at *
                go_wp2_with fail
                refine HSA.out.mono ?_
                rintro e w6 ⟨rfl, hb6⟩
                have HB6 := Lib.hid (HBX.out.trans (hb6.mono HBX.out.size))
                have HL6 := Lib.hid (lives_true w6)
                clear hb6
                go_wp2_with fail
                refine HL6.out.mono ?_
                rintro e w7 ⟨rfl, hb7⟩
                have HB7 := Lib.hid (below_then (below_then HB5.out HB6.out) hb7)
                clear hb7
                go_wp2
                go_ret
                exact ⟨rfl, HB7.out⟩
              · have hdc : decide (nj = ns4) = false := decide_eq_false hEq
                rw [hdc] at HSA
                have HNX' := Lib.hid (HNX.out.resolve_right hEq)
                clear hEq hdc HNX
                generalize nj.length = njl at *
                generalize ns4.length = nsl at *
                generalize nss.length = nl at *
                go_wp2_with fail
                refine HSA.out.mono ?_
                rintro e w6 ⟨rfl, hb6⟩
                have HB6 := Lib.hid (HBX.out.trans (hb6.mono HBX.out.size))
                clear hb6
                go_wp2
                go_roundw
                case rel => exact ⟨j + 1, by omega, by go_num, HNX'.out, HB6.out⟩
                case measure => simp [intOf]; omega
            · exfalso
              obtain ⟨q, hq, hqe⟩ := List.getElem_of_mem HSC.out
              refine hne q (by omega) ?_
              rw [List.getD_eq_getElem?_getD, List.getElem?_eq_getElem hq]
              exact hqe
        · have q0 : decide ((k : Int) < (m.length : Int)) = true := decide_eq_true (by omega)
          subst h15
          go_wp2_with fail
          refine HCR.out.mono ?_
          rintro e w4 ⟨rfl, ha4⟩
          have hsz := HBK.out.size
          obtain ⟨hD4, hb4⟩ := HNK.out.disk.after ha4 hsz
          have hR4 := HNK.out.rows.more ha4.2
          have HD4 := Lib.hid hD4
          have HR4 := Lib.hid hR4
          have HB4 := Lib.hid (HBK.out.trans hb4)
          have HL4 := Lib.hid (list_prog hD4.at_ HOC2.out.fine)
          have HF4 := Lib.hid (list_few HOC2.out.fine)
          clear ha4 hD4 hR4 hb4
          generalize more S' wr w4 = S4 at *
          generalize crashD dd dirs [] = d4 at *
          generalize listD d4 = ns4 at *
          go_wp2_with fail
          refine HL4.out.mono ?_
          rintro e w5 ⟨v5, rfl, ht5, hb5⟩
          have hs4 := HB4.out.size
          have HT5 := Lib.hid ht5
          have HR5 := Lib.hid (HR4.out.below hb5)
          have HB5 := Lib.hid (HB4.out.trans (hb5.mono hs4))
          obtain ⟨P5, c5, hv5, _⟩ := texts_at ht5
          subst hv5
          obtain ⟨P', c', hv', hP'⟩ := HR5.out.at_
          injection hv' with hv1 _ hv2
          subst hv1
          subst hv2
          have HP := Lib.hid hP'
          have hnl : nss.length ≤ 16 := by have := HNK.out.len; omega
          clear ht5 hb5 hP'
          go_wp2_with fail
          go_loopw [13] (fun i wx => ∃ j : Nat, j ≤ nss.length ∧ i = .int .i64 (j : Int) ∧ (∀ q, q < j → nss.getD q [] ≠ ns4) ∧ Below w5.heap.size w5 wx) (fun i _ => nss.length - (intOf i).toNat)
          case atStart => exact ⟨0, Nat.zero_le _, rfl, fun q hq => absurd hq (Nat.not_lt_zero q), Below.refl _ _⟩
          case round =>
            obtain ⟨j, hj, rfl, hne, hbx⟩ := hrel
            have HNE := Lib.hid hne
            have HBX := Lib.hid hbx
            by_cases hlt : j < nss.length
            · obtain ⟨g, rfl, _, hgl, hc⟩ := HP.out j hlt
              have hc' : wr.cell? ⟨g, j, none⟩ = some (vs.getD j undef) := (hbx.cell (p := ⟨g, j, none⟩) hgl).trans hc
              have hE := names_below (HR5.out.each j hlt) hbx
              have hfe : (nss.getD j []).length ≤ 64 := HNK.out.few _ (by
                rw [List.getD_eq_getElem?_getD, List.getElem?_eq_getElem hlt]
                exact List.getElem_mem hlt)
              have HSA := Lib.hid (same_prog hE (names_below HT5.out hbx) (by omega) (by have := HF4.out; omega))
              obtain ⟨Pj, cj, hvj, _⟩ := texts_at hE
              rw [hvj] at hc' HSA
              have HNJ := Lib.hid (show nss.getD j [] = nss.getD j [] from rfl)
              have HNX := Lib.hid (show (∀ q, q < j + 1 → nss.getD q [] ≠ ns4) ∨ nss.getD j [] = ns4 by
                by_cases h : nss.getD j [] = ns4
                · exact .inr h
                · exact .inl fun q hq => by
                    by_cases hqj : q < j
                    · exact hne q hqj
                    · obtain rfl : q = j := by omega
                      exact h)
              clear hne hbx hc hE hvj hgl hfe HNJ
              generalize nss.getD j [] = nj at *
              by_cases hEq : nj = ns4
              · have hdc : decide (nj = ns4) = true := decide_eq_true hEq
                rw [hdc] at HSA
                clear hEq hdc
                generalize nj.length = njl at *
                generalize ns4.length = nsl at *
                generalize nss.length = nl at *
                go_wp2_with fail
                refine HSA.out.mono ?_
                rintro e w6 ⟨rfl, hb6⟩
                have HB6 := Lib.hid (HBX.out.trans (hb6.mono HBX.out.size))
                have HL6 := Lib.hid (lives_true w6)
                clear hb6
                go_wp2_with fail
                refine HL6.out.mono ?_
                rintro e w7 ⟨rfl, hb7⟩
                have HB7 := Lib.hid (below_then (below_then HB5.out HB6.out) hb7)
                clear hb7
                go_wp2
                go_ret
                exact ⟨rfl, HB7.out⟩
              · have hdc : decide (nj = ns4) = false := decide_eq_false hEq
                rw [hdc] at HSA
                have HNX' := Lib.hid (HNX.out.resolve_right hEq)
                clear hEq hdc HNX
                generalize nj.length = njl at *
                generalize ns4.length = nsl at *
                generalize nss.length = nl at *
                go_wp2_with fail
                refine HSA.out.mono ?_
                rintro e w6 ⟨rfl, hb6⟩
                have HB6 := Lib.hid (HBX.out.trans (hb6.mono HBX.out.size))
                clear hb6
                go_wp2
                go_roundw
                case rel => exact ⟨j + 1, by omega, by go_num, HNX'.out, HB6.out⟩
                case measure => simp [intOf]; omega
            · exfalso
              obtain ⟨q, hq, hqe⟩ := List.getElem_of_mem HSC.out
              refine hne q (by omega) ?_
              rw [List.getD_eq_getElem?_getD, List.getElem?_eq_getElem hq]
              exact hqe
end Go.Proofs.Ytnkbehjjblmihaa
