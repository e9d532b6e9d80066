/- What is gathered of the pairs that an index has, by the closure Names$1 (written by tools/gengath.py). -/
import Derived.Test.YtojlcipphnegaaaGreatIxSet
namespace Go.Proofs.YtojlcipphnegaaaGreat
open Go.RowKit Go.Maps
set_option linter.unusedVariables false
set_option maxRecDepth 100000
set_option maxHeartbeats 4000000 in
theorem gath_names (X : Nat) (ss : List (List Lbl)) (base : Nat)  (w : World) (hI : IdxAt w base X ss) (hr : ixChk ss = 0) (hPK : PickC 55 #[] pickN w) :
    Calls Tryz.prog 47 #[.pointer (some ⟨X, 0, none⟩), .func (.func 55) #[] #[]] w fun e w' => ∃ v us, e = .returned v ∧ OwnTx w' w.heap.size v us ∧ UpF cmpB us ∧ (∀ s, s ∈ us ↔ ∃ p, (∃ l ∈ ss, p ∈ l) ∧ s ∈ pickN p) ∧ us.length ≤ 5000 ∧ Below w.heap.size w w' := by
  obtain ⟨h256, _, hrr⟩ := ixChk_right hr
  have h8 : ∀ l ∈ ss, l.length ≤ 8 := fun l hl => (lbChk_ok.1 (hrr l hl)).1
  have hlen := evs_len ss h8 ss.length (Nat.le_refl _) 0 (by omega)
  have hpkl : ∀ p, (pickN p).length ≤ 2 := fun p => by simp [pickN]
  have hsz : ∀ p, (∃ l ∈ ss, p ∈ l) → ∀ s ∈ pickN p, s.size ≤ maxLen := fun p ⟨l, hl, hp⟩ s hs => by
    have := label_sizes (hrr l hl) hp
    have h64 : s.size ≤ 64 := by simp only [pickN, List.mem_singleton] at hs; rw [hs]; exact this.1
    simp only [maxLen]
    omega
  obtain ⟨_, v0, M, hMb, hX, _, hP⟩ := hI
  obtain ⟨D, hown, hkeys⟩ := post_owns hP
  have hML := hP.lt
  have HKEY := Lib.hid (fun kl => (hkeys kl).trans (exists_congr fun p => and_congr_right fun _ => and_congr_left fun _ => (idsE_pos _ p).trans (evs_mem ss p)))
  have hDn := hown.size_le
  have HDN := Lib.hid (show Maps.size D ≤ 2056 from by omega)
  have hXL := hX.lt
  have x1 := hX.cell 1
  obtain ⟨n, hn⟩ : ∃ n, (evsAt ss ss.length 0).length = n := ⟨_, rfl⟩
  rw [hn] at hown
  clear hn hlen hDn hkeys hP
  have hmm := @run_makeMap Tryz.prog
  have HS2 := Lib.hid ((sets_made w).alloc (.cells #[.map (some w.heap.size)] 120))
  have HX2 := Lib.hid (row_at w (.map #[] 0) #[.map (some w.heap.size)] 120)
  have HB2 := Lib.hid (((Below.refl w.heap.size w).alloc (Nat.le_refl _) (.map #[] 0)).alloc (by simp) (.cells #[.map (some w.heap.size)] 120))
  have HO2 := Lib.hid ((hown.alloc (.map #[] 0)).alloc (.cells #[.map (some w.heap.size)] 120))
  have HXI := Lib.hid hX
  have HPK := Lib.hid hPK
  have HPL := Lib.hid hpkl
  have HSZ := Lib.hid hsz
  have x1a : ((w.alloc (.map #[] 0)).alloc (.cells #[.map (some w.heap.size)] 120)).cell? ⟨X, 1, none⟩ = some (.map (some M)) := (((hX.alloc _).alloc _).cell 1).trans rfl
  have HZ2 := Lib.hid (show ((w.alloc (.map #[] 0)).alloc (.cells #[.map (some w.heap.size)] 120)).heap.size = w.heap.size + 2 from by simp)
  clear hX hown hPK hpkl hsz
  go_enter Tryz.func47, Tryz.ntmps47
  go_upto_region 5 with fail
  clear hmm
  generalize ((w.alloc (.map #[] 0)).alloc (.cells #[.map (some w.heap.size)] 120)) = w2 at *
  go_wp2_with (first
    | (at_range; refine wpList_range_own _ rfl _ 65 rfl 70 39 pair_keyed Tryz.underlying65 noR M n D rfl HO2.out ?_; intro w3 hrg3 hg3 hs3; have HR3 := Lib.hid hrg3; have HG3 := Lib.hid hg3; clear hrg3 hg3 hs3))
  go_frame
  rw [HZ2.out] at HR3 ⊢
  obtain ⟨NB, hNB⟩ : ∃ NB, w.heap.size = NB := ⟨_, rfl⟩
  have HNB := Lib.hid hNB
  rw [hNB] at HS2 HX2 HB2 HR3 hML ⊢
  have HBS := Lib.hid (show ∀ x : World, Below NB w x → NB ≤ x.heap.size from fun x h => by have := h.size; omega)
  clear hNB x1 x1a
  go_loopw [7] (fun _ wr => ∃ (left : Lit → Bool) (cnt : Nat) (T : List ByteArray), wr.ranges Tryz.prog 70 noR M (NB + 2) n D left cnt ∧ Row wr (NB + 1) 120 #[.map (some NB)] ∧ SetS wr NB T ∧
      (∀ s, s ∈ T ↔ ∃ p, (∃ l ∈ ss, p ∈ l) ∧ left (klOf p) = false ∧ s ∈ pickN p) ∧ T.length + 2 * cnt ≤ 2 * Maps.size D ∧ Below NB w wr) (fun _ wr => wr.rangeLeft M (NB + 2))
  case atStart =>
    refine ⟨_, _, [], HR3.out, grown_row HX2.out HG3.out (fun e => by cases e), HS2.out.grown HG3.out (fun e => by cases e), fun s => ?_, by simp, HB2.out.grown HG3.out (by rw [HZ2.out, HNB.out]; omega) (fun j hj => by cases hj)⟩
    constructor
    · intro h; cases h
    · rintro ⟨p, hp, hl, _⟩
      have := (HKEY.out (klOf p)).2 ⟨p, ?_, hp, rfl⟩
      · rw [hl] at this; cases this
      · exact sz_of hrr hp
  case round =>
    obtain ⟨left, cnt, T, hrg, hX, hS, hT, hcnt, hB⟩ := hrel
    have HRG := Lib.hid hrg
    have HX := Lib.hid hX
    have HS := Lib.hid hS
    have HT := Lib.hid hT
    have HB := Lib.hid hB
    have HC := Lib.hid hcnt
    clear hX hS hT hB hcnt
    go_wp2_with (first
      | (at_next; refine wpList_next_ranges _ rfl _ rfl 70 pair_keyed noR pairV (fun v : Value => v) (fun key kl hk => by obtain ⟨p, hp, _⟩ := pair_inv hk; exact ⟨p, hp⟩) (fun v y hv => ⟨v, rfl⟩) M (NB + 2) n D left cnt rfl HRG.out ?_ ?_))
    · intro hc0 hl0
      have HTT := Lib.hid (show ∀ s, s ∈ T ↔ ∃ p, (∃ l ∈ ss, p ∈ l) ∧ s ∈ pickN p from fun s => (HT.out s).trans (exists_congr fun p => by rw [hl0]; simp))
      have HCC := Lib.hid (show T.length ≤ 4112 from by have := HC.out; have := HDN.out; omega)
      obtain ⟨D2, hown2, hh2⟩ := HS.out
      have HO2b := Lib.hid hown2
      have HH2 := Lib.hid hh2
      have HD2 := Lib.hid (hown2.size_le)
      have x5 := HX.out.cell 0
      have hbz : NB ≤ wr.heap.size := HBS.out _ HB.out
      have hx5 := HX.out.lt
      have hn5 := HS.out.lt
      clear hown2 hh2 hc0 hl0 HT HC HRG
      go_wp2_with (first
        | (at_range; refine wpList_range_own _ rfl _ 120 rfl 9 121 ixs_keyed Tryz.underlying120 unitElem NB T.length D2 rfl HO2b.out ?_; intro w6 hrg6 hg6 hs6; have HR6 := Lib.hid hrg6; have HG6 := Lib.hid hg6; clear hrg6 hg6 hs6))
      go_frame
      have HB6 := Lib.hid (HB.out.grown HG6.out hbz (fun j hj => by cases hj))
      obtain ⟨R2, hR2⟩ : ∃ R2, wr.heap.size = R2 := ⟨_, rfl⟩
      rw [hR2] at HR6 hbz hx5 hn5 ⊢
      clear hR2 HS HX HB x5 HG6 HO2b
      generalize hwA : wr = wA at *
      clear hwA
      go_loopw [8] (fun tx wr => ∃ (left : Lit → Bool) (cnt : Nat) (us : List (List UInt8)), wr.ranges Tryz.prog 9 unitElem NB R2 T.length D2 left cnt ∧ OwnTx wr NB tx (us.map mkText) ∧ Collected D2 left us ∧ us.length + cnt ≤ Maps.size D2 ∧ Below NB w wr) (fun _ wr => wr.rangeLeft NB R2)
      case atStart => exact ⟨_, _, [], HR6.out, owntx_nil _ _, Collected.start D2, by simp, HB6.out⟩
      case round =>
        obtain ⟨left2, cnt2, us, hrg, hO, hC, hcnt, hB⟩ := hrel
        have HRG := Lib.hid hrg
        have HO := Lib.hid hO
        have HC := Lib.hid hC
        have HCN := Lib.hid hcnt
        have HB := Lib.hid hB
        clear hO hC hB hcnt
        go_wp2_with (first
          | (at_next; refine wpList_next_ranges _ rfl _ rfl 9 ixs_keyed unitElem Go.Proofs.encStr (fun v : Value => v) (fun key kl hk => by obtain ⟨x, hx, _⟩ := Maps.keyOf_str Tryz.underlying9 hk; exact ⟨x, hx⟩) (fun v y hv => ⟨v, rfl⟩) NB R2 T.length D2 left2 cnt2 rfl HRG.out ?_ ?_))
        · intro hc1 hl1
          have HL1 := Lib.hid hl1
          have hul : us.length ≤ 4112 := by have := HCN.out; have := HD2.out; have := HCC.out; omega
          have HSO := Lib.hid (sort_s HO.out (by rw [List.length_map]; omega))
          have HUL := Lib.hid hul
          have HOB := Lib.hid (fun q hq => (World.ownsRow.lt HO.out q hq).1)
          clear hc1 hl1 hul hrg
          go_wp2_with (first | (go_at_call 80; refine HSO.out.mono ?_; rintro e w7 ⟨rfl, vs, ho7, hp7, hs7, hg7⟩; have HO7 := Lib.hid ho7; have HP7 := Lib.hid hp7; have HS7 := Lib.hid hs7; have HG7 := Lib.hid hg7; clear ho7 hp7 hs7 hg7))
          go_ret
          have hnd : vs.Nodup := HP7.out.nodup_iff.2 (List.pairwise_map.2 (HC.out.1.imp fun {a b} hne e => hne (by have := congrArg bytesOf e; simpa [bytes_mk] using this)))
          refine ⟨_, vs, rfl, by rw [HNB.out]; exact HO7.out, ?_, fun s => ?_, by rw [HP7.out.length_eq, List.length_map]; have := HUL.out; omega, by rw [HNB.out]; exact HB.out.grown HG7.out (HBS.out _ HB.out) (fun q hq => HOB.out q hq)⟩
          · exact HS7.out.imp₂ (fun a b h1 h2 => by
              rcases cmp_ne cmpB_cmp h2 with h3 | h3
              · exact h3
              · have := cmpB_cmp.swap a b
                omega) hnd
          · rw [HP7.out.mem_iff, ← HTT.out s, ← HH2.out s, List.mem_map]
            constructor
            · rintro ⟨x, hx, rfl⟩
              exact ((HC.out.2 x).1 hx).1
            · intro hh
              exact ⟨bytesOf s, (HC.out.2 _).2 ⟨hh, HL1.out _⟩, mk_bytes s⟩
        · intro x cv kl yd yp w8 cnt8 hkey hlk hv hat hrg8 hlt hg8 hs8 hen
          obtain ⟨x', ex, rfl, _⟩ := Maps.keyOf_str Tryz.underlying9 hkey
          obtain rfl : x = x' := encStr_inj ex
          have HO8 : Hid (OwnTx w8 NB u8 (us.map mkText)) := Lib.hid (rows_move HO.out fun q hq => hg8.block q (World.ownsRow.lt HO.out q hq).2 (fun e => by
            obtain ⟨cs, hc⟩ := rows_block HO.out hq
            obtain ⟨es, clock, since, seen, c0, _, _, _, _, hr, _⟩ := HRG.out
            unfold Row at hc
            injection e with e
            rw [e, hr] at hc
            cases hc))
          have HB8 := Lib.hid (HB.out.grown hg8 (HBS.out _ HB.out) (fun q hq => by injection hq with hq; omega))
          have HR8 := Lib.hid hrg8
          have HST := Lib.hid (HC.out.step hlk hat)
          have hul : us.length ≤ 4112 := by have := HCN.out; have := HD2.out; have := HCC.out; omega
          have HLT := Lib.hid hlt
          have HRGO := Lib.hid hrg
          clear hs8 hrg8 hg8 hkey hlk hv hat ex hlt hrg
          go_wp2_with (first
            | (at_builtin; refine app_tg rfl (.tmp 33) (.tmp 35) rfl NB _ (us.map mkText) rfl HO8.out (mkText x) 1 rfl (by rw [List.length_map]; omega) (HBS.out _ HB8.out) ?_; intro v9 w9 hO9 hB9 hG9; have HO9 := Lib.hid hO9; have HB9 := Lib.hid hB9; have HG9 := Lib.hid hG9; clear hO9 hB9 hG9))
          have hrg9 := (HR8.out.alloc (.cells #[.string (mkText x)] 9)).kept HG9.out (fun e => by
              obtain ⟨cs, hc⟩ := rows_block HO8.out e.symm
              obtain ⟨es, clock, hm, _⟩ := HR8.out.owns
              unfold Row at hc
              rw [hm] at hc
              cases hc) (fun e => by
              obtain ⟨cs, hc⟩ := rows_block HO8.out e.symm
              obtain ⟨es, clock, since, seen, c0, _, _, _, _, hr, _⟩ := HR8.out
              unfold Row at hc
              rw [hr] at hc
              cases hc)
          go_roundw
          case rel =>
            refine ⟨_, cnt8, us ++ [x], hrg9, by rw [List.map_append]; exact HO9.out, HST.out, ?_, HB8.out.trans HB9.out⟩
            rw [List.length_append, List.length_singleton]
            have := HCN.out
            have := HLT.out
            omega
          case measure => rw [hrg9.left_eq, HRGO.out.left_eq]; exact HLT.out
    · intro pn pv cv kl yd yp w4 cnt4 hkey hlk hv hat hrg4 hlt hg4 hs4 hen
      obtain ⟨q, hq, hqs⟩ := pair_inv hkey
      obtain rfl : (pn, pv) = q := pairV_inj hq
      have hkl : kl = klOf (pn, pv) := by rw [pair_key hqs] at hkey; exact (Option.some.inj hkey).symm
      subst hkl
      have hin : ∃ l ∈ ss, (pn, pv) ∈ l := by
        obtain ⟨p2, h1, h2, h3⟩ := (HKEY.out (klOf (pn, pv))).1 (has_true_of_atKey hat)
        rw [klOf_inj hqs h1 h3]
        exact h2
      have HX4 := Lib.hid ((grown_row HX.out hg4 (fun e => by injection e with e; omega)).alloc (.cells #[.string pn, .string pv] 70))
      have HS4 := Lib.hid ((HS.out.grown hg4 (fun e => by injection e with e; omega)).alloc (.cells #[.string pn, .string pv] 70))
      have HB4 := Lib.hid ((HB.out.grown hg4 (HBS.out _ HB.out) (fun j hj => by injection hj with hj; omega)).alloc (by have := HBS.out _ HB.out; have := hg4.size; omega) (.cells #[.string pn, .string pv] 70))
      have HR4 := Lib.hid (hrg4.alloc (.cells #[.string pn, .string pv] 70))
      have hR4 := Row.new w4 70 #[.string pn, .string pv]
      have p0 := hR4.cell 0
      have p1 := hR4.cell 1
      have HTL := Lib.hid (show T.length ≤ 4112 from by have := HC.out; have := HDN.out; omega)
      have hcp : Calls Tryz.prog 55 (#[pairV (pn, pv), addV (NB + 1)] ++ #[]) (w4.alloc (.cells #[.string pn, .string pv] 70)) fun e w' => e = .returned (.tuple #[]) ∧ SetS w' NB (T ++ pickN (pn, pv)) ∧ (w4.alloc (.cells #[.string pn, .string pv] 70)).grownBy w' (some NB) :=
        HPK.out _ (pn, pv) T (NB + 1) NB (by rw [HNB.out]; exact HB4.out) hqs HX4.out (by rw [HNB.out]; exact Nat.le_refl _) HS4.out (by have := HTL.out; omega)
      have hcp2 : Calls Tryz.prog 55 #[.agg #[.string pn, .string pv], .func (.func 79) #[] #[.pointer (some ⟨NB + 1, 0, none⟩)]] (w4.alloc (.cells #[.string pn, .string pv] 70)) fun e w' => e = .returned (.tuple #[]) ∧ SetS w' NB (T ++ pickN (pn, pv)) ∧ (w4.alloc (.cells #[.string pn, .string pv] 70)).grownBy w' (some NB) := hcp
      have HCP := Lib.hid hcp2
      have HNEW := Lib.hid (show ∀ s, s ∈ T ++ pickN (pn, pv) ↔ ∃ q, (∃ l ∈ ss, q ∈ l) ∧ (left (klOf q) && !(klOf q).sameKey (klOf (pn, pv))) = false ∧ s ∈ pickN q from fun s => by
        rw [List.mem_append, HT.out s]
        constructor
        · rintro (⟨q, h1, h2, h3⟩ | h1)
          · exact ⟨q, h1, by rw [h2]; rfl, h3⟩
          · exact ⟨(pn, pv), hin, by rw [WideAt.sameKey_self (pair_keyed.key (pair_key hqs))]; simp, h1⟩
        · rintro ⟨q, h1, h2, h3⟩
          rw [Bool.and_eq_false_iff] at h2
          rcases h2 with h2 | h2
          · exact .inl ⟨q, h1, h2, h3⟩
          · have h4 : (klOf q).sameKey (klOf (pn, pv)) = true := by simpa using h2
            have h5 := klOf_inj (sz_of hrr h1) hqs (WideAt.sameKey_eq h4)
            rw [← h5]
            exact .inr h3)
      have HLT := Lib.hid hlt
      have hpl := HPL.out (pn, pv)
      have HPL2 := Lib.hid hpl
      unfold pairV at hen ⊢
      clear hs4 hrg4 hg4 hkey hlk hv hat hq hqs hin hlt hR4 hcp hcp2 hpl
      go_wp2_with (first | (go_at_call 55; refine HCP.out.mono ?_; rintro e w5 ⟨rfl, hs5, hg5⟩; have HS5 := Lib.hid hs5; have HG5 := Lib.hid hg5; clear hs5 hg5))
      have hrg5 := HR4.out.kept HG5.out (fun e => by injection e with e; omega) (fun e => by injection e with e; omega)
      go_roundw
      case rel =>
        refine ⟨_, cnt4, T ++ pickN (pn, pv), hrg5, grown_row HX4.out HG5.out (fun e => by injection e with e; omega), HS5.out, HNEW.out, ?_, HB4.out.grown HG5.out (HBS.out _ HB4.out) (fun j hj => by injection hj with hj; omega)⟩
        rw [List.length_append]
        have := HC.out
        have := HLT.out
        have := HPL2.out
        omega
      case measure => rw [hrg5.left_eq, HRG.out.left_eq]; exact HLT.out
end Go.Proofs.YtojlcipphnegaaaGreat
