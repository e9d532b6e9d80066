/- What a log keeps behind a crash: WalKeeps's walk. -/
import Derived.Test.YtmgolnlkepiocaaGreatWaLotW
import Derived.Test.YtmgolnlkepiocaaGreatWaLotX
import Derived.Test.YtmgolnlkepiocaaGreatWaLives
import Derived.Test.YtmgolnlkepiocaaGreatWaLotY
import Derived.Test.YtmgolnlkepiocaaGreatWaKeepsM
import Derived.Test.YtmgolnlkepiocaaGreatWaLotT
namespace Go.Proofs.YtmgolnlkepiocaaGreat
open Go.RowKit Go.Maps Dk
set_option linter.unusedVariables false

theorem wact_row {w : World} {g : Nat} {v0 v1 v2 v3 v4 v5 v6 v7 v8 v9 : Value} (h : Row w g 50 #[v0, v1, v2, v3, v4, v5, v6, v7, v8, v9]) :
    w.cell? ⟨g, 0, none⟩ = some v0 ∧ w.cell? ⟨g, 1, none⟩ = some v1 ∧ w.cell? ⟨g, 2, none⟩ = some v2 ∧ w.cell? ⟨g, 3, none⟩ = some v3 ∧ w.cell? ⟨g, 4, none⟩ = some v4 ∧ w.cell? ⟨g, 5, none⟩ = some v5 ∧ w.cell? ⟨g, 6, none⟩ = some v6 ∧ w.cell? ⟨g, 7, none⟩ = some v7 ∧ w.cell? ⟨g, 8, none⟩ = some v8 ∧ w.cell? ⟨g, 9, none⟩ = some v9 :=
  ⟨h.cell 0, h.cell 1, h.cell 2, h.cell 3, h.cell 4, h.cell 5, h.cell 6, h.cell 7, h.cell 8, h.cell 9⟩
theorem wacts_at {W w : World} {V : Option Addr} {acs : List WAct} (h : WActs W V acs) (hb : Below W.heap.size W w) {i : Nat} (hi : i < acs.length) :
    ∃ b o, V = some ⟨b, o, none⟩ ∧ WActOk W (acs.getD i default) ∧ ∀ j v, (wactC (acs.getD i default))[j]? = some v → w.cell? ⟨b, o + i * 10 + j, none⟩ = some v := by
  rcases h with rfl | ⟨b, o, rfl, hlt, hc⟩
  · simp at hi
  · obtain ⟨hok, hcell⟩ := hc i hi
    exact ⟨b, o, rfl, hok, fun j v hj => (hb.cell (p := ⟨b, o + i * 10 + j, none⟩) hlt).trans (hcell j v hj)⟩
theorem wact_at {w : World} {b o : Nat} {a : WAct} (h : ∀ j v, (wactC a)[j]? = some v → w.cell? ⟨b, o + j, none⟩ = some v) :
    w.cell? ⟨b, o, none⟩ = some (.int .i64 a.kind) ∧ w.cell? ⟨b, o + 1, none⟩ = some (.int .i64 a.r.kind) ∧ w.cell? ⟨b, o + 2, none⟩ = some (.slice a.m.la a.r.labels.length a.m.lc) ∧ w.cell? ⟨b, o + 3, none⟩ = some (.slice a.m.ra a.r.rows.length a.m.rc) ∧ w.cell? ⟨b, o + 4, none⟩ = some (.slice a.m.ia a.r.ids.length a.m.ic) ∧
    w.cell? ⟨b, o + 5, none⟩ = some (.int .i64 a.r.low) ∧ w.cell? ⟨b, o + 6, none⟩ = some (.int .i64 a.r.high) ∧ w.cell? ⟨b, o + 7, none⟩ = some (.slice a.A a.b.length a.bc) ∧ w.cell? ⟨b, o + 8, none⟩ = some (.int .i64 a.n) ∧ w.cell? ⟨b, o + 9, none⟩ = some (.slice a.V a.ks.length a.kc) :=
  ⟨h 0 _ rfl, h 1 _ rfl, h 2 _ rfl, h 3 _ rfl, h 4 _ rfl, h 5 _ rfl, h 6 _ rfl, h 7 _ rfl, h 8 _ rfl, h 9 _ rfl⟩
/-- A log, its records, what is sure of them: what holds at each round. -/
structure KeepR (w : World) (wr : World) (X L : Nat) (T : Nat → Prop) (d : Dsk) (ps : List Pl) (sure j : Nat) (v : Value) : Prop where
  log : LogOn w.heap.size T wr X L d ps.length (logL (ps.map Prod.fst)).length
  has : HasK d (ps.map Prod.fst) sure
  ok : Ok (6 + 6 * j) d
  len : ps.length ≤ j
  keep : Keeps (fun k => T k ∨ k = L) wr w.heap.size v ps
  bel : Below w.heap.size w wr
theorem KeepR.fit {w wr : World} {X L : Nat} {T : Nat → Prop} {d : Dsk} {ps : List Pl} {sure j : Nat} {v : Value} (h : KeepR w wr X L T d ps sure j v) : ∀ x ∈ ps, RecFit x.1 := rights_fit rfl h.has.1
theorem KeepR.small {w wr : World} {X L : Nat} {T : Nat → Prop} {d : Dsk} {ps : List Pl} {sure j : Nat} {v : Value} (h : KeepR w wr X L T d ps sure j v) (hj : j ≤ 40) : (logL (ps.map Prod.fst)).length ≤ 1000000 ∧ ps.length ≤ 40 := by
  have := logL_len h.has.1
  rw [List.length_map] at this
  have := h.len
  omega
theorem KeepR.next {w wr w' : World} {X L : Nat} {T : Nat → Prop} {d : Dsk} {ps : List Pl} {sure j : Nat} {v : Value} (h : KeepR w wr X L T d ps sure j v) (hb : Below wr.heap.size wr w') : KeepR w w' X L T d ps sure (j + 1) v :=
  ⟨h.log.below hb, h.has, h.ok.mono (by omega), by have := h.len; omega, h.keep.below hb, h.bel.trans (hb.mono h.bel.size)⟩
theorem KeepR.below {w wr w' : World} {X L : Nat} {T : Nat → Prop} {d : Dsk} {ps : List Pl} {sure j : Nat} {v : Value} (h : KeepR w wr X L T d ps sure j v) (hb : Below wr.heap.size wr w') : KeepR w w' X L T d ps sure j v :=
  ⟨h.log.below hb, h.has, h.ok, h.len, h.keep.below hb, h.bel.trans (hb.mono h.bel.size)⟩
theorem HasK.appY {d : Dsk} {rs : List RecV} {sure : Nat} (h : HasK d rs sure) {R : RecV} (hy : (appD d logN R).2 = 0) : HasK (appD d logN R).1 (rs ++ [R]) sure := by
  by_cases hc : recChk R = 0
  · have ha : Go.Proofs.YtmgolnlkepiocaaGreat.appD d logN R = change d 2 logN [] (frameL (recL R)) := by unfold Go.Proofs.YtmgolnlkepiocaaGreat.appD; rw [if_neg (by rw [hc]; decide)]
    rw [ha] at hy ⊢
    exact h.app hc hy
  · have ha : Go.Proofs.YtmgolnlkepiocaaGreat.appD d logN R = (d, recChk R) := by unfold Go.Proofs.YtmgolnlkepiocaaGreat.appD; rw [if_pos hc]
    rw [ha] at hy
    exact absurd hy hc
theorem HasK.appN {d : Dsk} {rs : List RecV} {sure : Nat} (h : HasK d rs sure) {R : RecV} (hy : (appD d logN R).2 ≠ 0) : HasK (appD d logN R).1 rs sure := by
  by_cases hc : recChk R = 0
  · have ha : Go.Proofs.YtmgolnlkepiocaaGreat.appD d logN R = change d 2 logN [] (frameL (recL R)) := by unfold Go.Proofs.YtmgolnlkepiocaaGreat.appD; rw [if_neg (by rw [hc]; decide)]
    rw [ha] at hy ⊢
    exact h.no hy
  · have ha : Go.Proofs.YtmgolnlkepiocaaGreat.appD d logN R = (d, recChk R) := by unfold Go.Proofs.YtmgolnlkepiocaaGreat.appD; rw [if_pos hc]
    rw [ha]
    exact h
theorem ok_appD {N : Nat} {d : Dsk} (h : Ok N d) (R : RecV) : Ok (N + 1) (appD d logN R).1 := by
  unfold appD
  split
  · exact h.mono (by omega)
  · exact ok_change h 2 logN [] _ (by decide)
/-- Behind a call of the disk. -/
theorem KeepR.after {w wr w' : World} {X L : Nat} {T : Nat → Prop} {d d' : Dsk} {ps : List Pl} {sure sure' j : Nat} {v : Value} (h : KeepR w wr X L T d ps sure j v) (ha : After T wr X d' w') (hh : HasK d' (ps.map Prod.fst) sure') (hO : Ok (6 + 6 * (j + 1)) d') : KeepR w w' X L (more T wr w') d' ps sure' (j + 1) v :=
  ⟨h.log.after ha h.bel.size, hh, hO, by have := h.len; omega, h.keep.after ha, h.bel.trans (ha.2.to_below (fun k hk => h.log.ge k (.inl hk)) h.bel.size)⟩
def KeepX (w : World) (X : Nat) (l : List WAct) (u4 u6 u7 i : Value) (wr : World) : Prop := ∃ (j L : Nat) (T : Nat → Prop) (d : Dsk) (ps : List Pl) (sure : Nat), j ≤ l.length ∧ j ≤ 40 ∧ u4 = .pointer (some ⟨L, 0, none⟩) ∧ u7 = .int .i64 (sure : Int) ∧ i = .int .i64 (j : Int) ∧ KeepR w wr X L T d ps sure j u6
theorem own_recs {w : World} {base n c : Nat} {P : Option Addr} {ps : List Pl} (h : OwnR w base (.slice P n c) ps) : Recs w P ps := by
  obtain ⟨_, _, e0, _, h0, _⟩ := ownr_slice h
  injection e0 with e0 _ _
  rw [← e0] at h0
  exact h0
set_option maxRecDepth 40000 in
set_option maxHeartbeats 4000000 in
theorem walKeeps_walk (w : World) (V : Option Addr) (l : List WAct) (c : Nat) (hV : WActs w V l) (hl : l.length ≤ 140737488351232) (hl' : l.length ≤ 140737488351232) (hlc : l.length ≤ c) :
    Calls Tryz.prog 4 #[.slice V l.length c] w fun e w' => e = .returned (.bool true) ∧ Below w.heap.size w w' := by
  have HV := Lib.hid hV
  clear hV hl hl' hlc
  go_enter Tryz.func4, Tryz.ntmps4
  go_wp2_with (go_at_call 13; refine (again_prog _).mono ?_; rintro e w1 ⟨X, L, T, d, rfl, hlog, hat, hon, hok, hb1⟩; have HB1 := Lib.hid hb1; have HLO := Lib.hid hlog; have HAT := Lib.hid hat; have HOK := Lib.hid hok; clear hb1 hlog hat hon hok)
  go_loopw [4, 6, 7, 8] (fun u4 u6 u7 i wr => KeepX w X l u4 u6 u7 i wr) (fun _ _ _ i _ => 40 - (intOf i).toNat)
  case atStart => exact ⟨0, L, T, d, [], 0, Nat.zero_le _, by decide, rfl, rfl, rfl, HLO.out, hask_new HAT.out, HOK.out, Nat.le_refl _, keeps_nil _ _ _, HB1.out⟩
  case round =>
    obtain ⟨j, L, T, d, ps, sure, hj1, hj2, rfl, rfl, rfl, hk⟩ := hrel
    have HK := Lib.hid hk
    have HSM := Lib.hid (hk.small hj2)
    obtain ⟨P1, d1, hv1, hpc, hrec, _⟩ := ownr_slice hk.keep.own
    have HPC := Lib.hid hpc
    have HRC := Lib.hid hrec
    generalize hpn : ps.length = pn at hv1
    have HPN := Lib.hid hpn
    subst hv1
    clear hpc hrec hpn
    by_cases hlt : j < l.length ∧ j < 40
    · obtain ⟨hlt1, hlt2⟩ := hlt
      obtain ⟨gb, go, rfl, hok, hcl⟩ := wacts_at HV.out hk.bel hlt1
      generalize l.getD j default = a at *
      obtain ⟨g0, g1, g2, g3, g4, g5, g6, g7, g8, g9⟩ := wact_at hcl
      have HOK := Lib.hid hok
      have i3 : (j : Int) < (l.length : Int) := by omega
      have i4 : (j : Int) < 40 := by omega
      have hbx := Row.new wr 50 #[.int .i64 a.kind, .int .i64 a.r.kind, .slice a.m.la a.r.labels.length a.m.lc, .slice a.m.ra a.r.rows.length a.m.rc, .slice a.m.ia a.r.ids.length a.m.ic, .int .i64 a.r.low, .int .i64 a.r.high, .slice a.A a.b.length a.bc, .int .i64 a.n, .slice a.V a.ks.length a.kc]
      have HBX := Lib.hid hbx
      have hb2 := below_one wr (.cells #[.int .i64 a.kind, .int .i64 a.r.kind, .slice a.m.la a.r.labels.length a.m.lc, .slice a.m.ra a.r.rows.length a.m.rc, .slice a.m.ia a.r.ids.length a.m.ic, .int .i64 a.r.low, .int .i64 a.r.high, .slice a.A a.b.length a.bc, .int .i64 a.n, .slice a.V a.ks.length a.kc] 50)
      have HB2 := Lib.hid hb2
      obtain ⟨q0, q1, q2, q3, q4, q5, q6, q7, q8, q9⟩ := wact_row hbx
      clear hcl hok hbx hb2 hk
      by_cases k1 : a.kind = 1
      · have e1 : (a.kind == 1) = true := beq_iff_eq.2 k1
        have HOW := Lib.hid (fun W (hW : Below w.heap.size w W) => own_prog a.r a.m W (HOK.out.rc.below hW) HOK.out.fit)
        obtain ⟨D, E, hD⟩ : ∃ D E, appD d logN a.r = (D, E) := ⟨_, _, rfl⟩
        have HAP := Lib.hid (fun m3 W (hW : Below wr.heap.size wr W) (hm : RecIn W a.r m3) => logapp_prog (HK.out.below hW).log HK.out.ok (by omega) (by have := HSM.out.2; omega) (by have := HSM.out.1; omega) (Nat.le_trans HK.out.bel.size hW.size) a.r m3 hm HOK.out.fit)
        unfold AppTold at HAP
        rw [hD] at HAP
        have HOKD := Lib.hid (show Ok (6 + 6 * j + 1) D by have := ok_appD HK.out.ok a.r; rwa [hD] at this)
        have HYES := Lib.hid (fun (h : E = 0) => show HasK D (ps.map Prod.fst ++ [a.r]) sure by have := HK.out.has.appY (R := a.r) (by rw [hD]; exact h); rwa [hD] at this)
        have HNO := Lib.hid (fun (h : E ≠ 0) => show HasK D (ps.map Prod.fst) sure by have := HK.out.has.appN (R := a.r) (by rw [hD]; exact h); rwa [hD] at this)
        have HREL := Lib.hid (fun m => show (ps ++ [((a.r, m) : Pl)]).map Prod.fst = ps.map Prod.fst ++ [a.r] by simp)
        have HSN := Lib.hid (show (logL (ps.map Prod.fst ++ [a.r])).length = (logL (ps.map Prod.fst)).length + ((recL a.r).length + 6) by rw [logL_snoc, List.length_append, frameL_length])
        clear hD k1
        by_cases hE : E = 0
        · subst hE
          simp only [if_true] at HAP
          go_wp2_with (first
            | (go_at_call 15; refine (HOW.out _ (HK.out.bel.trans (HB2.out.mono HK.out.bel.size))).mono ?_; rintro e w3 ⟨m3, rfl, ho3, hb3⟩
               have HO3 := Lib.hid ho3.in_
               have HB3 := Lib.hid (below_then HB2.out hb3)
               have HX3 := Lib.hid (HBX.out.below hb3 (by simp))
               clear ho3 hb3)
            | (go_at_call 14; refine (HAP.out m3 _ HB3.out HO3.out).mono ?_; rintro e w4 ⟨rfl, T4, hl4, hK4, hT4⟩
               have HL4 := Lib.hid hl4
               have HKE4 := Lib.hid ((HK.out.keep.below HB3.out).go (T := fun k => T4 k ∨ k = L) hK4 fun k hk => hk.elim (fun h => (hT4 k h).imp (fun h => .inl h) id) fun h => .inl (.inr h))
               have HB4 := Lib.hid ((HK.out.below HB3.out).bel.trans (hK4.to_below (HK.out.below HB3.out).log.ge (HK.out.below HB3.out).bel.size))
               have hx4 := row_kept HX3.out hK4 (fun hk => by have := HK.out.log.lt _ hk; omega)
               obtain ⟨y0, y1, y2, y3, y4, y5, y6, y7, y8, y9⟩ := wact_row hx4
               clear hl4 hK4 hT4 hx4)
            | (at_builtin; refine app_keeps rfl (.tmp 44) (.tmp 47) rfl (fun k => T4 k ∨ k = L) HL4.out.lt w.heap.size (.slice P1 pn d1) ps rfl HKE4.out a.r a.m (HOK.out.rc.below HB4.out) (in_apart HOK.out.rc HKE4.out.own.row (Nat.le_refl _)) (in_far HOK.out.rc HL4.out.ge) 1 rfl (by have := HSM.out.2; omega) HB4.out.size ?_
               intro v5 w5 hk5 hb5 hK5
               have HK5 := Lib.hid hk5
               have HL5 := Lib.hid (HL4.out.kept hK5 fun k hk hv => HKE4.out.far k hv hk)
               have HB5 := Lib.hid (HB4.out.trans hb5)
               clear hk5 hb5 hK5))
          go_roundw
          case rel => exact ⟨j + 1, L, T4, D, ps ++ [(a.r, a.m)], sure, by omega, by omega, rfl, rfl, by go_num, by rw [HREL.out, HSN.out, List.length_append]; exact HL5.out, by rw [HREL.out]; exact HYES.out (by first | rfl | trivial), HOKD.out.mono (by omega), by rw [List.length_append]; have := HK.out.len; simp; omega, HK5.out, HB5.out⟩
          case measure => simp [intOf]; omega
        · have e5 : (E == 0) = false := beq_eq_false_iff_ne.2 hE
          simp only [if_neg hE] at HAP
          have HE := Lib.hid hE
          clear hE
          go_wp2_with (first
            | (go_at_call 15; refine (HOW.out _ (HK.out.bel.trans (HB2.out.mono HK.out.bel.size))).mono ?_; rintro e w3 ⟨m3, rfl, ho3, hb3⟩
               have HO3 := Lib.hid ho3.in_
               have HB3 := Lib.hid (below_then HB2.out hb3)
               clear ho3 hb3)
            | (go_at_call 14; refine (HAP.out m3 _ HB3.out HO3.out).mono ?_; rintro e w4 ⟨rfl, T4, hl4, hK4, hT4⟩
               have HL4 := Lib.hid hl4
               have HKE4 := Lib.hid ((HK.out.keep.below HB3.out).go (T := fun k => T4 k ∨ k = L) hK4 fun k hk => hk.elim (fun h => (hT4 k h).imp (fun h => .inl h) id) fun h => .inl (.inr h))
               have HB4 := Lib.hid ((HK.out.below HB3.out).bel.trans (hK4.to_below (HK.out.below HB3.out).log.ge (HK.out.below HB3.out).bel.size))
               clear hl4 hK4 hT4))
          go_roundw
          case rel => exact ⟨j + 1, L, T4, D, ps, sure, by omega, by omega, rfl, rfl, by go_num, HL4.out, HNO.out HE.out, HOKD.out.mono (by omega), by have := HK.out.len; omega, HKE4.out, HB4.out⟩
          case measure => simp [intOf]; omega
      · by_cases k2 : a.kind = 2
        · have e2 : (a.kind == 2) = true := beq_iff_eq.2 k2
          have e1 : (a.kind == 1) = false := beq_eq_false_iff_ne.2 k1
          have HSY := Lib.hid (logsync_prog (HK.out.below HB2.out).log.disk HK.out.ok (by omega) logS (by decide) _ _ (HK.out.below HB2.out).log.row (HK.out.below HB2.out).log.off)
          have hOK5 := ok_change HK.out.ok 5 logN [] [] (by decide)
          have hyes := fun h => HK.out.has.sync h
          have hno := fun h => HK.out.has.no (kind := 5) (name := logN) (tu := []) (x := []) h
          have hsl : strL logS = logN := rfl
          rw [hsl] at HSY
          generalize change d 5 logN [] [] = r at *
          obtain ⟨D, E⟩ := r
          simp only at HSY hOK5 hyes hno
          have HOKD := Lib.hid hOK5
          clear k1 k2 hOK5 hsl
          by_cases hE : E = 0
          · subst hE
            have HH := Lib.hid (show HasK D (ps.map Prod.fst) pn by have := hyes rfl; rwa [List.length_map, HPN.out] at this)
            clear hyes hno
            go_wp2_with (go_at_call 16; refine HSY.out.mono ?_; rintro e w3 ⟨rfl, ha3⟩; have HA3 := Lib.hid ((HK.out.below HB2.out).after ha3 HH.out (HOKD.out.mono (by omega))); clear ha3)
            go_roundw
            case rel => exact ⟨j + 1, L, _, D, ps, pn, by omega, by omega, rfl, rfl, by go_num, HA3.out⟩
            case measure => simp [intOf]; omega
          · have e5 : (E == 0) = false := beq_eq_false_iff_ne.2 hE
            have HH := Lib.hid (hno hE)
            clear hyes hno hE
            go_wp2_with (go_at_call 16; refine HSY.out.mono ?_; rintro e w3 ⟨rfl, ha3⟩; have HA3 := Lib.hid ((HK.out.below HB2.out).after ha3 HH.out (HOKD.out.mono (by omega))); clear ha3)
            go_roundw
            case rel => exact ⟨j + 1, L, _, D, ps, sure, by omega, by omega, rfl, rfl, by go_num, HA3.out⟩
            case measure => simp [intOf]; omega
        · by_cases k3 : a.kind = 3
          · have e3 : (a.kind == 3) = true := beq_iff_eq.2 k3
            have e1 : (a.kind == 1) = false := beq_eq_false_iff_ne.2 k1
            have e2 : (a.kind == 2) = false := beq_eq_false_iff_ne.2 k2
            have hkS : a.ks = [] ∨ ∀ ad, a.V = some ad → ¬ T ad.block := by
              rcases HOK.out.ks with h0 | ⟨b, o, hV, hlt, _⟩
              · exact .inl h0
              · refine .inr fun ad e hT => ?_
                rw [hV] at e
                injection e with e
                subst e
                have := (HK.out.log.own _ hT).1
                simp only at this
                omega
            have HCR := Lib.hid (crash_at (HK.out.below HB2.out).log.disk HK.out.ok (by omega) a.n HOK.out.n.1 HOK.out.n.2 a.V a.ks a.kc (HOK.out.ks.below (HK.out.below HB2.out).bel) hkS (by have := HOK.out.kl; omega) HOK.out.kb)
            obtain ⟨jj, p, hag⟩ := HK.out.has.crash (by rw [List.length_map]; have := HSM.out.2; omega) a.n a.ks
            have HOKD := Lib.hid (ok_crash HK.out.ok a.n a.ks)
            have HAG := Lib.hid hag
            have hj1' := hag.lo
            have hj2' := hag.hi
            rw [List.length_map, HPN.out] at hj2'
            have HJJ := Lib.hid hj2'
            have m1 : ¬ (jj : Int) < (sure : Int) := by omega
            have m2 : decide ((jj : Int) < (sure : Int)) = false := decide_eq_false m1
            have m3 : ¬ (pn : Int) < (jj : Int) := by omega
            have m4 : decide ((pn : Int) < (jj : Int)) = false := decide_eq_false m3
            have m5 : jj ≤ d1 := by have := HPC.out; have := HPN.out; omega
            have m6 : (jj : Int) ≤ (d1 : Int) := by omega
            clear k1 k2 k3 hkS hag hj1' hj2'
            go_wp2_with (first
              | (go_at_call 17; refine HCR.out.mono ?_; rintro e w3 ⟨rfl, ha3⟩
                 have HL3 := Lib.hid ((HK.out.below HB2.out).log.after ha3 (HK.out.below HB2.out).bel.size)
                 have HK3 := Lib.hid ((HK.out.below HB2.out).keep.after ha3)
                 have HB3 := Lib.hid ((HK.out.below HB2.out).bel.trans (ha3.2.to_below (fun k hk => HK.out.log.ge k (.inl hk)) (HK.out.below HB2.out).bel.size))
                 clear ha3)
              | (go_at_call 18; refine (open_prog HL3.out.disk (fun k hk => (HL3.out.own k hk).2) HOKD.out (by omega) logS (by decide) HAG.out.wh HAG.out.b).mono ?_; rintro e w4 hO
                 obtain ⟨h0, L2, v2, ps2, T4, rfl, hrow, hps, hdk, hKK, hT, hTL, hL, hk2, habv, hne, hap⟩ := hO.resolve_left (fun h => h.1 HAG.out.ok)
                 have HT4 := Lib.hid (show ∀ k, T4 k → w.heap.size ≤ k ∧ k < w4.heap.size from fun k hk => ⟨(hT k hk).1.elim (fun h => (HL3.out.own k h).1) (fun h => Nat.le_trans HB3.out.size h), (hT k hk).2⟩)
                 have HB4 := Lib.hid (HB3.out.trans (hKK.to_below (fun k hk => (HL3.out.own k hk).1) HB3.out.size))
                 have HL4 := Lib.hid (show LogOn w.heap.size T4 w4 X L2 (openD (crashD d a.n a.ks) logN p).1 ((ps.map Prod.fst).take jj).length p from ⟨hdk, HT4.out, hrow, hTL, Nat.le_trans HB3.out.size hL⟩)
                 have HPS := Lib.hid hps
                 have HRC0 := Lib.hid (own_recs (Keeps.kept (HK3.out.mono fun k hk => .inl hk) hKK).own)
                 have hpl2 : ps2.length = jj := by
                   have := congrArg List.length hps
                   rw [List.length_map, List.length_take, List.length_map, HPN.out] at this
                   have := HJJ.out
                   omega
                 have HPL2 := Lib.hid hpl2
                 have HKE4 := Lib.hid (show Keeps (fun k => T4 k ∨ k = L2) w4 w.heap.size v2 ps2 from ⟨ownr_lower hk2.own HB3.out.size, fun k hk ht => ht.elim (hk2.far k hk) fun e => hne (e ▸ hk), fun x hx k hk => hk.elim (hk2.each x hx k) fun e => e ▸ hap x hx⟩)
                 obtain ⟨P2, d2, hv2, _, hrc2, _⟩ := ownr_slice hk2.own
                 have HSA := Lib.hid (sameall_n ps2 (ps.take jj) jj hpl2 (by rw [hps, List.map_take]) P2 P1 d2 d1 w4 hrc2 (HRC0.out.front jj) (rights_fit hps fun r hr => HK.out.has.1 r (List.mem_of_mem_take hr)) (by have := HJJ.out; have := HSM.out.2; have := HPN.out; omega))
                 rw [hpl2] at hv2
                 subst hv2
                 clear h0 hrow hps hdk hKK hT hTL hL hk2 habv hne hap hrc2 hpl2)
              | (go_at_call 19; refine HSA.out.mono ?_; rintro e w5 ⟨rfl, hb5⟩
                 have HB5 := Lib.hid hb5
                 clear hb5))
            go_roundw
            case rel =>
              refine ⟨j + 1, L2, T4, _, ps2, jj, by omega, by omega, rfl, rfl, by go_num, KeepR.below ⟨?_, ?_, (ok_open HOKD.out logN p).mono (by omega), by rw [HPL2.out]; have := HJJ.out; have := HK.out.len; have := HPN.out; omega, HKE4.out, HB4.out⟩ HB5.out⟩
              · have h1 := HL4.out
                rw [HAG.out.len] at h1 ⊢
                rw [show ((ps.map Prod.fst).take jj).length = ps2.length by rw [← HPS.out, List.length_map]] at h1
                rw [HPS.out]
                exact h1
              · have h1 := HAG.out.has
                rw [HPS.out]
                exact h1
            case measure => simp [intOf]; omega
          · by_cases k4 : a.kind = 4
            · have e1 : (a.kind == 1) = false := beq_eq_false_iff_ne.2 k1
              have e2 : (a.kind == 2) = false := beq_eq_false_iff_ne.2 k2
              have e3 : (a.kind == 3) = false := beq_eq_false_iff_ne.2 k3
              have e4 : (a.kind == 4) = true := beq_iff_eq.2 k4
              have HFU := Lib.hid (fuse_prog (HK.out.below HB2.out).log.disk a.n)
              have HH := Lib.hid (HK.out.has.fuse a.n)
              have HOKD := Lib.hid (ok_fuse HK.out.ok a.n HOK.out.n.2)
              clear k1 k2 k3 k4
              go_wp2_with (go_at_call 20; refine HFU.out.mono ?_; rintro e w3 ⟨rfl, ha3⟩; have HA3 := Lib.hid ((HK.out.below HB2.out).after ha3 HH.out (HOKD.out.mono (by omega))); clear ha3)
              go_roundw
              case rel => exact ⟨j + 1, L, _, _, ps, sure, by omega, by omega, rfl, rfl, by go_num, HA3.out⟩
              case measure => simp [intOf]; omega
            · have e1 : (a.kind == 1) = false := beq_eq_false_iff_ne.2 k1
              have e2 : (a.kind == 2) = false := beq_eq_false_iff_ne.2 k2
              have e3 : (a.kind == 3) = false := beq_eq_false_iff_ne.2 k3
              have e4 : (a.kind == 4) = false := beq_eq_false_iff_ne.2 k4
              clear k1 k2 k3 k4
              go_wp2_with fail
              go_roundw
              case rel => exact ⟨j + 1, L, T, d, ps, sure, by omega, by omega, rfl, rfl, by go_num, HK.out.next HB2.out⟩
              case measure => simp [intOf]; omega
    · have hcase : (¬ j < l.length) ∨ (j < l.length ∧ ¬ j < 40) := by omega
      rcases hcase with h1 | ⟨h1, h2⟩
      · have x1 : ¬ ((j : Int) < (l.length : Int)) := by omega
        have x2 : decide ((j : Int) < (l.length : Int)) = false := decide_eq_false x1
        clear hlt
        have hx := HK.out.log.row
        have HR := Lib.hid (show Row wr L 94 (logC X logS (pn : Nat) ((logL (ps.map Prod.fst)).length : Nat)) by rw [← HPN.out]; exact hx)
        have HB := Lib.hid HK.out.bel
        clear hx hk
        go_wp2_with (first
          | (go_at_call 11; refine (loglen_prog logS _ _ HR.out).mono ?_; rintro e w8 ⟨rfl, rfl⟩)
          | (go_at_call 7; refine (waLives_true _).mono ?_; rintro e w9 ⟨rfl, hb9⟩; have HB9 := Lib.hid (HB.out.trans (hb9.mono HB.out.size)); clear hb9))
        go_ret
        exact ⟨rfl, HB9.out⟩
      · have x1 : (j : Int) < (l.length : Int) := by omega
        have x2 : decide ((j : Int) < (l.length : Int)) = true := decide_eq_true x1
        have x3 : ¬ ((j : Int) < 40) := by omega
        have x4 : decide ((j : Int) < 40) = false := decide_eq_false x3
        clear hlt
        have hx := HK.out.log.row
        have HR := Lib.hid (show Row wr L 94 (logC X logS (pn : Nat) ((logL (ps.map Prod.fst)).length : Nat)) by rw [← HPN.out]; exact hx)
        have HB := Lib.hid HK.out.bel
        clear hx hk
        go_wp2_with (first
          | (go_at_call 11; refine (loglen_prog logS _ _ HR.out).mono ?_; rintro e w8 ⟨rfl, rfl⟩)
          | (go_at_call 7; refine (waLives_true _).mono ?_; rintro e w9 ⟨rfl, hb9⟩; have HB9 := Lib.hid (HB.out.trans (hb9.mono HB.out.size)); clear hb9))
        go_ret
        exact ⟨rfl, HB9.out⟩
end Go.Proofs.YtmgolnlkepiocaaGreat
