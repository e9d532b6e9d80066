/- Whatever bytes stand in a log's file: WalWhatever's walk. -/
import Derived.Test.YtmgolnlkepiocaaWaLotW
import Derived.Test.YtmgolnlkepiocaaWaLotX
import Derived.Test.YtmgolnlkepiocaaWaLives
import Derived.Test.YtmgolnlkepiocaaWaOpen
namespace Go.Proofs.Ytmgolnlkepiocaa
open Go.RowKit Go.Maps Dk
set_option linter.unusedVariables false

/-- A log of right records, all of them in the file. -/
structure LogHas (d : Dsk) (rs : List RecV) : Prop where
  at_ : ∃ s, LogAt d (logL rs) s
  on : PowerOn d
  right : Rights rs
theorem LogHas.app {d : Dsk} {rs : List RecV} (h : LogHas d rs) (hl : rs.length ≤ 100) {R : RecV} (hc : recChk R = 0) : (appD d logN R).2 = 0 ∧ LogHas (appD d logN R).1 (rs ++ [R]) := by
  obtain ⟨⟨s, h1⟩, h2, h3⟩ := h
  have ha : appD d logN R = change d 2 logN [] (frameL (recL R)) := by unfold appD; rw [if_neg (by rw [hc]; decide)]
  have hb := logL_len h3
  have hr := recL_len hc
  obtain ⟨k1, k2⟩ := h1.fits h2 (x := frameL (recL R)) (by rw [frameL_length]; omega)
  rw [ha]
  refine ⟨k1, ⟨s, ?_⟩, k2, ?_⟩
  · rw [logL_snoc]; exact h1.append k1
  · intro r hr
    rcases List.mem_append.1 hr with hr | hr
    · exact h3 r hr
    · obtain rfl := List.mem_singleton.1 hr; exact hc
theorem appD_bad {d : Dsk} {name : List UInt8} {R : RecV} (hc : recChk R ≠ 0) : appD d name R = (d, recChk R) := by unfold appD; rw [if_pos hc]
theorem logL_snoc_len (rs : List RecV) (R : RecV) : (logL (rs ++ [R])).length = (logL rs).length + ((recL R).length + 6) := by rw [logL_snoc, List.length_append, frameL_length]
/-- What Open and Open tell of a log behind which bytes stand. -/
structure Twice (d : Dsk) (rs : List RecV) (n : Nat) (rs2 : List RecV) (p : Nat) : Prop where
  wh1 : WH (readD d logN).1 0 (rs ++ rs2) p
  ok1 : (openD d logN p).2 = 0
  wh2 : WH (readD (openD d logN p).1 logN).1 0 (rs ++ rs2) p
  ok2 : (openD (openD d logN p).1 logN p).2 = 0
  rd : readD (openD (openD d logN p).1 logN p).1 logN = (logL (rs ++ rs2), 0)
  len : (logL (rs ++ rs2)).length = p
  lo : (logL rs).length ≤ p
  hi : p ≤ (logL rs).length + n
  b1 : (readD d logN).1.length ≤ 1000000000
  b2 : (readD (openD d logN p).1 logN).1.length ≤ 1000000000
  right : Rights (rs ++ rs2)
theorem twice_some {d : Dsk} {rs : List RecV} {s : Nat} {more : List UInt8} (h : LogAt d (logL rs ++ more) s) (hu : PowerOn d) (hr : Rights rs) (hl : (logL rs).length + more.length ≤ 2000000) : ∃ rs2 p, Twice d rs more.length rs2 p := by
  obtain ⟨rs2, p, hw⟩ := wh_total (logL rs ++ more) (logL rs ++ more).length (logL rs).length (by omega) (by rw [List.length_append]; omega)
  have hw1 : WH (logL rs ++ more) 0 (rs ++ rs2) p := by
    have := wh_on (pre := []) (more := more) (rs2 := rs2) (p := p) rs [] hr (by simpa using hw)
    simpa using this
  obtain ⟨c1, c2, c3, c4, _⟩ := wh_cov hw (by rw [List.length_append]; omega)
  obtain ⟨_, _, _, d4, _⟩ := wh_cov hw1 (Nat.zero_le _)
  obtain ⟨t1, t2⟩ := wh_take hw1
  have hrd := h.read hu.1
  rw [List.length_append] at c2
  obtain ⟨o1, o2, s', o3, _, _⟩ := h.opened hu (by rw [List.length_append]; omega) (p := p) (by rw [List.length_append]; exact c2)
  rw [t1] at o3
  have hrd2 := o3.read o2.1
  obtain ⟨q1, q2, s2, q3, _, _⟩ := o3.opened o2 (by rw [← t2]; omega) (p := p) (by omega)
  rw [List.take_of_length_le (by omega)] at q3
  refine ⟨rs2, p, ?_, o1, ?_, q1, q3.read q2.1, t2.symm, c1, c2, ?_, ?_, d4⟩
  · rw [hrd]; exact hw1
  · rw [hrd2]
    have := wh_whole (rs ++ rs2) d4
    rw [← t2] at this
    exact this
  · rw [hrd]; show (logL rs ++ more).length ≤ _; rw [List.length_append]; omega
  · rw [hrd2]; show (logL (rs ++ rs2)).length ≤ _; omega
theorem map_front {ps : List Pl} {rs rs2 : List RecV} (h : ps.map Prod.fst = rs ++ rs2) : (ps.take rs.length).map Prod.fst = rs := by rw [List.map_take, h, List.take_left]
theorem own_recs {w : World} {base n c : Nat} {P : Option Addr} {ps : List Pl} (h : OwnR w base (.slice P n c) ps) : Recs w P ps := by
  obtain ⟨_, _, e0, _, h0, _⟩ := ownr_slice h
  injection e0 with e0 _ _
  rw [← e0] at h0
  exact h0
set_option maxRecDepth 40000 in
set_option maxHeartbeats 4000000 in
theorem walWhatever_walk (w : World) (V : Option Addr) (l : List Pl) (c : Nat) (hV : Recs w V l) (hf : ∀ p ∈ l, RecFit p.1) (hl : l.length * 96 ≤ 140737488351232) (hlc : l.length ≤ c) (A : Option Addr) (b : List UInt8) (cb : Nat) (hA : Bys w A b) (hb : b.length ≤ 140737488351232) (hbc : b.length ≤ cb) :
    Calls Try.prog 5 #[.slice V l.length c, .slice A b.length cb] w fun e w' => e = .returned (.bool true) ∧ Below w.heap.size w w' := by
  have HA := Lib.hid hA
  have HV := Lib.hid hV
  have HF := Lib.hid hf
  have HLL := Lib.hid hl
  by_cases hbig : 65536 < b.length
  · have i0 : decide ((65536 : Int) < (b.length : Int)) = true := by simp; omega
    have i1 : (65536 : Int) < (b.length : Int) := by omega
    clear hV hf hl hlc hA hb
    go_enter Try.func5, Try.ntmps5
    go_wp2_with (go_at_call 16; refine (again_prog _).mono ?_; rintro e w1 ⟨X, L, T, d, rfl, _, _, _, _, hb1⟩; have HB := Lib.hid hb1; clear hb1)
    go_ret
    exact ⟨rfl, HB.out⟩
  · have i0 : decide ((65536 : Int) < (b.length : Int)) = false := by simp; omega
    have i1 : ¬ (65536 : Int) < (b.length : Int) := by omega
    have i2 : ¬ 65536 < b.length := hbig
    have HBB := Lib.hid i2
    clear hV hf hl hlc hA hb hbig
    go_enter Try.func5, Try.ntmps5
    go_wp2_with (go_at_call 16; refine (again_prog _).mono ?_; rintro e w1 ⟨X, L, T, d, rfl, hlog, hat, hon, hok, hb1⟩; have HB1 := Lib.hid hb1; have HLO := Lib.hid hlog; have HAT := Lib.hid hat; have HON := Lib.hid hon; have HOK := Lib.hid hok; clear hb1 hlog hat hon hok)
    go_loopw [8, 9] (fun u8 i wr => ∃ (j : Nat) (T : Nat → Prop) (d : Dsk) (ps : List Pl), j ≤ l.length ∧ j ≤ 20 ∧ i = .int .i64 (j : Int) ∧ LogOn w.heap.size T wr X L d ps.length (logL (ps.map Prod.fst)).length ∧ LogHas d (ps.map Prod.fst) ∧ Ok (6 + j) d ∧ ps.length ≤ j ∧ Keeps (fun k => T k ∨ k = L) wr w.heap.size u8 ps ∧ (∀ x ∈ ps, RecFit x.1) ∧ Below w.heap.size w wr) (fun _ i _ => 20 - (intOf i).toNat)
    case atStart => exact ⟨0, T, d, [], Nat.zero_le _, by decide, rfl, HLO.out, ⟨⟨0, HAT.out⟩, HON.out, rights_nil⟩, HOK.out, Nat.le_refl _, keeps_nil _ _ _, fun x (hx : x ∈ ([] : List Pl)) => (nomatch hx), HB1.out⟩
    case round =>
      obtain ⟨j, T, d, ps, hj1, hj2, rfl, hlog, hhas, hok, hpj, hk, hfit, hbr⟩ := hrel
      have HK := Lib.hid hk
      have HLG := Lib.hid hlog
      have HHS := Lib.hid hhas
      have HOK := Lib.hid hok
      have HPJ := Lib.hid hpj
      have HFT := Lib.hid hfit
      have HBR := Lib.hid hbr
      have HLP := Lib.hid (show (logL (ps.map Prod.fst)).length ≤ 1000000 by have := logL_len hhas.right; rw [List.length_map] at this; omega)
      have HPL := Lib.hid (show ps.length ≤ 20 by omega)
      obtain ⟨P1, d1, hv1, hpc, hrec, _⟩ := ownr_slice hk.own
      have HPC := Lib.hid hpc
      have HRC := Lib.hid hrec
      generalize hpn : ps.length = pn at hv1
      have HPN := Lib.hid hpn
      subst hv1
      clear hlog hhas hok hpj hk hfit hpc hrec hpn
      by_cases hlt : j < l.length ∧ j < 20
      · obtain ⟨hlt1, hlt2⟩ := hlt
        obtain ⟨gb, go, rfl, hgb, hg⟩ := HV.out.all (by omega)
        obtain ⟨hi1, hg⟩ := hg j hlt1
        have hfit : RecFit (l.getD j pl0).1 := HF.out _ (List.mem_of_getElem? (getD_some l pl0 hlt1))
        obtain ⟨⟨R, m⟩, e1⟩ : ∃ x, l.getD j pl0 = x := ⟨_, rfl⟩
        rw [e1] at hi1 hfit
        simp only at hi1 hfit
        have HCL := Lib.hid (fun W (hW : Below w.heap.size w W) => recs_at hgb hW hg e1)
        have HIN := Lib.hid hi1
        have HFI := Lib.hid hfit
        have i3 : (j : Int) < (l.length : Int) := by omega
        have i4 : (j : Int) < 20 := by omega
        have HAP := Lib.hid (logapp_prog HLG.out HOK.out (by omega) (by have := HPL.out; omega) (by have := HLP.out; omega) HBR.out.size R m (hi1.below hbr) hfit)
        obtain ⟨g0, g1, g2, g3, g4, g5⟩ := HCL.out _ hbr
        clear hg e1 hi1 hfit
        by_cases hc : recChk R = 0
        · obtain ⟨ha1, ha2⟩ := HHS.out.app (by rw [List.length_map]; have := HPL.out; omega) hc
          unfold AppTold at HAP
          rw [ha1] at HAP
          simp only [if_true] at HAP
          have HA2 := Lib.hid ha2
          have HOK2 := Lib.hid (show Ok (6 + (j + 1)) (appD d logN R).1 by
            have ha : appD d logN R = change d 2 logN [] (frameL (recL R)) := by unfold appD; rw [if_neg (by rw [hc]; decide)]
            rw [ha]; exact ok_change HOK.out 2 logN [] _ (by decide))
          have HSN := Lib.hid (logL_snoc_len (ps.map Prod.fst) R)
          clear ha1 ha2 hc hbr
          generalize appD d logN R = r at *
          obtain ⟨D, E⟩ := r
          simp only at HAP HA2 HOK2
          have HREL := Lib.hid (fun m => show (ps ++ [((R, m) : Pl)]).map Prod.fst = ps.map Prod.fst ++ [R] by simp)
          generalize (recL R).length = rll at *
          obtain ⟨kd, la, ro, ids, lo, hi⟩ := R
          obtain ⟨A1, ca, B1, cb1, C1, cc⟩ := m
          simp only [recC] at *
          go_wp2_with (first
            | (go_at_call 17; refine HAP.out.mono ?_; rintro e w3 ⟨rfl, T2, hl3, hK3, hT2⟩
               have HL3 := Lib.hid hl3
               have HT2 := Lib.hid hT2
               have hb3 : Below w.heap.size w w3 := HBR.out.trans (hK3.to_below HLG.out.ge HBR.out.size)
               have HB3 := Lib.hid hb3
               have HK3 := Lib.hid (HK.out.go (T := fun k => T2 k ∨ k = L) hK3 fun k hk => hk.elim (fun h => (hT2 k h).imp (fun h => .inl h) id) fun h => .inl (.inr h))
               obtain ⟨q0, q1, q2, q3, q4, q5⟩ := HCL.out _ hb3
               clear hl3 hK3 hT2 hb3)
            | (at_builtin; go_loud (refine app_keeps rfl (.tmp 49) (.tmp 54) rfl (fun k => T2 k ∨ k = L) HL3.out.lt w.heap.size (.slice P1 pn d1) ps rfl HK3.out ⟨kd, la, ro, ids, lo, hi⟩ ⟨A1, ca, B1, cb1, C1, cc⟩ (HIN.out.below HB3.out) (in_apart HIN.out HK3.out.own.row (Nat.le_refl _)) (in_far HIN.out HL3.out.ge) 1 rfl (by have := HPL.out; omega) HB3.out.size ?_; intro v5 w5 hk5 hb5 hK5; have HK5 := Lib.hid hk5; have HL5 := Lib.hid (HL3.out.kept hK5 fun k hk hv => HK3.out.far k hv hk); have HB5 := Lib.hid (HB3.out.trans hb5); clear hk5 hb5 hK5)))
          go_roundw
          case rel => exact ⟨j + 1, T2, D, ps ++ [(⟨kd, la, ro, ids, lo, hi⟩, ⟨A1, ca, B1, cb1, C1, cc⟩)], by omega, by omega, by go_num, by rw [HREL.out, HSN.out, List.length_append]; exact HL5.out, by rw [HREL.out]; exact HA2.out, HOK2.out, by rw [List.length_append]; have := HPJ.out; simp; omega, HK5.out, fun x hx => by
            rcases List.mem_append.1 hx with hx | hx
            · exact HFT.out x hx
            · obtain rfl := List.mem_singleton.1 hx
              exact HFI.out, HB5.out⟩
          case measure => simp [intOf]; omega
        · unfold AppTold at HAP
          rw [appD_bad hc] at HAP
          simp only [if_neg hc] at HAP
          have hi5 : (recChk R == 0) = false := beq_eq_false_iff_ne.2 hc
          generalize recChk R = E at *
          clear hc hbr
          obtain ⟨kd, la, ro, ids, lo, hi⟩ := R
          obtain ⟨A1, ca, B1, cb1, C1, cc⟩ := m
          simp only [recC] at *
          go_wp2_with (first
            | (go_at_call 17; refine HAP.out.mono ?_; rintro e w3 ⟨rfl, T2, hl3, hK3, hT2⟩
               have HL3 := Lib.hid hl3
               have hb3 : Below w.heap.size w w3 := HBR.out.trans (hK3.to_below HLG.out.ge HBR.out.size)
               have HB3 := Lib.hid hb3
               have HK3 := Lib.hid (HK.out.go (T := fun k => T2 k ∨ k = L) hK3 fun k hk => hk.elim (fun h => (hT2 k h).imp (fun h => .inl h) id) fun h => .inl (.inr h))
               clear hl3 hK3 hT2 hb3))
          go_roundw
          case rel => exact ⟨j + 1, T2, d, ps, by omega, by omega, by go_num, HL3.out, HHS.out, HOK.out.mono (by omega), by have := HPJ.out; omega, HK3.out, HFT.out, HB3.out⟩
          case measure => simp [intOf]; omega
      · have hcase : (¬ j < l.length) ∨ (j < l.length ∧ ¬ j < 20) := by omega
        rcases hcase with h1 | ⟨h1, h2⟩
        · have x1 : ¬ ((j : Int) < (l.length : Int)) := by omega
          have x2 : decide ((j : Int) < (l.length : Int)) = false := decide_eq_false x1
          clear hlt
          obtain ⟨⟨s, hat⟩, hon, hright⟩ := HHS.out
          have hlen := logL_len hright
          rw [List.length_map] at hlen
          have hbb := HBB.out
          have hpl := HPL.out
          obtain ⟨k1, k2⟩ := hat.fits hon (x := b) (by omega)
          have hat2 := hat.append k1
          obtain ⟨rs2, p, htw⟩ := twice_some hat2 k2 hright (by omega)
          have hokA : Ok (6 + j + 1) (change d 2 logN [] b).1 := ok_change HOK.out 2 logN [] b (by decide)
          have happ := append_prog HLG.out.disk HOK.out.fine (HOK.out.few (by omega)) logS [] A b cb (by decide) (HA.out.below hbr) (by omega)
          have hsl : strL logS = logN := rfl
          rw [hsl] at happ
          generalize change d 2 logN [] b = r at *
          obtain ⟨D1, E1⟩ := r
          simp only at k1 htw hokA happ
          subst k1
          have HAPP := Lib.hid happ
          have HOKA := Lib.hid hokA
          have HJ := Lib.hid hj2
          have hpo := htw.lo
          have hpi := htw.hi
          have i3 : decide ((((logL (ps.map Prod.fst)).length : Nat) : Int) ≤ (p : Int)) = true := by simp; omega
          have i4 : ((logL (ps.map Prod.fst)).length : Int) ≤ (p : Int) := by omega
          have i5 : IntKind.i64.wrap (((logL (ps.map Prod.fst)).length : Int) + (b.length : Int)) = ((logL (ps.map Prod.fst)).length : Int) + (b.length : Int) := IntWalk.i64_in _ (by omega)
          have i6 : (p : Int) ≤ ((logL (ps.map Prod.fst)).length : Int) + (b.length : Int) := by omega
          have i6' : decide ((p : Int) ≤ ((logL (ps.map Prod.fst)).length : Int) + (b.length : Int)) = true := decide_eq_true i6
          have HSZ := Lib.hid (logsize_prog logS pn _ (by rw [← HPN.out]; exact HLG.out.row))
          have HPP := Lib.hid (show pn ≤ (ps.map Prod.fst ++ rs2).length by rw [List.length_append, List.length_map, HPN.out]; omega)
          have W1 := Lib.hid htw.wh1
          have O1 := Lib.hid htw.ok1
          have W2 := Lib.hid htw.wh2
          have O2 := Lib.hid htw.ok2
          have RD := Lib.hid htw.rd
          have LEN := Lib.hid htw.len
          have C1 := Lib.hid htw.b1
          have C2 := Lib.hid htw.b2
          have RT := Lib.hid htw.right
          have HTK := Lib.hid (fun (ps2 : List Pl) (h : ps2.map Prod.fst = ps.map Prod.fst ++ rs2) => show (ps2.take pn).map Prod.fst = ps.map Prod.fst by have := map_front h; rwa [List.length_map, HPN.out] at this)
          have HRL := Lib.hid (show (ps.map Prod.fst ++ rs2).length ≤ 1000000000 by
            obtain ⟨_, _, _, _, h5⟩ := wh_cov htw.wh1 (Nat.zero_le _)
            have := htw.b1
            omega)
          have HPQ := Lib.hid (show pn ≤ 1000000000 by have := HPN.out; have := HPL.out; omega)
          clear hat hon hright hlen hat2 htw hokA happ k2 hbr hpo hpi hj1 hj2 hbb hpl
          generalize ps.map Prod.fst ++ rs2 = RS at *
          have HRF := Lib.hid (fun (q : List Pl) (h : q.map Prod.fst = RS) => rights_fit h RT.out)
          generalize (logL (ps.map Prod.fst)).length = P0 at *
          go_wp2_with (first
            | (go_at_call 18; (with_reducible refine (logsize_prog logS _ _ HR7.out).mono ?_); rintro e w3 ⟨rfl, rfl⟩)
            | (go_at_call 18; refine HSZ.out.mono ?_; rintro e w3 ⟨rfl, rfl⟩)
            | (go_at_call 19; refine HAPP.out.mono ?_; rintro e w3 ⟨rfl, ha3⟩
               have HL3 := Lib.hid (HLG.out.after ha3 HBR.out.size)
               have HK3 := Lib.hid (HK.out.after ha3)
               have HB3 := Lib.hid (HBR.out.trans (ha3.2.to_below (fun k hk => HLG.out.ge k (.inl hk)) HBR.out.size))
               clear ha3)
            | (go_at_call 20; refine (open_prog HD4x.out (fun k hk => (HT4x.out k hk).2) HOK4.out (by have := HJ.out; omega) logS (by decide) W2.out C2.out).mono ?_; rintro e w5 hO
               obtain ⟨h0, L3, v3, ps3, T5, rfl, hrow, hps, hdk, hK, hT, hTL, hL, hk3, _, _⟩ := hO.resolve_left (fun h => h.1 O2.out)
               have HR5 := Lib.hid hrow
               have HP3 := Lib.hid hps
               have HB5 := Lib.hid (HB4x.out.trans (hK.to_below (fun k hk => (HT4x.out k hk).1) HB4x.out.size))
               have HRC25 := Lib.hid (own_recs (HK4x.out.kept hK).own)
               have hdk' : DiskAt T5 w5 X (openD (openD D1 logN p).1 logN p).1 := hdk
               have hrd := Dk.read_prog hdk' (ok_open HOK4.out logN p).fine logS (by decide)
               rw [show readD (openD (openD D1 logN p).1 logN p).1 (strL logS) = (logL RS, 0) from RD.out] at hrd
               have HRD := Lib.hid hrd
               obtain ⟨P3, d3, hv3, _, hrc3, _⟩ := ownr_slice hk3.own
               have hpl3 : ps3.length = RS.length := by rw [← hps, List.length_map]
               have HL33 := Lib.hid hpl3
               have HRC3 := Lib.hid hrc3
               rw [hpl3] at hv3
               subst hv3
               clear h0 hrow hps hdk hK hT hTL hL hk3 hrc3 hpl3 hrd hdk')
            | (go_at_call 20; refine (open_prog HL3.out.disk (fun k hk => (HL3.out.own k hk).2) HOKA.out (by have := HJ.out; omega) logS (by decide) W1.out C1.out).mono ?_; rintro e w4 hO
               obtain ⟨h0, L2, v2, ps2, T4, rfl, hrow, hps, hdk, hK, hT, hTL, hL, hk2, _, _⟩ := hO.resolve_left (fun h => h.1 O1.out)
               have HD4 : Hid (DiskAt T4 w4 X (openD D1 logN p).1) := Lib.hid hdk
               have HOK4 := Lib.hid (ok_open HOKA.out logN p)
               have HT4 := Lib.hid (show ∀ k, T4 k → w.heap.size ≤ k ∧ k < w4.heap.size from fun k hk => ⟨(hT k hk).1.elim (fun h => (HL3.out.own k h).1) (fun h => Nat.le_trans HB3.out.size h), (hT k hk).2⟩)
               have HB4 := Lib.hid (HB3.out.trans (hK.to_below (fun k hk => (HL3.out.own k hk).1) HB3.out.size))
               have HP2 := Lib.hid hps
               have HRC0 := Lib.hid (own_recs (Keeps.kept (HK3.out.mono fun k hk => .inl hk) hK).own)
               obtain ⟨P2, d2, hv2, hd2, hrc2, _⟩ := ownr_slice hk2.own
               have hpl2 : ps2.length = RS.length := by rw [← hps, List.length_map]
               have HL2 := Lib.hid hpl2
               have HRC2 := Lib.hid hrc2
               have j1 : ¬ (RS.length : Int) < (pn : Int) := by have := HPP.out; omega
               have j2 : decide ((RS.length : Int) < (pn : Int)) = false := decide_eq_false j1
               have j3 : pn ≤ d2 := by have := HPP.out; omega
               have j4 : (pn : Int) ≤ (d2 : Int) := by omega
               have HSA := Lib.hid (sameall_n (ps2.take pn) ps pn (by rw [List.length_take, hpl2]; have := HPP.out; omega) (HTK.out ps2 hps) P2 P1 d2 d1 w4 (hrc2.front pn) HRC0.out (fun x hx => rights_fit hps RT.out x (List.mem_of_mem_take hx)) HPQ.out)
               rw [hpl2] at hv2
               subst hv2
               have HK4 := Lib.hid hk2
               clear h0 hrow hps hdk hK hT hTL hL hk2 hrc2 hpl2 hd2)
            | (go_at_call 21; (with_reducible refine (sameall_n ps3 ps2 RS.length HL33.out (HP3.out.trans HP2.out.symm) P3 P2 d3 d2 _ (HRC3.out.below HB56.out) (HRC25.out.below HB56.out) (HRF.out ps3 HP3.out) HRL.out).mono ?_); rintro e w7 ⟨rfl, hb7⟩
               have HR7 := Lib.hid (HR6.out.below hb7 HR6.out.lt)
               have HB7 := Lib.hid (HB6.out.trans (hb7.mono HB6.out.size))
               clear hb7)
            | (go_at_call 21; (with_reducible refine HSA.out.mono ?_); rintro e w4' ⟨rfl, hb4⟩
               have HD4x := Lib.hid (HD4.out.below hb4)
               have HT4x := Lib.hid (show ∀ k, T4 k → w.heap.size ≤ k ∧ k < w4'.heap.size from fun k hk => ⟨(HT4.out k hk).1, Nat.lt_of_lt_of_le (HT4.out k hk).2 hb4.size⟩)
               have HB4x := Lib.hid (HB4.out.trans (hb4.mono HB4.out.size))
               have HK4x := Lib.hid (HK4.out.below hb4)
               clear hb4)
            | (go_at_call 22; refine HRD.out.mono ?_; rintro e w6 ⟨v6, rfl, ho6, hb6⟩
               obtain ⟨Q6, q6, hv6, _, _, _, _⟩ := own_cap ho6
               rw [LEN.out] at hv6
               subst hv6
               have HB56 := Lib.hid hb6
               have HB6 := Lib.hid (HB5.out.trans (hb6.mono HB5.out.size))
               have HR6 := Lib.hid (HR5.out.below hb6 HR5.out.lt)
               clear ho6 hb6)
            | (go_at_call 23; refine (loglen_prog logS _ _ HR7.out).mono ?_; rintro e w8 ⟨rfl, rfl⟩)
            | (go_at_call 15; refine (waLives_true _).mono ?_; rintro e w9 ⟨rfl, hb9⟩; have HB9 := Lib.hid (HB7.out.trans (hb9.mono HB7.out.size)); clear hb9))
          go_ret
          exact ⟨rfl, HB9.out⟩
        · have x1 : (j : Int) < (l.length : Int) := by omega
          have x2 : decide ((j : Int) < (l.length : Int)) = true := decide_eq_true x1
          have x3 : ¬ ((j : Int) < 20) := by omega
          have x4 : decide ((j : Int) < 20) = false := decide_eq_false x3
          clear hlt
          obtain ⟨⟨s, hat⟩, hon, hright⟩ := HHS.out
          have hlen := logL_len hright
          rw [List.length_map] at hlen
          have hbb := HBB.out
          have hpl := HPL.out
          obtain ⟨k1, k2⟩ := hat.fits hon (x := b) (by omega)
          have hat2 := hat.append k1
          obtain ⟨rs2, p, htw⟩ := twice_some hat2 k2 hright (by omega)
          have hokA : Ok (6 + j + 1) (change d 2 logN [] b).1 := ok_change HOK.out 2 logN [] b (by decide)
          have happ := append_prog HLG.out.disk HOK.out.fine (HOK.out.few (by omega)) logS [] A b cb (by decide) (HA.out.below hbr) (by omega)
          have hsl : strL logS = logN := rfl
          rw [hsl] at happ
          generalize change d 2 logN [] b = r at *
          obtain ⟨D1, E1⟩ := r
          simp only at k1 htw hokA happ
          subst k1
          have HAPP := Lib.hid happ
          have HOKA := Lib.hid hokA
          have HJ := Lib.hid hj2
          have hpo := htw.lo
          have hpi := htw.hi
          have i3 : decide ((((logL (ps.map Prod.fst)).length : Nat) : Int) ≤ (p : Int)) = true := by simp; omega
          have i4 : ((logL (ps.map Prod.fst)).length : Int) ≤ (p : Int) := by omega
          have i5 : IntKind.i64.wrap (((logL (ps.map Prod.fst)).length : Int) + (b.length : Int)) = ((logL (ps.map Prod.fst)).length : Int) + (b.length : Int) := IntWalk.i64_in _ (by omega)
          have i6 : (p : Int) ≤ ((logL (ps.map Prod.fst)).length : Int) + (b.length : Int) := by omega
          have i6' : decide ((p : Int) ≤ ((logL (ps.map Prod.fst)).length : Int) + (b.length : Int)) = true := decide_eq_true i6
          have HSZ := Lib.hid (logsize_prog logS pn _ (by rw [← HPN.out]; exact HLG.out.row))
          have HPP := Lib.hid (show pn ≤ (ps.map Prod.fst ++ rs2).length by rw [List.length_append, List.length_map, HPN.out]; omega)
          have W1 := Lib.hid htw.wh1
          have O1 := Lib.hid htw.ok1
          have W2 := Lib.hid htw.wh2
          have O2 := Lib.hid htw.ok2
          have RD := Lib.hid htw.rd
          have LEN := Lib.hid htw.len
          have C1 := Lib.hid htw.b1
          have C2 := Lib.hid htw.b2
          have RT := Lib.hid htw.right
          have HTK := Lib.hid (fun (ps2 : List Pl) (h : ps2.map Prod.fst = ps.map Prod.fst ++ rs2) => show (ps2.take pn).map Prod.fst = ps.map Prod.fst by have := map_front h; rwa [List.length_map, HPN.out] at this)
          have HRL := Lib.hid (show (ps.map Prod.fst ++ rs2).length ≤ 1000000000 by
            obtain ⟨_, _, _, _, h5⟩ := wh_cov htw.wh1 (Nat.zero_le _)
            have := htw.b1
            omega)
          have HPQ := Lib.hid (show pn ≤ 1000000000 by have := HPN.out; have := HPL.out; omega)
          clear hat hon hright hlen hat2 htw hokA happ k2 hbr hpo hpi hj1 hj2 hbb hpl
          generalize ps.map Prod.fst ++ rs2 = RS at *
          have HRF := Lib.hid (fun (q : List Pl) (h : q.map Prod.fst = RS) => rights_fit h RT.out)
          generalize (logL (ps.map Prod.fst)).length = P0 at *
          go_wp2_with (first
            | (go_at_call 18; (with_reducible refine (logsize_prog logS _ _ HR7.out).mono ?_); rintro e w3 ⟨rfl, rfl⟩)
            | (go_at_call 18; refine HSZ.out.mono ?_; rintro e w3 ⟨rfl, rfl⟩)
            | (go_at_call 19; refine HAPP.out.mono ?_; rintro e w3 ⟨rfl, ha3⟩
               have HL3 := Lib.hid (HLG.out.after ha3 HBR.out.size)
               have HK3 := Lib.hid (HK.out.after ha3)
               have HB3 := Lib.hid (HBR.out.trans (ha3.2.to_below (fun k hk => HLG.out.ge k (.inl hk)) HBR.out.size))
               clear ha3)
            | (go_at_call 20; refine (open_prog HD4x.out (fun k hk => (HT4x.out k hk).2) HOK4.out (by have := HJ.out; omega) logS (by decide) W2.out C2.out).mono ?_; rintro e w5 hO
               obtain ⟨h0, L3, v3, ps3, T5, rfl, hrow, hps, hdk, hK, hT, hTL, hL, hk3, _, _⟩ := hO.resolve_left (fun h => h.1 O2.out)
               have HR5 := Lib.hid hrow
               have HP3 := Lib.hid hps
               have HB5 := Lib.hid (HB4x.out.trans (hK.to_below (fun k hk => (HT4x.out k hk).1) HB4x.out.size))
               have HRC25 := Lib.hid (own_recs (HK4x.out.kept hK).own)
               have hdk' : DiskAt T5 w5 X (openD (openD D1 logN p).1 logN p).1 := hdk
               have hrd := Dk.read_prog hdk' (ok_open HOK4.out logN p).fine logS (by decide)
               rw [show readD (openD (openD D1 logN p).1 logN p).1 (strL logS) = (logL RS, 0) from RD.out] at hrd
               have HRD := Lib.hid hrd
               obtain ⟨P3, d3, hv3, _, hrc3, _⟩ := ownr_slice hk3.own
               have hpl3 : ps3.length = RS.length := by rw [← hps, List.length_map]
               have HL33 := Lib.hid hpl3
               have HRC3 := Lib.hid hrc3
               rw [hpl3] at hv3
               subst hv3
               clear h0 hrow hps hdk hK hT hTL hL hk3 hrc3 hpl3 hrd hdk')
            | (go_at_call 20; refine (open_prog HL3.out.disk (fun k hk => (HL3.out.own k hk).2) HOKA.out (by have := HJ.out; omega) logS (by decide) W1.out C1.out).mono ?_; rintro e w4 hO
               obtain ⟨h0, L2, v2, ps2, T4, rfl, hrow, hps, hdk, hK, hT, hTL, hL, hk2, _, _⟩ := hO.resolve_left (fun h => h.1 O1.out)
               have HD4 : Hid (DiskAt T4 w4 X (openD D1 logN p).1) := Lib.hid hdk
               have HOK4 := Lib.hid (ok_open HOKA.out logN p)
               have HT4 := Lib.hid (show ∀ k, T4 k → w.heap.size ≤ k ∧ k < w4.heap.size from fun k hk => ⟨(hT k hk).1.elim (fun h => (HL3.out.own k h).1) (fun h => Nat.le_trans HB3.out.size h), (hT k hk).2⟩)
               have HB4 := Lib.hid (HB3.out.trans (hK.to_below (fun k hk => (HL3.out.own k hk).1) HB3.out.size))
               have HP2 := Lib.hid hps
               have HRC0 := Lib.hid (own_recs (Keeps.kept (HK3.out.mono fun k hk => .inl hk) hK).own)
               obtain ⟨P2, d2, hv2, hd2, hrc2, _⟩ := ownr_slice hk2.own
               have hpl2 : ps2.length = RS.length := by rw [← hps, List.length_map]
               have HL2 := Lib.hid hpl2
               have HRC2 := Lib.hid hrc2
               have j1 : ¬ (RS.length : Int) < (pn : Int) := by have := HPP.out; omega
               have j2 : decide ((RS.length : Int) < (pn : Int)) = false := decide_eq_false j1
               have j3 : pn ≤ d2 := by have := HPP.out; omega
               have j4 : (pn : Int) ≤ (d2 : Int) := by omega
               have HSA := Lib.hid (sameall_n (ps2.take pn) ps pn (by rw [List.length_take, hpl2]; have := HPP.out; omega) (HTK.out ps2 hps) P2 P1 d2 d1 w4 (hrc2.front pn) HRC0.out (fun x hx => rights_fit hps RT.out x (List.mem_of_mem_take hx)) HPQ.out)
               rw [hpl2] at hv2
               subst hv2
               have HK4 := Lib.hid hk2
               clear h0 hrow hps hdk hK hT hTL hL hk2 hrc2 hpl2 hd2)
            | (go_at_call 21; (with_reducible refine (sameall_n ps3 ps2 RS.length HL33.out (HP3.out.trans HP2.out.symm) P3 P2 d3 d2 _ (HRC3.out.below HB56.out) (HRC25.out.below HB56.out) (HRF.out ps3 HP3.out) HRL.out).mono ?_); rintro e w7 ⟨rfl, hb7⟩
               have HR7 := Lib.hid (HR6.out.below hb7 HR6.out.lt)
               have HB7 := Lib.hid (HB6.out.trans (hb7.mono HB6.out.size))
               clear hb7)
            | (go_at_call 21; (with_reducible refine HSA.out.mono ?_); rintro e w4' ⟨rfl, hb4⟩
               have HD4x := Lib.hid (HD4.out.below hb4)
               have HT4x := Lib.hid (show ∀ k, T4 k → w.heap.size ≤ k ∧ k < w4'.heap.size from fun k hk => ⟨(HT4.out k hk).1, Nat.lt_of_lt_of_le (HT4.out k hk).2 hb4.size⟩)
               have HB4x := Lib.hid (HB4.out.trans (hb4.mono HB4.out.size))
               have HK4x := Lib.hid (HK4.out.below hb4)
               clear hb4)
            | (go_at_call 22; refine HRD.out.mono ?_; rintro e w6 ⟨v6, rfl, ho6, hb6⟩
               obtain ⟨Q6, q6, hv6, _, _, _, _⟩ := own_cap ho6
               rw [LEN.out] at hv6
               subst hv6
               have HB56 := Lib.hid hb6
               have HB6 := Lib.hid (HB5.out.trans (hb6.mono HB5.out.size))
               have HR6 := Lib.hid (HR5.out.below hb6 HR5.out.lt)
               clear ho6 hb6)
            | (go_at_call 23; refine (loglen_prog logS _ _ HR7.out).mono ?_; rintro e w8 ⟨rfl, rfl⟩)
            | (go_at_call 15; refine (waLives_true _).mono ?_; rintro e w9 ⟨rfl, hb9⟩; have HB9 := Lib.hid (HB7.out.trans (hb9.mono HB7.out.size)); clear hb9))
          go_ret
          exact ⟨rfl, HB9.out⟩
end Go.Proofs.Ytmgolnlkepiocaa
