/- In one text, written by lotify.py: HdShrink, HdUndo. -/
import Derived.Test.YtpcjnagdanmdpaaGreatHdLotB
namespace Go.Proofs.YtpcjnagdanmdpaaGreat
open Go.RowKit Go.Maps
open Ch
set_option linter.unusedVariables false
set_option linter.unusedSimpArgs false
set_option maxRecDepth 100000
theorem owns_take {w : World} {P : Option Addr} {n sc k : Nat} {l : List Smp} (h : OwnS w 0 (.slice P n sc) l) (hn : l.length = n) (hk : k ≤ n) : OwnS w 0 (.slice P k sc) (l.take k) := by
  have hlen : (l.take k).length = k := by rw [List.length_take]; omega
  rcases h.2 with ⟨e, h0⟩ | ⟨g, cap, cur, e, h1, h2, h3, h4, h5, h6⟩
  · injection e with e1 e2 e3
    subst e1 e3
    have : k = 0 := by omega
    subst this
    exact ⟨by simp, .inl ⟨rfl, by simp⟩⟩
  · injection e with e1 e2 e3
    subst e1 e3
    refine ⟨by rw [flat_len smpE 2 smpE_len], .inr ⟨g, sc, cur, by rw [hlen], h1, h2, by rw [hlen]; rw [← hn] at hk; omega, h4, h5, ?_⟩⟩
    rw [hlen]
    have e7 : l.flatMap smpE = (l.take k).flatMap smpE ++ (l.drop k).flatMap smpE := by rw [← List.flatMap_append, List.take_append_drop]
    have e8 : ((l.take k).flatMap smpE).length = k * 2 := by rw [flat_len smpE 2 smpE_len, hlen]
    have e9 := congrArg (fun x => x.take (k * 2)) h6
    simp only [List.take_take] at e9
    rw [show min (k * 2) (l.length * 2) = k * 2 by omega] at e9
    rw [e9, e7, List.take_append_of_le_length (by omega), List.take_of_length_le (by omega)]
section
variable {S : Nat → Prop} {w w' w1 w2 : World} {X : Nat} {p : Plc} {h h' : List Ser} {c c' : Int}
theorem HeadIn.with_count (hi : HeadIn w X p h c) : HeadIn (w.setCell ⟨X, 2, none⟩ (.int .i64 c')) X p h c' := by
  have far : ∀ k, k ≠ X → (w.setCell ⟨X, 2, none⟩ (.int .i64 c')).heap[k]? = w.heap[k]? := fun k hk => Below.heap_setCell w ⟨X, 2, none⟩ _ k hk
  exact ⟨hi.row.setAt 2 _, hi.ids.block (far _ (fun e => hi.tx.mp hi.tm e.symm)), rows_move hi.sers fun k hk => far k ((hi.tp hk).ne hi.tx (by decide)),
    fun i hl => row_move (hi.ser i hl) (far _ ((hi.tf hl).ne hi.tx (by decide))), fun i hl => ownl_move (hi.labs i hl) fun k hk => far k ((hi.tl hl hk).ne hi.tx (by decide)),
    fun i hl => owns_move (hi.smps i hl) fun k hk => far k ((hi.ts hl hk).ne hi.tx (by decide)), hi.fbs, hi.sms⟩
theorem HeadIn.drew (hi : HeadIn w X p h c) : HeadIn w.drew X p h c := hi.move fun _ _ => rfl
/-- Fewer samples of a series. -/
theorem HeadIn.with_fewer (hi : HeadIn w X p h c) (hS : ∀ k, Foot X p h.length k → S k) {i : Nat} (hl : i < h.length) {g : Nat} (hg : p.fb i = g) {Q : Option Addr} {n sc m : Nat} (hsm : p.sm i = .slice Q n sc) (hn : (h.getD i ser0).2.length = n) (hm : m ≤ n) :
    HeadIn (w.setCell ⟨g, 1, none⟩ (.slice Q m sc)) X (plcSm p i (.slice Q m sc)) (h.set i ((h.getD i ser0).1, (h.getD i ser0).2.take m)) c ∧ (∀ k, Foot X (plcSm p i (.slice Q m sc)) h.length k → S k) ∧ Kept S w (w.setCell ⟨g, 1, none⟩ (.slice Q m sc)) := by
  subst hg
  have hne : X ≠ p.fb i := hi.tx.ne (hi.tf hl) (by decide)
  have K : Kept (fun k => k = X ∨ k = p.fb i ∨ (p.sm i).ownBlock = some k) w (w.setCell ⟨p.fb i, 1, none⟩ (.slice Q m sc)) := (Kept.refl _ w).set (p := ⟨p.fb i, 1, none⟩) (.inl (.inr (.inl rfl))) _
  have hblk : (Value.slice Q m sc).ownBlock = (p.sm i).ownBlock ∨ ∃ q, (Value.slice Q m sc).ownBlock = some q ∧ w.heap.size ≤ q := .inl (by rw [hsm]; cases Q <;> rfl)
  refine ⟨hi.with_smp hl K (hi.row.setFar (p := ⟨p.fb i, 1, none⟩) hne _) ((hi.ser i hl).setAt 1 _) ?_ hblk, fun k hk => ?_, ?_⟩
  · have h1 := hi.smps i hl
    rw [hsm] at h1
    exact rows_setFar (owns_take h1 hn hm) (hi.ser i hl) (by decide) 1 _
  · have h2 : (Value.slice Q m sc).ownBlock = (p.sm i).ownBlock ∨ ∃ q, (Value.slice Q m sc).ownBlock = some q ∧ (k + 1) ≤ q := .inl (by rw [hsm]; cases Q <;> rfl)
    exact (foot_smp hl h2 hk).elim (hS k) fun h => by omega
  · exact (Kept.refl S w).set (p := ⟨p.fb i, 1, none⟩) (.inl (hS _ (.inr (.inr (.inr ⟨i, hl, .inl rfl⟩))))) _
set_option maxHeartbeats 1000000 in
theorem shrink_prog {rows : List Wrow} {A : Option Addr} {ca : Nat} (hi : HeadIn w X p (putsH h rows) c) (hS : ∀ k, Foot X p h.length k → S k) (hx : ∀ x ∈ rows, 0 ≤ x.1 ∧ x.1 < (h.length : Int)) (hA : Wrows w A rows) (hAS : ∀ ad, A = some ad → ¬ S ad.block) (hn : rows.length ≤ 100000)
    (hc : c - (rows.length : Int) = c') (hc0 : 0 ≤ c') (hc1 : c ≤ 100000) (h256 : h.length ≤ 256) (hlong : ∀ i, ((putsH h rows).getD i ser0).2.length ≤ 1000000) :
    Calls Tryz.prog 55 #[.pointer (some ⟨X, 0, none⟩), .slice A rows.length ca] w fun e w' => e = .returned (.tuple #[]) ∧ ∃ p', HeadIn w' X p' h c' ∧ (∀ k, Foot X p' h.length k → S k) ∧ Kept S w w' := by
  have hxn : ∀ x ∈ rows, x.1.toNat < h.length := fun x hm => by have := hx x hm; omega
  have HX := Lib.hid hx
  have HXN := Lib.hid hxn
  have HA := Lib.hid hA
  have HAS := Lib.hid hAS
  have HLG := Lib.hid hlong
  have hlen := putsH_len rows h
  have HST := Lib.hid (show HeadIn w X p (tkH (putsH h rows) (lenR h rows 0)) c by rw [tk_start hxn]; exact hi)
  have HS := Lib.hid hS
  obtain ⟨m, hm⟩ : ∃ m, rows.length = m := ⟨_, rfl⟩
  have HM := Lib.hid hm
  have hw1 : IntKind.i64.wrap (c - (m : Int)) = c' := by
    rw [← hm, hc, show c' = ((c'.toNat : Nat) : Int) by omega]
    exact IntWalk.i64_in _ (by omega)
  rw [hm]
  have HC := Lib.hid hc
  have hmb : m ≤ 100000 := by omega
  clear hi hx hA hAS hlong hS hxn hm hc hn
  go_enter Tryz.func55, Tryz.ntmps55
  go_wp2_with fail
  go_loopw [9] (fun a wr => ∃ (j : Nat) (q : Plc), j ≤ m ∧ a = .int .i64 (j : Int) ∧ HeadIn wr X q (tkH (putsH h rows) (lenR h rows j)) c ∧ (∀ k, Foot X q h.length k → S k) ∧ Kept S w wr) (fun a _ => m - (intOf a).toNat)
  case atStart => exact ⟨0, p, Nat.zero_le _, rfl, HST.out, HS.out, Kept.refl _ _⟩
  case round =>
    obtain ⟨j, q, hj, rfl, hq, hf, hK⟩ := hrel
    by_cases hlt : j < m
    · have i1 : decide ((j : Int) < (m : Int)) = true := decide_eq_true (by omega)
      have i2 : (j : Int) < (m : Int) := by omega
      have hlenq : (tkH (putsH h rows) (lenR h rows j)).length = h.length := by rw [tkH_len, putsH_len]
      have hjr : j < rows.length := by rw [HM.out]; exact hlt
      obtain ⟨hst1, hst0⟩ := tk_step HXN.out hjr
      have hmem : rows.getD j wrow0 ∈ rows := by
        rw [List.getD_eq_getElem?_getD, List.getElem?_eq_getElem hjr]
        exact List.getElem_mem hjr
      obtain ⟨id0, id1⟩ := HX.out _ hmem
      obtain ⟨b, o, hAe, hb, hcell⟩ := HA.out.all (by omega)
      obtain ⟨r0, r1, r2⟩ := hcell j hjr
      have hbl := hK.block b hb (HAS.out _ hAe)
      subst hAe
      have mv : ∀ i, wr.cell? ⟨b, i, none⟩ = w.cell? ⟨b, i, none⟩ := fun i => World.cell?_of_block (w := w) hbl
      rw [← mv] at r0 r1 r2
      obtain ⟨k, hk⟩ : ∃ k, (rows.getD j wrow0).1.toNat = k := ⟨_, rfl⟩
      have hid : (rows.getD j wrow0).1 = (k : Int) := by omega
      have hkl : k < h.length := by omega
      rw [hk] at hst1 hst0
      rw [hid] at r0
      generalize (rows.getD j wrow0).2.1 = t at *
      generalize (rows.getD j wrow0).2.2 = v at *
      obtain ⟨st, hst⟩ : ∃ st, tkH (putsH h rows) (lenR h rows j) = st := ⟨_, rfl⟩
      rw [hst] at hst1 hst0 hq hlenq
      have hlg : (st.getD k ser0).2.length ≤ 1000000 := by
        rw [← hst, tkH_get _ _ (by rw [putsH_len]; exact hkl)]
        have := HLG.out k
        simp only [List.length_take]
        omega
      have hb1 := below_one wr (.cells #[.int .i64 (k : Int), .int .i64 t, .int .i64 v] 70)
      have hq1 := hq.below hb1
      have c0 := (Row.new wr 70 #[.int .i64 (k : Int), .int .i64 t, .int .i64 v]).cell 0
      obtain ⟨P, cc, _, hcc, x0, _, _, hall⟩ := hq1.cells
      obtain ⟨bp, rfl, hbp, hptr⟩ := hall (by omega)
      have p0 := hptr k (by omega)
      obtain ⟨L, lc, Q, sc, _, hsm, _, hsc, _, s1, _, hSm⟩ := hq1.series (i := k) (by omega)
      obtain ⟨g, hg⟩ : ∃ g, q.fb k = g := ⟨_, rfl⟩
      have hser := hq1.ser k (by omega)
      rw [hg] at p0 s1 hser
      have f1 := hser.frozen 1
      obtain ⟨sb, so, hQ, _⟩ := hSm.all hst0
      subst hQ
      obtain ⟨n, hn⟩ : ∃ n, (st.getD k ser0).2.length = n := ⟨_, rfl⟩
      rw [hn] at hst1 hst0 hsm hsc s1 hlg
      rw [hlenq] at x0 hcc
      have hfin := hq1.with_fewer (fun z hz => hf z (by rw [hlenq] at hz; exact hz)) (i := k) (by omega) hg hsm hn (show n - 1 ≤ n by omega)
      rw [← hst1, hlenq] at hfin
      have hKf : Kept S w ((wr.alloc (.cells #[.int .i64 (k : Int), .int .i64 t, .int .i64 v] 70)).setCell ⟨g, 1, none⟩ (.slice (some ⟨sb, so, none⟩) (n - 1) sc)) := (hK.alloc _).trans hfin.2.2 fun i hi => .inl hi
      have HF1 := Lib.hid hfin.1
      have HF2 := Lib.hid hfin.2.1
      have HF3 := Lib.hid hKf
      have w1 : IntKind.i64.wrap ((n : Int) - 1) = ((n - 1 : Nat) : Int) := by
        rw [show ((n : Int) - 1) = ((n - 1 : Nat) : Int) by omega]
        exact IntWalk.i64_in _ (by omega)
      have e1 : (k : Int) < (h.length : Int) := by omega
      have e2 : ((n - 1 : Nat) : Int) ≤ (sc : Int) := by omega
      have e3 : n - 1 ≤ sc := by omega
      have e4 : (0 : Int) ≤ ((n - 1 : Nat) : Int) := by omega
      have HJ := Lib.hid hlt
      generalize h.length = hl at *
      clear hq hf hK hlenq hst hst1 hst0 hmem id0 id1 hcell hbl mv hq1 hall hptr hSm hser hfin hKf hlg hb1 hlen HLG
      go_wp2_with fail
      go_region
      go_wp2_with fail
      go_region
      go_wp2_with fail
      go_roundw
      case rel => exact ⟨j + 1, _, HJ.out, by go_num, HF1.out.drew.drew, HF2.out, HF3.out.drew.drew⟩
      case measure => simp [intOf]; omega
    · have hjr : j = rows.length := by rw [HM.out]; omega
      subst hjr
      rw [tk_end HXN.out] at hq
      have i1 : decide ((rows.length : Int) < (m : Int)) = false := decide_eq_false (by rw [HM.out]; omega)
      have i2 : ¬ (rows.length : Int) < (m : Int) := by rw [HM.out]; omega
      obtain ⟨_, _, _, _, _, _, x2, _⟩ := hq.cells
      have f2 := hq.row.frozen 2
      have hK2 := hK.set (p := ⟨X, 2, none⟩) (.inl (hf _ (.inl rfl))) (.int .i64 c')
      have HQ := Lib.hid (hq.with_count (c' := c'))
      have HF := Lib.hid hf
      have HK2 := Lib.hid hK2
      clear hq hf hK hK2
      go_wp2_with fail
      go_end0
      exact ⟨rfl, q, HQ.out, HF.out, HK2.out⟩
end
section
variable {S : Nat → Prop} {w w' w1 w2 : World} {X : Nat} {p : Plc} {h h' : List Ser} {c c' : Int}
theorem undo_idle {B0 B1 B2 B3 : Nat} (u : FrameMode) (hE : Row w B2 28 #[.int .i64 0]) :
    CallsD Tryz.prog 54 #[.pointer (some ⟨B2, 0, none⟩), .pointer (some ⟨B0, 0, none⟩), .pointer (some ⟨B1, 0, none⟩), .pointer (some ⟨B3, 0, none⟩)] u w fun e u' w' => u' = u ∧ (e = .returned (.tuple #[]) ∧ w' = w) := by
  have e0 := hE.cell 0
  clear hE
  go_enter_d Tryz.func54, Tryz.ntmps54
  go_wp2_with fail
  go_end0
  exact ⟨rfl, rfl⟩
set_option maxHeartbeats 1000000 in
theorem undo_prog {B0 B1 B2 B3 n : Nat} (u : FrameMode) {rows : List Wrow} {b o ca : Nat} {E : Int} (hE0 : E ≠ 0) (h0 : Row w B0 25 #[.pointer (some ⟨X, 0, none⟩)]) (h1 : Row w B1 30 #[.slice (some ⟨b, o, none⟩) n ca]) (hE : Row w B2 28 #[.int .i64 E]) (h3 : Row w B3 3 #[.int .i64 (rows.length : Int)])
    (hi : HeadIn w X p (putsH h rows) c) (hS : ∀ k, Foot X p h.length k → S k) (hx : ∀ x ∈ rows, 0 ≤ x.1 ∧ x.1 < (h.length : Int)) (hA : Wrows w (some ⟨b, o, none⟩) rows) (hAS : ¬ S b) (hn : rows.length ≤ n) (hca : n ≤ ca) (hn2 : n ≤ 100000)
    (hc : c - (rows.length : Int) = c') (hc0 : 0 ≤ c') (hc1 : c ≤ 100000) (h256 : h.length ≤ 256) (hlong : ∀ i, ((putsH h rows).getD i ser0).2.length ≤ 1000000) :
    CallsD Tryz.prog 54 #[.pointer (some ⟨B2, 0, none⟩), .pointer (some ⟨B0, 0, none⟩), .pointer (some ⟨B1, 0, none⟩), .pointer (some ⟨B3, 0, none⟩)] u w fun e u' w' => u' = u ∧ (e = .returned (.tuple #[]) ∧ ∃ p', HeadIn w' X p' h c' ∧ (∀ k, Foot X p' h.length k → S k) ∧ Kept S w w') := by
  have HC := Lib.hid (shrink_prog (A := some ⟨b, o, none⟩) (ca := ca) hi.drew hS hx (show Wrows w.drew _ rows from hA) (fun ad e => by injection e with e; subst e; exact hAS) (by omega) hc hc0 hc1 h256 hlong)
  have a0 : w.cell? ⟨B0, 0, none⟩ = some (.pointer (some ⟨X, 0, none⟩)) := h0.cell 0
  have a1 : w.cell? ⟨B1, 0, none⟩ = some (.slice (some ⟨b, o, none⟩) n ca) := h1.cell 0
  have a2 : w.cell? ⟨B2, 0, none⟩ = some (.int .i64 E) := hE.cell 0
  have a3 : w.cell? ⟨B3, 0, none⟩ = some (.int .i64 (rows.length : Int)) := h3.cell 0
  have j1 : (E != 0) = true := bne_iff_ne.2 hE0
  have j2 : (E == 0) = false := beq_eq_false_iff_ne.2 hE0
  have e1 : (rows.length : Int) ≤ (ca : Int) := by omega
  have e2 : rows.length ≤ ca := by omega
  generalize rows.length = d at *
  clear h0 h1 hE h3 hi hS hx hA hAS hc hlong
  go_enter_d Tryz.func54, Tryz.ntmps54
  go_wp2_with fail
  go_region_with (first | (go_at_call 55; refine HC.out.mono ?_; rintro e w5 ⟨rfl, hh⟩))
  all_goals
    go_wp2_with fail
    go_end0
    obtain ⟨p', k1, k2, k3⟩ := hh
    exact ⟨rfl, p', k1, k2, (Kept.refl S w).drew.trans k3 fun i hi => .inl hi⟩
end
end Go.Proofs.YtpcjnagdanmdpaaGreat
