/- In one text, written by lotify.py: HdDo, HdBeside, HdLives. -/
import Derived.Test.YtpcjnagdanmdpaaGreatHdGrow
import Derived.Test.YtpcjnagdanmdpaaGreatHdLotX
namespace Go.Proofs.YtpcjnagdanmdpaaGreat
open Go.RowKit Go.Maps
open Ch
set_option linter.unusedVariables false
set_option linter.unusedSimpArgs false
set_option maxRecDepth 100000
section
variable {S T : Nat → Prop} {w w' w1 w2 : World} {X : Nat} {p : Plc} {h h' : List Ser} {c c' : Int}
/-- No part of a record lies in S. -/
def RecOff (S : Nat → Prop) (R : RecV) (m : RecM) : Prop := (R.rows ≠ [] → ∀ ad, m.ra = some ad → ¬ S ad.block) ∧ (R.ids ≠ [] → ∀ ad, m.ia = some ad → ¬ S ad.block)
theorem hdbegin_prog (hi : HeadAt S w X h) (hk : HeadOk h) {l : List Lbl} (hl : lbChk l = 0) {A : Option Addr} {ca : Nat} (hA : Lbls w A l) :
    Calls Tryz.prog 23 #[.pointer (some ⟨X, 0, none⟩), .slice A l.length ca] w fun e w' =>
      e = .returned (.int .i64 (if 0 ≤ idH h l then 10 else if 256 ≤ h.length then 3 else 0)) ∧ After S w X (if 0 ≤ idH h l then h else if 256 ≤ h.length then h else h ++ [(l, [])]) w' := by
  have HS := Lib.hid (fun w' (hb : Below w.heap.size w w') => after_same hi hb)
  obtain ⟨p, hin, hf⟩ := hi
  by_cases h0 : 0 ≤ idH h l
  · rw [if_pos h0, if_pos h0]
    refine (begin_there hin hk hl A ca hA h0).mono ?_
    rintro e w' ⟨rfl, hb⟩
    exact ⟨rfl, HS.out _ hb⟩
  · rw [if_neg h0, if_neg h0]
    by_cases h1 : 256 ≤ h.length
    · rw [if_pos h1, if_pos h1]
      refine (begin_big hin hk hl A ca hA h0 h1).mono ?_
      rintro e w' ⟨rfl, hb⟩
      exact ⟨rfl, HS.out _ hb⟩
    · rw [if_neg h1, if_neg h1]
      exact begin_ok hin hf hk hl A ca hA h0 h1
theorem hdremove_prog (hi : HeadAt S w X h) (hk : HeadOk h) {ids : List Int} {A : Option Addr} {ca : Nat} (hA : Zi w A ids) (hAS : ids ≠ [] → ∀ ad, A = some ad → ¬ S ad.block) (hx : ∀ i ∈ ids, 0 ≤ i) (hn : ids.length ≤ 100000) {lo hiT : Int} :
    Calls Tryz.prog 25 #[.pointer (some ⟨X, 0, none⟩), .slice A ids.length ca, .int .i64 lo, .int .i64 hiT] w fun e w' =>
      e = .returned (.int .i64 (idsH h.length lo hiT h ids).2) ∧ After S w X (if (idsH h.length lo hiT h ids).2 = 0 then (idsH h.length lo hiT h ids).1 else h) w' := by
  by_cases hb : ∃ i ∈ ids, (h.length : Int) ≤ i
  · rw [idsH_some _ _ hb, if_neg (by decide)]
    refine (remove_no hi hA hx hn hb).mono ?_
    rintro e w' ⟨rfl, hb⟩
    exact ⟨rfl, after_same hi hb⟩
  · have hall : ∀ i ∈ ids, i < (h.length : Int) := fun i hm => by
      rcases (show (h.length : Int) ≤ i ∨ i < (h.length : Int) by omega) with h1 | h1
      · exact absurd ⟨i, hm, h1⟩ hb
      · exact h1
    rw [idsH_all _ _ hall, if_pos rfl]
    exact remove_ok hi hk hA hAS hn fun i hm => ⟨hx i hm, hall i hm⟩
set_option maxHeartbeats 800000 in
theorem hddo_prog (hi : HeadAt S w X h) (hk : HeadOk h) {R : RecV} {m : RecM} (hR : RecIn w R m) (hF : RecFit R) (hO : RecOff S R m) :
    Calls Tryz.prog 6 #[.pointer (some ⟨X, 0, none⟩), .agg (recC R m).toArray] w fun e w' => e = .returned (.int .i64 (doH h R).2) ∧ After S w X (doH h R).1 w' := by
  have hb1 := below_one w (.cells (recC R m).toArray 33)
  have HB := Lib.hid hb1
  have HC := Lib.hid (wchk_prog R m _ (hR.below hb1) hF)
  have HI := Lib.hid hi
  have q := hd_eqnil w X
  have HX := Lib.hid (fun W (hW : Below (w.alloc (.cells (recC R m).toArray 33)).heap.size (w.alloc (.cells (recC R m).toArray 33)) W) => rec_cells ((Row.new w 33 (recC R m).toArray).below hW (by simp)) rfl)
  have HR := Lib.hid hR
  by_cases h0 : recChk R = 0
  · have hdef : doH h R = (if R.kind = 1 then (if 0 ≤ idH h R.labels then (h, 10) else if 256 ≤ h.length then (h, 3) else (h ++ [(R.labels, [])], 0))
        else if R.kind = 2 then (if (rowsH h.length h (cntS h) R.rows).2 = 0 then rowsH h.length h (cntS h) R.rows else (h, (rowsH h.length h (cntS h) R.rows).2))
        else (if (idsH h.length R.low R.high h R.ids).2 = 0 then idsH h.length R.low R.high h R.ids else (h, (idsH h.length R.low R.high h R.ids).2))) := by
      unfold doH
      rw [if_neg (by simpa using h0)]
    rcases recChk_zero.1 h0 with ⟨k1, k2, k3, k4, k5, k6⟩ | ⟨k1, k2, k3, k4, k5, k6⟩ | ⟨k1, k2, k3, k4⟩
    · rw [if_pos k1] at hdef
      have HP := Lib.hid (fun (w2 : World) (hb : Below w.heap.size w w2) => hdbegin_prog (hi.below hb) hk k6 (ca := m.lc) ((hR.below hb).labels))
      have he : (doH h R).2 = (if 0 ≤ idH h R.labels then 10 else if 256 ≤ h.length then 3 else 0) := by rw [hdef]; split <;> (try split) <;> rfl
      have hh : (doH h R).1 = (if 0 ≤ idH h R.labels then h else if 256 ≤ h.length then h else h ++ [(R.labels, [])]) := by rw [hdef]; split <;> (try split) <;> rfl
      rw [← he, ← hh] at HP
      rw [h0] at HC
      generalize (doH h R).2 = E at *
      generalize (doH h R).1 = h2 at *
      obtain ⟨kd, la, ro, ids, lo, hi2⟩ := R
      obtain ⟨A, ca, Bb, cb, C, cc⟩ := m
      simp only [recC] at *
      subst k1
      clear hi hR hF hO hdef he hh k2 k3 k4 k5 k6 hb1 h0 HR
      go_enter Tryz.func6, Tryz.ntmps6
      obtain ⟨x0, x1, x2, x3, x4, x5⟩ := HX.out _ (Below.refl _ _)
      go_wp2_with fail
      refine HC.out.mono ?_
      rintro e w2 ⟨rfl, hb2⟩
      clear x0 x1 x2 x3 x4 x5
      obtain ⟨x0, x1, x2, x3, x4, x5⟩ := HX.out _ hb2
      have HB2 := Lib.hid (HB.out.trans (hb2.mono HB.out.size))
      clear hb2
      go_wp2_with fail
      refine (HP.out _ HB2.out).mono ?_
      rintro e w3 ⟨rfl, ha⟩
      have HAF := Lib.hid (after_back HB2.out ha)
      clear ha
      go_wp2_with fail
      go_ret
      exact ⟨rfl, HAF.out⟩
    · rw [if_neg (by rw [k1]; decide), if_pos k1] at hdef
      have hrz := rowsChk_zero.1 k6
      have HP := Lib.hid (fun (w2 : World) (hb : Below w.heap.size w w2) => hdgrow_prog (hi.below hb) hk (ca := m.rc) ((hR.below hb).rows) hO.1 hrz.2.2 (by have := hrz.2.1; omega) hR.rc)
      have he : (doH h R).2 = (rowsH h.length h (cntS h) R.rows).2 := by
        rw [hdef]
        split <;> rfl
      have hh : (doH h R).1 = (if (rowsH h.length h (cntS h) R.rows).2 = 0 then (rowsH h.length h (cntS h) R.rows).1 else h) := by rw [hdef]; split <;> rfl
      rw [← hh, ← he] at HP
      rw [h0] at HC
      generalize (doH h R).2 = E at *
      generalize (doH h R).1 = h2 at *
      obtain ⟨kd, la, ro, ids, lo, hi2⟩ := R
      obtain ⟨A, ca, Bb, cb, C, cc⟩ := m
      simp only [recC] at *
      subst k1
      clear hi hR hF hO hdef he hh k2 k3 k4 k5 k6 hb1 h0 HR hrz
      go_enter Tryz.func6, Tryz.ntmps6
      obtain ⟨x0, x1, x2, x3, x4, x5⟩ := HX.out _ (Below.refl _ _)
      go_wp2_with fail
      refine HC.out.mono ?_
      rintro e w2 ⟨rfl, hb2⟩
      clear x0 x1 x2 x3 x4 x5
      obtain ⟨x0, x1, x2, x3, x4, x5⟩ := HX.out _ hb2
      have HB2 := Lib.hid (HB.out.trans (hb2.mono HB.out.size))
      clear hb2
      go_wp2_with fail
      refine (HP.out _ HB2.out).mono ?_
      rintro e w3 ⟨rfl, ha⟩
      have HAF := Lib.hid (after_back HB2.out ha)
      clear ha
      go_wp2_with fail
      go_ret
      exact ⟨rfl, HAF.out⟩
    · rw [if_neg (by rw [k1]; decide), if_neg (by rw [k1]; decide)] at hdef
      have hdz := delChk_zero.1 k4
      have hpz := pchk_zero.1 hdz.1
      have HP := Lib.hid (fun (w2 : World) (hb : Below w.heap.size w w2) => hdremove_prog (hi.below hb) hk (ca := m.ic) ((hR.below hb).ids) hO.2 (up_nonneg hpz.2 (by omega)) (by have := hpz.1; omega) (lo := R.low) (hiT := R.high))
      have he : (doH h R).2 = (idsH h.length R.low R.high h R.ids).2 := by
        rw [hdef]
        split <;> rfl
      have hh : (doH h R).1 = (if (idsH h.length R.low R.high h R.ids).2 = 0 then (idsH h.length R.low R.high h R.ids).1 else h) := by rw [hdef]; split <;> rfl
      rw [← hh, ← he] at HP
      rw [h0] at HC
      generalize (doH h R).2 = E at *
      generalize (doH h R).1 = h2 at *
      obtain ⟨kd, la, ro, ids, lo, hi2⟩ := R
      obtain ⟨A, ca, Bb, cb, C, cc⟩ := m
      simp only [recC] at *
      subst k1
      clear hi hR hF hO hdef he hh k2 k3 k4 hb1 h0 HR hdz hpz
      go_enter Tryz.func6, Tryz.ntmps6
      obtain ⟨x0, x1, x2, x3, x4, x5⟩ := HX.out _ (Below.refl _ _)
      go_wp2_with fail
      refine HC.out.mono ?_
      rintro e w2 ⟨rfl, hb2⟩
      clear x0 x1 x2 x3 x4 x5
      obtain ⟨x0, x1, x2, x3, x4, x5⟩ := HX.out _ hb2
      have HB2 := Lib.hid (HB.out.trans (hb2.mono HB.out.size))
      clear hb2
      go_wp2_with fail
      refine (HP.out _ HB2.out).mono ?_
      rintro e w3 ⟨rfl, ha⟩
      have HAF := Lib.hid (after_back HB2.out ha)
      clear ha
      go_wp2_with fail
      go_ret
      exact ⟨rfl, HAF.out⟩
  · have hdef : doH h R = (h, recChk R) := by
      unfold doH
      rw [if_pos h0]
    have HSM := Lib.hid (fun (w2 : World) (hb : Below w.heap.size w w2) => after_same hi hb)
    rw [hdef]
    obtain ⟨E, hE⟩ : ∃ E, recChk R = E := ⟨_, rfl⟩
    rw [hE] at HC h0 ⊢
    have j1 : (E != 0) = true := bne_iff_ne.2 h0
    have j2 : (E == 0) = false := beq_eq_false_iff_ne.2 h0
    obtain ⟨kd, la, ro, ids, lo, hi2⟩ := R
    obtain ⟨A, ca, Bb, cb, C, cc⟩ := m
    simp only [recC] at *
    clear hi hR hF hO hdef hb1 HR hE
    go_enter Tryz.func6, Tryz.ntmps6
    obtain ⟨x0, x1, x2, x3, x4, x5⟩ := HX.out _ (Below.refl _ _)
    go_wp2_with fail
    refine HC.out.mono ?_
    rintro e w2 ⟨rfl, hb2⟩
    have HB2 := Lib.hid (HB.out.trans (hb2.mono HB.out.size))
    clear hb2
    go_wp2_with fail
    go_ret
    exact ⟨rfl, HSM.out _ HB2.out⟩
end
section
variable {E : Nat → Prop} {w w' w1 w2 : World} {X : Nat} {h h' : List Ser}
/-- A head none of whose blocks is of E. -/
def HdAt (E : Nat → Prop) (w : World) (X : Nat) (h : List Ser) : Prop := HeadAt (fun k => ¬ E k ∧ k < w.heap.size) w X h
theorem HdAt.below (hi : HdAt E w X h) (hb : Below w.heap.size w w') : HdAt E w' X h := (HeadAt.below hi hb).mono fun k hk => ⟨hk.1, Nat.lt_of_lt_of_le hk.2 hb.size⟩
/-- What a call on a head leaves: the head, apart from E; all that is of E, or not older than the head's last call, as it was. -/
def HdAfter (E : Nat → Prop) (w : World) (X : Nat) (h : List Ser) (w2 w' : World) : Prop := HdAt E w' X h ∧ Kept (fun k => ¬ E k ∧ k < w.heap.size) w2 w'
theorem hd_after (hE : ∀ k, E k → k < w.heap.size) (hb : w.heap.size ≤ w2.heap.size) (ha : After (fun k => ¬ E k ∧ k < w.heap.size) w2 X h w') : HdAfter E w X h w2 w' := by
  refine ⟨?_, ha.2⟩
  have h1 := ha.1.within
  refine h1.mono fun k hk => ⟨fun hEk => ?_, hk.2⟩
  rcases hk.1 with h2 | h2
  · exact h2.1 hEk
  · have := hE k hEk
    omega
/-- No part of a record is the head's. -/
def RecBy (E : Nat → Prop) (B : Nat) (R : RecV) (m : RecM) : Prop := (R.rows ≠ [] → ∀ ad, m.ra = some ad → E ad.block ∨ B ≤ ad.block) ∧ (R.ids ≠ [] → ∀ ad, m.ia = some ad → E ad.block ∨ B ≤ ad.block)
theorem hddo_at (hi : HdAt E w X h) (hE : ∀ k, E k → k < w.heap.size) (hk : HeadOk h) {R : RecV} {m : RecM} (hb : Below w.heap.size w w2) (hR : RecIn w2 R m) (hF : RecFit R) (hO : RecBy E w.heap.size R m) :
    Calls Tryz.prog 6 #[.pointer (some ⟨X, 0, none⟩), .agg (recC R m).toArray] w2 fun e w' => e = .returned (.int .i64 (doH h R).2) ∧ HdAfter E w X (doH h R).1 w2 w' := by
  have off : ∀ ad : Addr, (E ad.block ∨ w.heap.size ≤ ad.block) → ¬ (¬ E ad.block ∧ ad.block < w.heap.size) := fun ad h2 h1 => by
    rcases h2 with h2 | h2
    · exact h1.1 h2
    · omega
  refine (hddo_prog (HeadAt.below hi hb) hk hR hF ⟨fun hne ad e => off ad (hO.1 hne ad e), fun hne ad e => off ad (hO.2 hne ad e)⟩).mono ?_
  rintro e w' ⟨rfl, ha⟩
  exact ⟨rfl, hd_after hE hb.size ha⟩
theorem hddo_beside (hi : HdAt E w X h) (hE : ∀ k, E k → k < w.heap.size) (hk : HeadOk h) {R : RecV} {m : RecM} (hb : Below w.heap.size w w2) (hR : RecIn w2 R m) (hF : RecFit R) (hO : ∀ ad, m.ra = some ad ∨ m.ia = some ad → E ad.block ∨ w.heap.size ≤ ad.block) :
    Calls Tryz.prog 6 #[.pointer (some ⟨X, 0, none⟩), .agg (recC R m).toArray] w2 fun e w' => e = .returned (.int .i64 (doH h R).2) ∧ HdAfter E w X (doH h R).1 w2 w' :=
  hddo_at hi hE hk hb hR hF ⟨fun _ ad e => hO ad (.inl e), fun _ ad e => hO ad (.inr e)⟩
/-- One more block that is not the head's. -/
theorem HdAt.more {F : Nat → Prop} (hi : HdAt E w X h) (hb : Below w.heap.size w w2) (hF : ∀ k, F k → E k ∨ w.heap.size ≤ k) : HdAt F w2 X h := (HeadAt.below hi hb).mono fun k hk => ⟨fun hf => (hF k hf).elim hk.1 fun h1 => by have := hk.2; omega, Nat.lt_of_lt_of_le hk.2 hb.size⟩
theorem hdnew_beside (hE : ∀ k, E k → k < w.heap.size) : Calls Tryz.prog 5 #[] w fun e w' => e = .returned (.pointer (some ⟨w.heap.size + 1, 0, none⟩)) ∧ HdAt E w' (w.heap.size + 1) [] ∧ Below w.heap.size w w' := by
  refine (hdnew_prog w).mono ?_
  rintro e w' ⟨rfl, h1, h2⟩
  exact ⟨rfl, h1.within.mono fun k hk => ⟨fun hEk => by have := hE k hEk; have := hk.1; omega, hk.2⟩, h2⟩
end
/-! ### records -/
def rowR (id t v : Int) : RecV := ⟨2, [], [(id, t, v)], [], 0, 0⟩
theorem rowR_fit (id t v : Int) : RecFit (rowR id t v) := ⟨fun i hi => by simp [rowR] at hi, by simp [rowR], by simp [rowR], by simp [rowR]⟩
theorem row_prog (id t v : Int) (w : World) : Calls Tryz.prog 37 #[.int .i64 id, .int .i64 t, .int .i64 v] w fun e w' =>
    ∃ g, e = .returned (.agg (recC (rowR id t v) ⟨none, 0, some ⟨g, 0, none⟩, 1, none, 0⟩).toArray) ∧ w.heap.size ≤ g ∧ RecIn w' (rowR id t v) ⟨none, 0, some ⟨g, 0, none⟩, 1, none, 0⟩ ∧ Below w.heap.size w w' := by
  have hb1 := below_one w (.cells #[.int .i64 2, .slice none 0 0, .slice (some ⟨w.heap.size + 1, 0, none⟩) 1 1, .slice none 0 0, .int .i64 0, .int .i64 0] 33)
  have HB2 := Lib.hid (hb1.alloc (by simp) (.cells #[.int .i64 id, .int .i64 t, .int .i64 v] 70))
  have HR := Lib.hid ((Row.new w 33 #[.int .i64 2, .slice none 0 0, .slice (some ⟨w.heap.size + 1, 0, none⟩) 1 1, .slice none 0 0, .int .i64 0, .int .i64 0]).alloc (.cells #[.int .i64 id, .int .i64 t, .int .i64 v] 70))
  have HW := Lib.hid (show Wrows ((w.alloc (.cells #[.int .i64 2, .slice none 0 0, .slice (some ⟨w.heap.size + 1, 0, none⟩) 1 1, .slice none 0 0, .int .i64 0, .int .i64 0] 33)).alloc (.cells #[.int .i64 id, .int .i64 t, .int .i64 v] 70)) (some ⟨w.heap.size + 1, 0, none⟩) [(id, t, v)] by
    have := Row.new (w.alloc (.cells #[.int .i64 2, .slice none 0 0, .slice (some ⟨w.heap.size + 1, 0, none⟩) 1 1, .slice none 0 0, .int .i64 0, .int .i64 0] 33)) 70 #[.int .i64 id, .int .i64 t, .int .i64 v]
    rw [show (w.alloc (.cells #[.int .i64 2, .slice none 0 0, .slice (some ⟨w.heap.size + 1, 0, none⟩) 1 1, .slice none 0 0, .int .i64 0, .int .i64 0] 33)).heap.size = w.heap.size + 1 by simp] at this
    exact wrows_cell this)
  clear hb1
  go_enter Tryz.func37, Tryz.ntmps37
  go_wp2_with fail
  (try simp only [Exit.inBlock, Exit.then])
  refine bodyPost_ret (ret_rec rfl _ _ _ _ rfl HR.out rfl) rfl ⟨w.heap.size + 1, rfl, by omega, ⟨Lbls.nil _ _, HW.out, Zi.nil _ _, Nat.le_refl _, Nat.le_refl _, Nat.le_refl _⟩, HB2.out⟩
def lvL : List Lbl := [(⟨#[97]⟩, ⟨#[120]⟩)]
def lvS : RecV := ⟨1, lvL, [], [], 0, 0⟩
def lvD : RecV := ⟨3, [], [], [0], 10, 10⟩
theorem lv1 : doH [] lvS = ([(lvL, [])], 0) := by decide +kernel
theorem lv2 : doH [(lvL, [])] lvS = ([(lvL, [])], 10) := by decide +kernel
theorem lv3 : doH [(lvL, [])] (rowR 0 10 1) = ([(lvL, [(10, 1)])], 0) := by decide +kernel
theorem lv4 : doH [(lvL, [(10, 1)])] (rowR 0 10 2) = ([(lvL, [(10, 1)])], 13) := by decide +kernel
theorem lv5 : doH [(lvL, [(10, 1)])] lvD = ([(lvL, [])], 0) := by decide +kernel
theorem lv6 : doH [(lvL, [])] (rowR 0 5 1) = ([(lvL, [(5, 1)])], 0) := by decide +kernel
theorem lk1 : HeadOk [(lvL, ([] : List Smp))] := by have := doH_ok (r := lvS) headOk_nil; rwa [lv1] at this
theorem lk3 : HeadOk [(lvL, [(10, 1)])] := by have := doH_ok (r := rowR 0 10 1) lk1; rwa [lv3] at this
theorem lvS_fit : RecFit lvS := right_fit (by decide +kernel)
theorem lvD_fit : RecFit lvD := right_fit (by decide +kernel)
section
variable {E : Nat → Prop} {w w' w1 w2 : World} {X : Nat} {h h' : List Ser} {B : Nat}
theorem HdAfter.below (ha : HdAfter E w X h w2 w') (hE : ∀ k, k < B → E k) (hb : Below B w1 w2) (hB : B ≤ w2.heap.size) : Below B w1 w' :=
  hb.trans (ha.2.to_below (fun k hk => by
    rcases Nat.lt_or_ge k B with h1 | h1
    · exact absurd (hE k h1) hk.1
    · exact h1) hB)
theorem HdAfter.row (ha : HdAfter E w X h w2 w') {g : Nat} {t : TypeId} {cs : Array Value} (hr : Row w2 g t cs) (hg : E g) : Row w' g t cs := row_move hr (ha.2.block g hr.lt fun hk => hk.1 hg)
end
/-- The example's record in memory. -/
def lvC (g : Nat) : Array Value := #[.int .i64 1, .slice (some ⟨g, 0, none⟩) 1 1, .slice none 0 0, .slice none 0 0, .int .i64 0, .int .i64 0]
def lvM (g : Nat) : RecM := ⟨some ⟨g, 0, none⟩, 1, none, 0, none, 0⟩
theorem lv_cells {w : World} {b g : Nat} (h : Row w b 33 (lvC g)) : w.cell? ⟨b, 0, none⟩ = some (.int .i64 1) ∧ w.cell? ⟨b, 1, none⟩ = some (.slice (some ⟨g, 0, none⟩) 1 1) ∧ w.cell? ⟨b, 2, none⟩ = some (.slice none 0 0) ∧ w.cell? ⟨b, 3, none⟩ = some (.slice none 0 0) ∧ w.cell? ⟨b, 4, none⟩ = some (.int .i64 0) ∧ w.cell? ⟨b, 5, none⟩ = some (.int .i64 0) :=
  ⟨h.cell 0, h.cell 1, h.cell 2, h.cell 3, h.cell 4, h.cell 5⟩
theorem lv_rec {w : World} {g : Nat} (h : Lbls w (some ⟨g, 0, none⟩) lvL) : RecIn w lvS (lvM g) := ⟨h, Wrows.nil _ _, Zi.nil _ _, Nat.le_refl _, Nat.le_refl _, Nat.le_refl _⟩
/-- What is sure between two calls of the examples. -/
structure LvAt (w0 w : World) (X g : Nat) (h : List Ser) : Prop where
  hd : HdAt (fun k => k < w0.heap.size ∨ k = g ∨ k = g + 1) w X h
  lbl : Row w g 83 #[.string ⟨#[97]⟩, .string ⟨#[120]⟩]
  box : Row w (g + 1) 33 (lvC g)
  below : Below w0.heap.size w0 w
section
variable {w0 w w2 w' : World} {X g : Nat} {h : List Ser}
theorem LvAt.lt (hl : LvAt w0 w X g h) : ∀ k, (k < w0.heap.size ∨ k = g ∨ k = g + 1) → k < w.heap.size := by
  rintro k (h1 | rfl | rfl)
  · exact Nat.lt_of_lt_of_le h1 hl.below.size
  · exact hl.lbl.lt
  · exact hl.box.lt
theorem LvAt.step (hl : LvAt w0 w X g h) (hb : Below w.heap.size w w2) : LvAt w0 w2 X g h := ⟨hl.hd.below hb, hl.lbl.below hb hl.lbl.lt, hl.box.below hb hl.box.lt, hl.below.trans (hb.mono hl.below.size)⟩
theorem LvAt.do_ (hl : LvAt w0 w X g h) (hk : HeadOk h) {R : RecV} {m : RecM} {h2 : List Ser} {e2 : Int} (hd : doH h R = (h2, e2)) (hb : Below w.heap.size w w2) (hR : RecIn w2 R m) (hF : RecFit R) (hO : ∀ ad, m.ra = some ad ∨ m.ia = some ad → w.heap.size ≤ ad.block) :
    Calls Tryz.prog 6 #[.pointer (some ⟨X, 0, none⟩), .agg (recC R m).toArray] w2 fun e w' => e = .returned (.int .i64 e2) ∧ LvAt w0 w' X g h2 := by
  have h1 := hddo_beside hl.hd hl.lt hk hb hR hF fun ad e => .inr (hO ad e)
  rw [hd] at h1
  refine h1.mono ?_
  rintro e w' ⟨rfl, ha⟩
  refine ⟨rfl, ha.1, ha.row (hl.lbl.below hb hl.lbl.lt) (.inr (.inl rfl)), ha.row (hl.box.below hb hl.box.lt) (.inr (.inr rfl)), ?_⟩
  exact ha.below (fun k hk => .inl hk) (hl.below.trans (hb.mono hl.below.size)) (Nat.le_trans hl.below.size hb.size)
end
theorem lv_off {g7 B : Nat} (h : B ≤ g7) : ∀ ad : Addr, some (⟨g7, 0, none⟩ : Addr) = some ad ∨ none = some ad → B ≤ ad.block := by
  rintro ad (e | e)
  · injection e with e
    subst e
    exact h
  · cases e
theorem lv_off2 {g7 B : Nat} (h : B ≤ g7) : ∀ ad : Addr, none = some ad ∨ some (⟨g7, 0, none⟩ : Addr) = some ad → B ≤ ad.block := fun ad e => lv_off h ad e.symm
theorem LvAt.at_ {w0 w : World} {X g : Nat} {h : List Ser} (hl : LvAt w0 w X g h) : ∃ p, HeadIn w X p h (cntS h : Int) := by
  obtain ⟨p, hi, _⟩ := hl.hd
  exact ⟨p, hi⟩
set_option maxHeartbeats 4000000 in
theorem hdlives_true (w : World) : Calls Tryz.prog 13 #[] w fun e w' => e = .returned (.bool true) ∧ Below w.heap.size w w' := by
  have HNEW := Lib.hid (hdnew_beside (E := fun k => k < w.heap.size) (w := w) fun k hk => hk)
  have hq0 := fun (w : World) (X : Nat) => hd_eqnil w X
  go_enter Tryz.func13, Tryz.ntmps13
  go_wp2_with fail
  refine HNEW.out.mono ?_
  rintro e w2 ⟨rfl, hd2, hb2⟩
  obtain ⟨X, hX⟩ : ∃ X, w.heap.size + 1 = X := ⟨_, rfl⟩
  rw [hX] at hd2 ⊢
  have HL4 := Lib.hid (show ∀ g, w2.heap.size = g → LvAt w ((w2.alloc (.cells #[.string ⟨#[97]⟩, .string ⟨#[120]⟩] 83)).alloc (.cells (lvC g) 33)) X g [] from fun g hg => by
    have hb3 := below_one w2 (.cells #[.string ⟨#[97]⟩, .string ⟨#[120]⟩] 83)
    have hb4 := hb3.alloc hb3.size (.cells (lvC g) 33)
    refine ⟨hd2.more hb4 ?_, ?_, ?_, hb2.trans (hb4.mono hb2.size)⟩
    · rintro k (h1 | rfl | rfl)
      · exact .inl h1
      · exact .inr (by omega)
      · exact .inr (by omega)
    · rw [← hg]
      exact (Row.new w2 _ _).alloc _
    · have := Row.new (w2.alloc (.cells #[.string ⟨#[97]⟩, .string ⟨#[120]⟩] 83)) 33 (lvC g)
      rwa [show (w2.alloc (.cells #[.string ⟨#[97]⟩, .string ⟨#[120]⟩] 83)).heap.size = g + 1 by simp [hg]] at this)
  unfold lvC at HL4
  clear hX hd2 hb2
  go_upto_region 5 with fail
  have hl4 := HL4.out _ rfl
  generalize ((w2.alloc (.cells #[.string ⟨#[97]⟩, .string ⟨#[120]⟩] 83)).alloc (.cells #[.int .i64 1, .slice (some ⟨w2.heap.size, 0, none⟩) 1 1, .slice none 0 0, .slice none 0 0, .int .i64 0, .int .i64 0] 33)) = w4 at *
  generalize w2.heap.size = g at *
  clear HL4
  obtain ⟨c0, c1, c2, c3, c4, c5⟩ := lv_cells hl4.box
  have hl4d : LvAt w w4.drew X g [] := hl4.step ((Below.refl _ _).drew)
  have HD1 := Lib.hid (hl4d.do_ headOk_nil lv1 (Below.refl _ _) (lv_rec (lbls_cell hl4d.lbl)) lvS_fit (fun ad e => by rcases e with e | e <;> cases e))
  clear hl4 hl4d
  go_region_held3 (fun w' => w'.cell? ⟨g + 1, 0, none⟩ = some (.int .i64 1) ∧ w'.cell? ⟨g + 1, 1, none⟩ = some (.slice (some ⟨g, 0, none⟩) 1 1) ∧ w'.cell? ⟨g + 1, 2, none⟩ = some (.slice none 0 0) ∧ w'.cell? ⟨g + 1, 3, none⟩ = some (.slice none 0 0) ∧ w'.cell? ⟨g + 1, 4, none⟩ = some (.int .i64 0) ∧ w'.cell? ⟨g + 1, 5, none⟩ = some (.int .i64 0))
    (first | exact ⟨c0, c1, c2, c3, c4, c5⟩ | exact s8 | exact s7 | exact s6 | exact s5)
    (first
      | (go_at_call 37; refine (row_prog 0 10 1 _).mono ?_; rintro e w7 ⟨g7, rfl, hg7, hr7, hb7⟩; have s7 := lv_cells (HL6.out.box.below hb7 HL6.out.box.lt); have HD3 := Lib.hid (HL6.out.do_ lk1 lv3 hb7 hr7 (rowR_fit 0 10 1) (lv_off hg7)); clear hg7 hr7 hb7)
      | (go_at_call 6; refine HD3.out.mono ?_; rintro e w8 ⟨rfl, hl8⟩; have s8 := lv_cells hl8.box; have HL8 := Lib.hid hl8; clear hl8)
      | (go_at_call 6; refine HD2.out.mono ?_; rintro e w6 ⟨rfl, hl6⟩; have s6 := lv_cells hl6.box; have HL6 := Lib.hid hl6; clear hl6)
      | (go_at_call 6; refine HD1.out.mono ?_; rintro e w5 ⟨rfl, hl5⟩; have s5 := lv_cells hl5.box; have HD2 := Lib.hid (hl5.do_ lk1 lv2 (Below.refl _ _) (lv_rec (lbls_cell hl5.lbl)) lvS_fit (fun ad e => by rcases e with e | e <;> cases e)); clear hl5))
  all_goals
    go_wp2_with fail
    refine (row_prog 0 10 2 _).mono ?_
    rintro e w9 ⟨g9, rfl, hg9, hr9, hb9⟩
    have HD4 := Lib.hid (HL8.out.do_ lk3 lv4 hb9 hr9 (rowR_fit 0 10 2) (lv_off hg9))
    clear hg9 hr9 hb9 s5 s6 s7 s8 c0 c1 c2 c3 c4 c5
    go_wp2_with fail
    refine HD4.out.mono ?_
    rintro e w10 ⟨rfl, hl10⟩
    have hb11 := below_one w10 (.cells #[.int .i64 0] 3)
    have hz11 : Zi (w10.alloc (.cells #[.int .i64 0] 3)) (some ⟨w10.heap.size, 0, none⟩) [0] := At.row (Row.new w10 3 #[.int .i64 0])
    have HD5 := Lib.hid (hl10.do_ (R := lvD) (m := ⟨none, 0, none, 0, some ⟨w10.heap.size, 0, none⟩, 1⟩) lk3 lv5 hb11 ⟨Lbls.nil _ _, Wrows.nil _ _, hz11, Nat.le_refl _, Nat.le_refl _, Nat.le_refl _⟩ lvD_fit (lv_off2 (Nat.le_refl _)))
    unfold recC lvD at HD5
    clear hb11 hz11 hl10
    go_wp2_with fail
    refine HD5.out.mono ?_
    rintro e w12 ⟨rfl, hl12⟩
    obtain ⟨p12, hi12⟩ := hl12.at_
    have HLS := Lib.hid (hdlast_yes hi12 0 (by decide) (by decide))
    have HL12 := Lib.hid hl12
    clear hi12 hl12
    go_wp2_with fail
    refine HLS.out.mono ?_
    rintro e w13 ⟨rfl, hb13⟩
    have HL13 := Lib.hid (HL12.out.step hb13)
    clear hb13
    obtain ⟨p13, hi13⟩ := HL13.out.at_
    have HLN := Lib.hid (show Calls Tryz.prog 18 #[.pointer (some ⟨X, 0, none⟩)] w13 (fun e w' => e = .returned (.int .i64 1) ∧ w' = w13) from hdlen_prog hi13)
    have HCN := Lib.hid (show Calls Tryz.prog 19 #[.pointer (some ⟨X, 0, none⟩)] w13 (fun e w' => e = .returned (.int .i64 0) ∧ w' = w13) from hdcount_prog hi13)
    clear hi13
    go_wp2_with (first
      | (go_at_call 18; refine HLN.out.mono ?_; rintro e w14 ⟨rfl, rfl⟩)
      | (go_at_call 19; refine HCN.out.mono ?_; rintro e w14 ⟨rfl, rfl⟩)
      | (go_at_call 37; refine (row_prog 0 5 1 _).mono ?_; rintro e w15 ⟨g15, rfl, hg15, hr15, hb15⟩; have HD6 := Lib.hid (HL13.out.do_ lk1 lv6 hb15 hr15 (rowR_fit 0 5 1) (lv_off hg15)); clear hg15 hr15 hb15)
      | (go_at_call 6; refine HD6.out.mono ?_; rintro e w16 ⟨rfl, hl16⟩))
    go_ret
    exact ⟨rfl, hl16.below⟩
end Go.Proofs.YtpcjnagdanmdpaaGreat
