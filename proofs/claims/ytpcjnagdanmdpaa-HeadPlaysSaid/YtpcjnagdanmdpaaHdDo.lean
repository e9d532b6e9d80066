/- A head does a record. -/
import Derived.Test.YtpcjnagdanmdpaaHdGrow
import Derived.Test.YtpcjnagdanmdpaaHdRemove
import Derived.Test.YtpcjnagdanmdpaaHdLotH
namespace Go.Proofs.Ytpcjnagdanmdpaa
open Go.RowKit Go.Maps
open Ch
set_option linter.unusedVariables false
set_option linter.unusedSimpArgs false
set_option maxRecDepth 100000
section
variable {S T : Nat → Prop} {w w' w1 w2 : World} {X : Nat} {p : Plc} {h h' : List Ser} {c c' : Int}
/-- No part of a record lies in S. -/
def RecOff (S : Nat → Prop) (R : RecV) (m : RecM) : Prop := (R.rows ≠ [] → ∀ ad, m.ra = some ad → ¬ S ad.block) ∧ (R.ids ≠ [] → ∀ ad, m.ia = some ad → ¬ S ad.block)
theorem hdbegin_prog (hi : HeadAt S w X h) (hk : HeadOk h) {l : List Lbl} (hl : lbChk l = 0) {A : Option Addr} {ca : Nat} (hA : Lbls w A l) :
    Calls Try.prog 22 #[.pointer (some ⟨X, 0, none⟩), .slice A l.length ca] w fun e w' =>
      e = .returned (.int .i64 (if 0 ≤ idH h l then 10 else if 256 ≤ h.length then 3 else 0)) ∧ After S w X (if 0 ≤ idH h l then h else if 256 ≤ h.length then h else h ++ [(l, [])]) w' := by
  have HS := Lib.hid (fun w' (hb : Below w.heap.size w w') => after_same hi hb)
  obtain ⟨p, hin, hf⟩ := hi
  by_cases h0 : 0 ≤ idH h l
  · rw [if_pos h0, if_pos h0]
    refine (begin_there hin hk hl A ca hA h0).mono ?_
    rintro e w' ⟨rfl, hb⟩
    exact ⟨rfl, HS.out _ hb⟩
  · rw [if_neg h0, if_neg h0]
    by_cases h1 : 256 ≤ h.length
    · rw [if_pos h1, if_pos h1]
      refine (begin_big hin hk hl A ca hA h0 h1).mono ?_
      rintro e w' ⟨rfl, hb⟩
      exact ⟨rfl, HS.out _ hb⟩
    · rw [if_neg h1, if_neg h1]
      exact begin_ok hin hf hk hl A ca hA h0 h1
theorem hdremove_prog (hi : HeadAt S w X h) (hk : HeadOk h) {ids : List Int} {A : Option Addr} {ca : Nat} (hA : Zi w A ids) (hAS : ids ≠ [] → ∀ ad, A = some ad → ¬ S ad.block) (hx : ∀ i ∈ ids, 0 ≤ i) (hn : ids.length ≤ 100000) {lo hiT : Int} :
    Calls Try.prog 24 #[.pointer (some ⟨X, 0, none⟩), .slice A ids.length ca, .int .i64 lo, .int .i64 hiT] w fun e w' =>
      e = .returned (.int .i64 (idsH h.length lo hiT h ids).2) ∧ After S w X (if (idsH h.length lo hiT h ids).2 = 0 then (idsH h.length lo hiT h ids).1 else h) w' := by
  by_cases hb : ∃ i ∈ ids, (h.length : Int) ≤ i
  · rw [idsH_some _ _ hb, if_neg (by decide)]
    refine (remove_no hi hA hx hn hb).mono ?_
    rintro e w' ⟨rfl, hb⟩
    exact ⟨rfl, after_same hi hb⟩
  · have hall : ∀ i ∈ ids, i < (h.length : Int) := fun i hm => by
      rcases (show (h.length : Int) ≤ i ∨ i < (h.length : Int) by omega) with h1 | h1
      · exact absurd ⟨i, hm, h1⟩ hb
      · exact h1
    rw [idsH_all _ _ hall, if_pos rfl]
    exact remove_ok hi hk hA hAS hn fun i hm => ⟨hx i hm, hall i hm⟩
set_option maxHeartbeats 800000 in
theorem hddo_prog (hi : HeadAt S w X h) (hk : HeadOk h) {R : RecV} {m : RecM} (hR : RecIn w R m) (hF : RecFit R) (hO : RecOff S R m) :
    Calls Try.prog 8 #[.pointer (some ⟨X, 0, none⟩), .agg (recC R m).toArray] w fun e w' => e = .returned (.int .i64 (doH h R).2) ∧ After S w X (doH h R).1 w' := by
  have hb1 := below_one w (.cells (recC R m).toArray 30)
  have HB := Lib.hid hb1
  have HC := Lib.hid (wchk_prog R m _ (hR.below hb1) hF)
  have HI := Lib.hid hi
  have q := hd_eqnil w X
  have HX := Lib.hid (fun W (hW : Below (w.alloc (.cells (recC R m).toArray 30)).heap.size (w.alloc (.cells (recC R m).toArray 30)) W) => rec_cells ((Row.new w 30 (recC R m).toArray).below hW (by simp)) rfl)
  have HR := Lib.hid hR
  by_cases h0 : recChk R = 0
  · have hdef : doH h R = (if R.kind = 1 then (if 0 ≤ idH h R.labels then (h, 10) else if 256 ≤ h.length then (h, 3) else (h ++ [(R.labels, [])], 0))
        else if R.kind = 2 then (if (rowsH h.length h (cntS h) R.rows).2 = 0 then rowsH h.length h (cntS h) R.rows else (h, (rowsH h.length h (cntS h) R.rows).2))
        else (if (idsH h.length R.low R.high h R.ids).2 = 0 then idsH h.length R.low R.high h R.ids else (h, (idsH h.length R.low R.high h R.ids).2))) := by
      unfold doH
      rw [if_neg (by simpa using h0)]
    rcases recChk_zero.1 h0 with ⟨k1, k2, k3, k4, k5, k6⟩ | ⟨k1, k2, k3, k4, k5, k6⟩ | ⟨k1, k2, k3, k4⟩
    · rw [if_pos k1] at hdef
      have HP := Lib.hid (fun (w2 : World) (hb : Below w.heap.size w w2) => hdbegin_prog (hi.below hb) hk k6 (ca := m.lc) ((hR.below hb).labels))
      have he : (doH h R).2 = (if 0 ≤ idH h R.labels then 10 else if 256 ≤ h.length then 3 else 0) := by rw [hdef]; split <;> (try split) <;> rfl
      have hh : (doH h R).1 = (if 0 ≤ idH h R.labels then h else if 256 ≤ h.length then h else h ++ [(R.labels, [])]) := by rw [hdef]; split <;> (try split) <;> rfl
      rw [← he, ← hh] at HP
      rw [h0] at HC
      generalize (doH h R).2 = E at *
      generalize (doH h R).1 = h2 at *
      obtain ⟨kd, la, ro, ids, lo, hi2⟩ := R
      obtain ⟨A, ca, Bb, cb, C, cc⟩ := m
      simp only [recC] at *
      subst k1
      clear hi hR hF hO hdef he hh k2 k3 k4 k5 k6 hb1 h0 HR
      go_enter Try.func8, Try.ntmps8
      obtain ⟨x0, x1, x2, x3, x4, x5⟩ := HX.out _ (Below.refl _ _)
      go_wp2_with fail
      refine HC.out.mono ?_
      rintro e w2 ⟨rfl, hb2⟩
      clear x0 x1 x2 x3 x4 x5
      obtain ⟨x0, x1, x2, x3, x4, x5⟩ := HX.out _ hb2
      have HB2 := Lib.hid (HB.out.trans (hb2.mono HB.out.size))
      clear hb2
      go_wp2_with fail
      refine (HP.out _ HB2.out).mono ?_
      rintro e w3 ⟨rfl, ha⟩
      have HAF := Lib.hid (after_back HB2.out ha)
      clear ha
      go_wp2_with fail
      go_ret
      exact ⟨rfl, HAF.out⟩
    · rw [if_neg (by rw [k1]; decide), if_pos k1] at hdef
      have hrz := rowsChk_zero.1 k6
      have HP := Lib.hid (fun (w2 : World) (hb : Below w.heap.size w w2) => hdgrow_prog (hi.below hb) hk (ca := m.rc) ((hR.below hb).rows) hO.1 hrz.2.2 (by have := hrz.2.1; omega) hR.rc)
      have he : (doH h R).2 = (rowsH h.length h (cntS h) R.rows).2 := by
        rw [hdef]
        split <;> rfl
      have hh : (doH h R).1 = (if (rowsH h.length h (cntS h) R.rows).2 = 0 then (rowsH h.length h (cntS h) R.rows).1 else h) := by rw [hdef]; split <;> rfl
      rw [← hh, ← he] at HP
      rw [h0] at HC
      generalize (doH h R).2 = E at *
      generalize (doH h R).1 = h2 at *
      obtain ⟨kd, la, ro, ids, lo, hi2⟩ := R
      obtain ⟨A, ca, Bb, cb, C, cc⟩ := m
      simp only [recC] at *
      subst k1
      clear hi hR hF hO hdef he hh k2 k3 k4 k5 k6 hb1 h0 HR hrz
      go_enter Try.func8, Try.ntmps8
      obtain ⟨x0, x1, x2, x3, x4, x5⟩ := HX.out _ (Below.refl _ _)
      go_wp2_with fail
      refine HC.out.mono ?_
      rintro e w2 ⟨rfl, hb2⟩
      clear x0 x1 x2 x3 x4 x5
      obtain ⟨x0, x1, x2, x3, x4, x5⟩ := HX.out _ hb2
      have HB2 := Lib.hid (HB.out.trans (hb2.mono HB.out.size))
      clear hb2
      go_wp2_with fail
      refine (HP.out _ HB2.out).mono ?_
      rintro e w3 ⟨rfl, ha⟩
      have HAF := Lib.hid (after_back HB2.out ha)
      clear ha
      go_wp2_with fail
      go_ret
      exact ⟨rfl, HAF.out⟩
    · rw [if_neg (by rw [k1]; decide), if_neg (by rw [k1]; decide)] at hdef
      have hdz := delChk_zero.1 k4
      have hpz := pchk_zero.1 hdz.1
      have HP := Lib.hid (fun (w2 : World) (hb : Below w.heap.size w w2) => hdremove_prog (hi.below hb) hk (ca := m.ic) ((hR.below hb).ids) hO.2 (up_nonneg hpz.2 (by omega)) (by have := hpz.1; omega) (lo := R.low) (hiT := R.high))
      have he : (doH h R).2 = (idsH h.length R.low R.high h R.ids).2 := by
        rw [hdef]
        split <;> rfl
      have hh : (doH h R).1 = (if (idsH h.length R.low R.high h R.ids).2 = 0 then (idsH h.length R.low R.high h R.ids).1 else h) := by rw [hdef]; split <;> rfl
      rw [← hh, ← he] at HP
      rw [h0] at HC
      generalize (doH h R).2 = E at *
      generalize (doH h R).1 = h2 at *
      obtain ⟨kd, la, ro, ids, lo, hi2⟩ := R
      obtain ⟨A, ca, Bb, cb, C, cc⟩ := m
      simp only [recC] at *
      subst k1
      clear hi hR hF hO hdef he hh k2 k3 k4 hb1 h0 HR hdz hpz
      go_enter Try.func8, Try.ntmps8
      obtain ⟨x0, x1, x2, x3, x4, x5⟩ := HX.out _ (Below.refl _ _)
      go_wp2_with fail
      refine HC.out.mono ?_
      rintro e w2 ⟨rfl, hb2⟩
      clear x0 x1 x2 x3 x4 x5
      obtain ⟨x0, x1, x2, x3, x4, x5⟩ := HX.out _ hb2
      have HB2 := Lib.hid (HB.out.trans (hb2.mono HB.out.size))
      clear hb2
      go_wp2_with fail
      refine (HP.out _ HB2.out).mono ?_
      rintro e w3 ⟨rfl, ha⟩
      have HAF := Lib.hid (after_back HB2.out ha)
      clear ha
      go_wp2_with fail
      go_ret
      exact ⟨rfl, HAF.out⟩
  · have hdef : doH h R = (h, recChk R) := by
      unfold doH
      rw [if_pos h0]
    have HSM := Lib.hid (fun (w2 : World) (hb : Below w.heap.size w w2) => after_same hi hb)
    rw [hdef]
    obtain ⟨E, hE⟩ : ∃ E, recChk R = E := ⟨_, rfl⟩
    rw [hE] at HC h0 ⊢
    have j1 : (E != 0) = true := bne_iff_ne.2 h0
    have j2 : (E == 0) = false := beq_eq_false_iff_ne.2 h0
    obtain ⟨kd, la, ro, ids, lo, hi2⟩ := R
    obtain ⟨A, ca, Bb, cb, C, cc⟩ := m
    simp only [recC] at *
    clear hi hR hF hO hdef hb1 HR hE
    go_enter Try.func8, Try.ntmps8
    obtain ⟨x0, x1, x2, x3, x4, x5⟩ := HX.out _ (Below.refl _ _)
    go_wp2_with fail
    refine HC.out.mono ?_
    rintro e w2 ⟨rfl, hb2⟩
    have HB2 := Lib.hid (HB.out.trans (hb2.mono HB.out.size))
    clear hb2
    go_wp2_with fail
    go_ret
    exact ⟨rfl, HSM.out _ HB2.out⟩
end
end Go.Proofs.Ytpcjnagdanmdpaa
