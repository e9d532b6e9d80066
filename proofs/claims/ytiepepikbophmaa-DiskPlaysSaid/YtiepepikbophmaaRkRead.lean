/- The document's own disk: Read, List. -/
import Derived.Test.YtiepepikbophmaaRkOps
import Derived.Test.YtiepepikbophmaaFrRows
namespace Go.Proofs.Ytiepepikbophmaa
open Go.RowKit Go.Maps
set_option linter.unusedVariables false

theorem files_at {w : World} {base : Nat} {v : Value} {fs : List Fil} (h : FilesR w base v fs) : ∃ P c, v = .slice P fs.length c ∧ fs.length ≤ c ∧ ∀ i, i < fs.length → ∃ g A cA, P = some ⟨g, 0, none⟩ ∧ base ≤ g ∧ g < w.heap.size ∧ w.cell? ⟨g, i * 2, none⟩ = some (.slice A (fs.getD i fil0).b.length cA) ∧ w.cell? ⟨g, i * 2 + 1, none⟩ = some (.int .i64 ((fs.getD i fil0).sure : Int)) ∧ Bys w A (fs.getD i fil0).b ∧ (fs.getD i fil0).b.length ≤ cA := by
  obtain ⟨fl, rfl, h2, h3⟩ := h
  obtain ⟨P, c, hv, hc, hP⟩ := rows_at h2
  refine ⟨P, c, by rw [hv, List.length_map], by rw [List.length_map]; exact hc, fun i hi => ?_⟩
  rw [List.length_map] at hi
  have e : fl[i]? = some fl[i] := List.getElem?_eq_getElem hi
  have e2 : (fl.map fun x => x.2.2).getD i fil0 = fl[i].2.2 := by simp [List.getD, e]
  obtain ⟨g, k1, k2, k3, k4⟩ := hP (i * 2 + 0) _ (flat_get filC 2 filC_len fl i _ 0 e (by omega))
  obtain ⟨g', j1, _, _, j4⟩ := hP (i * 2 + 1) _ (flat_get filC 2 filC_len fl i _ 1 e (by omega))
  rw [k1] at j1
  injection j1 with j1
  injection j1 with j1 _ _
  subst j1
  obtain ⟨m1, m2⟩ := h3 fl[i] (List.getElem_mem hi)
  rw [e2]
  exact ⟨g, fl[i].1, fl[i].2.1, k1, k2, k3, k4, j4, m1, m2⟩
def ReadTold (w : World) (r : List UInt8 × Int) (e : Ending) (w' : World) : Prop := ∃ A c, e = .returned (.tuple #[.slice A r.1.length c, .int .i64 r.2]) ∧ Bys w' A r.1 ∧ r.1.length ≤ c ∧ Below w.heap.size w w'
set_option maxRecDepth 20000 in
theorem read_ref {w : World} {fv bv wv : Value} {d : Dsk} (h : RefIn w fv bv wv d) (hF : Fine d) (hM : Met d) (hwl : d.wait.length ≤ 100000) (s : ByteArray) (hs : s.size ≤ 281474976710656) :
    Calls Try.prog 45 #[.agg (refC d fv bv wv).toArray, .string s] w (ReadTold w (readD d (strL s))) := by
  have hB0 := below_one w (.cells (refC d fv bv wv).toArray 31)
  have HNM := Lib.hid (named_ref s (w.alloc (.cells (refC d fv bv wv).toArray 31)) hs)
  have HLV := Lib.hid (live_ref (h.below hB0) hF hM hwl)
  have HB0 := Lib.hid hB0
  have HR0 := Lib.hid (fun w' hb => row_cells (ref_cells (w := w) (w' := w') (d := d) (fv := fv) (bv := bv) (wv := wv) hb))
  have HIN := Lib.hid (fun w' (hb : Below w.heap.size w w') => files_at (h.below hb).files)
  have hfew := hF.live_few
  have HLI := Lib.hid hF.live_in
  have HLR := Lib.hid hF.live_rises
  obtain ⟨⟨Pf, cf, hfv⟩, ⟨Pb, cb, hbv⟩, ⟨Pw, cw, hwv⟩⟩ := ref_forms h
  clear h hF hM hwl hB0 hs
  generalize hlv : live d = L at *
  have HRD := Lib.hid (show readD d (strL s) = (if namedB (strL s) = false then ([], 8) else match whose L (strL s) with
    | none => ([], 9)
    | some n => if d.dark then ([], 6) else ((d.files.getD n fil0).b, 0) : List UInt8 × Int) by unfold readD; rw [hlv]; rfl)
  generalize readD d (strL s) = r at *
  clear hlv
  obtain ⟨room, files, base, wait, left, dark, count⟩ := d
  simp only at hwv hbv hfv HRD HIN HLI
  simp only [refC] at *
  generalize hnf : files.length = nf at hfv
  generalize base.length = nb at hbv
  generalize wait.length = nw at hwv
  subst hwv
  subst hbv
  subst hfv
  cases hnm : namedB (strL s)
  · rw [hnm] at HNM HRD
    have HRF := Lib.hid (show r = ([], 8) from HRD.out)
    clear HRD
    clear hnm
    go_enter Try.func45, Try.ntmps45
    go_wp2_with fail
    refine HNM.out.mono ?_
    rintro e w2 ⟨rfl, rfl⟩
    go_wp2
    go_ret2
    rw [HRF.out]; exact ⟨none, 0, rfl, Bys.empty _ _, Nat.le_refl _, HB0.out⟩
  · rw [hnm] at HNM HRD
    have HRD2 := Lib.hid (show r = (match whose L (strL s) with
      | none => ([], 9)
      | some n => if dark then ([], 6) else ((files.getD n fil0).b, 0) : List UInt8 × Int) from HRD.out)
    clear hnm HRD
    have HR00 := HR0.out _ (Below.refl _ _)
    obtain ⟨x0, x1, x2, x3, x4, x5, x6⟩ := HR00
    go_enter Try.func45, Try.ntmps45
    go_wp2_with fail
    refine HNM.out.mono ?_
    rintro e w2 ⟨rfl, rfl⟩
    go_wp2_with fail
    refine HLV.out.mono ?_
    rintro e w3 ⟨v3, rfl, hE3, hb3⟩
    clear x0 x1 x2 x3 x4 x5 x6
    obtain ⟨x0, x1, x2, x3, x4, x5, x6⟩ := HR0.out _ hb3
    obtain ⟨P3, c3, hv3, _, _⟩ := ents_at hE3
    have HAT := Lib.hid (at_ref hE3 (by omega) s)
    have HB3 := Lib.hid (below_then HB0.out hb3)
    generalize hnl : L.length = nl at hv3
    rw [hv3] at HAT
    clear hE3 hb3 hnl
    subst hv3
    cases hwh : whose L (strL s)
    · have hat : atV L (strL s) = -1 := by unfold atV; rw [hwh]
      rw [hwh] at HRD2
      have HRF := Lib.hid (show r = ([], 9) from HRD2.out)
      clear HRD2
      rw [hat] at HAT
      clear hat hwh
      go_wp2_with fail
      refine HAT.out.mono ?_
      rintro e w4 ⟨rfl, rfl⟩
      go_wp2
      go_ret2
      rw [HRF.out]; exact ⟨none, 0, rfl, Bys.empty _ _, Nat.le_refl _, HB3.out⟩
    · rename_i n
      have hat : atV L (strL s) = (n : Int) := by unfold atV; rw [hwh]
      rw [hwh] at HRD2
      rw [hat] at HAT
      have hn := (HLI.out _ ((whose_some HLR.out).1 hwh)).1
      have q1 : decide ((n : Int) < 0) = false := decide_eq_false (by omega)
      clear hat hwh
      cases dark
      · obtain ⟨P', c', hv', _, hP'⟩ := HIN.out _ HB3.out
        injection hv' with hv1 _ hv2
        subst hv1
        subst hv2
        obtain ⟨g, A, cA, rfl, _, _, f0, f1, f2, f3⟩ := hP' n (by simpa using hn)
        have HRF := Lib.hid (show r = ((files.getD n fil0).b, 0) from HRD2.out)
        clear HRD2
        have i1 : (n : Int) < (nf : Int) := by rw [← hnf]; simp only at hn; omega
        have HF2 := Lib.hid f2
        have HF3 := Lib.hid f3
        clear hP' hnf hn f2 f3
        generalize (files.getD n fil0).b = x at *
        go_wp2_with fail
        refine HAT.out.mono ?_
        rintro e w4 ⟨rfl, rfl⟩
        go_wp2
        go_ret2
        rw [HRF.out]; exact ⟨A, cA, rfl, HF2.out, HF3.out, HB3.out⟩
      · have HRF := Lib.hid (show r = ([], 6) from HRD2.out)
        clear HRD2
        go_wp2_with fail
        refine HAT.out.mono ?_
        rintro e w4 ⟨rfl, rfl⟩
        go_wp2
        go_ret2
        rw [HRF.out]; exact ⟨none, 0, rfl, Bys.empty _ _, Nat.le_refl _, HB3.out⟩
end Go.Proofs.Ytiepepikbophmaa
