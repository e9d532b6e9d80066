/- A record, and bytes as a record, held against the document's answer: WalRecords's walk. -/
import Derived.Test.YtmgolnlkepiocaaWaRefOf
import Derived.Test.YtmgolnlkepiocaaWaLotY
import Derived.Test.YtmgolnlkepiocaaWaLotX
import Derived.Test.YtmgolnlkepiocaaWaLives
import Derived.Test.YtmgolnlkepiocaaWaOpen
namespace Go.Proofs.Ytmgolnlkepiocaa
open Go.RowKit Go.Maps
set_option linter.unusedVariables false

def bytV (R : RecV) : List UInt8 := if recChk R = 0 then recL R else []
theorem wbytes_any (R : RecV) (m : RecM) (w : World) (h : RecIn w R m) (hf : RecFit R) :
    Calls Try.prog 8 #[.agg (recC R m).toArray] w fun e w' => ∃ v, e = .returned (.tuple #[v, .int .i64 (recChk R)]) ∧ Own w' w.heap.size v (bytV R) ∧ Below w.heap.size w w' := by
  unfold bytV
  by_cases hc : recChk R = 0
  · rw [if_pos hc, hc]
    exact wbytes_yes R m w h hc
  · rw [if_neg hc]
    exact (wbytes_no R m w h hf hc).mono fun e w' hh => ⟨_, hh.1, own_nil _ _, hh.2⟩
theorem refbytes_any (R : RecV) (m : RecM) (w : World) (h : RecIn w R m) (hf : RecFit R) :
    Calls Try.prog 9 #[.agg (recC R m).toArray] w fun e w' => ∃ v, e = .returned (.tuple #[v, .int .i64 (recChk R)]) ∧ Own w' w.heap.size v (bytV R) ∧ Below w.heap.size w w' := by
  unfold bytV
  by_cases hc : recChk R = 0
  · rw [if_pos hc, hc]
    exact refbytes_yes R m w h hc
  · rw [if_neg hc]
    exact (refbytes_no R m w h hf hc).mono fun e w' hh => ⟨_, hh.1, own_nil _ _, hh.2⟩
def OfTold (w : World) (S : RecV) (E : Int) (e : Ending) (w' : World) : Prop := ∃ m, e = .returned (.tuple #[.agg (recC S m).toArray, .int .i64 E]) ∧ RecIn w' S m ∧ Below w.heap.size w w'
theorem of_any (l : List UInt8) (hl : l.length ≤ 140737488355328) : ∃ S E, RecFit S ∧ (∀ A c w, Bys w A l → l.length ≤ c → Calls Try.prog 13 #[.slice A l.length c] w (OfTold w S E)) ∧ (∀ A c w, Bys w A l → l.length ≤ c → Calls Try.prog 14 #[.slice A l.length c] w (OfTold w S E)) := by
  by_cases h : ∃ S, IsRec l S
  · obtain ⟨S, hS⟩ := h
    exact ⟨S, 0, right_fit hS.1, fun A c w hA hc => (of_yes hS A c w hA hc hl).mono fun e w' ⟨m, h1, h2, h3⟩ => ⟨m, h1, h2.in_, h3⟩, fun A c w hA hc => (refof_yes hS A c w hA hc hl).mono fun e w' ⟨m, h1, h2, h3⟩ => ⟨m, h1, h2.in_, h3⟩⟩
  · have h' : ∀ S, ¬ IsRec l S := fun S hS => h ⟨S, hS⟩
    exact ⟨rec0, 5, recFit_zero, fun A c w hA hc => (of_no h' A c w hA hc hl).mono fun e w' hh => ⟨recM0, hh.1, recIn_zero _, hh.2⟩, fun A c w hA hc => (refof_no h' A c w hA hc hl).mono fun e w' hh => ⟨recM0, hh.1, recIn_zero _, hh.2⟩⟩
set_option maxRecDepth 40000 in
set_option maxHeartbeats 4000000 in
theorem walRecords_walk (w : World) (p : Pl) (hp : RecIn w p.1 p.2) (hf : RecFit p.1) (A : Option Addr) (l : List UInt8) (c : Nat) (hA : Bys w A l) (hl : l.length ≤ 140737488351232) (hlc : l.length ≤ c) :
    Calls Try.prog 3 #[.agg (plE p).toArray, .slice A l.length c] w fun e w' => e = .returned (.bool true) ∧ Below w.heap.size w w' := by
  obtain ⟨S, SE, hSf, hO1, hO2⟩ := of_any l (by omega)
  obtain ⟨R, m⟩ := p
  simp only [plE] at *
  have HB0 := Lib.hid (below_one w (.cells (recC R m).toArray 26))
  have HOW := Lib.hid (own_prog R m (w.alloc (.cells (recC R m).toArray 26)) (hp.below HB0.out) hf)
  have HWB := Lib.hid (fun m W (h : RecIn W R m) => wbytes_any R m W h hf)
  have HRB := Lib.hid (fun W (hW : Below w.heap.size w W) => refbytes_any R m W (hp.below hW) hf)
  have HWC := Lib.hid (fun m W (h : RecIn W R m) => wchk_prog R m W h hf)
  have HRC := Lib.hid (fun W (hW : Below w.heap.size w W) => refcheck_prog R m W (hp.below hW) hf)
  have HSM := Lib.hid (fun n W (h : RecIn W R n) (hW : Below w.heap.size w W) => recsame_prog R n m W h (hp.below hW) hf)
  have HSS := Lib.hid (fun n k W (h : RecIn W S n) (h2 : RecIn W S k) => recsame_prog S n k W h h2 hSf)
  have HO1 := Lib.hid hO1
  have HO2 := Lib.hid hO2
  have HA := Lib.hid (fun W (hW : Below w.heap.size w W) => hA.below hW)
  have HLC := Lib.hid hlc
  have HLL := Lib.hid hl
  have HX := Lib.hid (fun W (hW : Below (w.heap.size + 1) (w.alloc (.cells (recC R m).toArray 26)) W) => rec_cells ((Row.new w 26 (recC R m).toArray).below hW (by simp)) rfl)
  generalize bytV R = bv at *
  generalize recChk R = ck at *
  have i1 : (ck != ck) = false := by simp
  have i2 : (SE == SE) = true := by simp
  have j1 := txt_neq bv
  have j2 := txt_eql bv
  clear hp hf hA hl hlc hO1 hO2 hSf
  obtain ⟨k, la, ro, ids, lo, hi⟩ := R
  obtain ⟨A1, ca, B1, cb, C1, cc⟩ := m
  obtain ⟨sk, sla, sro, sids, slo, shi⟩ := S
  simp only [recC] at *
  obtain ⟨x0, x1, x2, x3, x4, x5⟩ := HX.out _ (Below.refl _ _)
  go_enter Try.func3, Try.ntmps3
  go_upto_region 4 with (first
    | (go_at_call 7; refine HOW.out.mono ?_; rintro e w1 ⟨m1, rfl, ho1, hb1⟩
       obtain ⟨A2, ca2, B2, cb2, C2, cc2⟩ := m1
       simp only [] at *
       have HN1 := Lib.hid ho1.in_
       have HB1 := Lib.hid (below_then HB0.out hb1)
       have HB1' := Lib.hid ((hb1.mono (show w.heap.size + 1 ≤ _ by simp)).alloc (show w.heap.size + 1 ≤ w1.heap.size by have := hb1.size; simp at this; omega) (.cells #[.int .i64 k, .slice A2 la.length ca2, .slice B2 ro.length cb2, .slice C2 ids.length cc2, .int .i64 lo, .int .i64 hi] 26))
       have HZ1 := Lib.hid (show w.heap.size + 1 ≤ w1.heap.size by have := hb1.size; simp at this; omega)
       have HY := Lib.hid (fun W (hW : Below (w1.heap.size + 1) (w1.alloc (.cells #[.int .i64 k, .slice A2 la.length ca2, .slice B2 ro.length cb2, .slice C2 ids.length cc2, .int .i64 lo, .int .i64 hi] 26)) W) => rec_cells ((Row.new w1 26 #[.int .i64 k, .slice A2 la.length ca2, .slice B2 ro.length cb2, .slice C2 ids.length cc2, .int .i64 lo, .int .i64 hi]).below hW (by simp)) rfl)
       obtain ⟨y0, y1, y2, y3, y4, y5⟩ := HY.out _ (Below.refl _ _)
       clear ho1 hb1)
    | (go_at_call 8; refine (HWB.out ⟨A2, ca2, B2, cb2, C2, cc2⟩ _ (HN1.out.alloc _)).mono ?_; rintro e w2 ⟨v2, rfl, ho2, hb2⟩
       obtain ⟨P2, d2, hv2, hP2, _⟩ := own_slice' ho2
       subst hv2
       have HP2 := Lib.hid hP2
       have HY2 := Lib.hid (hb2.mono (show w1.heap.size + 1 ≤ _ by simp))
       have HZ2 := Lib.hid (show w1.heap.size + 1 ≤ w2.heap.size by have := hb2.size; simp at this; omega)
       have HX2 := Lib.hid (HB1'.out.trans (HY2.out.mono (by have := HZ1.out; omega)))
       have HB2 := Lib.hid (HB0.out.trans (HX2.out.mono (Nat.le_succ _)))
       have HN2 := Lib.hid ((HN1.out.alloc (.cells #[.int .i64 k, .slice A2 la.length ca2, .slice B2 ro.length cb2, .slice C2 ids.length cc2, .int .i64 lo, .int .i64 hi] 26)).below hb2)
       obtain ⟨u0, u1, u2, u3, u4, u5⟩ := HX.out _ HX2.out
       clear ho2 hb2 hP2)
    | (go_at_call 9; refine (HRB.out _ HB2.out).mono ?_; rintro e w3 ⟨v3, rfl, ho3, hb3⟩
       obtain ⟨P3, d3, hv3, hP3, _⟩ := own_slice' ho3
       subst hv3
       have HP3 := Lib.hid hP3
       have HP23 := Lib.hid (HP2.out.below hb3)
       have HY3 := Lib.hid (HY2.out.trans (hb3.mono HZ2.out))
       have HZ3 := Lib.hid (Nat.le_trans HZ2.out hb3.size)
       have HX3 := Lib.hid (HX2.out.trans (hb3.mono (Nat.le_trans (by have := HZ1.out; omega) HZ2.out)))
       have HB3 := Lib.hid (below_then HB2.out hb3)
       have HN3 := Lib.hid (HN2.out.below hb3)
       clear ho3 hb3 hP3))
  have HST := Lib.hid (fun W (hW : Below w3.heap.size w3 W) => And.intro (HX.out W (HX3.out.trans (hW.mono (Nat.le_trans (by have := HZ1.out; omega) HZ3.out)))) (And.intro (HY.out W (HY3.out.trans (hW.mono HZ3.out))) (And.intro (show (convert 27 9 (.slice P2 bv.length d2)).run Try.prog W = .ok (.string (txt bv)) W from conv_bys _ P2 bv d2 (HP23.out.below hW)) (show (convert 27 9 (.slice P3 bv.length d3)).run Try.prog W = .ok (.string (txt bv)) W from conv_bys _ P3 bv d3 (HP3.out.below hW)))))
  have HD3 := Lib.hid ((Below.refl w3.heap.size w3).drew)
  obtain ⟨⟨a0, a1, a2, a3, a4, a5⟩, ⟨b0, b1, b2, b3, b4, b5⟩, v1, v2⟩ := HST.out _ (Below.refl _ _)
  go_region_held3 (fun W => (W.cell? ⟨w.heap.size, 0, none⟩ = some (.int .i64 k) ∧ W.cell? ⟨w.heap.size, 1, none⟩ = some (.slice A1 la.length ca) ∧ W.cell? ⟨w.heap.size, 2, none⟩ = some (.slice B1 ro.length cb) ∧ W.cell? ⟨w.heap.size, 3, none⟩ = some (.slice C1 ids.length cc) ∧ W.cell? ⟨w.heap.size, 4, none⟩ = some (.int .i64 lo) ∧ W.cell? ⟨w.heap.size, 5, none⟩ = some (.int .i64 hi)) ∧
      (W.cell? ⟨w1.heap.size, 0, none⟩ = some (.int .i64 k) ∧ W.cell? ⟨w1.heap.size, 1, none⟩ = some (.slice A2 la.length ca2) ∧ W.cell? ⟨w1.heap.size, 2, none⟩ = some (.slice B2 ro.length cb2) ∧ W.cell? ⟨w1.heap.size, 3, none⟩ = some (.slice C2 ids.length cc2) ∧ W.cell? ⟨w1.heap.size, 4, none⟩ = some (.int .i64 lo) ∧ W.cell? ⟨w1.heap.size, 5, none⟩ = some (.int .i64 hi)) ∧
      (convert 27 9 (.slice P2 bv.length d2)).run Try.prog W = .ok (.string (txt bv)) W ∧ (convert 27 9 (.slice P3 bv.length d3)).run Try.prog W = .ok (.string (txt bv)) W)
    (first | exact HST.out _ HD3.out | exact HST.out _ (Below.refl _ _) | exact HST.out _ HB4.out | exact HST.out _ HB5.out | exact HST.out _ HB6.out | go_keep)
    (first
      | (go_at_call 10; refine (HWC.out ⟨A2, ca2, B2, cb2, C2, cc2⟩ _ (HN3.out.below HD3.out)).mono ?_; rintro e w4 ⟨rfl, hb4⟩
         have HB4 := Lib.hid (HD3.out.trans (hb4.mono (Nat.le_refl _)))
         obtain ⟨⟨c0, c1, c2, c3, c4, c5⟩, ⟨d0, d1, d2', d3', d4, d5⟩, v3, v4⟩ := HST.out _ HB4.out
         clear hb4)
      | (go_at_call 11; refine (HRC.out _ (below_then HB3.out HB4.out)).mono ?_; rintro e w5 ⟨rfl, hb5⟩
         have HB5 := Lib.hid (HB4.out.trans (hb5.mono HB4.out.size))
         obtain ⟨⟨e0, e1, e2, e3, e4, e5⟩, ⟨f0, f1, f2, f3, f4, f5⟩, v5, v6⟩ := HST.out _ HB5.out
         clear hb5)
      | (go_at_call 12; refine (HSM.out ⟨A2, ca2, B2, cb2, C2, cc2⟩ _ (HN3.out.below HB5.out) (below_then HB3.out HB5.out)).mono ?_; rintro e w6 ⟨rfl, hb6⟩
         have HB6 := Lib.hid (HB5.out.trans (hb6.mono HB5.out.size))
         obtain ⟨⟨g0, g1, g2, g3, g4, g5⟩, ⟨h0, h1, h2, h3, h4, h5⟩, v7, v8⟩ := HST.out _ HB6.out
         clear hb6))
  all_goals
    have HW6 := Lib.hid (below_then HB3.out HB6.out)
    have HL0 := Lib.hid (show ([] : List UInt8).length + l.length ≤ 211106232532992 by have := HLL.out; simp; omega)
    go_wp2_with (first
      | (at_builtin; refine app_u8 rfl (.tmp 50) (.tmp 51) rfl w6.heap.size (.slice (some ⟨w6.heap.size, 0, none⟩) 0 0) [] rfl (own_empty (Row.new w6 _ _) (Nat.le_refl _)) A l c rfl (HA.out _ (HW6.out.alloc HW6.out.size _)) HL0.out (by simp) ?_
         intro v7 w7 ho7 hb7 _
         rw [List.nil_append] at ho7
         obtain ⟨P7, d7, hv7, hP7, _, hc7, _⟩ := own_cap ho7
         subst hv7
         have HP7 := Lib.hid hP7
         have HC7 := Lib.hid hc7
         have HW7 := Lib.hid ((HW6.out.alloc HW6.out.size (.cells #[] 5)).trans (hb7.mono HW6.out.size))
         clear ho7 hb7 hP7 hc7)
      | (go_at_call 13; refine (HO1.out P7 d7 _ HP7.out HC7.out).mono ?_; rintro e w8 ⟨m8, rfl, hi8, hb8⟩
         obtain ⟨A8, ca8, B8, cb8, C8, cc8⟩ := m8
         simp only [recC] at *
         have HI8 := Lib.hid (hi8.alloc (.cells #[.int .i64 sk, .slice A8 sla.length ca8, .slice B8 sro.length cb8, .slice C8 sids.length cc8, .int .i64 slo, .int .i64 shi] 26))
         have HW8 := Lib.hid ((HW7.out.trans (hb8.mono HW7.out.size)).alloc (Nat.le_trans HW7.out.size hb8.size) (.cells #[.int .i64 sk, .slice A8 sla.length ca8, .slice B8 sro.length cb8, .slice C8 sids.length cc8, .int .i64 slo, .int .i64 shi] 26))
         have HX8 := Lib.hid (Row.new w8 26 #[.int .i64 sk, .slice A8 sla.length ca8, .slice B8 sro.length cb8, .slice C8 sids.length cc8, .int .i64 slo, .int .i64 shi])
         clear hi8 hb8)
      | (go_at_call 14; refine (HO2.out A c _ (HA.out _ HW8.out) HLC.out).mono ?_; rintro e w9 ⟨m9, rfl, hi9, hb9⟩
         obtain ⟨A9, ca9, B9, cb9, C9, cc9⟩ := m9
         simp only [recC] at *
         have HI9 := Lib.hid (hi9.alloc (.cells #[.int .i64 sk, .slice A9 sla.length ca9, .slice B9 sro.length cb9, .slice C9 sids.length cc9, .int .i64 slo, .int .i64 shi] 26))
         have HI89 := Lib.hid ((HI8.out.below hb9).alloc (.cells #[.int .i64 sk, .slice A9 sla.length ca9, .slice B9 sro.length cb9, .slice C9 sids.length cc9, .int .i64 slo, .int .i64 shi] 26))
         have HW9 := Lib.hid ((below_then HW8.out hb9).alloc (below_then HW8.out hb9).size (.cells #[.int .i64 sk, .slice A9 sla.length ca9, .slice B9 sro.length cb9, .slice C9 sids.length cc9, .int .i64 slo, .int .i64 shi] 26))
         obtain ⟨s0, s1, s2, s3, s4, s5⟩ := rec_cells ((HX8.out.below hb9 (by simp)).alloc (.cells #[.int .i64 sk, .slice A9 sla.length ca9, .slice B9 sro.length cb9, .slice C9 sids.length cc9, .int .i64 slo, .int .i64 shi] 26)) rfl
         obtain ⟨t0, t1, t2, t3, t4, t5⟩ := rec_cells (Row.new w9 26 #[.int .i64 sk, .slice A9 sla.length ca9, .slice B9 sro.length cb9, .slice C9 sids.length cc9, .int .i64 slo, .int .i64 shi]) rfl
         clear hi9 hb9)
      | (go_at_call 12; refine (HSS.out ⟨A8, ca8, B8, cb8, C8, cc8⟩ ⟨A9, ca9, B9, cb9, C9, cc9⟩ _ HI89.out HI9.out).mono ?_; rintro e w10 ⟨rfl, hb10⟩; have HW10 := Lib.hid (below_then HW9.out hb10); clear hb10)
      | (go_at_call 15; refine (waLives_true _).mono ?_; rintro e w11 ⟨rfl, hb11⟩; have HW11 := Lib.hid (below_then HW10.out hb11); clear hb11))
    go_ret
    exact ⟨rfl, HW11.out⟩
end Go.Proofs.Ytmgolnlkepiocaa
