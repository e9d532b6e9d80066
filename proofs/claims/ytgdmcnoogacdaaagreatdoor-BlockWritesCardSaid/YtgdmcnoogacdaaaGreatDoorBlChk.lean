/- The document's own answer: how many samples, whether series may be, and their bytes if so. -/
import Derived.Test.YtgdmcnoogacdaaaGreatDoorBlRef
import Derived.Test.YtgdmcnoogacdaaaGreatDoorIxChkT
namespace Go.Proofs.YtgdmcnoogacdaaaGreatDoor
open Go.RowKit Go.Maps
open Ch
set_option linter.unusedVariables false
set_option linter.unusedSimpArgs false
set_option maxRecDepth 100000
set_option maxHeartbeats 4000000 in
theorem count12_ref (A : Option Addr) (S : List Ser) (c : Nat) (w : World) (hA : Sers w A S) (hf : ∀ s ∈ S, SerFit s) (hl : S.length ≤ 1000000000000) :
    Calls Tryz.prog 36 #[.slice A S.length c] w fun e w' => (∃ m : Nat, e = .returned (.int .i64 (m : Int)) ∧ (m ≤ 65536 → m = cntS S) ∧ (65536 < m → 65536 < cntS S) ∧ m ≤ 10000000000000) ∧ Below w.heap.size w w' := by
  have HA := Lib.hid hA
  have HF := Lib.hid hf
  obtain ⟨n, hn⟩ : ∃ n, S.length = n := ⟨_, rfl⟩
  have HN := Lib.hid hn
  rw [hn] at hl ⊢
  have HCS := Lib.hid (fun k (hk : k < n) => cnt_step S (k := k) (by omega))
  have HCT := Lib.hid (fun k => cnt_take S k)
  clear hA hf hn
  go_enter Tryz.func36, Tryz.ntmps36
  go_wp2_with fail
  go_loopw [3, 4] (fun t i wr => ∃ k m : Nat, k ≤ n ∧ i = .int .i64 (k : Int) ∧ t = .int .i64 (m : Int) ∧ m = cntS (S.take k) ∧ m ≤ 10000000000000 ∧ Below w.heap.size w wr) (fun _ i _ => n - (intOf i).toNat)
  case atStart => exact ⟨0, 0, Nat.zero_le _, rfl, rfl, rfl, by omega, Below.refl _ _⟩
  case round =>
    obtain ⟨k, m, hk, rfl, rfl, hm, hmb, hbr⟩ := hrel
    have HB := Lib.hid hbr
    by_cases hlt : k < n
    · have i1 : decide ((k : Int) < (n : Int)) = true := decide_eq_true (by omega)
      have i2 : (k : Int) < (n : Int) := by omega
      by_cases h6 : m ≤ 65536
      · have j1 : decide ((m : Int) ≤ 65536) = true := decide_eq_true (by omega)
        have j2 : decide (m ≤ 65536) = true := decide_eq_true h6
        obtain ⟨b, o, rfl, hb, hat⟩ := HA.out.all (by rw [HN.out]; omega)
        obtain ⟨mm, hsa⟩ := hat k (by rw [HN.out]; exact hlt)
        have hs := HF.out _ (ser_at (S := S) (i := k) (by rw [HN.out]; exact hlt))
        have hsl := hs.sl
        obtain ⟨_, g1, _⟩ := hsa.below hbr hb
        have hcs := HCS.out k hlt
        have HM := Lib.hid (show m + (S.getD k ser0).2.length = cntS (S.take (k + 1)) by omega)
        generalize (S.getD k ser0).2.length = l2 at *
        have HM2 := Lib.hid (show m + l2 ≤ 10000000000000 by omega)
        have hw1 : IntKind.i64.wrap ((m : Int) + (l2 : Int)) = ((m + l2 : Nat) : Int) := by rw [← Int.natCast_add]; exact IntWalk.i64_in _ (by omega)
        have HK := Lib.hid (show k + 1 ≤ n from hlt)
        clear hbr hat hsa hs hm hcs
        go_wp2_with fail
        go_roundw
        case rel => exact ⟨k + 1, m + l2, HK.out, by go_num, by first | rfl | go_num, HM.out, HM2.out, HB.out⟩
        case measure => simp [intOf]; omega
      · have j1 : decide ((m : Int) ≤ 65536) = false := decide_eq_false (by omega)
        have j2 : decide (m ≤ 65536) = false := decide_eq_false h6
        have HR := Lib.hid (show (m ≤ 65536 → m = cntS S) ∧ (65536 < m → 65536 < cntS S) ∧ m ≤ 10000000000000 from ⟨fun h => absurd h h6, fun h => by have := HCT.out k; omega, hmb⟩)
        clear hm hbr
        go_wp2_with fail
        go_ret
        exact ⟨⟨m, rfl, HR.out⟩, HB.out⟩
    · have hkn : k = S.length := by rw [HN.out]; omega
      rw [hkn, List.take_length] at hm
      have i1 : decide ((k : Int) < (n : Int)) = false := decide_eq_false (by omega)
      have i2 : ¬ (k : Int) < (n : Int) := by omega
      have HR := Lib.hid (show (m ≤ 65536 → m = cntS S) ∧ (65536 < m → 65536 < cntS S) ∧ m ≤ 10000000000000 from ⟨fun _ => hm, fun h => by omega, hmb⟩)
      clear hm hbr hkn
      go_wp2_with fail
      go_ret
      exact ⟨⟨m, rfl, HR.out⟩, HB.out⟩
set_option maxHeartbeats 8000000 in
theorem check12_ref (A : Option Addr) (S : List Ser) (c : Nat) (w : World) (hA : Sers w A S) (hf : ∀ s ∈ S, SerFit s) (hl : S.length * 48 ≤ 140737488351232) (hlc : S.length ≤ c) :
    Calls Tryz.prog 14 #[.slice A S.length c] w fun e w' => e = .returned (.int .i64 (blChk S)) ∧ Below w.heap.size w w' := by
  by_cases h256 : 256 < S.length
  · have HZ := Lib.hid (show blChk S = 3 by unfold blChk; rw [if_pos h256])
    have d1 : decide ((256 : Int) < (S.length : Int)) = true := decide_eq_true (by omega)
    have d2 : decide (256 < S.length) = true := decide_eq_true h256
    clear hA hf hl hlc
    go_enter Tryz.func14, Tryz.ntmps14
    go_wp2_with fail
    go_ret
    exact ⟨by rw [HZ.out] <;> rfl, Below.refl _ _⟩
  · have d1 : decide ((256 : Int) < (S.length : Int)) = false := decide_eq_false (by omega)
    have d2 : decide (256 < S.length) = false := decide_eq_false h256
    have HCT := Lib.hid (count12_ref A S c w hA hf (by omega))
    have HST := Lib.hid (fun x (hx : Below w.heap.size w x) => sets12_ref A S c x (hA.below hx) (by omega) hlc)
    have HIC := Lib.hid (fun P cp (x : World) (h : Sets x P (blSets S)) => ixcheck_told P (blSets S) cp x h (by rw [blSets_len]; omega) (fun l hm => by
      obtain ⟨s, hs, rfl⟩ := List.mem_map.1 hm
      exact ⟨(hf s hs).lf, (hf s hs).ll⟩))
    have HA := Lib.hid hA
    have HF := Lib.hid hf
    have HSF := Lib.hid (fun k (hk : k < S.length) => serF_first (S := S) (k := k) hk)
    have HSN := Lib.hid (fun h => serF_none (S := S) h)
    have HBC := Lib.hid (show blChk S = if 65536 < cntS S then 3 else if ixChk (blSets S) = 0 then serF S else ixChk (blSets S) by unfold blChk; rw [if_neg h256])
    obtain ⟨n, hn⟩ : ∃ n, S.length = n := ⟨_, rfl⟩
    have HN := Lib.hid hn
    rw [hn] at HCT HST HSF HSN hl hlc h256 d1 d2 ⊢
    clear hA hf hn
    go_enter Tryz.func14, Tryz.ntmps14
    go_wp2_with fail
    refine HCT.out.mono ?_
    rintro e w2 ⟨⟨m, rfl, hm1, hm2, hm3⟩, hb2⟩
    have HB2 := Lib.hid hb2
    by_cases h6 : 65536 < m
    · have q1 : decide ((65536 : Int) < (m : Int)) = true := decide_eq_true (by omega)
      have q2 : decide (65536 < m) = true := decide_eq_true h6
      have HZ := Lib.hid (show blChk S = 3 by rw [HBC.out, if_pos (hm2 h6)])
      clear hm1 hm2 hb2
      go_wp2_with fail
      go_ret
      exact ⟨by rw [HZ.out] <;> rfl, HB2.out⟩
    · have q1 : decide ((65536 : Int) < (m : Int)) = false := decide_eq_false (by omega)
      have q2 : decide (65536 < m) = false := decide_eq_false h6
      have hcs := hm1 (by omega)
      have HBD := Lib.hid (show blChk S = if ixChk (blSets S) = 0 then serF S else ixChk (blSets S) by rw [HBC.out, if_neg (by omega)])
      have HS2 := Lib.hid (HST.out w2 hb2)
      clear hm1 hm2 hcs hb2
      go_wp2_with fail
      refine HS2.out.mono ?_
      rintro e w3 ⟨P3, c3, rfl, hs3, hb3⟩
      have HI3 := Lib.hid (HIC.out _ c3 _ hs3)
      have HB3 := Lib.hid (below_then HB2.out hb3)
      generalize (blSets S).length = nS at *
      clear hs3 hb3 HS2
      go_wp2_with fail
      refine HI3.out.mono ?_
      rintro e w4 ⟨rfl, hb4⟩
      have HB4 := Lib.hid (below_then HB3.out hb4)
      obtain ⟨E, hE⟩ : ∃ E, ixChk (blSets S) = E := ⟨_, rfl⟩
      have HE := Lib.hid hE
      clear hb4
      rw [hE]
      by_cases h0 : E = 0
      · have r1 : (E != 0) = false := by rw [h0]; rfl
        have HBE := Lib.hid (show blChk S = serF S by rw [HBD.out, hE, if_pos h0])
        clear hE
        go_wp2_with fail
        go_loopw [4] (fun i wr => ∃ j : Nat, j ≤ n ∧ i = .int .i64 (j : Int) ∧ (∀ t, t < j → serE (S.getD t ser0).2 = 0) ∧ Below w.heap.size w wr) (fun i _ => n - (intOf i).toNat)
        case atStart => exact ⟨0, Nat.zero_le _, rfl, fun t ht => absurd ht (by omega), HB4.out⟩
        case round =>
          obtain ⟨j, hj, rfl, hz, hbr⟩ := hrel
          have HB := Lib.hid hbr
          have HZ := Lib.hid hz
          by_cases hlt : j < n
          · have i1 : decide ((j : Int) < (n : Int)) = true := decide_eq_true (by omega)
            have i2 : (j : Int) < (n : Int) := by omega
            obtain ⟨b, o, rfl, hb, hat⟩ := HA.out.all (by rw [HN.out]; omega)
            obtain ⟨mm, hsa⟩ := hat j (by rw [HN.out]; exact hlt)
            have hs := HF.out _ (ser_at (S := S) (i := j) (by rw [HN.out]; exact hlt))
            have hsl := hs.sl
            obtain ⟨_, g1, hin⟩ := hsa.below hbr hb
            have hsm := hin.samples
            simp only at hsm
            have HFI := Lib.hid (HSF.out j hlt hz)
            have HK := Lib.hid (show j + 1 ≤ n from hlt)
            have hse : serE (S.getD j ser0).2 = if (S.getD j ser0).2.length = 0 then 2 else errF (S.getD j ser0).2 (S.getD j ser0).2.length 0 := rfl
            have HNX := Lib.hid (show serE (S.getD j ser0).2 = 0 → ∀ t, t < j + 1 → serE (S.getD t ser0).2 = 0 from fun h t ht => by
              rcases Nat.lt_or_ge t j with h1 | h1
              · exact hz t h1
              · obtain rfl : t = j := by omega
                exact h)
            have HRI := Lib.hid (rises_ref mm.sa (S.getD j ser0).2 mm.sc wr hsm (by omega))
            clear hat hsa hs hin hsm hz hbr
            by_cases hl0 : (S.getD j ser0).2.length = 0
            · rw [if_pos hl0] at hse
              have HFJ := Lib.hid (HFI.out (by rw [hse]; decide))
              rw [hl0] at g1
              have HSE := Lib.hid hse
              clear hse hl0
              go_wp2_with fail
              go_ret
              exact ⟨by rw [HBE.out, HFJ.out, HSE.out] <;> rfl, HB.out⟩
            · rw [if_neg hl0] at hse
              obtain ⟨l2, hl2⟩ : ∃ l2, (S.getD j ser0).2.length = l2 := ⟨_, rfl⟩
              rw [hl2] at g1 HRI hl0 hse
              have s0 : ((l2 : Int) == 0) = false := by rw [beq_eq_false_iff_ne]; omega
              obtain ⟨F, hF⟩ : ∃ F, errF (S.getD j ser0).2 l2 0 = F := ⟨_, rfl⟩
              rw [hF] at HRI hse
              have HSE := Lib.hid hse
              clear hF hl2 hse hsl
              go_wp2_with fail
              refine HRI.out.mono ?_
              rintro e w5 ⟨rfl, hb5⟩
              have HB5 := Lib.hid (below_then HB.out hb5)
              clear hb5
              by_cases hF0 : F = 0
              · have t1 : (F != 0) = false := by rw [hF0]; rfl
                have HNY := Lib.hid (HNX.out (by rw [HSE.out, hF0]))
                go_wp2_with fail
                go_roundw
                case rel => exact ⟨j + 1, HK.out, by go_num, HNY.out, HB5.out⟩
                case measure => simp [intOf]; omega
              · have t1 : (F != 0) = true := bne_iff_ne.2 hF0
                have HFJ := Lib.hid (HFI.out (by rw [HSE.out]; exact hF0))
                go_wp2_with fail
                go_ret
                exact ⟨by rw [HBE.out, HFJ.out, HSE.out] <;> rfl, HB5.out⟩
          · have i1 : decide ((j : Int) < (n : Int)) = false := decide_eq_false (by omega)
            have i2 : ¬ (j : Int) < (n : Int) := by omega
            have HS0 := Lib.hid (HSN.out fun t ht => hz t (by omega))
            clear hz hbr
            go_wp2_with fail
            go_ret
            exact ⟨by rw [HBE.out, HS0.out] <;> rfl, HB.out⟩
      · have r1 : (E != 0) = true := bne_iff_ne.2 h0
        have HBE := Lib.hid (show blChk S = E by rw [HBD.out, hE, if_neg h0])
        clear hE
        go_wp2_with fail
        go_ret
        exact ⟨by rw [HBE.out] <;> rfl, HB4.out⟩
/-- What the document's Write tells: as the program's. -/
theorem write12_ref (A : Option Addr) (S : List Ser) (c : Nat) (w : World) (hA : Sers w A S) (hf : ∀ s ∈ S, SerFit s) (hl : S.length * 48 ≤ 140737488351232) (hlc : S.length ≤ c) :
    Calls Tryz.prog 12 #[.slice A S.length c] w (WrTold w S) := by
  have HC := Lib.hid (check12_ref A S c w hA hf hl hlc)
  have HB := Lib.hid (fun x (hx : Below w.heap.size w x) (hz : blChk S = 0) => bytes12_ref A S c x (hA.below hx) hz hlc)
  unfold WrTold
  clear hA hf
  obtain ⟨n, hn⟩ : ∃ n, S.length = n := ⟨_, rfl⟩
  rw [hn] at HC HB hl hlc ⊢
  clear hn
  obtain ⟨E, hE⟩ : ∃ E, blChk S = E := ⟨_, rfl⟩
  have HE := Lib.hid hE
  rw [hE] at HC ⊢
  go_enter Tryz.func12, Tryz.ntmps12
  go_wp2_with fail
  refine HC.out.mono ?_
  rintro e w2 ⟨rfl, hb2⟩
  have HB2 := Lib.hid hb2
  by_cases h0 : E = 0
  · have q1 : (E != 0) = false := by rw [h0]; rfl
    have HBY := Lib.hid (HB.out w2 hb2 (by rw [hE, h0]))
    have H0 := Lib.hid h0
    clear hb2 hE
    go_wp2_with fail
    refine HBY.out.mono ?_
    rintro e w3 ⟨v3, rfl, ho3, hb3⟩
    have HO3 := Lib.hid (own_lower ho3 HB2.out.size)
    have HB3 := Lib.hid (below_then HB2.out hb3)
    clear ho3 hb3
    go_wp2_with fail
    go_ret2
    exact ⟨HB3.out, .inr ⟨H0.out, _, rfl, HO3.out⟩⟩
  · have q1 : (E != 0) = true := bne_iff_ne.2 h0
    have H0 := Lib.hid h0
    clear hb2 hE
    go_wp2_with fail
    go_ret2
    exact ⟨HB2.out, .inl ⟨H0.out, rfl⟩⟩
end Go.Proofs.YtgdmcnoogacdaaaGreatDoor
