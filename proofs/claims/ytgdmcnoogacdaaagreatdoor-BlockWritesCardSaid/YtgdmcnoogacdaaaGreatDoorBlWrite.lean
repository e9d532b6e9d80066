/- Write: the block of series. -/
import Derived.Test.YtgdmcnoogacdaaaGreatDoorBlLotIdx
import Derived.Test.YtgdmcnoogacdaaaGreatDoorBlLotW
import Derived.Test.YtgdmcnoogacdaaaGreatDoorBlLotG
import Derived.Test.YtgdmcnoogacdaaaGreatDoorBlLotT
namespace Go.Proofs.YtgdmcnoogacdaaaGreatDoor
open Go.RowKit Go.Maps
open Ch
set_option linter.unusedVariables false
set_option linter.unusedSimpArgs false
set_option maxRecDepth 100000

def preB (S : List Ser) (k : Nat) : List UInt8 := magL ++ cntL (ixBytes (blSets S)) ++ (S.take k).flatMap fun s => serL s.2
def preP (l : List Smp) (j : Nat) : List UInt8 := uintL (pcs l).length ++ ((pcs l).take j).flatMap pcL
theorem preB_next (S : List Ser) {k : Nat} (h : k < S.length) : preB S (k + 1) = preB S k ++ serL (S.getD k ser0).2 := by
  unfold preB
  rw [List.take_add_one, List.getElem?_eq_getElem h, List.flatMap_append, List.append_assoc _ _ (serL _), List.getD_eq_getElem?_getD, List.getElem?_eq_getElem h]
  simp
theorem preB_end (S : List Ser) : preB S S.length = frontL S := by
  unfold preB frontL bodyL
  rw [List.take_length, List.append_assoc]
theorem preB_le (S : List Ser) (k : Nat) : (preB S k).length ≤ (frontL S).length := by
  rw [← preB_end]
  unfold preB
  simp only [List.length_append, List.take_length]
  have : ((S.take k).flatMap fun s => serL s.2).length ≤ (S.flatMap fun s => serL s.2).length := by
    conv => rhs; rw [← List.take_append_drop k S, List.flatMap_append, List.length_append]
    omega
  omega
theorem pcs_get (l : List Smp) {j : Nat} (h : j < nPc l) : (pcs l).getD j [] = pieceL l j := by
  unfold pcs
  rw [List.getD_eq_getElem?_getD, List.getElem?_map, List.getElem?_range h]
  rfl
theorem preP_next (l : List Smp) {j : Nat} (h : j < nPc l) : preP l (j + 1) = preP l j ++ pcL (pieceL l j) := by
  have hl : j < (pcs l).length := by rw [pcs_len]; exact h
  unfold preP
  rw [List.take_add_one, List.getElem?_eq_getElem hl, List.flatMap_append, ← List.append_assoc, ← pcs_get l h, List.getD_eq_getElem?_getD, List.getElem?_eq_getElem hl]
  simp
theorem preP_zero (l : List Smp) : preP l 0 = uintL (nPc l) := by
  unfold preP
  rw [pcs_len]
  simp
theorem preP_end (l : List Smp) : preP l (nPc l) = serL l := by
  unfold preP serL
  rw [← pcs_len, List.take_length]
theorem preP_le (l : List Smp) (j : Nat) : (preP l j).length ≤ (serL l).length := by
  unfold preP serL
  rw [List.length_append, List.length_append]
  have : (((pcs l).take j).flatMap pcL).length ≤ ((pcs l).flatMap pcL).length := by
    conv => rhs; rw [← List.take_append_drop j (pcs l), List.flatMap_append, List.length_append]
    omega
  omega
theorem piece_in (l : List Smp) {j : Nat} (h : j < nPc l) : pieceL l j ∈ pcs l := by
  unfold pcs
  exact List.mem_map.2 ⟨j, List.mem_range.2 h, rfl⟩
/-- What Write tells. -/
def WrTold (w : World) (S : List Ser) (e : Ending) (w' : World) : Prop :=
  Below w.heap.size w w' ∧ ((blChk S ≠ 0 ∧ e = .returned (.tuple #[.slice none 0 0, .int .i64 (blChk S)])) ∨ (blChk S = 0 ∧ ∃ v, e = .returned (.tuple #[v, .int .i64 0]) ∧ Own w' w.heap.size v (blL S)))
theorem pcsat_keep {base n₀ : Nat} {W W' : World} {l : List Smp} {v : Value} {vs : List Value} {pre : List Nat} (h : PcsAt W n₀ l v vs pre) (hk : KeepU base W W') : PcsAt W' n₀ l v vs pre :=
  h.move fun g t cs _ hr ht => hk.2 g t cs hr (by rcases ht with rfl | rfl <;> decide)
set_option maxHeartbeats 8000000 in
theorem write_prog (A : Option Addr) (S : List Ser) (c : Nat) (w : World) (hA : Sers w A S) (hf : ∀ s ∈ S, SerFit s) (hl : S.length * 48 ≤ 140737488351232) (hlc : S.length ≤ c) :
    Calls Tryz.prog 11 #[.slice A S.length c] w (WrTold w S) := by
  have HI := Lib.hid (indexed_prog A S c w hA hf hl hlc)
  have HA := Lib.hid hA
  have HF := Lib.hid hf
  obtain ⟨n, hn⟩ : ∃ n, S.length = n := ⟨_, rfl⟩
  have HN := Lib.hid hn
  rw [hn] at HI hl hlc ⊢
  clear hA hf hn
  go_enter Tryz.func11, Tryz.ntmps11
  go_wp2_with fail
  refine HI.out.mono ?_
  rintro e w2 ⟨hb2, ⟨h1, rfl⟩ | ⟨hz, X, B, rfl, hB, hI⟩⟩
  · have HB2 := Lib.hid hb2
    have H1 := Lib.hid h1
    obtain ⟨E, hE⟩ : ∃ E, blChk S = E := ⟨_, rfl⟩
    rw [hE] at h1 ⊢
    have q3 : (E != 0) = true := bne_iff_ne.2 h1
    have HE := Lib.hid hE
    clear hb2 h1 hE
    go_wp2_with fail
    go_ret2
    exact ⟨HB2.out, .inl ⟨H1.out, by rw [HE.out] <;> rfl⟩⟩
  · obtain ⟨z1, z2, z3, z4⟩ := blChk_zero.1 hz
    have hfl := front_len hz
    have hix := bytes_len z3
    have hb3 := below_one w2 (.cells #[.int .u8 71, .int .u8 66, .int .u8 75, .int .u8 49] 5 (4, 5))
    have HBY := Lib.hid (bytes_prog X (blSets S) B _ (hI.below hb3) z3)
    have HB2 := Lib.hid hb2
    have HM := Lib.hid (show OwnMk (w2.alloc (.cells #[.int .u8 71, .int .u8 66, .int .u8 75, .int .u8 49] 5 (4, 5))) w.heap.size (.slice (some ⟨w2.heap.size, 0, none⟩) 4 4) [71, 66, 75, 49] from ⟨w2.heap.size, rfl, hb2.size, heap_alloc_new w2 _⟩)
    have HB3 := Lib.hid (hb2.alloc hb2.size (.cells #[.int .u8 71, .int .u8 66, .int .u8 75, .int .u8 49] 5 (4, 5)))
    have hcv := Go.Lib.run_convert_bytes_const (P := Tryz.prog) w2 24 5 #[.int .u8 71, .int .u8 66, .int .u8 75, .int .u8 49] 4 4 Tryz.underlying24 Tryz.underlying5
    have HZ := Lib.hid hz
    have HZ4 := Lib.hid z4
    clear hb2 hb3 hI hB
    go_wp2_with fail
    refine HBY.out.mono ?_
    rintro e w4 ⟨v4, rfl, ho4, hb4⟩
    obtain ⟨P4, d4, hv4, hP4, hg4⟩ := own_slice' ho4
    have HPC := Lib.hid (putcntM_prog (HM.out.below hb4) (Nat.le_trans HB3.out.size hb4.size) (by simp) P4 (ixBytes (blSets S)) d4 hP4 (by omega))
    have HB4 := Lib.hid (HB3.out.trans (hb4.mono HB3.out.size))
    have HP0 := Lib.hid (show preB S 0 = [71, 66, 75, 49] ++ cntL (ixBytes (blSets S)) by simp [preB, magL])
    subst hv4
    generalize (ixBytes (blSets S)).length = xl at *
    clear ho4 hb4 hP4 hg4 HBY HM HB3
    go_wp2_with fail
    refine HPC.out.mono ?_
    rintro e w5 ⟨v5, rfl, ho5, hk5⟩
    have HB5 := Lib.hid (HB4.out.trans hk5)
    have HO5 := Lib.hid (show Own w5 w.heap.size v5 (preB S 0) by rw [HP0.out]; exact ho5)
    obtain ⟨P5, d5, hv5, _, _⟩ := own_slice' ho5
    generalize ([71, 66, 75, 49] ++ cntL (ixBytes (blSets S))).length = l5 at hv5
    subst hv5
    clear ho5 hk5 HPC
    have HLE := Lib.hid (fun k => Nat.le_trans (preB_le S k) hfl)
    have HNX := Lib.hid (fun k (hk : k < n) => preB_next S (k := k) (by rw [HN.out]; exact hk))
    go_wp2_with fail
    go_loopw [6, 29] (fun b i wr => ∃ k : Nat, k ≤ n ∧ i = .int .i64 (k : Int) ∧ Own wr w.heap.size b (preB S k) ∧ Below w.heap.size w wr) (fun _ i _ => n - (intOf i).toNat)
    case atStart => exact ⟨0, Nat.zero_le _, rfl, HO5.out, HB5.out⟩
    case round =>
      obtain ⟨k, hk, rfl, hown, hbr⟩ := hrel
      have HO := Lib.hid hown
      have HB := Lib.hid hbr
      have HPL := Lib.hid (HLE.out k)
      obtain ⟨P6, d6, hv6, hP6, _⟩ := own_slice' hown
      subst hv6
      by_cases hlt : k < n
      · obtain ⟨b, o, rfl, hb, hat⟩ := HA.out.all (by rw [HN.out]; omega)
        obtain ⟨mm, hsa⟩ := hat k (by rw [HN.out]; exact hlt)
        have hmem : S.getD k ser0 ∈ S := ser_at (S := S) (i := k) (by rw [HN.out]; exact hlt)
        have hs := HF.out _ hmem
        have hsl := hs.sl
        obtain ⟨hne, hgood⟩ := HZ4.out _ hmem
        obtain ⟨g0, g1, hin⟩ := hsa.below hbr hb
        have i1 : decide ((k : Int) < (n : Int)) = true := decide_eq_true (by omega)
        have i2 : (k : Int) < (n : Int) := by omega
        have HNK := Lib.hid (HNX.out k hlt)
        have HLK := Lib.hid (HLE.out (k + 1))
        have HBX := Lib.hid (hbr.alloc hbr.size (.cells #[.slice mm.la (S.getD k ser0).1.length mm.lc, .slice mm.sa (S.getD k ser0).2.length mm.sc] 65))
        have HOX := Lib.hid (own_alloc hown (.cells #[.slice mm.la (S.getD k ser0).1.length mm.lc, .slice mm.sa (S.getD k ser0).2.length mm.sc] 65))
        have HCU := Lib.hid (cut_prog mm.sa (S.getD k ser0).2 mm.sc _ (hin.samples.below (below_one wr (.cells #[.slice mm.la (S.getD k ser0).1.length mm.lc, .slice mm.sa (S.getD k ser0).2.length mm.sc] 65))) hs.sl hin.sc)
        generalize (S.getD k ser0).1.length = l1 at *
        generalize (S.getD k ser0).2 = l at *
        have hN1 : (l.length + 119) / 120 = nPc l := rfl
        have hN2 : nPc l ≤ 10000000000000 := by have := nPc_le l; omega
        have HGD := Lib.hid hgood
        have HPN := Lib.hid (fun j (hj : j < nPc l) => preP_next l hj)
        have HPE := Lib.hid (fun j => preP_le l j)
        rw [hN1] at HCU
        generalize hl2 : l.length = l2 at *
        clear hsa hat hs hin hown hbr hP6 hmem hgood hne hl2 hN1
        obtain ⟨L6, hL6⟩ : ∃ L6, (preB S k).length = L6 := ⟨_, rfl⟩
        have HL6 := Lib.hid hL6
        rw [hL6] at HO HOX ⊢
        clear hL6
        go_wp2_with fail
        obtain ⟨n₀, hn₀⟩ : ∃ n₀, (wr.alloc (.cells #[.slice mm.la l1 mm.lc, .slice mm.sa l2 mm.sc] 65)).heap.size = n₀ := ⟨_, rfl⟩
        have HN0 := Lib.hid hn₀
        rw [hn₀] at HCU
        clear hn₀
        refine HCU.out.mono ?_
        rintro e w7 ⟨v7, vs, rfl, hpc, hb7⟩
        obtain ⟨P7, c7, hv7, _⟩ := rows_slice hpc.1
        rw [List.length_range] at hv7
        subst hv7
        have HPC := Lib.hid hpc
        rw [← HN0.out] at hb7
        have HB7 := Lib.hid (HBX.out.trans (hb7.mono HBX.out.size))
        have HPU := Lib.hid (putnum_prog (own_below HOX.out hb7) HB7.out.size (by have := HPL.out; omega) (nPc l) (by omega))
        clear hpc hb7 HCU
        go_wp2_with fail
        refine HPU.out.mono ?_
        rintro e w8 ⟨v8, rfl, ho8, hk8, _⟩
        have HO8 := Lib.hid (show Own w8 w.heap.size v8 (preB S k ++ preP l 0) by rw [preP_zero]; exact ho8)
        have HPC8 := Lib.hid (pcsat_keep HPC.out hk8)
        have HB8 := Lib.hid (HB7.out.trans hk8.1)
        obtain ⟨P8, c8, hv8, _, _⟩ := own_slice' ho8
        generalize (preB S k ++ uintL (nPc l)).length = L8 at hv8
        subst hv8
        clear ho8 hk8 HPU HPC
        go_wp2_with fail
        go_loopw [6, 42] (fun b i wr => ∃ j : Nat, j ≤ nPc l ∧ i = .int .i64 (j : Int) ∧ Own wr w.heap.size b (preB S k ++ preP l j) ∧ PcsAt wr n₀ l (.slice P7 (nPc l) c7) vs (List.range (nPc l)) ∧ Below w.heap.size w wr) (fun _ i _ => nPc l - (intOf i).toNat)
        case atStart => exact ⟨0, Nat.zero_le _, rfl, HO8.out, HPC8.out, HB8.out⟩
        case round =>
          obtain ⟨j, hj, rfl, hown2, hpc2, hbr2⟩ := hrel
          have HP2 := Lib.hid hpc2
          have HB2 := Lib.hid hbr2
          obtain ⟨P9, d9, hv9, -, -⟩ := own_slice' hown2
          subst hv9
          have hpe := HPE.out j
          have hlk := HLK.out
          have hnk := HNK.out
          rw [hnk, List.length_append] at hlk
          have hlen9 : (preB S k ++ preP l j).length ≤ 300000000 := by rw [List.length_append]; omega
          have HL9 := Lib.hid hlen9
          clear hpe hlk hnk
          by_cases hjl : j < nPc l
          · have i3 : decide ((j : Int) < ((nPc l : Nat) : Int)) = true := decide_eq_true (by omega)
            have i4 : (j : Int) < ((nPc l : Nat) : Int) := by omega
            obtain ⟨Pr, cr, hvr, _, hatr, _⟩ := rows_slice hpc2.1
            obtain ⟨rfl, hr0, rfl⟩ := Value.slice.inj hvr
            have hvl : vs.length = nPc l := by have := hpc2.1.1; rw [List.length_range] at this; omega
            rcases hatr with h | ⟨b7, o7, rfl, hb7', hc7⟩
            · rw [h] at hvl; simp at hvl; omega
            have hO := hpc2.2 j (by rw [List.length_range]; exact hjl)
            rw [show (List.range (nPc l)).getD j 0 = j by simp [List.getD_eq_getElem?_getD, hjl]] at hO
            obtain ⟨Pp, cp, hvp, _, hSp, _⟩ := owns_slice hO
            have y0 := hc7 j (.slice Pp (pieceL l j).length cp) (by rw [← hvp, List.getD_eq_getElem?_getD, List.getElem?_eq_getElem (show j < vs.length by omega)]; rfl)
            have hck : chk (pieceL l j) = 0 := pcs_chk HGD.out (piece_in l hjl)
            have HEN := Lib.hid (encode_prog Pp (pieceL l j) cp wr hSp (by have := (chk_zero.1 hck).2.1; omega))
            rw [hck, if_pos rfl] at HEN
            have HEF := Lib.hid (enc_few hck)
            have HST := Lib.hid (HPN.out j hjl)
            have HJ := Lib.hid (show j + 1 ≤ nPc l from hjl)
            have HO2 := Lib.hid hown2
            obtain ⟨L9, hL9⟩ : ∃ L9, (preB S k ++ preP l j).length = L9 := ⟨_, rfl⟩
            rw [hL9] at HO2 ⊢
            have HQ9 := Lib.hid hL9
            generalize pieceL l j = q at *
            generalize q.length = ql at *
            clear hown2 hpc2 hbr2 hvr hr0 hvl hc7 hO hvp hSp hck hL9 hlen9
            go_wp2_with fail
            refine HEN.out.mono ?_
            rintro e w9 ⟨v9, rfl, ho9, hb9⟩
            obtain ⟨P10, d10, hv10, hP10, hg10⟩ := own_slice' ho9
            subst hv10
            have HPU2 := Lib.hid (putcnt_prog (own_below HO2.out hb9) (Nat.le_trans HB2.out.size hb9.size) (by have := HL9.out; omega) P10 (encL q) d10 hP10 (by have := HEF.out; omega) (fun ad e h => by
              have h1 := hg10 ad e
              have h2 := (World.ownsRow.lt HO2.out _ h.symm).2
              omega))
            have HP9 := Lib.hid (HP2.out.below hb9)
            have HB9 := Lib.hid (HB2.out.trans (hb9.mono HB2.out.size))
            generalize (encL q).length = eq at *
            clear ho9 hb9 hP10 hg10 HEN
            go_wp2_with fail
            refine HPU2.out.mono ?_
            rintro e w11 ⟨v11, rfl, ho11, hk11⟩
            have HO11 := Lib.hid (show Own w11 w.heap.size v11 (preB S k ++ preP l (j + 1)) by rw [HST.out, ← List.append_assoc]; exact ho11)
            have HP11 := Lib.hid (pcsat_keep HP9.out hk11)
            have HB11 := Lib.hid (HB9.out.trans hk11.1)
            obtain ⟨P11, d11, hv11, -, -⟩ := own_slice' ho11
            generalize (preB S k ++ preP l j ++ cntL (encL q)).length = L11 at hv11
            subst hv11
            clear ho11 hk11 HPU2
            go_wp2_with fail
            go_roundw
            case rel => exact ⟨j + 1, HJ.out, by go_num, HO11.out, HP11.out, HB11.out⟩
            case measure => simp [intOf]; omega
          · have i3 : decide ((j : Int) < ((nPc l : Nat) : Int)) = false := decide_eq_false (by omega)
            have i4 : ¬ (j : Int) < ((nPc l : Nat) : Int) := by omega
            have HO2 := Lib.hid (show Own wr w.heap.size (.slice P9 (preB S k ++ preP l j).length d9) (preB S (k + 1)) by
              rw [HNK.out, ← preP_end l, show nPc l = j by omega]
              exact hown2)
            have HK1 := Lib.hid (show k + 1 ≤ n from hlt)
            generalize (preB S k ++ preP l j).length = L9 at *
            clear hown2 hpc2 hbr2 hlen9
            go_wp2_with fail
            go_roundw
            case rel => exact ⟨k + 1, HK1.out, by go_num, HO2.out, HB2.out⟩
            case measure => simp [intOf]; omega
      · have i1 : decide ((k : Int) < (n : Int)) = false := decide_eq_false (by omega)
        have i2 : ¬ (k : Int) < (n : Int) := by omega
        have hkn : k = S.length := by rw [HN.out]; omega
        have hpe := preB_end S
        rw [← hkn] at hpe
        rw [hpe] at hP6 HO ⊢
        have HSM := Lib.hid (blsum_prog P6 (frontL S) d6 wr hP6 (by omega))
        have hfl2 := hfl
        obtain ⟨L6, hL6⟩ : ∃ L6, (frontL S).length = L6 := ⟨_, rfl⟩
        have HL6 := Lib.hid hL6
        rw [hL6] at HSM HO hfl2 ⊢
        have HF2 := Lib.hid hfl2
        clear hown hbr hP6 hpe hkn hL6 hfl hfl2
        go_wp2_with fail
        refine HSM.out.mono ?_
        rintro e w7 ⟨v7, rfl, ho7, hb7⟩
        obtain ⟨P7, d7, hv7, hP7, _⟩ := own_slice' ho7
        change v7 = .slice P7 4 d7 at hv7
        subst hv7
        have HO7 := Lib.hid (own_below HO.out hb7)
        have HB7 := Lib.hid (HB.out.trans (hb7.mono HB.out.size))
        have HP7 := Lib.hid hP7
        clear ho7 hb7 hP7 HSM
        go_wp2_with (at_builtin; refine app_u8 rfl (.tmp 56) (.tmp 58) rfl w.heap.size (.slice P6 L6 d6) (frontL S) rfl HO7.out P7 (le4 (sumN (frontL S))) d7 rfl HP7.out (by have := HF2.out; have := HL6.out; rw [le4_len]; omega) HB7.out.size ?_; intro v8 w8 ho8 hb8 hg8; have HO8 := Lib.hid (show Own w8 w.heap.size v8 (blL S) from ho8); have HB8 := Lib.hid (HB7.out.trans hb8); obtain ⟨P8, d8, hv8, -, -⟩ := own_slice' ho8; generalize (frontL S ++ le4 (sumN (frontL S))).length = L8 at hv8; subst hv8; clear ho8 hb8 hg8)
        go_ret2
        exact ⟨HB8.out, .inr ⟨HZ.out, _, rfl, HO8.out⟩⟩
end Go.Proofs.YtgdmcnoogacdaaaGreatDoor
