/- The values of a name part the sets: a walk of the law. -/
import Derived.Test.YtojlcipphnegaaaGreatIxPartsM
import Derived.Test.YtojlcipphnegaaaGreatIxBothWalk
import Derived.Test.YtojlcipphnegaaaGreatIxTold
namespace Go.Proofs.YtojlcipphnegaaaGreat
open Go.RowKit Go.Maps
set_option linter.unusedVariables false
/-- Since w1 nothing that stood has turned; of what stood in w3 block G alone. -/
def PartR (w1 w3 : World) (G : Nat) (wr : World) : Prop := Below w1.heap.size w1 wr ∧ (∀ k, k < w3.heap.size → k ≠ G → wr.heap[k]? = w3.heap[k]?) ∧ w3.heap.size ≤ wr.heap.size
theorem pr_below {w1 w3 : World} {G : Nat} {a b : World} (h : PartR w1 w3 G a) (hb : Below a.heap.size a b) : PartR w1 w3 G b :=
  ⟨h.1.trans (hb.mono h.1.size), fun k hk hg => (hb.block k (Nat.lt_of_lt_of_le hk h.2.2)).trans (h.2.1 k hk hg), Nat.le_trans h.2.2 hb.size⟩
theorem pr_set {w1 w3 : World} {G : Nat} {a : World} (h : PartR w1 w3 G a) (hG : w1.heap.size ≤ G) (i : Nat) (v : Value) : PartR w1 w3 G (a.setCell ⟨G, i, none⟩ v) :=
  ⟨Below.setCell h.1 (p := ⟨G, i, none⟩) hG v, fun k hk hg => (Below.heap_setCell a ⟨G, i, none⟩ v k hg).trans (h.2.1 k hk hg), by simpa [World.setCell] using h.2.2⟩
theorem pr_tx {w1 w3 : World} {G b n c : Nat} {a : World} {P : Option Addr} {ts : List ByteArray} (h : PartR w1 w3 G a) (ho : OwnTx w3 b (.slice P n c) ts) (hb : G < b) : Tx a P ts :=
  owntx_tx (show OwnTx a b (.slice P n c) ts from rows_move ho fun k hk => h.2.1 k (World.ownsRow.lt ho k hk).2 (by have := (World.ownsRow.lt ho k hk).1; omega))
theorem ownz_apart {w : World} {G i b : Nat} {u v : Value} {l : List Int} (h : OwnZ w b v l) (hb : G < b) : OwnZ (w.setCell ⟨G, i, none⟩ u) b v l :=
  rows_move h fun k hk => Below.heap_setCell w ⟨G, i, none⟩ u k (by have := (World.ownsRow.lt h k hk).1; show k ≠ G; omega)
theorem ownz_zi {w : World} {b n c : Nat} {P : Option Addr} {l : List Int} (h : OwnZ w b (.slice P n c) l) : Zi w P l := by
  obtain ⟨P', c', e, _, hz, _⟩ := ownz_slice h
  obtain ⟨rfl, _, rfl⟩ := Value.slice.inj e
  exact hz
theorem find_gone {w w' : World} {ss : List (List Lbl)} {ms : List Mt} {L : List Int} {e : Ending} (h : FindTold w ss ms e w') (h0 : mchkAll ms = 0) (hL : findL ss ms = L) : ∃ u, e = .returned (.tuple #[u, .int .i64 0]) ∧ OwnZ w' w.heap.size u L ∧ Below w.heap.size w w' := by
  unfold FindTold at h
  rw [h0, if_pos rfl, hL] at h
  exact h
theorem ownz_cell {w : World} {G n c i : Nat} {l : List Int} (h : OwnZ w G (.slice (some ⟨G, 0, none⟩) n c) l) (hl : l.length = n) (hi : i < n) : w.cell? ⟨G, i, none⟩ = some (.int .i64 (l.getD i 0)) ∧ w.frozen? ⟨G, i, none⟩ = false ∧ ∀ x, OwnZ (w.setCell ⟨G, i, none⟩ (.int .i64 x)) G (.slice (some ⟨G, 0, none⟩) n c) (l.set i x) := by
  subst hl
  obtain ⟨g, cap, hv, _, _, _, hfz, hcell⟩ := ownz_form h (by omega)
  injection hv with hv1 _ hv3
  injection hv1 with hv1
  injection hv1 with hv1 _ _
  subst hv1
  refine ⟨hcell i hi, hfz i, fun x => ?_⟩
  have := ownz_set h hi x
  rwa [List.length_set] at this
set_option maxHeartbeats 8000000 in
set_option maxRecDepth 100000 in
theorem indexParts_walk (w : World) (V : Option Addr) (ss : List (List Lbl)) (cs : Nat) (hV : Sets w V ss) (hL : ∀ l ∈ ss, LFits l ∧ l.length * 32 ≤ 140737488351232) (hR : ss.length * 24 ≤ 140737488351232) (hC : ss.length ≤ cs)
    (name : ByteArray) (hs : name.size ≤ reachBytes) :
    Calls Tryz.prog 6 #[.slice V ss.length cs, .string name] w fun e w' => e = .returned (.bool true) ∧ Below w.heap.size w w' := by
  have HLV := Lib.hid (fun x => ixLives_true x)
  have hll : ∀ i, (ss.getD i []).length ≤ 100000000000000 := by
    intro i
    rcases Nat.lt_or_ge i ss.length with h | h
    · have := (hL _ (ss_at h)).2
      omega
    · rw [List.getD_eq_getElem?_getD, List.getElem?_eq_none h]
      exact Nat.zero_le _
  have HN := Lib.hid (new_prog V ss cs w hV (by omega) hll)
  by_cases hz : ixChk ss = 0
  · obtain ⟨h256, _, hrr⟩ := ixChk_right hz
    have HNY := Lib.hid (HN.out.mono fun e w' h => new_yes hz h)
    have HVL := Lib.hid (fun X bs x (h : IdxAt x bs X ss) => values_prog X ss bs name x h hz)
    have HF := Lib.hid (fun X bs (x : World) (hI : IdxAt x bs X ss) P v (hP : Mts x P [(1, name, v)]) => find_prog X ss bs P [(1, name, v)] 1 x hI hz hP (by simp) (by simp))
    have HV := Lib.hid (fun x (h : Below w.heap.size w x) => hV.below h)
    have HPV := Lib.hid (fun k hk => parts_val hrr name (k := k) hk)
    have HPE := Lib.hid (fun q hq => seen_end ss name (q := q) hq)
    have HP0 := Lib.hid (seen_none ss name)
    have HSL := Lib.hid (fun vs L => seen_len ss name vs L)
    have HLL := Lib.hid hll
    have H256 := Lib.hid h256
    have HMK := Lib.hid (fun x => make_ids ss.length (by omega) x)
    have HVN := Lib.hid (values_len ss name)
    clear hV hL hR hC hll hz hs HN hrr h256
    generalize ixValues ss name = vs at *
    go_enter Tryz.func6, Tryz.ntmps6
    go_wp2_with fail
    refine HNY.out.mono ?_
    rintro e w1 ⟨X, rfl, hI1, hb1⟩
    have HI1 := Lib.hid hI1
    have HB1 := Lib.hid hb1
    have hmk := HMK.out w1
    have hBm := below_one w1 (.cells ((List.replicate ss.length (0 : Int)).flatMap intE).toArray 3)
    have hOm := ownz_made (Row.new w1 3 ((List.replicate ss.length (0 : Int)).flatMap intE).toArray) (Nat.le_refl _) (by rw [List.length_replicate]; have := H256.out; omega)
    rw [List.length_replicate] at hOm
    rw [HP0.out] at hOm hBm hmk
    have HBM := Lib.hid hBm
    have HOM := Lib.hid hOm
    have HIM := Lib.hid (HI1.out.below hBm)
    have hs2 : (w1.alloc (.cells ((seenI ss name [] []).flatMap intE).toArray 3)).heap.size = w1.heap.size + 1 := by simp
    have HS2 := Lib.hid hs2
    clear hI1 hb1 hBm hOm HMK hs2
    go_wp2_with fail
    clear hmk
    generalize w1.alloc (.cells ((seenI ss name [] []).flatMap intE).toArray 3) = w2 at *
    refine (HVL.out _ _ _ HIM.out).mono ?_
    rintro e w3 ⟨v3, rfl, ho3, hb3⟩
    obtain ⟨P3, c3, rfl, _⟩ := rows_slice ho3
    have HO3 := Lib.hid ho3
    have HPR3 := Lib.hid (show PartR w1 w3 w1.heap.size w3 from ⟨below_then HBM.out hb3, fun k _ _ => rfl, Nat.le_refl _⟩)
    have HOM3 := Lib.hid (ownz_below HOM.out hb3)
    have HS3 := Lib.hid (show w1.heap.size + 1 ≤ w3.heap.size by have := HS2.out; have := hb3.size; omega)
    have HS2' := Lib.hid (show w1.heap.size < w2.heap.size by have := HS2.out; omega)
    clear ho3 hb3 HOM HIM HBM HVL
    obtain ⟨G, hG⟩ : ∃ G, w1.heap.size = G := ⟨_, rfl⟩
    have HG := Lib.hid hG
    rw [hG] at HPR3 HOM3 HS3 HS2' ⊢
    clear hG
    have n1 : vs.length ≤ 256 := Nat.le_trans HVN.out H256.out
    have n2 : ss.length ≤ 256 := H256.out
    go_wp2_with fail
    go_loopw [9] (fun i wr => ∃ k : Nat, k ≤ vs.length ∧ i = .int .i64 (k : Int) ∧ PartR w1 w3 G wr ∧ OwnZ wr G (.slice (some ⟨G, 0, none⟩) ss.length ss.length) (seenI ss name (vs.take k) [])) (fun i _ => vs.length - (intOf i).toNat)
    case atStart => exact ⟨0, Nat.zero_le _, rfl, HPR3.out, by rw [List.take_zero]; exact HOM3.out⟩
    case round =>
      obtain ⟨k, hk, rfl, hPR, hO⟩ := hrel
      by_cases hlt : k < vs.length
      · obtain ⟨v, L, hv, hL, hm0, hpos, hLn, hsn, hst⟩ := HPV.out k hlt
        obtain ⟨b1, o1, rfl, hb1, g0⟩ := (pr_tx hPR HO3.out HS2'.out).at_ hlt
        have g1 : wr.cell? ⟨b1, o1 + k, none⟩ = some (.string v) := by rw [← hv]; exact g0
        have i1 : (k : Int) < (vs.length : Int) := by omega
        have HFX := Lib.hid ((HF.out X _ _ ((HI1.out.below hPR.1).below (below_one wr _)) (some ⟨wr.heap.size, 0, none⟩) v (mts_one (Row.new wr 54 #[.int .i64 1, .string name, .string v]))).mono fun e w' h => find_gone h hm0 hL)
        have HPR := Lib.hid hPR
        have HO := Lib.hid hO
        have HSN := Lib.hid hsn
        have HST := Lib.hid hst
        have HGS := Lib.hid (show G < wr.heap.size by have := HS3.out; have := hPR.2.2; omega)
        have n3 : L.length ≤ 256 := by omega
        have i2 : ((L.length : Int) == 0) = false := beq_eq_false_iff_ne.2 (by omega)
        clear hPR hO hv hL hm0 hLn hsn hst g0 hpos
        go_wp2_with fail
        refine HFX.out.mono ?_
        rintro e w4 ⟨u, rfl, ho4, hb4⟩
        obtain ⟨P4, c4, rfl, _⟩ := ownz_slice ho4
        have hb : Below wr.heap.size wr w4 := ((Below.refl _ wr).alloc (Nat.le_refl _) _).trans (hb4.mono (by simp))
        have HPR4 := Lib.hid (pr_below HPR.out hb)
        have HO4 := Lib.hid (ownz_below HO.out hb)
        have HL4 := Lib.hid (ownz_lower ho4 (show G + 1 ≤ (wr.alloc (.cells #[.int .i64 1, .string name, .string v] 54)).heap.size by have := HGS.out; simp; omega))
        clear ho4 hb4 hb HFX HO HPR g1
        go_wp2_with fail
        go_loopw [12] (fun i wr => ∃ j : Nat, j ≤ L.length ∧ i = .int .i64 (j : Int) ∧ PartR w1 w3 G wr ∧ OwnZ wr G (.slice (some ⟨G, 0, none⟩) ss.length ss.length) (seenI ss name (vs.take k) (L.take j)) ∧ OwnZ wr (G + 1) (.slice P4 L.length c4) L) (fun i _ => L.length - (intOf i).toNat)
        case atStart => exact ⟨0, Nat.zero_le _, rfl, HPR4.out, by rw [List.take_zero]; exact HO4.out, HL4.out⟩
        case round =>
          obtain ⟨j, hj, rfl, hPR5, hO5, hL5⟩ := hrel
          by_cases hlt2 : j < L.length
          · obtain ⟨q, hq1, hq2, hs0, hset⟩ := HST.out j hlt2
            obtain ⟨b2, o2, rfl, hb2, g2⟩ := (ownz_zi hL5).at_ hlt2
            rw [hq1] at g2
            obtain ⟨c0, f0, hst5⟩ := ownz_cell hO5 (HSL.out _ _) hq2
            rw [hs0] at c0
            have hO6 := hst5 1
            rw [hset] at hO6
            have HO6 := Lib.hid hO6
            have HL6 := Lib.hid (ownz_apart (i := q) (u := .int .i64 1) hL5 (Nat.lt_succ_self G))
            have HPR6 := Lib.hid (pr_set hPR5 (by have := HG.out; omega) q (.int .i64 1))
            have i3 : decide ((q : Int) < 0) = false := decide_eq_false (by omega)
            have i4 : decide ((ss.length : Int) ≤ (q : Int)) = false := decide_eq_false (by omega)
            have i5 : decide ((q : Int) ≥ (ss.length : Int)) = false := decide_eq_false (by omega)
            have i6 : (q : Int) < (ss.length : Int) := by omega
            have i7 : (j : Int) < (L.length : Int) := by omega
            clear hPR5 hO5 hL5 hst5 hO6 hs0 hset hq1
            go_wp2_with fail
            go_roundw
            case rel => exact ⟨j + 1, hlt2, by go_num, HPR6.out, HO6.out, HL6.out⟩
            case measure => simp [intOf]; omega
          · obtain rfl : j = L.length := by omega
            rw [List.take_length, HSN.out] at hO5
            have HPR6 := Lib.hid hPR5
            have HO6 := Lib.hid hO5
            clear hPR5 hO5 hL5
            go_wp2_with fail
            go_roundw
            case rel => exact ⟨k + 1, hlt, by go_num, HPR6.out, HO6.out⟩
            case measure => simp [intOf]; omega
      · obtain rfl : k = vs.length := by omega
        rw [List.take_length] at hO
        have HPR4 := Lib.hid hPR
        have HO4 := Lib.hid hO
        clear hPR hO
        go_wp2_with fail
        go_loopw [13] (fun i wr => ∃ q : Nat, q ≤ ss.length ∧ i = .int .i64 (q : Int) ∧ PartR w1 w3 G wr ∧ OwnZ wr G (.slice (some ⟨G, 0, none⟩) ss.length ss.length) (seenI ss name vs [])) (fun i _ => ss.length - (intOf i).toNat)
        case atStart => exact ⟨0, Nat.zero_le _, rfl, HPR4.out, HO4.out⟩
        case round =>
          obtain ⟨q, hq, rfl, hPR5, hO5⟩ := hrel
          by_cases hlt2 : q < ss.length
          · obtain ⟨b1, o1, A1, c1, rfl, hb1, g0, hL1, hlc1⟩ := (HV.out _ (below_then HB1.out hPR5.1)).at_ hlt2
            obtain ⟨c0, _, _⟩ := ownz_cell hO5 (HSL.out _ _) hlt2
            rw [HPE.out q hlt2] at c0
            have i1 : (q : Int) < (ss.length : Int) := by omega
            have HPR6 := Lib.hid (show PartR w1 w3 G wr.drew from ⟨hPR5.1.drew, fun k h1 h2 => hPR5.2.1 k h1 h2, hPR5.2.2⟩)
            have HO6 := Lib.hid (show OwnZ wr.drew G (.slice (some ⟨G, 0, none⟩) ss.length ss.length) (seenI ss name vs []) from rows_move hO5 fun _ _ => rfl)
            have HLB := Lib.hid hL1
            have hlq := HLL.out q
            have hem := empty_sz (valOf (ss.getD q []) name)
            have HGT := Lib.hid (fun x (h : Lbls x A1 (ss.getD q [])) => getv_ref A1 (ss.getD q []) c1 name x h hlq)
            obtain ⟨nl, hnl⟩ : ∃ nl, (ss.getD q []).length = nl := ⟨_, rfl⟩
            rw [hnl] at g0 HGT
            clear hPR5 hO5 hL1 hlc1 hnl hlq
            generalize ss.getD q [] = l at *
            by_cases hvs : (valOf l name).size = 0
            · rw [if_neg (fun h => h hvs)] at c0
              have j1 : ((valOf l name).toList == []) = true := by rw [hem]; exact decide_eq_true hvs
              have j2 : ((valOf l name).toList != []) = false := by rw [bne, j1]; rfl
              generalize valOf l name = vl at *
              clear hvs hem
              go_upto_region 21 with fail
              have sD : wr.drew.cell? ⟨G, q, none⟩ = some (.int .i64 0) ∧ wr.drew.cell? ⟨b1, o1 + q, none⟩ = some (.slice A1 nl c1) := ⟨c0, g0⟩
              go_region_held3 (fun w' => w'.cell? ⟨G, q, none⟩ = some (.int .i64 0) ∧ w'.cell? ⟨b1, o1 + q, none⟩ = some (.slice A1 nl c1))
                (first | with_reducible assumption | go_keep)
                (first
                  | (go_at_call 23
                     refine (HGT.out _ (HLB.out.below (ix_drawn _ _ 1))).mono ?_
                     rintro e w6 ⟨rfl, rfl⟩))
              all_goals
                go_wp2_with fail
                go_roundw
                case rel => exact ⟨q + 1, hlt2, by go_num, HPR6.out, HO6.out⟩
                case measure => simp [intOf]; omega
            · rw [if_pos hvs] at c0
              have j1 : ((valOf l name).toList == []) = false := by rw [hem]; exact decide_eq_false hvs
              have j2 : ((valOf l name).toList != []) = true := by rw [bne, j1]; rfl
              generalize valOf l name = vl at *
              clear hvs hem
              go_upto_region 21 with fail
              have sD : wr.drew.cell? ⟨G, q, none⟩ = some (.int .i64 1) ∧ wr.drew.cell? ⟨b1, o1 + q, none⟩ = some (.slice A1 nl c1) := ⟨c0, g0⟩
              go_region_held3 (fun w' => w'.cell? ⟨G, q, none⟩ = some (.int .i64 1) ∧ w'.cell? ⟨b1, o1 + q, none⟩ = some (.slice A1 nl c1))
                (first | with_reducible assumption | go_keep)
                (first
                  | (go_at_call 23
                     refine (HGT.out _ (HLB.out.below (ix_drawn _ _ 1))).mono ?_
                     rintro e w6 ⟨rfl, rfl⟩))
              all_goals
                go_wp2_with fail
                go_roundw
                case rel => exact ⟨q + 1, hlt2, by go_num, HPR6.out, HO6.out⟩
                case measure => simp [intOf]; omega
          · have HBL := Lib.hid (below_then HB1.out hPR5.1)
            clear hPR5 hO5
            go_wp2_with fail
            refine (HLV.out _).mono ?_
            rintro e w5 ⟨rfl, hb5⟩
            have HB5 := Lib.hid (below_then HBL.out hb5)
            clear hb5
            go_wp2
            go_ret
            exact both_ret HB5.out
  · have j1 : (ixChk ss != 0) = true := bne_iff_ne.2 hz
    have HN' := Lib.hid (HN.out.mono fun e w' h => new_no hz h)
    clear hV hL hR hC hll hz hs HN
    generalize ixChk ss = E at *
    go_enter Tryz.func6, Tryz.ntmps6
    go_wp2_with fail
    refine HN'.out.mono ?_
    rintro e w1 ⟨rfl, hb1⟩
    have HB1 := Lib.hid hb1
    clear hb1
    go_wp2_with fail
    refine (HLV.out _).mono ?_
    rintro e w2 ⟨rfl, hb2⟩
    have HB2 := Lib.hid (below_then HB1.out hb2)
    clear hb2
    go_wp2
    go_ret
    exact both_ret HB2.out
end Go.Proofs.YtojlcipphnegaaaGreat
