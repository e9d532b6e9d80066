/- The walk of a law of layer 5: a chunk that is made sample by sample is the chunk of them all. -/
import Derived.Test.YtheaebkegncdlaaChAppend
namespace Go.Proofs.Ytheaebkegncdlaa
open Go.RowKit Go.Maps
set_option linter.unusedVariables false

theorem take_good {l : List Smp} (h : Good l) (k : Nat) : Good (l.take k) := by
  intro i hi
  rw [List.length_take] at hi
  have := h i (by omega)
  unfold tOf at this ⊢
  rw [getD_in (l.take k) _ (by rw [List.length_take]; omega), List.getElem_take]
  rw [getD_in l _ (by omega)] at this
  refine ⟨this.1, fun h0 => ?_⟩
  have h3 := this.2 h0
  rw [getD_in (l.take k) _ (by rw [List.length_take]; omega), List.getElem_take]
  rw [getD_in l _ (by omega)] at h3
  exact h3
theorem take_chk {l : List Smp} (h : chk l = 0) {k : Nat} (hk : 0 < k) : chk (l.take k) = 0 := by
  obtain ⟨h1, h2, h3⟩ := chk_zero.1 h
  exact chk_zero.2 ⟨by rw [List.length_take]; omega, by rw [List.length_take]; omega, take_good h3 k⟩
theorem take_next {l : List Smp} {k : Nat} (hk : k < l.length) : l.take (k + 1) = l.take k ++ [(tOf l k, vOf l k)] := by
  rw [List.take_succ_eq_append_getElem hk]
  unfold tOf vOf
  rw [getD_in _ _ hk]

theorem chunkGrows_walk (w : World) (A : Option Addr) (l : List Smp) (c : Nat) (hA : Smps w A l) (hfit : Fits l) (hl : l.length * 16 ≤ 140737488351232) (hlc : l.length ≤ c) :
    Calls Try.prog 8 #[.slice A l.length c] w fun e w' => e = .returned (.bool true) ∧ Below w.heap.size w w' := by
  have HA := Lib.hid (fun W (hW : Below w.heap.size w W) => hA.below hW)
  have HEP := Lib.hid (encode_prog A l c w hA (by omega))
  by_cases h0 : chk l = 0
  · rw [if_pos h0, h0] at HEP
    obtain ⟨l0, l1, hg⟩ := chk_zero.1 h0
    obtain ⟨b, o, rfl, hb, hc⟩ := hA.all l0
    have Hc := Lib.hid (fun W (hW : Below w.heap.size w W) i hi => (⟨(hW.cell (p := ⟨b, o + i * 2, none⟩) hb).trans (hc i hi).1, (hW.cell (p := ⟨b, o + i * 2 + 1, none⟩) hb).trans (hc i hi).2⟩ : W.cell? ⟨b, o + i * 2, none⟩ = some (.int .i64 (tOf l i)) ∧ W.cell? ⟨b, o + i * 2 + 1, none⟩ = some (.int .i64 (vOf l i))))
    have h1len : (l.take 1).length = 1 := by rw [List.length_take]; omega
    have HE1 := Lib.hid (fun W (hW : Below w.heap.size w W) => by
      have := encode_prog (some ⟨b, o, none⟩) (l.take 1) c W ((HA.out W hW).front 1) (by omega)
      rw [take_chk h0 (by omega), if_pos rfl, h1len] at this
      exact this)
    have HAP := Lib.hid (fun (k : Nat) (hk0 : 0 < k) (hk : k < l.length) (V : Option Addr) (cc : Nat) (W : World) (hV : Bys W V (encL (l.take k))) => by
      have hk1 : (l.take k).length = k := by rw [List.length_take]; omega
      have := append_yes (w := W) (A := V) (b := encL (l.take k)) (c := cc) (l := l.take k) (tOf l k) (vOf l k) hV (by have := enc_few (take_chk h0 hk0); omega) (take_chk h0 hk0) rfl (by omega)
      rw [← take_next hk, take_chk h0 (by omega), if_pos rfl] at this
      exact this)
    have HFW := Lib.hid (fun k (hk : 0 < k) => enc_few (take_chk h0 hk))
    have q2 : ((txt (encL l)).toList == (txt (encL l)).toList) = true := beq_self_eq_true _
    have i1 : (1 : Int) ≤ (c : Int) := by omega
    have i2 : 1 ≤ c := by omega
    clear hA hfit h0 hc hg h1len
    go_enter Try.func8, Try.ntmps8
    go_wp2_with fail
    refine HEP.out.mono ?_
    rintro e w1 ⟨v1, rfl, hO1, hb1⟩
    obtain ⟨P1, c1, hv1, hB1, _⟩ := own_slice' hO1
    generalize hX : (encL l).length = nX at *
    have HX := Lib.hid hX
    subst hv1
    clear hO1 hX
    go_wp2_with fail
    refine (HE1.out _ hb1).mono ?_
    rintro e w2 ⟨v2, rfl, hO2, hb2⟩
    obtain ⟨P2, c2, hv2, hB2, _⟩ := own_slice' hO2
    have k2 := hb1.trans (hb2.mono hb1.size)
    have hB12 := hB1.below hb2
    have HB2 := Lib.hid hB2
    have HB12 := Lib.hid hB12
    have HK2 := Lib.hid k2
    have hl11 : (encL (l.take 1)).length = (encL (l.take 1)).length := rfl
    generalize hy : (encL (l.take 1)).length = ny at hv2
    have HY := Lib.hid hy
    subst hv2
    clear hO2 hb2 hB1 hy hl11 hB2 hB12 k2
    go_wp2_with fail
    go_loopw [5, 6, 7] (fun vb ve i wr => ∃ (k : Nat) (P : Option Addr) (cc : Nat), 1 ≤ k ∧ k ≤ l.length ∧ i = .int .i64 (k : Int) ∧ ve = .int .i64 0 ∧ vb = .slice P (encL (l.take k)).length cc ∧ Bys wr P (encL (l.take k)) ∧ Bys wr P1 (encL l) ∧ Below w.heap.size w wr) (fun _ _ i _ => l.length - (intOf i).toNat)
    case atStart => exact ⟨1, P2, c2, Nat.le_refl _, by omega, rfl, rfl, by rw [HY.out], HB2.out, HB12.out, HK2.out⟩
    case round =>
      clear HY HB2 HB12 HK2
      obtain ⟨k, P, cc, hk1, hk, rfl, rfl, rfl, hBr, hB1r, hbr⟩ := hrel
      by_cases hlt : k < l.length
      · obtain ⟨g0, g1⟩ := Hc.out wr hbr k hlt
        have i3 : (k : Int) < (l.length : Int) := by omega
        have HN := Lib.hid (HAP.out k (by omega) hlt P cc wr hBr)
        have HT := Lib.hid (show tOf l k = tOf l k from rfl)
        generalize tOf l k = T at *
        generalize vOf l k = V at *
        have HB1r := Lib.hid hB1r
        have HBR := Lib.hid hbr
        clear hBr hB1r hbr
        generalize (encL (l.take k)).length = nk at *
        go_wp2_with fail
        refine HN.out.mono ?_
        rintro e w3 ⟨v3, rfl, hO3, hb3⟩
        obtain ⟨P3, c3, hv3, hB3, _⟩ := own_slice' hO3
        have HB3 := Lib.hid hB3
        have HB13 := Lib.hid (HB1r.out.below hb3)
        have HK3 := Lib.hid (HBR.out.trans (hb3.mono HBR.out.size))
        generalize hy : (encL (l.take (k + 1))).length = ny3 at hv3
        have HY := Lib.hid hy
        subst hv3
        clear hy hO3 hb3 hB3
        go_wp2_with fail
        go_roundw
        case rel => exact ⟨k + 1, P3, c3, by omega, by omega, by go_num, rfl, by rw [HY.out], HB3.out, HB13.out, HK3.out⟩
        case measure => simp [intOf]; omega
      · obtain rfl : k = l.length := by omega
        rw [List.take_length] at hBr
        have x1 : (convert 24 9 (.slice P nX cc)).run Try.prog wr = .ok (.string (txt (encL l))) wr := by rw [← HX.out]; exact conv_bys _ _ _ _ hBr
        have x2 : (convert 24 9 (.slice P1 nX c1)).run Try.prog wr = .ok (.string (txt (encL l))) wr := by rw [← HX.out]; exact conv_bys _ _ _ _ hB1r
        have hTT : (encL (List.take l.length l)).length = nX := by rw [List.take_length]; exact HX.out
        have HBR := Lib.hid hbr
        rw [hTT]
        clear hBr hB1r hbr
        go_wp2_with fail
        refine (lives_true _).mono ?_
        rintro e w7 ⟨rfl, hb7⟩
        go_wp2_with fail
        go_ret
        exact ⟨rfl, HBR.out.trans (hb7.mono HBR.out.size)⟩
  · rw [if_neg h0] at HEP
    have hq : (chk l != 0) = true := by rw [bne_iff_ne]; exact h0
    generalize chk l = ck at *
    clear hA hfit h0
    go_enter Try.func8, Try.ntmps8
    go_wp2_with fail
    refine HEP.out.mono ?_
    rintro e w1 ⟨v1, rfl, hO1, hb1⟩
    obtain ⟨P1, c1, hv1, hB1, _⟩ := own_slice' hO1
    rw [List.length_nil] at hv1
    subst hv1
    clear hO1
    go_wp2_with fail
    refine (lives_true _).mono ?_
    rintro e w7 ⟨rfl, hb7⟩
    go_wp2_with fail
    go_ret
    exact ⟨rfl, hb1.trans (hb7.mono hb1.size)⟩
end Go.Proofs.Ytheaebkegncdlaa
