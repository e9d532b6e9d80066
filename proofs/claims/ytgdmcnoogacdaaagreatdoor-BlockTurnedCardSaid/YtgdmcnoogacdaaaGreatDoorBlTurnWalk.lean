/- A block of which bits in a row are turned is no block: BlockTurned's walk. -/
import Derived.Test.YtgdmcnoogacdaaaGreatDoorBlLives
import Derived.Test.YtgdmcnoogacdaaaGreatDoorBlTurnM
namespace Go.Proofs.YtgdmcnoogacdaaaGreatDoor
open Go.RowKit Go.Maps
open Ch
set_option linter.unusedVariables false
set_option linter.unusedSimpArgs false
set_option maxRecDepth 100000
theorem u32_eq0 (P : Nat) : ((P : Int) == 0) = decide (P = 0) := by
  by_cases h : P = 0
  · subst h; rfl
  · rw [decide_eq_false h, beq_eq_false_iff_ne]; omega
set_option maxHeartbeats 8000000 in
theorem blTurn_go (w : World) (hD : Door w) (A : Option Addr) (S : List Ser) (c : Nat) (hA : Sers w A S) (hf : ∀ s ∈ S, SerFit s) (hr : S.length * 48 ≤ 140737488351232) (hlc : S.length ≤ c) (at_ : Int) (ba : -9223372036854775808 ≤ at_ ∧ at_ ≤ 9223372036854775807) (P : Nat) (hP : P < 4294967296) :
    Calls Tryz.prog 7 #[.slice A S.length c, .int .i64 at_, .int .u32 (P : Int)] w fun e w' => e = .returned (.bool true) ∧ Below w.heap.size w w' := by
  have HW := Lib.hid (write_prog A S c w hA hf hr hlc)
  have HC := Lib.hid (fun x (h : Below w.heap.size w x) => blcheck_prog A S c x (hA.below h) hf hr hlc)
  have HX := Lib.hid (fun x hx => blLives_true x hx)
  have HD := Lib.hid hD
  have HON := Lib.hid (fun B b d (x : World) (hb : Bys x B b) (hd : b.length ≤ d) (hl : b.length ≤ 140737488355328) (hx : Door x) (hno : ∀ S, blChk S = 0 → blL S ≠ b) => open_no B b d hd hl x hb hx hno)
  have hq := u32_eq0 P
  clear hA hf hr hlc hD
  obtain ⟨n, hn⟩ : ∃ n, S.length = n := ⟨_, rfl⟩
  rw [hn] at HW HC ⊢
  clear hn
  go_enter Tryz.func7, Tryz.ntmps7
  go_wp2_with fail
  refine HW.out.mono ?_
  rintro e w2 ⟨hb2, ⟨hz, rfl⟩ | ⟨hz, v2, rfl, ho2⟩⟩
  · have HB2 := Lib.hid hb2
    have HC2 := Lib.hid (HC.out w2 hb2)
    have q1 : (blChk S != 0) = true := bne_iff_ne.2 hz
    generalize blChk S = E at *
    have q2 : (E == E) = true := by simp
    clear hz hb2
    go_wp2_with fail
    refine HC2.out.mono ?_
    rintro e w3 ⟨rfl, hb3⟩
    have HB3 := Lib.hid (below_then HB2.out hb3)
    clear hb3
    go_wp2_with fail
    refine (HX.out _ (HD.out.below HB3.out)).mono ?_
    rintro e w4 ⟨rfl, hb4⟩
    have HB4 := Lib.hid (below_then HB3.out hb4)
    clear hb4
    go_wp2
    go_ret
    exact ⟨rfl, HB4.out⟩
  · have hbl := bl_len hz
    obtain ⟨g, d2, hv2, hgb, hgl, hd2, _, _⟩ := own_form ho2 (by omega)
    have hfl := front_len hz
    have hf5 : 5 ≤ (frontL S).length := by
      unfold frontL bodyL cntL
      rw [List.length_append, List.length_append, List.length_append]
      have := uintL_pos (ixBytes (blSets S)).length
      show 5 ≤ 4 + _
      omega
    have HZ := Lib.hid hz
    have HO2 := Lib.hid ho2
    have HB2 := Lib.hid hb2
    have HC2 := Lib.hid (HC.out w2 hb2)
    rw [hz] at HC2
    obtain ⟨L, hL⟩ : ∃ L, (blL S).length = L := ⟨_, rfl⟩
    have HL := Lib.hid hL
    have HFL := Lib.hid (show (frontL S).length = L - 4 by omega)
    rw [hL] at hv2 hd2
    have hL9 : 9 ≤ L := by omega
    have hLm : L ≤ 400000000 := by omega
    have d9 : decide ((L : Int) < 9) = false := decide_eq_false (by omega)
    subst hv2
    clear hb2 ho2 hz hbl hfl hf5 hL
    by_cases h0 : P = 0
    · have e0 : decide (P = 0) = true := decide_eq_true h0
      rw [e0] at hq
      clear h0 hP e0
      go_wp2_with fail
      refine HC2.out.mono ?_
      rintro e w3 ⟨rfl, hb3⟩
      have HB3 := Lib.hid (below_then HB2.out hb3)
      clear hb3
      go_wp2_with fail
      refine (HX.out _ (HD.out.below HB3.out)).mono ?_
      rintro e w4 ⟨rfl, hb4⟩
      have HB4 := Lib.hid (below_then HB3.out hb4)
      clear hb4
      go_wp2
      go_ret
      exact ⟨rfl, HB4.out⟩
    · have e0 : decide (P = 0) = false := decide_eq_false h0
      rw [e0] at hq
      have HP0 := Lib.hid h0
      clear h0 e0
      obtain ⟨k, hk, hk4, hkl⟩ : ∃ k : Nat, wrap64 (4 + wrap64 ((IntKind.u64.wrap at_).tmod ((L : Int) - 7))) = (k : Int) ∧ 4 ≤ k ∧ k + 4 ≤ L := by
        have hu : 0 ≤ IntKind.u64.wrap at_ := by
          have : IntKind.u64.wrap at_ = at_ % 18446744073709551616 := by first | rfl | simp [IntKind.wrap]
          omega
        have h1 := Int.emod_lt_of_pos (IntKind.u64.wrap at_) (show (0 : Int) < (L : Int) - 7 by omega)
        have h0 := Int.emod_nonneg (IntKind.u64.wrap at_) (show (L : Int) - 7 ≠ 0 by omega)
        refine ⟨(4 + (IntKind.u64.wrap at_ % ((L : Int) - 7))).toNat, ?_, by omega, by omega⟩
        rw [Int.tmod_eq_emod_of_nonneg hu]
        generalize IntKind.u64.wrap at_ % ((L : Int) - 7) = m at *
        rw [IntWalk.wrap64_in m (by omega), IntWalk.wrap64_in _ (by omega)]
        omega
      have HK := Lib.hid hk
      clear hk ba
      go_wp2_with fail
      rw [HK.out]
      go_loopw [10] (fun i wr => ∃ (j : Nat) (y : List UInt8), j ≤ 4 ∧ i = .int .i64 (j : Int) ∧ y.length = L ∧ Own wr w.heap.size (.slice (some ⟨g, 0, none⟩) L d2) y ∧ leN y = leN (blL S) ^^^ 2 ^ (8 * k) * (P % 2 ^ (8 * j)) ∧ Below w.heap.size w wr) (fun i _ => 4 - (intOf i).toNat)
      case atStart => exact ⟨0, blL S, by omega, rfl, HL.out, HO2.out, by simp [Nat.mod_one], HB2.out⟩
      case round =>
        obtain ⟨j, y, hj, rfl, hy, hor, hle, hbr⟩ := hrel
        have Hy := Lib.hid hy
        have Hor := Lib.hid hor
        have Hle := Lib.hid hle
        have Hbr := Lib.hid hbr
        by_cases hlt : j < 4
        · have hp : k + j < y.length := by omega
          obtain ⟨g', cap', e, _, hgl2, hcp, _, hcl⟩ := own_form (x := y) (by rw [← hy] at hor; exact hor) (by omega)
          have hc := hcl (k + j) hp
          obtain ⟨rfl, rfl⟩ : g = g' ∧ d2 = cap' := by
            have e2 := e
            simp only [Value.slice.injEq, Option.some.injEq, Addr.mk.injEq, and_true, true_and] at e2
            exact e2
          have hfz := own_frozen hor (k + j)
          have HB := Lib.hid (byte_turn (y.getD (k + j) 0) (P / 2 ^ (8 * j) % 256) (Nat.mod_lt _ (by omega)))
          have HLS := Lib.hid (leN_set y (k + j) _ (P / 2 ^ (8 * j) % 256) hp HB.out.2)
          have Ho2 := Lib.hid (own_set (x := y) (g := g) (cap := d2) (i := k + j) (by rw [← hy] at hor; exact hor) hp (UInt8.ofNat ((y.getD (k + j) 0).toNat ^^^ (P / 2 ^ (8 * j) % 256))))
          have HT := Lib.hid (turn_at (k := k) (i := j) Hle.out)
          have HBX := HB.out.1
          have hkj : k + j < L := by omega
          generalize hnb : UInt8.ofNat ((y.getD (k + j) 0).toNat ^^^ (P / 2 ^ (8 * j) % 256)) = nb at *
          generalize hxb : (y.getD (k + j) 0).toNat = xb at *
          have HJ := Lib.hid hlt
          clear hcl hp e hcp hle hor hbr hy hnb hxb HB
          have hfin : ∀ V : Value, V = .int .u8 (nb.toNat : Int) → ∃ y' : List UInt8, y'.length = L ∧ Own (wr.setCell ⟨g, k + j, none⟩ V).drew w.heap.size (.slice (some ⟨g, 0, none⟩) L d2) y' ∧ leN y' = leN (blL S) ^^^ 2 ^ (8 * k) * (P % 2 ^ (8 * (j + 1))) ∧ Below w.heap.size w (wr.setCell ⟨g, k + j, none⟩ V).drew := by
            intro V hV
            subst hV
            refine ⟨y.set (k + j) nb, by rw [List.length_set]; exact Hy.out, ?_, by rw [HLS.out]; exact HT.out, (Hbr.out.setCell (p := ⟨g, k + j, none⟩) hgb _).drew⟩
            have h := Ho2.out
            rw [List.length_set, Hy.out] at h
            exact h
          have HFIN := Lib.hid hfin
          clear hfin
          obtain rfl | rfl | rfl | rfl : j = 0 ∨ j = 1 ∨ j = 2 ∨ j = 3 := by omega
          · have a1 : IntKind.i64.wrap ((k : Int)) = (k : Int) := IntWalk.i64_in _ (by omega)
            have a2 : 0 ≤ (k : Int) := by omega
            have a3 : (k : Int) < (L : Int) := by omega
            have a4 : ((k : Int)).toNat = k + 0 := by omega
            have HEQ := Lib.hid (show Value.int .u8 (bits BinOp.xor IntKind.u8 (xb : Int) ((P : Int) % 256)) = .int .u8 (nb.toNat : Int) by
              rw [← HBX, show (P : Int) % 256 = ((P / 2 ^ (8 * 0) % 256 : Nat) : Int) by rw [show (2 : Nat) ^ (8 * 0) = 1 from rfl]; omega])
            clear HBX
            rw [Nat.add_zero] at hc hfz
            go_wp2_with fail
            go_region
            all_goals
              obtain ⟨y', h1, h2, h3, h4⟩ := HFIN.out _ HEQ.out
              have H1 := Lib.hid h1
              have H2 := Lib.hid h2
              have H3 := Lib.hid h3
              have H4 := Lib.hid h4
              clear h1 h2 h3 h4
              go_wp2_with fail
              go_roundw
              case rel => exact ⟨1, y', by omega, by first | rfl | go_num, H1.out, H2.out, H3.out, H4.out⟩
              case measure => simp [intOf]
          · have a1 : IntKind.i64.wrap ((k : Int) + 1) = (k : Int) + 1 := IntWalk.i64_in _ (by omega)
            have a2 : 0 ≤ (k : Int) + 1 := by omega
            have a3 : (k : Int) + 1 < (L : Int) := by omega
            have a4 : ((k : Int) + 1).toNat = k + 1 := by omega
            have HEQ := Lib.hid (show Value.int .u8 (bits BinOp.xor IntKind.u8 (xb : Int) ((P : Int) / 256 % 256)) = .int .u8 (nb.toNat : Int) by
              rw [← HBX, show (P : Int) / 256 % 256 = ((P / 2 ^ (8 * 1) % 256 : Nat) : Int) by rw [show (2 : Nat) ^ (8 * 1) = 256 from rfl]; omega])
            clear HBX
            go_wp2_with fail
            go_region
            all_goals
              obtain ⟨y', h1, h2, h3, h4⟩ := HFIN.out _ HEQ.out
              have H1 := Lib.hid h1
              have H2 := Lib.hid h2
              have H3 := Lib.hid h3
              have H4 := Lib.hid h4
              clear h1 h2 h3 h4
              go_wp2_with fail
              go_roundw
              case rel => exact ⟨2, y', by omega, by first | rfl | go_num, H1.out, H2.out, H3.out, H4.out⟩
              case measure => simp [intOf]
          · have a1 : IntKind.i64.wrap ((k : Int) + 2) = (k : Int) + 2 := IntWalk.i64_in _ (by omega)
            have a2 : 0 ≤ (k : Int) + 2 := by omega
            have a3 : (k : Int) + 2 < (L : Int) := by omega
            have a4 : ((k : Int) + 2).toNat = k + 2 := by omega
            have HEQ := Lib.hid (show Value.int .u8 (bits BinOp.xor IntKind.u8 (xb : Int) ((P : Int) / 65536 % 256)) = .int .u8 (nb.toNat : Int) by
              rw [← HBX, show (P : Int) / 65536 % 256 = ((P / 2 ^ (8 * 2) % 256 : Nat) : Int) by rw [show (2 : Nat) ^ (8 * 2) = 65536 from rfl]; omega])
            clear HBX
            go_wp2_with fail
            go_region
            all_goals
              obtain ⟨y', h1, h2, h3, h4⟩ := HFIN.out _ HEQ.out
              have H1 := Lib.hid h1
              have H2 := Lib.hid h2
              have H3 := Lib.hid h3
              have H4 := Lib.hid h4
              clear h1 h2 h3 h4
              go_wp2_with fail
              go_roundw
              case rel => exact ⟨3, y', by omega, by first | rfl | go_num, H1.out, H2.out, H3.out, H4.out⟩
              case measure => simp [intOf]
          · have a1 : IntKind.i64.wrap ((k : Int) + 3) = (k : Int) + 3 := IntWalk.i64_in _ (by omega)
            have a2 : 0 ≤ (k : Int) + 3 := by omega
            have a3 : (k : Int) + 3 < (L : Int) := by omega
            have a4 : ((k : Int) + 3).toNat = k + 3 := by omega
            have HEQ := Lib.hid (show Value.int .u8 (bits BinOp.xor IntKind.u8 (xb : Int) ((P : Int) / 16777216)) = .int .u8 (nb.toNat : Int) by
              rw [← HBX, show (P : Int) / 16777216 = ((P / 2 ^ (8 * 3) % 256 : Nat) : Int) by rw [show (2 : Nat) ^ (8 * 3) = 16777216 from rfl]; omega])
            clear HBX
            go_wp2_with fail
            go_region
            all_goals
              obtain ⟨y', h1, h2, h3, h4⟩ := HFIN.out _ HEQ.out
              have H1 := Lib.hid h1
              have H2 := Lib.hid h2
              have H3 := Lib.hid h3
              have H4 := Lib.hid h4
              clear h1 h2 h3 h4
              go_wp2_with fail
              go_roundw
              case rel => exact ⟨4, y', by omega, by first | rfl | go_num, H1.out, H2.out, H3.out, H4.out⟩
              case measure => simp [intOf]
        · obtain rfl : j = 4 := by omega
          have HNO := Lib.hid (bl_turned HZ.out (by rw [Hy.out, HL.out]) (k := k) (by have := HFL.out; omega) hP HP0.out (by rw [Hle.out, Nat.mod_eq_of_lt hP]))
          obtain ⟨B9, d9', hv9, hB9, _, hd9, _⟩ := own_cap (x := y) (by rw [← hy] at hor; exact hor)
          simp only [Value.slice.injEq] at hv9
          obtain ⟨rfl, _, rfl⟩ := hv9
          have HOP := Lib.hid (HON.out _ y d2 wr hB9 hd9 (by omega) (HD.out.below Hbr.out) HNO.out)
          rw [hy] at HOP
          clear hB9 hd9 hle hor hbr hy
          go_wp2_with fail
          refine HOP.out.mono ?_
          rintro e w5 ⟨hb5, rfl⟩
          have HB5 := Lib.hid (below_then Hbr.out hb5)
          clear hb5
          go_wp2_with fail
          refine (HX.out _ (HD.out.below HB5.out)).mono ?_
          rintro e w6 ⟨rfl, hb6⟩
          have HB6 := Lib.hid (below_then HB5.out hb6)
          clear hb6
          go_wp2
          go_ret
          exact ⟨rfl, HB6.out⟩
theorem blockTurned_walk (w : World) (hD : Door w) (A : Option Addr) (S : List Ser) (c : Nat) (hA : Sers w A S) (hf : ∀ s ∈ S, SerFit s) (hr : S.length * 48 ≤ 140737488351232) (hlc : S.length ≤ c) (x1 : Int) (b1 : -9223372036854775808 ≤ x1 ∧ x1 ≤ 9223372036854775807) (x2 : Int) (b2 : 0 ≤ x2 ∧ x2 ≤ 4294967295) :
    Calls Tryz.prog 7 #[.slice A S.length c, .int .i64 x1, .int .u32 x2] w fun e w' => e = .returned (.bool true) ∧ Below w.heap.size w w' := by
  obtain ⟨P, rfl⟩ := Int.eq_ofNat_of_zero_le b2.1
  exact blTurn_go w hD A S c hA hf hr hlc x1 b1 P (by omega)
end Go.Proofs.YtgdmcnoogacdaaaGreatDoor
