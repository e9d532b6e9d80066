/- A frame of which bits in a row are turned is refused: a walk of the law. -/
import Derived.Test.YtoaeaffgpdohmaaFrLent
import Derived.Test.YtoaeaffgpdohmaaFrPut
import Derived.Test.YtoaeaffgpdohmaaFrGet
import Derived.Test.YtoaeaffgpdohmaaFrameMath3
import Derived.Deep.DeepCutAuto
namespace Go.Proofs.Ytoaeaffgpdohmaa
open Go.RowKit
set_option linter.unusedVariables false

theorem bit_test (P i : Nat) (hP : P < 2 ^ 32) : bits BinOp.and IntKind.u32 ((P : Int) / 2 ^ i) 1 = ((P / 2 ^ i % 2 : Nat) : Int) := by
  have e : (P : Int) / 2 ^ i = ((P / 2 ^ i : Nat) : Int) := by simp
  have h : P / 2 ^ i ≤ P := Nat.div_le_self _ _
  rw [e, show (1 : Int) = ((1 : Nat) : Int) from rfl, u32_and_nat _ 1 (by omega) (by omega), Nat.and_one_is_mod]
theorem turn_byte (x : UInt8) (q : Nat) (hq : q < 8) : bits BinOp.xor IntKind.u8 (x.toNat : Int) (2 ^ q % 256) = ((UInt8.ofNat (x.toNat ^^^ 2 ^ q)).toNat : Int) ∧ (UInt8.ofNat (x.toNat ^^^ 2 ^ q)).toNat = x.toNat ^^^ 2 ^ q := by
  have h1 : 2 ^ q < 2 ^ 8 := Nat.pow_lt_pow_right (by omega) hq
  have h2 := Nat.xor_lt_two_pow (show x.toNat < 2 ^ 8 from x.toNat_lt) h1
  have e : (UInt8.ofNat (x.toNat ^^^ 2 ^ q)).toNat = x.toNat ^^^ 2 ^ q := by rw [UInt8.toNat_ofNat']; omega
  refine ⟨?_, e⟩
  have e3 : ((2 : Int) ^ q) = ((2 ^ q : Nat) : Int) := by simp
  have e4 : ((2 : Int) ^ q % 256) = ((2 ^ q : Nat) : Int) := by
    rw [e3]
    have h3 : 2 ^ q < 256 := h1
    exact Int.emod_eq_of_lt (Int.natCast_nonneg _) (Int.ofNat_lt.2 h3)
  rw [e, e4]
  exact u8_xor_nat _ _ (byte_nat x) (by omega)

set_option maxHeartbeats 2000000 in
theorem turned_go (V : Option Addr) (x : List UInt8) (cx : Nat) (at_ : Int) (P0 P r : Nat) (w : World) (hV : Bys w V x) (hx : x.length ≤ 65535) (hP0 : P0 < 2 ^ 32) (hP : P = if P0 = 0 then 1 else P0)
    (hr : wrap64 (16 + wrap64 ((IntKind.u64.wrap at_).tmod (8 * ((x.length : Int) + 6) - 47))) = (r : Int)) (hr16 : 16 ≤ r) (hrl : r ≤ 8 * x.length + 16) :
    Calls Try.prog 11 #[.slice V x.length cx, .int .i64 at_, .int .u32 P0] w fun e w' => e = .returned (.bool true) ∧ Below w.heap.size w w' := by
  have d0 : decide ((65535 : Int) < (x.length : Int)) = false := by simp; omega
  have hfl := frameL_length x
  have hPlt : P < 2 ^ 32 := by rw [hP]; split <;> omega
  have hPne : P ≠ 0 := by rw [hP]; split <;> omega
  have HF := Lib.hid hfl
  have HR := Lib.hid hr
  have HP := Lib.hid hP
  clear hfl hr hP
  go_enter Try.func11, Try.ntmps11
  go_wp2_with fail
  refine (put_prog none [] 0 V x cx w (Bys.empty _ _) hV (by simp) hx).mono ?_
  rw [List.nil_append]
  rintro e w1 ⟨v, rfl, hown, hb1⟩
  obtain ⟨B, d, rfl, hB, _⟩ := own_slice' hown
  rw [HF.out] at hown ⊢
  have hs1 := hb1.size
  have d1 : decide (((x.length + 6 : Nat) : Int) < 6) = false := by simp; omega
  clear hown
  go_upto_if 32 with fail
  go_cut [2] (fun s2 wx => s2 = .int .u32 P ∧ w1 = wx)
  case first =>
    by_cases h0 : P0 = 0
    · have hp : P = 1 := by rw [HP.out, if_pos h0]
      have q : ((P0 : Int) == 0) = true := by rw [beq_iff_eq]; omega
      have Hp := Lib.hid hp
      clear HP HR hPne hPlt hp
      go_wp2_with fail
      all_goals go_meet
      all_goals exact ⟨by rw [Hp.out]; rfl, rfl⟩
    · have hp : P = P0 := by rw [HP.out, if_neg h0]
      subst hp
      have q : ((P : Int) == 0) = false := by rw [beq_eq_false_iff_ne]; omega
      clear HP HR hPne hPlt
      go_wp2_with fail
      all_goals go_meet
      all_goals exact ⟨rfl, rfl⟩
  case rest =>
    obtain ⟨rfl, rfl⟩ := hcut
    have hbw1 := hb1
    go_upto_region 9 with fail
    rw [HR.out]
    go_wp2_with (at_builtin; refine app_u8 rfl (.tmp 43) (.tmp 44) rfl w1.heap.size _ [] rfl (own_empty (Row.new w1 _ _) (Nat.le_refl _)) B (frameL x) d (by have := HF.out; show Value.slice B (x.length + 6) d = _; rw [this]) (hB.alloc _) (by have := HF.out; simp only [List.length_nil]; omega) (by simp) ?_; intro v2 w2 hown2 hb2' hg2; have hb2 : Below w1.heap.size w1 w2 := ((Below.refl _ _).alloc (Nat.le_refl _) _).trans hb2'; rw [List.nil_append] at hown2; obtain ⟨g, cap, hv2, hgb, hglt, hcap, hmax, hcl⟩ := own_form hown2 (by have := HF.out; omega); rw [HF.out] at hv2; subst hv2; have HO2 := Lib.hid hown2; clear hg2 hb2' hown2 hcl hcap)
    have hs2 := hb2.size
    have hF0 := Lib.hid (show (frameL x).getD 0 0 = (frameL x).getD 0 0 from rfl)
    go_loopw [11] (fun i wr => ∃ (k : Nat) (y : List UInt8), k ≤ 32 ∧ i = .int .i64 k ∧ y.length = x.length + 6 ∧ Own wr w1.heap.size (.slice (some ⟨g, 0, none⟩) (x.length + 6) cap) y ∧
      leN y = leN (frameL x) ^^^ 2 ^ r * (P % 2 ^ k) ∧ y.getD 0 0 = (frameL x).getD 0 0 ∧ y.getD 1 0 = (frameL x).getD 1 0 ∧ Below w1.heap.size w1 wr) (fun i _ => 32 - (intOf i).toNat)
    case atStart => exact ⟨0, frameL x, by omega, rfl, HF.out, HO2.out, by simp [Nat.mod_one], rfl, rfl, hb2⟩
    case round =>
      obtain ⟨k, y, hk, rfl, hy, hor, hle, hy0, hy1, hbr⟩ := hrel
      have Hy := Lib.hid hy
      have Hor := Lib.hid hor
      have Hle := Lib.hid hle
      have Hy0 := Lib.hid hy0
      have Hy1 := Lib.hid hy1
      have Hbr := Lib.hid hbr
      clear hor hle hy0 hy1 hbr hy
      by_cases hlt : k < 32
      · have Hb := Lib.hid (bit_test P k hPlt)
        by_cases h1 : P / 2 ^ k % 2 = 1
        · have hb : (bits BinOp.and IntKind.u32 ((P : Int) / 2 ^ k) 1 == 1) = true := by rw [Hb.out, h1]; rfl
          have HT := Lib.hid (turn_next (leN (frameL x)) (leN y) r P k Hle.out h1)
          have hp : (r + k) / 8 < y.length := by have := Hy.out; omega
          obtain ⟨g', cap', e, _, hgl2, hcp, _, hcl⟩ := own_form (x := y) (by have := Hor.out; rw [← Hy.out] at this; exact this) (by omega)
          have hc := hcl ((r + k) / 8) hp
          have hpl : (r + k) / 8 < x.length + 6 := by have := Hy.out; omega
          obtain ⟨rfl, rfl⟩ : g = g' ∧ cap = cap' := by
            have e2 := e
            simp only [Value.slice.injEq, Option.some.injEq, Addr.mk.injEq, and_true, true_and] at e2
            exact e2
          have hf := own_frozen Hor.out ((r + k) / 8)
          have HB := Lib.hid (turn_byte (y.getD ((r + k) / 8) 0) ((r + k) % 8) (by omega))
          have HLS := Lib.hid (leN_set y ((r + k) / 8) _ (2 ^ ((r + k) % 8)) hp HB.out.2)
          have Ho2 := Lib.hid (own_set (x := y) (g := g) (cap := cap) (i := (r + k) / 8) (by have := Hor.out; rw [← Hy.out] at this; exact this) hp (UInt8.ofNat ((y.getD ((r + k) / 8) 0).toNat ^^^ 2 ^ ((r + k) % 8))))
          have G0 := Lib.hid (getD_set_ne y 0 (UInt8.ofNat ((y.getD ((r + k) / 8) 0).toNat ^^^ 2 ^ ((r + k) % 8))) (i := (r + k) / 8) (j := 0) (by omega))
          have G1 := Lib.hid (getD_set_ne y 0 (UInt8.ofNat ((y.getD ((r + k) / 8) 0).toNat ^^^ 2 ^ ((r + k) % 8))) (i := (r + k) / 8) (j := 1) (by omega))
          have hbx := byte_nat (y.getD ((r + k) / 8) 0)
          clear hcl hp e hcp h1
          generalize UInt8.ofNat ((y.getD ((r + k) / 8) 0).toNat ^^^ 2 ^ ((r + k) % 8)) = nb at *
          generalize (y.getD ((r + k) / 8) 0).toNat = xb at *
          go_wp2
          refine ⟨⟨k + 1, y.set ((r + k) / 8) nb, by omega, by go_num, by rw [List.length_set]; exact Hy.out, ?_, ?_, by rw [G0.out]; exact Hy0.out, by rw [G1.out]; exact Hy1.out, Hbr.out.setCell (p := ⟨g, (r + k) / 8, none⟩) hgb _⟩, by simp [intOf]; omega⟩
          · have h := Ho2.out
            rw [List.length_set, Hy.out] at h
            rw [HB.out.1]
            exact h
          · rw [HLS.out, ← Nat.pow_add, show 8 * ((r + k) / 8) + (r + k) % 8 = r + k from by omega]
            exact HT.out
        · have hb : (bits BinOp.and IntKind.u32 ((P : Int) / 2 ^ k) 1 == 1) = false := by rw [Hb.out, show P / 2 ^ k % 2 = 0 from by omega]; rfl
          have HT := Lib.hid (show P % 2 ^ (k + 1) = P % 2 ^ k by rw [low_next, if_neg h1])
          clear h1
          go_wp2
          go_roundw
          case rel => exact ⟨k + 1, y, by omega, by go_num, Hy.out, Hor.out, by rw [HT.out]; exact Hle.out, Hy0.out, Hy1.out, Hbr.out⟩
          case measure => simp [intOf]; omega
      · obtain rfl : k = 32 := by omega
        have HG := Lib.hid (turned x y hx (by rw [Hy.out, HF.out]) Hy0.out Hy1.out r P hPlt hPne (by omega) (by rw [Hle.out, Nat.mod_eq_of_lt hPlt]))
        obtain ⟨B9, d9, hv9, hB9, _, hd9, _⟩ := own_cap (x := y) (by have := Hor.out; rw [← Hy.out] at this; exact this)
        simp only [Value.slice.injEq] at hv9
        obtain ⟨rfl, _, rfl⟩ := hv9
        have HGP := Lib.hid (get_prog (some ⟨g, 0, none⟩) y cap 0 [] 0 5 wr hB9 hd9 (by rw [Hy.out]; omega) (by omega) HG.out)
        rw [Hy.out] at HGP
        clear hB9 hd9
        go_wp2_with fail
        refine HGP.out.mono ?_
        rintro e w5 ⟨v5, rfl, hown5, hb5⟩
        obtain ⟨B5, d5, rfl, _⟩ := own_slice' hown5
        have hbw5 : Below w.heap.size w w5 := below_then (below_then hb1 Hbr.out) hb5
        go_wp2_with fail
        refine (lives_true w5).mono ?_
        rintro e w6 ⟨rfl, hb6⟩
        go_wp2
        go_ret
        exact ⟨rfl, below_then hbw5 hb6⟩

theorem turned_big (V : Option Addr) (n cx : Nat) (at_ : Int) (P0 : Int) (w : World) (hn : 65535 < n) (hm : n ≤ 281474976710656) :
    Calls Try.prog 11 #[.slice V n cx, .int .i64 at_, .int .u32 P0] w fun e w' => e = .returned (.bool true) ∧ Below w.heap.size w w' := by
  have d0 : decide ((65535 : Int) < (n : Int)) = true := by simp; omega
  go_enter Try.func11, Try.ntmps11
  go_wp2_with fail
  refine (lives_true w).mono ?_
  rintro e w6 ⟨rfl, hb6⟩
  go_wp2
  go_ret
  exact ⟨rfl, hb6⟩

theorem frameTurned_walk (w : World) (V : Option Addr) (x : List UInt8) (cx : Nat) (hV : Bys w V x) (hr : x.length ≤ 140737488351232) (hlc : x.length ≤ cx)
    (a : Int) (ba : -9223372036854775808 ≤ a ∧ a ≤ 9223372036854775807) (p : Int) (bp : 0 ≤ p ∧ p ≤ 4294967295) :
    Calls Try.prog 11 #[.slice V x.length cx, .int .i64 a, .int .u32 p] w fun e w' => e = .returned (.bool true) ∧ Below w.heap.size w w' := by
  by_cases h : x.length ≤ 65535
  · obtain ⟨P0, rfl⟩ := Int.eq_ofNat_of_zero_le bp.1
    have hu : 0 ≤ IntKind.u64.wrap a := by
      have : IntKind.u64.wrap a = a % 18446744073709551616 := by first | rfl | simp [IntKind.wrap]
      omega
    have h1 := Int.emod_lt_of_pos (IntKind.u64.wrap a) (show (0 : Int) < 8 * ((x.length : Int) + 6) - 47 by omega)
    have h0 := Int.emod_nonneg (IntKind.u64.wrap a) (show (8 * ((x.length : Int) + 6) - 47) ≠ 0 by omega)
    have e1 : (IntKind.u64.wrap a).tmod (8 * ((x.length : Int) + 6) - 47) = IntKind.u64.wrap a % (8 * ((x.length : Int) + 6) - 47) := Int.tmod_eq_emod_of_nonneg hu
    refine turned_go V x cx a P0 _ (16 + (IntKind.u64.wrap a % (8 * ((x.length : Int) + 6) - 47))).toNat w hV h (by omega) rfl ?_ (by omega) (by omega)
    rw [e1]
    generalize IntKind.u64.wrap a % (8 * ((x.length : Int) + 6) - 47) = m at *
    rw [IntWalk.wrap64_in m (by omega), IntWalk.wrap64_in _ (by omega)]
    omega
  · exact turned_big V x.length cx a p w (by omega) (by omega)
end Go.Proofs.Ytoaeaffgpdohmaa
