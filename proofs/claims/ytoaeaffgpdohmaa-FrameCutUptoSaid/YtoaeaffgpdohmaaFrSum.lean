/- The sum over bytes, as the program and as the document's own answer reckon it. -/
import Derived.Test.YtoaeaffgpdohmaaFrameMath
import Derived.Test.YtoaeaffgpdohmaaMem
import Derived.Test.YtoaeaffgpdohmaaChecked
import Derived.WalkKit
import Derived.ProofKit
import Derived.WalkSpells
import Derived.WalkLawsBesides
import Derived.IntWalk
import Derived.Outline
namespace Go.Proofs.Ytoaeaffgpdohmaa
open Go.RowKit
set_option linter.unusedVariables false

theorem ret_num' {k : IntKind} {a b : Int} (h : a = b) : Ending.returned (.int k a) = .returned (.int k b) := by rw [h]
theorem u32_step (c : Nat) (h : c < 2 ^ 32) : bits BinOp.xor IntKind.u32 ((c : Int) / 2) (2197175160 * bits BinOp.and IntKind.u32 (c : Int) 1 % 4294967296) = (cstep c : Int) := by
  rw [show (1 : Int) = ((1 : Nat) : Int) from rfl, u32_and_nat c 1 (by omega) (by omega), Nat.and_one_is_mod]
  have h1 : (2197175160 : Int) * ((c % 2 : Nat) : Int) % 4294967296 = ((2197175160 * (c % 2) : Nat) : Int) := by
    have : c % 2 < 2 := Nat.mod_lt _ (by omega)
    omega
  have hm : c % 2 < 2 := Nat.mod_lt _ (by omega)
  rw [h1, show (c : Int) / 2 = ((c / 2 : Nat) : Int) from by omega, u32_xor_nat _ _ (by omega) (by omega)]
  rfl
theorem u32_mix (c : Nat) (x : UInt8) (h : c < 2 ^ 32) : bits BinOp.xor IntKind.u32 (c : Int) (x.toNat : Int) = ((c ^^^ x.toNat : Nat) : Int) :=
  u32_xor_nat _ _ (by omega) (by have := x.toNat_lt; omega)
theorem mix_lt (c : Nat) (x : UInt8) (h : c < 2 ^ 32) : c ^^^ x.toNat < 2 ^ 32 := Nat.xor_lt_two_pow h (by have := x.toNat_lt; omega)
theorem u32_not (c : Nat) (h : c < 2 ^ 32) : bits BinOp.xor IntKind.u32 IntKind.u32.max (c : Int) = ((4294967295 - c : Nat) : Int) := by
  rw [show IntKind.u32.max = ((4294967295 : Nat) : Int) from rfl, u32_xor_nat _ _ (by omega) (by omega), all_turn h]
theorem take_snoc (l : List UInt8) {k : Nat} (h : k < l.length) : l.take (k + 1) = l.take k ++ [l.getD k 0] := by
  rw [List.take_add_one, List.getElem?_eq_getElem h, getD_in l 0 h]
  rfl
theorem crc_next (c : Nat) (l : List UInt8) {k : Nat} (h : k < l.length) : crc c (l.take (k + 1)) = csteps 8 (crc c (l.take k) ^^^ (l.getD k 0).toNat) := by rw [take_snoc l h, crc_snoc]

theorem sum_prog (A : Option Addr) (l : List UInt8) (c : Nat) (w : World) (hA : Bys w A l) (hl : l.length ≤ 281474976710656) :
    Calls Try.prog 25 #[.slice A l.length c] w fun e w' => e = .returned (.int .u32 (sumN l)) ∧ w = w' := by
  go_enter Try.func25, Try.ntmps25
  go_wp2
  go_loop [3, 8] (fun c i => ∃ k : Nat, k ≤ l.length ∧ i = .int .i64 k ∧ c = .int .u32 (crc 4294967295 (l.take k))) (fun _ i => l.length - (intOf i).toNat)
  case atStart => exact ⟨0, Nat.zero_le _, rfl, rfl⟩
  case round =>
    obtain ⟨k, hk, rfl, rfl⟩ := hrel
    have hc := crc_lt (l.take k) (c := 4294967295) (by decide)
    by_cases hlt : k < l.length
    · obtain ⟨b, o, rfl, hb, hcl⟩ := hA.at_ (by omega)
      have hx := hcl k hlt
      have H := Lib.hid (crc_next 4294967295 l hlt)
      have hM := u32_mix (crc 4294967295 (l.take k)) (l.getD k 0) hc
      have hm := mix_lt (crc 4294967295 (l.take k)) (l.getD k 0) hc
      clear hcl hA
      generalize (crc 4294967295 (l.take k)) ^^^ (l.getD k 0).toNat = m at *
      generalize crc 4294967295 (l.take k) = cc at *
      have hbx := (l.getD k 0).toNat_lt
      generalize (l.getD k 0).toNat = x at *
      go_wp2
      go_loop [3, 16] (fun c i => ∃ j : Nat, j ≤ 8 ∧ i = .int .i64 j ∧ c = .int .u32 (csteps j m)) (fun _ i => 8 - (intOf i).toNat)
      case atStart => exact ⟨0, by omega, rfl, rfl⟩
      case round =>
        obtain ⟨j, hj, rfl, rfl⟩ := hrel
        have hs := csteps_lt j hm
        have H2 := Lib.hid (u32_step (csteps j m) hs)
        by_cases hj8 : j < 8
        · have H3 := Lib.hid (show cstep (csteps j m) = csteps (j + 1) m from rfl)
          generalize csteps j m = y at *
          go_wp2
          go_round
          case rel => exact ⟨j + 1, by omega, by go_num, by rw [← H3.out, ← H2.out]⟩
          case measure => simp [intOf]; omega
        · have e : j = 8 := by omega
          subst e
          rw [← H.out]
          go_wp2
          go_round
          case rel => exact ⟨k + 1, by omega, by go_num, rfl⟩
          case measure => simp [intOf]; omega
    · have e : k = l.length := by omega
      subst e
      rw [List.take_length] at hc ⊢
      have H := Lib.hid (show sumN l = 4294967295 - crc 4294967295 l from rfl)
      generalize crc 4294967295 l = y at *
      go_wp2
      go_ret
      exact ⟨ret_num' (by rw [H.out, ← u32_not y hc]), rfl⟩

theorem cstep_odd (c : Nat) (h : c < 2 ^ 32) (h1 : c % 2 = 1) : bits BinOp.xor IntKind.u32 ((c : Int) / 2) 2197175160 = (cstep c : Int) := by
  rw [show (2197175160 : Int) = ((2197175160 : Nat) : Int) from rfl, show (c : Int) / 2 = ((c / 2 : Nat) : Int) from by omega, u32_xor_nat _ _ (by omega) (by omega)]
  unfold cstep
  rw [h1]
theorem cstep_even (c : Nat) (h1 : c % 2 = 0) : (c : Int) / 2 = (cstep c : Int) := by
  unfold cstep
  rw [h1, Nat.mul_zero, Nat.xor_zero]
  omega
theorem sum_ref (A : Option Addr) (l : List UInt8) (c : Nat) (w : World) (hA : Bys w A l) (hl : l.length ≤ 281474976710656) :
    Calls Try.prog 26 #[.slice A l.length c] w fun e w' => e = .returned (.int .u32 (sumN l)) ∧ w = w' := by
  go_enter Try.func26, Try.ntmps26
  go_wp2
  go_loop [3, 4] (fun c i => ∃ k : Nat, k ≤ l.length ∧ i = .int .i64 k ∧ c = .int .u32 (crc 4294967295 (l.take k))) (fun _ i => l.length - (intOf i).toNat)
  case atStart => exact ⟨0, Nat.zero_le _, rfl, rfl⟩
  case round =>
    obtain ⟨k, hk, rfl, rfl⟩ := hrel
    have hc := crc_lt (l.take k) (c := 4294967295) (by decide)
    by_cases hlt : k < l.length
    · obtain ⟨b, o, rfl, hb, hcl⟩ := hA.at_ (by omega)
      have hx := hcl k hlt
      have H := Lib.hid (crc_next 4294967295 l hlt)
      have hM := u32_mix (crc 4294967295 (l.take k)) (l.getD k 0) hc
      have hm := mix_lt (crc 4294967295 (l.take k)) (l.getD k 0) hc
      clear hcl hA
      generalize (crc 4294967295 (l.take k)) ^^^ (l.getD k 0).toNat = m at *
      generalize crc 4294967295 (l.take k) = cc at *
      have hbx := (l.getD k 0).toNat_lt
      generalize (l.getD k 0).toNat = x at *
      go_wp2
      go_loop [3, 5] (fun c i => ∃ j : Nat, j ≤ 8 ∧ i = .int .i64 j ∧ c = .int .u32 (csteps j m)) (fun _ i => 8 - (intOf i).toNat)
      case atStart => exact ⟨0, by omega, rfl, rfl⟩
      case round =>
        obtain ⟨j, hj, rfl, rfl⟩ := hrel
        have hs := csteps_lt j hm
        have H3 := Lib.hid (show cstep (csteps j m) = csteps (j + 1) m from rfl)
        by_cases hj8 : j < 8
        · rcases Nat.mod_two_eq_zero_or_one (csteps j m) with h0 | h0
          · have H2 := Lib.hid (cstep_even (csteps j m) h0)
            generalize csteps j m = y at *
            have hd : ((y : Int) % 2 == 1) = false := by rw [beq_eq_false_iff_ne]; omega
            clear h0
            go_wp2
            go_round
            case rel => exact ⟨j + 1, by omega, by go_num, by rw [← H3.out, ← H2.out]⟩
            case measure => simp [intOf]; omega
          · have H2 := Lib.hid (cstep_odd (csteps j m) hs h0)
            generalize csteps j m = y at *
            have hd : ((y : Int) % 2 == 1) = true := by rw [beq_iff_eq]; omega
            clear h0
            go_wp2
            go_round
            case rel => exact ⟨j + 1, by omega, by go_num, by rw [← H3.out, ← H2.out]⟩
            case measure => simp [intOf]; omega
        · have e : j = 8 := by omega
          subst e
          rw [← H.out]
          go_wp2
          go_round
          case rel => exact ⟨k + 1, by omega, by go_num, rfl⟩
          case measure => simp [intOf]; omega
    · have e : k = l.length := by omega
      subst e
      rw [List.take_length] at hc ⊢
      have H := Lib.hid (show sumN l = 4294967295 - crc 4294967295 l from rfl)
      generalize crc 4294967295 l = y at *
      go_wp2
      go_ret
      refine ⟨ret_num' ?_, rfl⟩
      rw [H.out]
      omega
end Go.Proofs.Ytoaeaffgpdohmaa
