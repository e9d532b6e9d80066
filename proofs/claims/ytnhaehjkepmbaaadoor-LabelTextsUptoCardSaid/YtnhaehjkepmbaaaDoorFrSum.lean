/- The sum over bytes, as the program and as the document's own answer reckon it. -/
import Derived.Test.YtnhaehjkepmbaaaDoorFrameMath
namespace Go.Proofs.YtnhaehjkepmbaaaDoor
open Go.RowKit
set_option linter.unusedVariables false

theorem ret_num' {k : IntKind} {a b : Int} (h : a = b) : Ending.returned (.int k a) = .returned (.int k b) := by rw [h]
theorem u32_step (c : Nat) (h : c < 2 ^ 32) : bits BinOp.xor IntKind.u32 ((c : Int) / 2) (2197175160 * bits BinOp.and IntKind.u32 (c : Int) 1 % 4294967296) = (cstep c : Int) := by
  rw [show (1 : Int) = ((1 : Nat) : Int) from rfl, u32_and_nat c 1 (by omega) (by omega), Nat.and_one_is_mod]
  have h1 : (2197175160 : Int) * ((c % 2 : Nat) : Int) % 4294967296 = ((2197175160 * (c % 2) : Nat) : Int) := by
    have : c % 2 < 2 := Nat.mod_lt _ (by omega)
    omega
  have hm : c % 2 < 2 := Nat.mod_lt _ (by omega)
  rw [h1, show (c : Int) / 2 = ((c / 2 : Nat) : Int) from by omega, u32_xor_nat _ _ (by omega) (by omega)]
  rfl
theorem u32_mix (c : Nat) (x : UInt8) (h : c < 2 ^ 32) : bits BinOp.xor IntKind.u32 (c : Int) (x.toNat : Int) = ((c ^^^ x.toNat : Nat) : Int) :=
  u32_xor_nat _ _ (by omega) (by have := x.toNat_lt; omega)
theorem mix_lt (c : Nat) (x : UInt8) (h : c < 2 ^ 32) : c ^^^ x.toNat < 2 ^ 32 := Nat.xor_lt_two_pow h (by have := x.toNat_lt; omega)
theorem u32_not (c : Nat) (h : c < 2 ^ 32) : bits BinOp.xor IntKind.u32 IntKind.u32.max (c : Int) = ((4294967295 - c : Nat) : Int) := by
  rw [show IntKind.u32.max = ((4294967295 : Nat) : Int) from rfl, u32_xor_nat _ _ (by omega) (by omega), all_turn h]
theorem take_snoc (l : List UInt8) {k : Nat} (h : k < l.length) : l.take (k + 1) = l.take k ++ [l.getD k 0] := by
  rw [List.take_add_one, List.getElem?_eq_getElem h, getD_in l 0 h]
  rfl
theorem crc_next (c : Nat) (l : List UInt8) {k : Nat} (h : k < l.length) : crc c (l.take (k + 1)) = csteps 8 (crc c (l.take k) ^^^ (l.getD k 0).toNat) := by rw [take_snoc l h, crc_snoc]

theorem cstep_odd (c : Nat) (h : c < 2 ^ 32) (h1 : c % 2 = 1) : bits BinOp.xor IntKind.u32 ((c : Int) / 2) 2197175160 = (cstep c : Int) := by
  rw [show (2197175160 : Int) = ((2197175160 : Nat) : Int) from rfl, show (c : Int) / 2 = ((c / 2 : Nat) : Int) from by omega, u32_xor_nat _ _ (by omega) (by omega)]
  unfold cstep
  rw [h1]
theorem cstep_even (c : Nat) (h1 : c % 2 = 0) : (c : Int) / 2 = (cstep c : Int) := by
  unfold cstep
  rw [h1, Nat.mul_zero, Nat.xor_zero]
  omega
end Go.Proofs.YtnhaehjkepmbaaaDoor
