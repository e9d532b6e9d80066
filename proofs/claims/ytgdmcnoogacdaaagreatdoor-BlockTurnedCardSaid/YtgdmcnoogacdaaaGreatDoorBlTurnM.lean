/- A block of which bits in a row are turned is no block: of no program. -/
import Derived.Test.YtgdmcnoogacdaaaGreatDoorBlMath
namespace Go.Proofs.YtgdmcnoogacdaaaGreatDoor
open Ch
set_option linter.unusedVariables false
theorem bl_sum {S : List Ser} : csteps (8 * (frontL S).length) (4294967295 ^^^ leN (blL S)) = 4294967295 := by
  have := (carry_iff (frontL S) (le4 (sumN (frontL S))) (le4_len _)).1 (leN_le4 (sumN_lt _))
  exact this
/-- Turned bits in a row: the sum does not stand. -/
theorem bl_turned {S : List Ser} (hz : blChk S = 0) {y : List UInt8} {k P : Nat} (hl : y.length = (blL S).length) (hk : k ≤ (frontL S).length) (hP : P < 2 ^ 32) (hP0 : P ≠ 0) (hy : leN y = leN (blL S) ^^^ 2 ^ (8 * k) * P) :
    ∀ S', blChk S' = 0 → blL S' ≠ y := by
  intro S' hz' e
  have h1 := bl_len hz
  have h2 := bl_len hz'
  have hn : (frontL S').length = (frontL S).length := by rw [e] at h2; omega
  have s1 := bl_sum (S := S)
  have s2 := bl_sum (S := S')
  rw [e, hn, hy, ← Nat.xor_assoc, csteps_xor, s1] at s2
  have e2 : csteps (8 * (frontL S).length) (2 ^ (8 * k) * P) = csteps (8 * (frontL S).length - 8 * k) P := by
    have := csteps_add (8 * (frontL S).length - 8 * k) (8 * k) (2 ^ (8 * k) * P)
    rw [show 8 * (frontL S).length - 8 * k + 8 * k = 8 * (frontL S).length from by omega, csteps_shift] at this
    exact this
  rw [e2] at s2
  refine hP0 (csteps_zero (8 * (frontL S).length - 8 * k) hP ?_)
  have := congrArg (4294967295 ^^^ ·) s2
  simpa [← Nat.xor_assoc] using this
/-- One more byte of a pattern. -/
theorem pat_next (P i : Nat) : P % 2 ^ (8 * (i + 1)) = P % 2 ^ (8 * i) ^^^ 2 ^ (8 * i) * (P / 2 ^ (8 * i) % 256) := by
  have h := Nat.mod_lt P (Nat.two_pow_pos (8 * i))
  rw [xor_add _ _ _ h, show 8 * (i + 1) = 8 * i + 8 by omega, Nat.pow_add, Nat.mod_mul]
theorem turn_at {F y k P i : Nat} (h : y = F ^^^ 2 ^ (8 * k) * (P % 2 ^ (8 * i))) : y ^^^ 2 ^ (8 * (k + i)) * (P / 2 ^ (8 * i) % 256) = F ^^^ 2 ^ (8 * k) * (P % 2 ^ (8 * (i + 1))) := by
  rw [pat_next, pow_mul_xor, ← Nat.mul_assoc, ← Nat.pow_add, show 8 * k + 8 * i = 8 * (k + i) by omega, ← Nat.xor_assoc, ← h]
theorem byte_turn (x : UInt8) (m : Nat) (hm : m < 256) : bits BinOp.xor IntKind.u8 (x.toNat : Int) (m : Int) = ((UInt8.ofNat (x.toNat ^^^ m)).toNat : Int) ∧ (UInt8.ofNat (x.toNat ^^^ m)).toNat = x.toNat ^^^ m := by
  have h2 := Nat.xor_lt_two_pow (show x.toNat < 2 ^ 8 from x.toNat_lt) (show m < 2 ^ 8 from hm)
  have e : (UInt8.ofNat (x.toNat ^^^ m)).toNat = x.toNat ^^^ m := by rw [UInt8.toNat_ofNat']; omega
  refine ⟨?_, e⟩
  rw [e]
  exact u8_xor_nat _ _ x.toNat_lt (by omega)
end Go.Proofs.YtgdmcnoogacdaaaGreatDoor
