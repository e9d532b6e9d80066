/- The number at a place of bytes, as the program and as the document's own answer read it. -/
import Derived.Test.YtnhaehjkepmbaaaDoorFrSum
import Derived.Deep.DeepCutAuto
namespace Go.Proofs.YtnhaehjkepmbaaaDoor
open Go.RowKit
set_option linter.unusedVariables false

theorem ret_three {a b c a' b' c' : Int} (h1 : a = a') (h2 : b = b') (h3 : c = c') : Ending.returned (.tuple #[.int .i64 a, .int .i64 b, .int .i64 c]) = .returned (.tuple #[.int .i64 a', .int .i64 b', .int .i64 c']) := by rw [h1, h2, h3]
theorem ofInt_64 (a : Nat) (ha : a < 9223372036854775808) : (BitVec.ofInt 64 (a : Int)).toNat = a := by
  rw [BitVec.ofInt_natCast, BitVec.toNat_ofNat]; exact Nat.mod_eq_of_lt (by omega)
theorem i64_or_nat (a b : Nat) (ha : a < 9223372036854775808) (hb : b < 9223372036854775808) : bits .or .i64 (a : Int) (b : Int) = ((a ||| b : Nat) : Int) := by
  have hx : a ||| b < 2 ^ 63 := Nat.or_lt_two_pow (by omega) (by omega)
  show IntKind.i64.wrap ((BitVec.ofInt 64 (a : Int) ||| BitVec.ofInt 64 (b : Int)).toNat : Int) = _
  rw [BitVec.toNat_or, ofInt_64 a ha, ofInt_64 b hb]
  exact IntWalk.i64_in _ (by omega)
theorem or_digit (n x k : Nat) (hn : n < 128 ^ k) (hk : k < 9) : bits BinOp.or IntKind.i64 (n : Int) (wrap64 ((x : Int) % 128 * 2 ^ (k * 7))) = ((n + x % 128 * 128 ^ k : Nat) : Int) := by
  have e : 2 ^ (k * 7) = 128 ^ k := by rw [Nat.mul_comm, Nat.pow_mul]
  have h1 : x % 128 < 128 := Nat.mod_lt _ (by omega)
  have h2 : 128 ^ (k + 1) ≤ 128 ^ 9 := Nat.pow_le_pow_right (by omega) (by omega)
  have h3 : 128 ^ k * 128 = 128 ^ (k + 1) := rfl
  have h4 : x % 128 * 128 ^ k ≤ 127 * 128 ^ k := Nat.mul_le_mul_right _ (by omega)
  have e2 : ((x : Int) % 128 * 2 ^ (k * 7)) = ((128 ^ k * (x % 128) : Nat) : Int) := by rw [← e]; simp [Int.mul_comm]
  rw [e2, IntWalk.wrap64_in _ (by rw [Nat.mul_comm]; omega), i64_or_nat _ _ (by omega) (by rw [Nat.mul_comm]; omega), Nat.or_comm, ← e, ← Nat.two_pow_add_eq_or_of_lt (by rw [e]; exact hn), e, Nat.add_comm, Nat.mul_comm (128 ^ k)]

theorem gu_stop {l : List UInt8} {a n nx e : Nat} (h : GU l a n nx e) : ∃ K, K ≤ 9 ∧ a + K ≤ l.length ∧ (∀ j, j < K → 128 ≤ (l.getD (a + j) 0).toNat) ∧
    ((K < 9 ∧ a + K = l.length ∧ n = 0 ∧ nx = 0 ∧ e = 4) ∨ (K < 9 ∧ 0 < K ∧ a + K < l.length ∧ (l.getD (a + K) 0).toNat = 0 ∧ n = 0 ∧ nx = 0 ∧ e = 5) ∨ (K = 9 ∧ n = 0 ∧ nx = 0 ∧ e = 5) ∨
      (K < 9 ∧ a + K < l.length ∧ (l.getD (a + K) 0).toNat < 128 ∧ ((l.getD (a + K) 0).toNat = 0 → K = 0) ∧ n = digN l a K + (l.getD (a + K) 0).toNat % 128 * 128 ^ K ∧ nx = a + K + 1 ∧ e = 0)) := by
  cases h with
  | short k hk hc he => exact ⟨k, by omega, by omega, hc, .inl ⟨hk, he, rfl, rfl, rfl⟩⟩
  | nought k hk h0 hc he hz => exact ⟨k, by omega, by omega, hc, .inr (.inl ⟨hk, h0, he, hz, rfl, rfl, rfl⟩)⟩
  | long he hc => exact ⟨9, by omega, he, hc, .inr (.inr (.inl ⟨rfl, rfl, rfl, rfl⟩))⟩
  | ok k hk hc he hl hz => exact ⟨k, by omega, by omega, hc, .inr (.inr (.inr ⟨hk, he, hl, hz, rfl, rfl, rfl⟩))⟩

theorem gu_end {l : List UInt8} {n nx e : Nat} (h : GU l l.length n nx e) : n = 0 ∧ nx = 0 ∧ e = 4 := by
  cases h with
  | short k hk hc he => exact ⟨rfl, rfl, rfl⟩
  | nought k hk h0 hc he hz => omega
  | long he hc => omega
  | ok k hk hc he hl hz => omega
theorem wrap_digit (y x k : Nat) (hy : y < 128 ^ k) (hx : x < 256) (hk : k < 9) : wrap64 ((y : Int) + wrap64 ((x : Int) % 128 * ((128 ^ k : Nat) : Int))) = ((y + x % 128 * 128 ^ k : Nat) : Int) := by
  have h2 : 128 ^ (k + 1) ≤ 128 ^ 9 := Nat.pow_le_pow_right (by omega) (by omega)
  have h3 : 128 ^ k * 128 = 128 ^ (k + 1) := rfl
  have h4 : x % 128 * 128 ^ k ≤ 127 * 128 ^ k := Nat.mul_le_mul_right _ (by omega)
  have e : (x : Int) % 128 * ((128 ^ k : Nat) : Int) = ((x % 128 * 128 ^ k : Nat) : Int) := by simp
  rw [e, IntWalk.wrap64_in ((x % 128 * 128 ^ k : Nat) : Int) (by omega), ← Int.natCast_add]
  exact IntWalk.wrap64_in _ (by omega)

end Go.Proofs.YtnhaehjkepmbaaaDoor
