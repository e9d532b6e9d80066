/- What the small functions on numbers of layer 1 tell: zigzag, its way back, bytes for bits, digits. No condition beyond the kinds. -/
import Derived.Test.YtheaebkegncdlaaChecked
import Derived.Test.YtheaebkegncdlaaBitMath
import Derived.WalkKit
import Derived.ProofKit
import Derived.WalkSpells
import Derived.WalkLawsBesides
import Derived.IntWalk
import Derived.Lib.Hide
import Derived.Outline
namespace Go.Proofs.Ytheaebkegncdlaa
open Go.RowKit
set_option linter.unusedVariables false

def zig (n : Int) : Nat := if 0 ≤ n then (2 * n).toNat else (2 * (-(n + 1)) + 1).toNat
def zag (u : Nat) : Int := if u % 2 = 0 then ((u / 2 : Nat) : Int) else -((u / 2 : Nat) : Int) - 1

theorem ret_num {k : IntKind} {a b : Int} (h : a = b) : Ending.returned (.int k a) = .returned (.int k b) := by rw [h]
theorem u64_and_one (u : Nat) (h : u ≤ 18446744073709551615) : bits BinOp.and IntKind.u64 (u : Int) 1 = ((u % 2 : Nat) : Int) := by
  rw [show (1 : Int) = ((1 : Nat) : Int) from rfl, u64_and_nat u 1 (by omega) (by omega), Nat.and_one_is_mod]
theorem u64_or_one (k : Nat) (h : 2 * k + 1 ≤ 18446744073709551615) (d : Nat) (hd : d < 2) : bits BinOp.or IntKind.u64 ((2 * k : Nat) : Int) (d : Int) = ((2 * k + d : Nat) : Int) := by
  rw [u64_or_nat (2 * k) d (by omega) (by omega)]
  congr 1
  have := Nat.two_pow_add_eq_or_of_lt (i := 1) (b := d) (by omega) k
  simp only [Nat.pow_one] at this
  exact this.symm
theorem u64_and_one_even (u : Nat) (h : u ≤ 18446744073709551615) (h2 : u % 2 = 0) : (bits BinOp.and IntKind.u64 (u : Int) 1 == 0) = true := by rw [u64_and_one u h, h2]; rfl
theorem u64_and_one_odd (u : Nat) (h : u ≤ 18446744073709551615) (h2 : ¬ u % 2 = 0) : (bits BinOp.and IntKind.u64 (u : Int) 1 == 0) = false := by
  rw [u64_and_one u h, show u % 2 = 1 from by omega]; rfl

theorem zig_prog (n : Int) (w : World) (h0 : -9223372036854775808 ≤ n) (h1 : n ≤ 9223372036854775807) :
    Calls Try.prog 43 #[.int .i64 n] w fun e w' => e = .returned (.int .u64 (zig n)) ∧ w = w' := by
  by_cases h : 0 ≤ n
  · have H := Lib.hid (show n * 2 = (zig n : Int) by unfold zig; rw [if_pos h]; omega)
    go_enter Try.func43, Try.ntmps43
    go_wp2
    go_ret
    exact ⟨ret_num H.out, rfl⟩
  · have H := Lib.hid (show bits BinOp.or IntKind.u64 (-(n + 1) * 2) 1 = (zig n : Int) by
      obtain ⟨k, hk⟩ : ∃ k : Nat, -(n + 1) = k := ⟨(-(n + 1)).toNat, by omega⟩
      unfold zig
      rw [if_neg h, hk, show (k : Int) * 2 = ((2 * k : Nat) : Int) from by omega, show (1 : Int) = ((1 : Nat) : Int) from rfl, u64_or_one k (by omega) 1 (by omega)]
      omega)
    go_enter Try.func43, Try.ntmps43
    go_wp2
    go_ret
    exact ⟨ret_num H.out, rfl⟩

theorem zag_prog (u : Nat) (w : World) (h1 : u ≤ 18446744073709551615) :
    Calls Try.prog 60 #[.int .u64 u] w fun e w' => e = .returned (.int .i64 (zag u)) ∧ w = w' := by
  by_cases h : u % 2 = 0
  · have H := Lib.hid (show (u : Int) / 2 = zag u by unfold zag; rw [if_pos h]; omega)
    have hb := u64_and_one_even u h1 h
    clear h
    go_enter Try.func60, Try.ntmps60
    go_wp2
    go_ret
    exact ⟨ret_num H.out, rfl⟩
  · have H := Lib.hid (show -((u : Int) / 2) - 1 = zag u by unfold zag; rw [if_neg h]; omega)
    have hb := u64_and_one_odd u h1 h
    clear h
    go_enter Try.func60, Try.ntmps60
    go_wp2
    go_ret
    exact ⟨ret_num H.out, rfl⟩

theorem zig_ref (n : Int) (w : World) (h0 : -9223372036854775808 ≤ n) (h1 : n ≤ 9223372036854775807) :
    Calls Try.prog 30 #[.int .i64 n] w fun e w' => e = .returned (.int .u64 (zig n)) ∧ w = w' := by
  by_cases h : 0 ≤ n
  · have H := Lib.hid (show 2 * n = (zig n : Int) by unfold zig; rw [if_pos h]; omega)
    go_enter Try.func30, Try.ntmps30
    go_wp2
    go_ret
    exact ⟨ret_num H.out, rfl⟩
  · have H := Lib.hid (show 2 * -(n + 1) + 1 = (zig n : Int) by unfold zig; rw [if_neg h]; omega)
    go_enter Try.func30, Try.ntmps30
    go_wp2
    go_ret
    exact ⟨ret_num H.out, rfl⟩

theorem zag_ref (u : Nat) (w : World) (h1 : u ≤ 18446744073709551615) :
    Calls Try.prog 36 #[.int .u64 u] w fun e w' => e = .returned (.int .i64 (zag u)) ∧ w = w' := by
  by_cases h : u % 2 = 0
  · have H := Lib.hid (show (u : Int) / 2 = zag u by unfold zag; rw [if_pos h]; omega)
    have hb : ((u : Int) % 2 == 0) = true := by rw [beq_iff_eq]; omega
    clear h
    go_enter Try.func36, Try.ntmps36
    go_wp2
    go_ret
    exact ⟨ret_num H.out, rfl⟩
  · have H := Lib.hid (show -((u : Int) / 2) - 1 = zag u by unfold zag; rw [if_neg h]; omega)
    have hb : ((u : Int) % 2 == 0) = false := by rw [beq_eq_false_iff_ne]; omega
    clear h
    go_enter Try.func36, Try.ntmps36
    go_wp2
    go_ret
    exact ⟨ret_num H.out, rfl⟩

theorem bytesOf_prog (n : Nat) (w : World) (h1 : n ≤ 9223372036854775807) :
    Calls Try.prog 63 #[.int .i64 n] w fun e w' => e = .returned (.int .i64 ((n + 7) / 8 : Nat)) ∧ w = w' := by
  go_enter Try.func63, Try.ntmps63
  go_wp2
  go_ret
  exact ⟨ret_num (by omega), rfl⟩

theorem digit_ref (u k : Nat) (w : World) (h1 : u ≤ 18446744073709551615) (h2 : k ≤ 9223372036854775806) :
    Calls Try.prog 59 #[.int .u64 u, .int .i64 k] w fun e w' => e = .returned (.int .u64 (dig u k)) ∧ w = w' := by
  go_enter Try.func59, Try.ntmps59
  go_wp2
  go_loop [0, 5] (fun a i => ∃ j : Nat, j ≤ k ∧ i = .int .i64 j ∧ a = .int .u64 (u / 2 ^ j : Nat)) (fun _ i => k - (intOf i).toNat)
  case atStart => exact ⟨0, Nat.zero_le _, rfl, by simp⟩
  case round =>
    obtain ⟨j, hj, rfl, rfl⟩ := hrel
    have hle : u / 2 ^ j ≤ u := Nat.div_le_self _ _
    have H := Lib.hid (show ((u / 2 ^ j : Nat) : Int) / 2 = ((u / 2 ^ (j + 1) : Nat) : Int) by rw [Nat.pow_succ, ← Nat.div_div_eq_div_mul]; omega)
    generalize hx : u / 2 ^ j = x at *
    have Hx := Lib.hid hx
    clear hx
    by_cases hlt : j < k
    · go_wp2
      go_round
      case rel => exact ⟨j + 1, by omega, by go_num, by rw [H.out]⟩
      case measure => simp [intOf]; omega
    · go_wp2
      go_ret
      refine ⟨ret_num ?_, rfl⟩
      have : j = k := by omega
      subst this
      unfold dig
      rw [Hx.out]
      omega

theorem digits_ref (u : Nat) (w : World) (h1 : u ≤ 18446744073709551615) :
    Calls Try.prog 45 #[.int .u64 u] w fun e w' => e = .returned (.int .i64 (digs u)) ∧ w = w' := by
  have hd := digs_64 h1
  go_enter Try.func45, Try.ntmps45
  go_wp2
  go_loop [0, 3] (fun a i => ∃ j x : Nat, x ≤ u ∧ j + digs x ≤ digs u ∧ digs u ≤ j + digs x ∧ i = .int .i64 j ∧ a = .int .u64 x) (fun a _ => (intOf a).toNat)
  case atStart => exact ⟨0, u, Nat.le_refl _, by omega, by omega, rfl, rfl⟩
  case round =>
    obtain ⟨j, x, hx, hj1, hj2, rfl, rfl⟩ := hrel
    by_cases hlt : 0 < x
    · have hh := digs_half (u := x) (by omega)
      have e1 : j + 1 + digs (x / 2) ≤ digs u := by omega
      have e2 : digs u ≤ j + 1 + digs (x / 2) := by omega
      clear hh hj2
      go_wp2
      go_round
      case rel => exact ⟨j + 1, x / 2, by omega, e1, e2, by go_num, by go_num⟩
      case measure => simp [intOf]; omega
    · have e : digs x = 0 := by rw [show x = 0 from by omega]; exact digs_zero
      have e1 : j ≤ digs u := by omega
      have e2 : digs u ≤ j := by omega
      clear e hj1 hj2
      go_wp2
      go_ret
      exact ⟨ret_num (by omega), rfl⟩
end Go.Proofs.Ytheaebkegncdlaa
