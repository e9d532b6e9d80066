/- The long division of 128 bits by 64, by halves of 32 bits, over the natural numbers: that each half's guess comes down to the true digit, and no further. -/
import Derived.Test.YtfpjihicobmlkaaDoorWords
namespace Go.Proofs.YtfpjihicobmlkaaDoor
set_option linter.unusedVariables false

/-- A guess q for the digit of (u * 2^32 + d) by y1 * 2^32 + y0, and what it leaves of u. -/
structure Guess (u y1 y0 d q r : Nat) : Prop where
  sum : q * y1 + r = u
  low : (4294967296 * u + d) / (4294967296 * y1 + y0) ≤ q
  high : q ≤ 4294967297
  small : r < 4294967296

theorem div_less (a b c : Nat) (h : a < b * c) : a / b < c := Nat.div_lt_of_lt_mul h
theorem le_div (a b c : Nat) (hb : 0 < b) (h : c * b ≤ a) : c ≤ a / b := (Nat.le_div_iff_mul_le hb).2 h

structure Halves (u y1 y0 d : Nat) : Prop where
  a : 2147483648 ≤ y1
  b : y1 < 4294967296
  c : y0 < 4294967296
  e : d < 4294967296
  f : u < 4294967296 * y1 + y0

section
variable {u y1 y0 d q r : Nat}
theorem Halves.pos (h : Halves u y1 y0 d) : 0 < 4294967296 * y1 + y0 := by have := h.a; omega
theorem Halves.digit (h : Halves u y1 y0 d) : (4294967296 * u + d) / (4294967296 * y1 + y0) < 4294967296 := by
  obtain ⟨ha, hb, hc, he, hf⟩ := h
  refine div_less _ _ _ ?_
  rw [Nat.mul_comm (4294967296 * y1 + y0)]
  omega
theorem guess_start (h : Halves u y1 y0 d) : Guess u y1 y0 d (u / y1) (u % y1) := by
  obtain ⟨ha, hb, hc, he, hf⟩ := h
  have hm : u % y1 < y1 := Nat.mod_lt _ (by omega)
  refine ⟨by rw [Nat.mul_comm]; exact Nat.div_add_mod u y1, ?_, ?_, by omega⟩
  · refine Nat.le_trans (Nat.div_le_div_left (c := 4294967296 * y1) (Nat.le_add_right _ _) (by omega)) ?_
    rw [← Nat.div_div_eq_div_mul, show (4294967296 * u + d) / 4294967296 = u from by omega]
    exact Nat.le_refl _
  · have k : u < y1 * 4294967298 := by rw [Nat.mul_comm]; omega
    exact Nat.le_of_lt_succ (div_less _ _ _ k)
theorem times (q y1 y0 : Nat) : q * (4294967296 * y1 + y0) = 4294967296 * (q * y1) + q * y0 := by rw [Nat.mul_add, Nat.mul_left_comm]
theorem Guess.over (h : Halves u y1 y0 d) (g : Guess u y1 y0 d q r) (hc : 4294967296 ≤ q ∨ 4294967296 * r + d < q * y0) : (4294967296 * u + d) / (4294967296 * y1 + y0) < q := by
  rcases hc with hc | hc
  · exact Nat.lt_of_lt_of_le h.digit hc
  · refine div_less _ _ _ ?_
    rw [Nat.mul_comm _ q, times]
    have e := g.sum
    omega
theorem Guess.less (g : Guess u y1 y0 d q r) (hq : 1 ≤ q) : (q - 1) * y1 + (r + y1) = u := by
  have h3 := g.sum
  have e : q * y1 = (q - 1) * y1 + y1 := by
    rw [Nat.sub_mul, Nat.one_mul]
    have : y1 ≤ q * y1 := Nat.le_mul_of_pos_left _ (by omega)
    omega
  omega
theorem Guess.pos (h : Halves u y1 y0 d) (g : Guess u y1 y0 d q r) (hc : 4294967296 ≤ q ∨ 4294967296 * r + d < q * y0) : 1 ≤ q := Nat.lt_of_le_of_lt (Nat.zero_le _) (g.over h hc)
theorem Guess.down (h : Halves u y1 y0 d) (g : Guess u y1 y0 d q r) (hc : 4294967296 ≤ q ∨ 4294967296 * r + d < q * y0) (hr : r + y1 < 4294967296) : Guess u y1 y0 d (q - 1) (r + y1) := by
  have h2 := g.high
  have h4 := g.pos h hc
  exact ⟨g.less h4, Nat.le_sub_one_of_lt (g.over h hc), by omega, hr⟩
theorem Guess.fits (h : Halves u y1 y0 d) (g : Guess u y1 y0 d q r) (hc : q * y0 ≤ 4294967296 * r + d) : q = (4294967296 * u + d) / (4294967296 * y1 + y0) := by
  refine Nat.le_antisymm ?_ g.low
  refine le_div _ _ _ h.pos ?_
  rw [times]
  have e := g.sum
  omega
theorem Guess.broke (h : Halves u y1 y0 d) (g : Guess u y1 y0 d q r) (hc : 4294967296 ≤ q ∨ 4294967296 * r + d < q * y0) (hr : 4294967296 ≤ r + y1) : q - 1 = (4294967296 * u + d) / (4294967296 * y1 + y0) := by
  have h2 := g.high
  have h4 := g.pos h hc
  refine Nat.le_antisymm ?_ (Nat.le_sub_one_of_lt (g.over h hc))
  refine le_div _ _ _ h.pos ?_
  have k := g.less h4
  rw [times]
  have m : (q - 1) * y0 ≤ 4294967296 * y0 := Nat.mul_le_mul_right _ (by omega)
  have := h.c
  clear hc g h
  omega
/-- Nothing that the loop's test reckons goes too far. -/
theorem Guess.calm (h : Halves u y1 y0 d) (g : Guess u y1 y0 d q r) : q * y0 < 18446744073709551616 ∧ 4294967296 * r + d < 18446744073709551616 := by
  have h1 := g.high
  have h2 := g.small
  have h3 := h.e
  have h4 := h.c
  have : q * y0 ≤ 4294967297 * 4294967295 := Nat.mul_le_mul h1 (by omega)
  omega
end

/-- Two digits, one behind the other. -/
theorem digits_two (a d Y : Nat) (hY : 0 < Y) : 4294967296 * (a / Y) + (4294967296 * (a % Y) + d) / Y = (4294967296 * a + d) / Y := by
  have e : 4294967296 * a + d = (4294967296 * (a % Y) + d) + Y * (4294967296 * (a / Y)) := by
    have k : 4294967296 * a = 4294967296 * (Y * (a / Y) + a % Y) := by rw [Nat.div_add_mod a Y]
    rw [k, Nat.mul_add, Nat.mul_left_comm Y]
    clear k
    omega
  rw [e, Nat.add_mul_div_left _ _ hY, Nat.add_comm]

/-- The dividend moved to the left, in halves. -/
theorem moved (hi lo s : Nat) (hs : s ≤ 64) : (18446744073709551616 * hi + lo) * 2 ^ s = 18446744073709551616 * (hi * 2 ^ s + lo / 2 ^ (64 - s)) + lo * 2 ^ s % 18446744073709551616 := by
  have e : lo / 2 ^ (64 - s) = lo * 2 ^ s / 18446744073709551616 := by
    have k : (18446744073709551616 : Nat) = 2 ^ (64 - s) * 2 ^ s := by rw [← Nat.pow_add, show 64 - s + s = 64 from by omega]
    rw [k, Nat.mul_div_mul_right _ _ (Nat.two_pow_pos s)]
  have h := Nat.div_add_mod (lo * 2 ^ s) 18446744073709551616
  rw [e, Nat.add_mul, Nat.mul_assoc]
  omega
theorem moved_part (lo s : Nat) (hs : s ≤ 64) (hlo : lo < 18446744073709551616) : lo / 2 ^ (64 - s) < 2 ^ s := by
  refine div_less _ _ _ ?_
  rw [← Nat.pow_add, show 64 - s + s = 64 from by omega]
  exact hlo
theorem moved_or (hi lo s : Nat) (hs : s ≤ 64) (hlo : lo < 18446744073709551616) : hi * 2 ^ s ||| lo / 2 ^ (64 - s) = hi * 2 ^ s + lo / 2 ^ (64 - s) := by
  have := Nat.shiftLeft_add_eq_or_of_lt (moved_part lo s hs hlo) hi
  rw [Nat.shiftLeft_eq] at this
  exact this.symm
theorem moved_lt (hi lo y s : Nat) (hs : s ≤ 64) (hlo : lo < 18446744073709551616) (h : hi < y) : hi * 2 ^ s + lo / 2 ^ (64 - s) < y * 2 ^ s := by
  have hl := moved_part lo s hs hlo
  have : (hi + 1) * 2 ^ s ≤ y * 2 ^ s := Nat.mul_le_mul_right _ h
  rw [Nat.add_mul, Nat.one_mul] at this
  generalize lo / 2 ^ (64 - s) = a at *
  omega
/-- The whole division. -/
theorem division (hi lo y s u d1 d0 : Nat) (hs : s ≤ 64) (hy : 0 < y) (hu : u = hi * 2 ^ s + lo / 2 ^ (64 - s)) (hd : 4294967296 * d1 + d0 = lo * 2 ^ s % 18446744073709551616) :
    4294967296 * ((4294967296 * u + d1) / (y * 2 ^ s)) + (4294967296 * ((4294967296 * u + d1) % (y * 2 ^ s)) + d0) / (y * 2 ^ s) = (18446744073709551616 * hi + lo) / y := by
  have k := Nat.mul_div_mul_right (18446744073709551616 * hi + lo) y (Nat.two_pow_pos s)
  have e : 4294967296 * (4294967296 * u + d1) + d0 = (18446744073709551616 * hi + lo) * 2 ^ s := by
    rw [moved hi lo s hs, ← hu, ← hd]
    clear k hd hu
    omega
  rw [digits_two _ _ _ (Nat.mul_pos hy (Nat.two_pow_pos s)), ← k, e]
end Go.Proofs.YtfpjihicobmlkaaDoor
