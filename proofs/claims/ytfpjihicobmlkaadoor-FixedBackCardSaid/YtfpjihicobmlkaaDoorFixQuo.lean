/- Layer 3: products, quotients and rests of the program: by 128 bits. -/
import Derived.Test.YtfpjihicobmlkaaDoorFixAdd
import Derived.Test.YtfpjihicobmlkaaDoorFixDiv
namespace Go.Proofs.YtfpjihicobmlkaaDoor
open Go.RowKit
set_option linter.unusedVariables false

def quoN (a t b : Int) : Nat := a.natAbs * t.natAbs / b.natAbs
def quoS (a t b : Int) : Bool := (decide (a < 0) != decide (t < 0)) != decide (b < 0)
def mulV (a b : Int) : Int := if fitsB a && fitsB b then tellV (quoS a b 1000000) (quoN a b 1000000) else 0
def mulE (a b : Int) : Int := if fitsB a && fitsB b then tellE (quoN a b 1000000) else 2
def divV (a b : Int) : Int := if fitsB a && fitsB b then (if b = 0 then 0 else tellV (quoS a 1000000 b) (quoN a 1000000 b)) else 0
def divE (a b : Int) : Int := if fitsB a && fitsB b then (if b = 0 then 12 else tellE (quoN a 1000000 b)) else 2
def modV (a b : Int) : Int := if fitsB a && fitsB b then (if b = 0 then 0 else a.tmod b) else 0
def modE (a b : Int) : Int := if fitsB a && fitsB b then (if b = 0 then 12 else 0) else 2
def goodB (a t b : Int) : Bool := fitsB a && fitsB t && decide (1 ≤ b) && fitsB b
def scaleV (a t b : Int) : Int := if goodB a t b then tellV (quoS a t b) (quoN a t b) else 0
def scaleE (a t b : Int) : Int := if goodB a t b then tellE (quoN a t b) else 2

/-- Where the product's upper half is no less than the divisor, the quotient goes too far. -/
theorem quo_far {p d : Nat} (hd : 0 < d) (h : d ≤ p / 18446744073709551616) : 18446744073709551616 ≤ p / d := by
  refine le_div _ _ _ hd ?_
  have := Nat.div_mul_le_self p 18446744073709551616
  have h2 : d * 18446744073709551616 ≤ p / 18446744073709551616 * 18446744073709551616 := Nat.mul_le_mul_right _ h
  rw [Nat.mul_comm]
  exact Nat.le_trans h2 this
theorem quo_near {p d : Nat} (h : p / 18446744073709551616 < d) : p / d ≤ 18446744073709551615 := by
  refine Nat.le_of_lt_succ (div_less _ _ _ ?_)
  have := Nat.div_add_mod p 18446744073709551616
  have h3 : p % 18446744073709551616 < 18446744073709551616 := Nat.mod_lt _ (by omega)
  rw [Nat.mul_comm]
  omega
theorem tell_far {b : Bool} {s : Nat} (h : 18446744073709551616 ≤ s) : tellV b s = 0 ∧ tellE s = 11 := by
  have k : ¬ s ≤ 1152921504606846976 := by omega
  unfold tellV tellE
  simp only [if_neg k]
  exact ⟨trivial, trivial⟩

set_option maxHeartbeats 1000000 in
theorem quotient_prog (a t b : Int) (w : World) (ha : fitsB a = true) (ht : fitsB t = true) (hb : fitsB b = true) (hb0 : b ≠ 0) :
    Calls Tryd.prog 31 #[.int .i64 a, .int .i64 t, .int .i64 b] w fun e w' => e = .returned (.tuple #[.int .i64 (tellV (quoS a t b) (quoN a t b)), .int .i64 (tellE (quoN a t b))]) ∧ Below w.heap.size w w' := by
  have k1 := fits_of ha
  have k2 := fits_of ht
  have k3 := fits_of hb
  have hp : a.natAbs * t.natAbs < 18446744073709551616 * 18446744073709551616 := by
    have := Nat.mul_le_mul (show a.natAbs ≤ 1152921504606846976 by omega) (show t.natAbs ≤ 1152921504606846976 by omega)
    omega
  have hd : 0 < b.natAbs := by omega
  have hdb : b.natAbs ≤ 18446744073709551615 := by omega
  have hM := Tryd.bits_Mul64 a.natAbs t.natAbs (by omega) (by omega)
  have hlo : a.natAbs * t.natAbs % 18446744073709551616 ≤ 18446744073709551615 := by omega
  have hhi : a.natAbs * t.natAbs / 18446744073709551616 ≤ 18446744073709551615 := by omega
  have he := Nat.div_add_mod (a.natAbs * t.natAbs) 18446744073709551616
  by_cases hc : a.natAbs * t.natAbs / 18446744073709551616 < b.natAbs
  · have hq := quo_near hc
    have hD := div64_prog _ (a.natAbs * t.natAbs % 18446744073709551616) b.natAbs hc hlo hdb
    rw [he] at hD
    have hz : decide (b.natAbs ≤ a.natAbs * t.natAbs / 18446744073709551616) = false := by simpa using hc
    unfold quoN
    generalize a.natAbs * t.natAbs / 18446744073709551616 = hi at *
    generalize a.natAbs * t.natAbs % 18446744073709551616 = lo at *
    generalize a.natAbs * t.natAbs / b.natAbs = q at *
    have hS : ∀ n : Int, ((n.natAbs : Nat) : Int) = (n.natAbs : Int) := fun _ => rfl
    clear hS he hp ha ht hb
    go_enter Tryd.func31, Tryd.ntmps31
    go_wp2_with fail
    refine (teller_prog _ w).mono ?_
    rintro e w1 ⟨rfl, rfl⟩
    go_wp2_with fail
    refine (size_prog a _ (by omega) (by omega)).mono ?_
    rintro e w1 ⟨rfl, rfl⟩
    go_wp2_with fail
    refine (size_prog t _ (by omega) (by omega)).mono ?_
    rintro e w1 ⟨rfl, rfl⟩
    go_wp2_with fail
    refine (hM _).mono ?_
    rintro e w1 ⟨rfl, rfl⟩
    go_wp2_with fail
    refine (size_prog b _ (by omega) (by omega)).mono ?_
    rintro e w1 ⟨rfl, rfl⟩
    go_wp2_with fail
    refine (hD _).mono ?_
    rintro e w1 ⟨r, rfl, hb1⟩
    go_wp2_with fail
    refine (told_prog (quoS a t b) q ⟨w.heap.size, 0, none⟩ w1 hq ?_).mono ?_
    · exact (hb1.cell (p := ⟨w.heap.size, 0, none⟩) (by simp)).trans (by rw [World.cell?_alloc_new]; rfl)
    rintro e w1 ⟨rfl, rfl⟩
    go_wp2
    go_ret2
    exact ⟨rfl, below_then ((Below.refl _ _).alloc (Nat.le_refl _) _) hb1⟩
  · have hf := quo_far hd (by omega : b.natAbs ≤ a.natAbs * t.natAbs / 18446744073709551616)
    obtain ⟨e1, e2⟩ := tell_far (b := quoS a t b) hf
    have hz : decide (b.natAbs ≤ a.natAbs * t.natAbs / 18446744073709551616) = true := by simpa using hc
    unfold quoN
    rw [e1, e2]
    generalize a.natAbs * t.natAbs / 18446744073709551616 = hi at *
    generalize a.natAbs * t.natAbs % 18446744073709551616 = lo at *
    generalize a.natAbs * t.natAbs / b.natAbs = q at *
    clear he hp ha ht hb e1 e2 hf
    go_enter Tryd.func31, Tryd.ntmps31
    go_wp2_with fail
    refine (teller_prog _ w).mono ?_
    rintro e w1 ⟨rfl, rfl⟩
    go_wp2_with fail
    refine (size_prog a _ (by omega) (by omega)).mono ?_
    rintro e w1 ⟨rfl, rfl⟩
    go_wp2_with fail
    refine (size_prog t _ (by omega) (by omega)).mono ?_
    rintro e w1 ⟨rfl, rfl⟩
    go_wp2_with fail
    refine (hM _).mono ?_
    rintro e w1 ⟨rfl, rfl⟩
    go_wp2_with fail
    refine (size_prog b _ (by omega) (by omega)).mono ?_
    rintro e w1 ⟨rfl, rfl⟩
    go_wp2
    go_ret2
    exact ⟨rfl, (Below.refl _ _).alloc (Nat.le_refl _) _⟩
end Go.Proofs.YtfpjihicobmlkaaDoor
