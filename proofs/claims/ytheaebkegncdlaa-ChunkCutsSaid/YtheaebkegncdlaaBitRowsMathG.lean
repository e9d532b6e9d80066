/- Plain mathematics of numbers that are put one behind the other: each is read where it was put. -/
import Derived.Test.YtheaebkegncdlaaBitPutNumG
import Derived.Test.YtheaebkegncdlaaBitGetNum
namespace Go.Proofs.Ytheaebkegncdlaa
set_option linter.unusedVariables false

def Has (L : List UInt8) (p u : Nat) : Prop :=
  (∀ j, j < 7 → bitN L (p + j) = dig (digs u) (7 - 1 - j)) ∧ (∀ j, j < digs u → bitN L (p + 7 + j) = dig u (digs u - 1 - j))
theorem right_num (l : List UInt8) (N u : Nat) : rightB (numL l N u) ((N + (7 + digs u) : Nat) : Int) = true := by
  rw [← Nat.add_assoc]
  exact right_put
theorem bit_num {l : List UInt8} {N u i : Nat} (hi : i < N + (7 + digs u)) : bitN (numL l N u) i = numF l N u i := bit_put (by omega)
theorem has_num (l : List UInt8) (N u : Nat) : Has (numL l N u) N u :=
  ⟨fun j hj => (bit_num (by omega)).trans (numF_len hj), fun j hj => (bit_num (by omega)).trans (numF_num hj)⟩
theorem has_keep {l : List UInt8} {N u p v : Nat} (h : Has l p v) (hp : p + 7 + digs v ≤ N) : Has (numL l N u) p v :=
  ⟨fun j hj => (bit_num (by omega)).trans ((numF_old (by omega)).trans (h.1 j hj)), fun j hj => (bit_num (by omega)).trans ((numF_old (by omega)).trans (h.2 j hj))⟩
theorem gnum_has {L : List UInt8} {M p u : Nat} (hr : rightB L (M : Int) = true) (h : Has L p u) (hu : u ≤ 18446744073709551615) (hp : p + (7 + digs u) ≤ M) :
    gnum L M p = (u, ((p + (7 + digs u) : Nat) : Int), 0) := by
  have hd := digs_64 hu
  have e7 : getN L p 7 = digs u := getN_of_dig (by omega) h.1
  have eu : getN L (p + 7) (digs u) = u := getN_of_dig (digs_le.1 (Nat.le_refl _)) h.2
  unfold gnum
  rw [if_neg (by rw [hr]; simp; omega), if_neg (by omega), Int.toNat_natCast, e7, if_neg (by omega), if_neg (by omega), eu, if_neg (by simp)]
  congr 2
  omega
theorem gnum_end {L : List UInt8} {M : Nat} (hr : rightB L (M : Int) = true) : gnum L M M = (0, 0, 4) := by
  unfold gnum
  rw [if_neg (by rw [hr]; simp), if_pos (by omega)]

/-- The bits, and how many, behind the first k numbers. -/
def st (us : List Nat) : Nat → List UInt8 × Nat
  | 0 => ([], 0)
  | k + 1 => (numL (st us k).1 (st us k).2 (us.getD k 0), (st us k).2 + (7 + digs (us.getD k 0)))
theorem st_ok (us : List Nat) (hu : ∀ k, us.getD k 0 ≤ 18446744073709551615) : ∀ k, rightB (st us k).1 ((st us k).2 : Int) = true ∧ (st us k).2 ≤ 71 * k ∧
    ∀ i, i < k → Has (st us k).1 (st us i).2 (us.getD i 0) ∧ (st us i).2 + (7 + digs (us.getD i 0)) ≤ (st us k).2 := by
  intro k
  induction k with
  | zero => exact ⟨by show rightB [] 0 = true; decide +kernel, Nat.le_refl _, fun i hi => by omega⟩
  | succ k ih =>
    obtain ⟨h1, h2, h3⟩ := ih
    have hd := digs_64 (hu k)
    refine ⟨right_num _ _ _, ?_, fun i hi => ?_⟩
    · show (st us k).2 + (7 + digs (us.getD k 0)) ≤ _
      omega
    · by_cases e : i = k
      · subst e
        exact ⟨has_num _ _ _, Nat.le_refl _⟩
      · obtain ⟨g1, g2⟩ := h3 i (by omega)
        refine ⟨has_keep g1 (by omega), ?_⟩
        show _ ≤ (st us k).2 + (7 + digs (us.getD k 0))
        omega
end Go.Proofs.Ytheaebkegncdlaa
