/- Plain mathematics of frames: what is read at a place. No program in sight. -/
import Derived.Test.YtnhaehjkepmbaaaDoorFrameMath
namespace Go.Proofs.YtnhaehjkepmbaaaDoor
set_option linter.unusedVariables false

/-- How many bytes the frame at a place says that it has. -/
def fn (l : List UInt8) (a : Nat) : Nat := (l.getD a 0).toNat * 256 + (l.getD (a + 1) 0).toNat
/-- Does the frame at a place carry its sum? -/
def carries (l : List UInt8) (a : Nat) : Prop := leN ((l.drop (a + (2 + fn l a))).take 4) = sumN ((l.drop a).take (2 + fn l a))
instance (l : List UInt8) (a : Nat) : Decidable (carries l a) := by unfold carries; infer_instance
/-- What is read as a frame at a place. -/
inductive FG (l : List UInt8) (a : Nat) : List UInt8 → Nat → Nat → Prop
  | few (h : l.length - a < 6) : FG l a [] 0 4
  | short (h6 : 6 ≤ l.length - a) (h : l.length - a < fn l a + 6) : FG l a [] 0 4
  | bad (h : fn l a + 6 ≤ l.length - a) (hc : ¬ carries l a) : FG l a [] 0 5
  | ok (h : fn l a + 6 ≤ l.length - a) (hc : carries l a) : FG l a ((l.drop (a + 2)).take (fn l a)) (a + fn l a + 6) 0
theorem fg_total (l : List UInt8) (a : Nat) : ∃ x n e, FG l a x n e := by
  by_cases h : l.length - a < 6
  · exact ⟨_, _, _, .few h⟩
  · by_cases h2 : l.length - a < fn l a + 6
    · exact ⟨_, _, _, .short (by omega) h2⟩
    · by_cases hc : carries l a
      · exact ⟨_, _, _, .ok (by omega) hc⟩
      · exact ⟨_, _, _, .bad (by omega) hc⟩
theorem fn_lt (l : List UInt8) (a : Nat) : fn l a < 65536 := by
  have h1 := (l.getD a 0).toNat_lt
  have h2 := (l.getD (a + 1) 0).toNat_lt
  unfold fn
  omega

theorem drop_two (l : List UInt8) (a : Nat) (h : a + 2 ≤ l.length) : l.drop a = l.getD a 0 :: l.getD (a + 1) 0 :: l.drop (a + 2) := by
  rw [List.drop_eq_getElem_cons (by omega), List.drop_eq_getElem_cons (by omega), getD_in l 0 (by omega), getD_in l 0 (by omega)]
theorem head_at (l : List UInt8) (a : Nat) (h : fn l a + 6 ≤ l.length - a) : headL ((l.drop (a + 2)).take (fn l a)) = (l.drop a).take (2 + fn l a) := by
  have h1 := (l.getD a 0).toNat_lt
  have h2 := (l.getD (a + 1) 0).toNat_lt
  have hl : ((l.drop (a + 2)).take (fn l a)).length = fn l a := by simp; omega
  rw [headL, hl, drop_two l a (by omega), show 2 + fn l a = fn l a + 1 + 1 from by omega, List.take_succ_cons, List.take_succ_cons]
  congr 1
  · apply UInt8.toNat.inj
    rw [UInt8.toNat_ofNat']
    unfold fn
    omega
  · congr 1
    apply UInt8.toNat.inj
    rw [UInt8.toNat_ofNat']
    unfold fn
    omega
theorem le4_eq (s : Nat) (hs : s < 2 ^ 32) (t : List UInt8) (ht : t.length = 4) : le4 s = t ↔ leN t = s := by
  constructor
  · intro h
    rw [← h, leN_le4 hs]
  · intro h
    rw [← h, le4_leN t ht]
theorem frame_at (l : List UInt8) (a : Nat) (h : fn l a + 6 ≤ l.length - a) : frameL ((l.drop (a + 2)).take (fn l a)) = (l.drop a).take (fn l a + 6) ↔ carries l a := by
  have e : (l.drop a).take (fn l a + 6) = (l.drop a).take (2 + fn l a) ++ (l.drop (a + (2 + fn l a))).take 4 := by
    rw [show fn l a + 6 = (2 + fn l a) + 4 from by omega, List.take_add, List.drop_drop]
  rw [frameL, head_at l a h, e, List.append_right_inj, le4_eq _ (sumN_lt _) _ (by simp; omega)]
  rfl

/-- The four bytes of a sum, one after the other. -/
theorem leN_step (l : List UInt8) (a k : Nat) (h : a + k < l.length) : leN ((l.drop a).take (k + 1)) = leN ((l.drop a).take k) + (l.getD (a + k) 0).toNat * 2 ^ (8 * k) := by
  have e : (l.drop a).take (k + 1) = (l.drop a).take k ++ [l.getD (a + k) 0] := by
    rw [List.take_add_one, List.getElem?_drop, List.getElem?_eq_getElem h, getD_in l 0 h]
    rfl
  have hl : ((l.drop a).take k).length = k := by simp; omega
  rw [e, leN_append, hl, xor_add _ _ _ (by have := leN_lt ((l.drop a).take k); rwa [hl] at this)]
  simp [leN, Nat.mul_comm]
end Go.Proofs.YtnhaehjkepmbaaaDoor
