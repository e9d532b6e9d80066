/- Layer 3: the document's own product, digit by digit. -/
import Derived.Test.YtfpjihicobmlkaaDoorFixBy
import Derived.BigRegion
import Derived.Deep.CutBlock
import Derived.RegionTactic
import Derived.Deep.RegionWith
import Derived.Deep.RegionHeld3
namespace Go.Proofs.YtfpjihicobmlkaaDoor
open Go.RowKit
set_option linter.unusedVariables false

def digs4 (n : Nat) : List Nat := [n % 1048576, n / 1048576 % 1048576, n / 1048576 / 1048576 % 1048576, n / 1048576 / 1048576 / 1048576]
theorem digs4_val (n : Nat) : val (digs4 n) = n := by
  simp only [digs4, val]
  omega
theorem digs4_lt (n : Nat) (h : n ≤ 1152921504606846976) (j : Nat) : (digs4 n).getD j 0 < 1048576 := by
  unfold digs4
  rcases j with _ | _ | _ | _ | j <;> simp <;> omega

theorem digits_ref (n : Nat) (h : n ≤ 1152921504606846976) (w : World) :
    Calls Tryd.prog 47 #[.int .i64 (n : Int)] w fun e w' => e = .returned (.slice (some ⟨w.heap.size, 0, none⟩) 4 4) ∧ w.alloc (.cells (icells (digs4 n)) 3) = w' := by
  go_enter Tryd.func47, Tryd.ntmps47
  go_wp2
  go_ret
  exact ⟨rfl, rfl⟩

/-- The sum of the digits' products so far: all of the first i digits', and of the next one's the first k. -/
def sofar (xs ys : List Nat) (i k : Nat) : Nat := val (xs.take i) * val ys + xs.getD i 0 * 1048576 ^ i * val (ys.take k)
theorem sofar_zero (xs ys : List Nat) (i : Nat) : sofar xs ys i 0 = val (xs.take i) * val ys := by simp [sofar, val]
theorem sofar_next (xs ys : List Nat) (i k : Nat) (hk : k < ys.length) : sofar xs ys i (k + 1) = sofar xs ys i k + xs.getD i 0 * ys.getD k 0 * 1048576 ^ (i + k) := by
  unfold sofar
  rw [val_take ys k hk, Nat.mul_add, Nat.pow_add, Nat.add_assoc]
  congr 1
  congr 1
  rw [Nat.mul_mul_mul_comm]
theorem sofar_all (xs ys : List Nat) (i : Nat) (hi : i < xs.length) : sofar xs ys i ys.length = val (xs.take (i + 1)) * val ys := by
  unfold sofar
  rw [val_take xs i hi, List.take_length, Nat.add_mul]

theorem make9 (W : World) : (Instr.makeSlice 30 (.int .i64 9) (.int .i64 9)).run Tryd.prog W = .ok (.slice (some ⟨W.heap.size, 0, none⟩) 9 9) (W.alloc (.cells (icells [0, 0, 0, 0, 0, 0, 0, 0, 0]) 3)) := by
  kernel_rfl

set_option maxHeartbeats 4000000 in
theorem product_ref (a b : Nat) (ha : a ≤ 1152921504606846976) (hb : b ≤ 1152921504606846976) (w : World) :
    Calls Tryd.prog 33 #[.int .i64 (a : Int), .int .i64 (b : Int)] w fun e w' =>
      ∃ l g, e = .returned (.slice (some ⟨g, 0, none⟩) 9 9) ∧ Row w' g 3 (icells l) ∧ l.length = 9 ∧ (∀ j, l.getD j 0 < 1048576) ∧ val l = a * b ∧ Below w.heap.size w w' := by
  have hmk := make9
  go_enter Tryd.func33, Tryd.ntmps33
  go_wp2_with fail
  refine (digits_ref a ha w).mono ?_
  rintro e w1 ⟨rfl, rfl⟩
  go_wp2_with fail
  refine (digits_ref b hb _).mono ?_
  rintro e w1 ⟨rfl, rfl⟩
  have R1 : Row (((w.alloc (.cells (icells (digs4 a)) 3)).alloc (.cells (icells (digs4 b)) 3)).alloc (.cells (icells [0, 0, 0, 0, 0, 0, 0, 0, 0]) 3)) w.heap.size 3 (icells (digs4 a)) := ((Row.new w _ _).alloc _).alloc _
  have R2 : Row (((w.alloc (.cells (icells (digs4 a)) 3)).alloc (.cells (icells (digs4 b)) 3)).alloc (.cells (icells [0, 0, 0, 0, 0, 0, 0, 0, 0]) 3)) (w.heap.size + 1) 3 (icells (digs4 b)) := by
    have := (Row.new (w.alloc (.cells (icells (digs4 a)) 3)) 3 (icells (digs4 b))).alloc (.cells (icells [0, 0, 0, 0, 0, 0, 0, 0, 0]) 3)
    simpa using this
  have R3 : Row (((w.alloc (.cells (icells (digs4 a)) 3)).alloc (.cells (icells (digs4 b)) 3)).alloc (.cells (icells [0, 0, 0, 0, 0, 0, 0, 0, 0]) 3)) (w.heap.size + 1 + 1) 3 (icells [0, 0, 0, 0, 0, 0, 0, 0, 0]) := by
    have := Row.new ((w.alloc (.cells (icells (digs4 a)) 3)).alloc (.cells (icells (digs4 b)) 3)) 3 (icells [0, 0, 0, 0, 0, 0, 0, 0, 0])
    simpa using this
  have B0 : Below w.heap.size w (((w.alloc (.cells (icells (digs4 a)) 3)).alloc (.cells (icells (digs4 b)) 3)).alloc (.cells (icells [0, 0, 0, 0, 0, 0, 0, 0, 0]) 3)) := (((Below.refl _ _).alloc (Nat.le_refl _) _).alloc (by simp) _).alloc (by simp; omega) _
  go_upto_block 0 with fail
  generalize (((w.alloc (.cells (icells (digs4 a)) 3)).alloc (.cells (icells (digs4 b)) 3)).alloc (.cells (icells [0, 0, 0, 0, 0, 0, 0, 0, 0]) 3)) = w3 at *
  clear hmk
  have L1 : (digs4 a).length = 4 := rfl
  have L2 : (digs4 b).length = 4 := rfl
  have V1 := Lib.hid (digs4_val a)
  have V2 := Lib.hid (digs4_val b)
  have D1 := Lib.hid (digs4_lt a ha)
  have D2 := Lib.hid (digs4_lt b hb)
  generalize digs4 a = xs at *
  generalize digs4 b = ys at *
  have hg3 : w.heap.size ≠ w.heap.size + 1 + 1 := by omega
  have hg4 : w.heap.size + 1 ≠ w.heap.size + 1 + 1 := by omega
  have hg5 : w.heap.size ≤ w.heap.size + 1 + 1 := by omega
  generalize w.heap.size + 1 + 1 = g3 at *
  generalize w.heap.size + 1 = g2 at *
  obtain ⟨g1, G1⟩ : ∃ g1, g1 = w.heap.size := ⟨_, rfl⟩
  rw [← G1] at R1 B0 hg3 hg5 ⊢
  have HG1 := Lib.hid G1
  have HL1 := Lib.hid L1
  have HL2 := Lib.hid L2
  clear G1 L1 L2
  go_wp2_with fail
  go_loopw [8] (fun i wr => ∃ k l, k ≤ 4 ∧ i = .int .i64 ((k : Nat) : Int) ∧ l.length = 9 ∧ Row wr g1 3 (icells xs) ∧ Row wr g2 3 (icells ys) ∧ Row wr g3 3 (icells l) ∧ (∀ j, l.getD j 0 ≤ 4398046511104 * k) ∧ val l = val (xs.take k) * val ys ∧ Below g1 w wr) (fun i _ => 4 - (intOf i).toNat)
  case atStart => exact ⟨0, _, by omega, rfl, rfl, R1, R2, R3, fun j => by rcases j with _ | _ | _ | _ | _ | _ | _ | _ | _ | j <;> simp, by simp [val], B0⟩
  case round =>
    obtain ⟨k, l, hk, rfl, hl, r1, r2, r3, hb3, hv, bl⟩ := hrel
    by_cases hlt : k < 4
    · have HV := Lib.hid hv
      have HL := Lib.hid hl
      have HB3 := Lib.hid hb3
      clear hv hl hb3
      go_wp2_with fail
      go_loopw [9] (fun i wr => ∃ m l, m ≤ 4 ∧ i = .int .i64 ((m : Nat) : Int) ∧ l.length = 9 ∧ Row wr g1 3 (icells xs) ∧ Row wr g2 3 (icells ys) ∧ Row wr g3 3 (icells l) ∧ (∀ j, l.getD j 0 ≤ 4398046511104 * k + 1099511627776 * m) ∧ val l = sofar xs ys k m ∧ Below g1 w wr) (fun i _ => 4 - (intOf i).toNat)
      case atStart => exact ⟨0, l, by omega, rfl, HL.out, r1, r2, r3, fun j => by have := HB3.out j; omega, by rw [HV.out, sofar_zero], bl⟩
      case round =>
        obtain ⟨m, l', hm, rfl, hl', r1', r2', r3', hb3', hv', bl'⟩ := hrel
        by_cases hlm : m < 4
        · have x1 := (r1'.cell k).trans (icells_get xs k (by have := HL1.out; omega))
          have x2 := (r2'.cell m).trans (icells_get ys m (by have := HL2.out; omega))
          have x3 := (r3'.cell (k + m)).trans (icells_get l' (k + m) (by omega))
          have f3 := r3'.frozen (k + m)
          have hu := hb3' (k + m)
          have hx := D1.out k
          have hy := D2.out m
          have hp : xs.getD k 0 * ys.getD m 0 ≤ 1048576 * 1048576 := Nat.mul_le_mul (by omega) (by omega)
          have HN := Lib.hid (sofar_next xs ys k m (by have := HL2.out; omega))
          have HP := Lib.hid (val_put l' (k + m) (l'.getD (k + m) 0 + xs.getD k 0 * ys.getD m 0) (xs.getD k 0 * ys.getD m 0) (by omega) rfl)
          have hc : ((xs.getD k 0 : Nat) : Int) * ((ys.getD m 0 : Nat) : Int) = ((xs.getD k 0 * ys.getD m 0 : Nat) : Int) := by simp
          have HB3' := Lib.hid hb3'
          have HV' := Lib.hid hv'
          have HL' := Lib.hid hl'
          have i1 : (k : Int) + (m : Int) < 9 := by omega
          have i2 : (0 : Int) ≤ (k : Int) + (m : Int) := by omega
          have i3 : ((k : Int) + (m : Int)).toNat = k + m := by omega
          have i4 : wrap64 ((k : Int) + (m : Int)) = (k : Int) + (m : Int) := by unfold wrap64; omega
          clear hb3' hv' hl' hx hy
          generalize xs.getD k 0 * ys.getD m 0 = p at *
          generalize xs.getD k 0 = x at *
          generalize ys.getD m 0 = y at *
          generalize l'.getD (k + m) 0 = u at *
          go_wp2_with fail
          go_region
          go_wp2
          go_roundw
          case rel =>
            refine ⟨m + 1, l'.set (k + m) (u + p), by omega, by go_num, by simpa using HL'.out, r1'.setFar (by simpa using hg3) _, r2'.setFar (by simpa using hg4) _, ?_, ?_, ?_, (Below.setCell bl' (by simpa using hg5) _).drew⟩
            · have := r3'.setAt (k + m) (.int .i64 ((u : Int) + (p : Int)))
              rw [show (u : Int) + (p : Int) = ((u + p : Nat) : Int) from by omega, icells_set] at this
              exact this
            · intro j
              by_cases hj : j = k + m
              · subst hj
                rw [num_set_self _ _ _ (by have := HL'.out; omega)]
                omega
              · rw [num_set_far _ _ _ _ hj]
                have := HB3'.out j
                omega
            · rw [HP.out, HV'.out, HN.out]
          case measure => simp [intOf]; omega
        · obtain rfl : m = 4 := by omega
          have he : val l' = val (xs.take (k + 1)) * val ys := hv'.trans (by have := sofar_all xs ys k (by have := HL1.out; omega); rw [HL2.out] at this; exact this)
          have HE := Lib.hid he
          have HB3' := Lib.hid hb3'
          have HL' := Lib.hid hl'
          clear hv' hb3' hl' he
          go_wp2_with fail
          go_roundw
          case rel => exact ⟨k + 1, l', by omega, by go_num, HL'.out, r1', r2', r3', fun j => by have := HB3'.out j; omega, HE.out, bl'⟩
          case measure => simp [intOf]; omega
    · obtain rfl : k = 4 := by omega
      have he : val l = a * b := hv.trans (by rw [← HL1.out, List.take_length, V1.out, V2.out])
      have HV := Lib.hid he
      have HB3 := Lib.hid hb3
      have HL := Lib.hid hl
      clear hv hb3 hl he
      go_wp2_with fail
      go_loopw [10] (fun i wr => ∃ k l, k ≤ 8 ∧ i = .int .i64 ((k : Nat) : Int) ∧ l.length = 9 ∧ Row wr g3 3 (icells l) ∧ (∀ j, j < k → l.getD j 0 < 1048576) ∧ l.getD k 0 ≤ 35184372088832 ∧ (∀ j, k < j → l.getD j 0 ≤ 17592186044416) ∧ val l = a * b ∧ Below g1 w wr) (fun i _ => 8 - (intOf i).toNat)
      case atStart => exact ⟨0, l, by omega, rfl, HL.out, r3, fun j h => by omega, by have := HB3.out 0; omega, fun j _ => by have := HB3.out j; omega, HV.out, bl⟩
      case round =>
        obtain ⟨m, l', hm, rfl, hl', r3', hlo, hmid, hup, hv', bl'⟩ := hrel
        have HV' := Lib.hid hv'
        have HL' := Lib.hid hl'
        clear hv'
        by_cases hlm : m < 8
        · have x0 := (r3'.cell m).trans (icells_get l' m (by omega))
          have x1 := (r3'.cell (m + 1)).trans (icells_get l' (m + 1) (by omega))
          have f0 := r3'.frozen m
          have f1 := r3'.frozen (m + 1)
          have hu1 := hup (m + 1) (by omega)
          have HC := Lib.hid (val_carry l' m (by omega))
          have HLO := Lib.hid hlo
          have HUP := Lib.hid hup
          have i3 : ((m : Int) + 1).toNat = m + 1 := by omega
          clear hlo hup hl'
          obtain ⟨u0, U0⟩ : ∃ u0, u0 = l'.getD m 0 := ⟨_, rfl⟩
          obtain ⟨u1, U1⟩ : ∃ u1, u1 = l'.getD (m + 1) 0 := ⟨_, rfl⟩
          rw [← U0] at x0 hmid
          rw [← U1] at x1 hu1
          have HU0 := Lib.hid U0
          have HU1 := Lib.hid U1
          clear U0 U1
          have n1 : ¬ m = m + 1 := by omega
          have n2 : ¬ m + 1 = m := by omega
          go_wp2_with fail
          go_region
          go_wp2_with fail
          go_roundw
          case rel =>
            refine ⟨m + 1, (l'.set (m + 1) (u1 + u0 / 1048576)).set m (u0 % 1048576), by omega, by go_num, by simpa using HL'.out, ?_, ?_, ?_, ?_, ?_, (Below.setCell (Below.setCell bl' (by simpa using hg5) _) (by simpa using hg5) _).drew⟩
            · have := (r3'.setAt (m + 1) (.int .i64 ((u1 : Int) + (u0 : Int) / 1048576))).setAt m (.int .i64 ((u0 : Int) % 1048576))
              rw [show (u1 : Int) + (u0 : Int) / 1048576 = ((u1 + u0 / 1048576 : Nat) : Int) from by omega, show (u0 : Int) % 1048576 = ((u0 % 1048576 : Nat) : Int) from by omega, icells_set, icells_set] at this
              exact this
            · intro j hj
              by_cases hjm : j = m
              · subst hjm
                rw [num_set_self _ _ _ (by have := HL'.out; simp; omega)]
                omega
              · rw [num_set_far _ _ _ _ hjm, num_set_far _ _ _ _ (by omega)]
                exact HLO.out j (by omega)
            · rw [num_set_far _ _ _ _ (by omega), num_set_self _ _ _ (by have := HL'.out; omega)]
              omega
            · intro j hj
              rw [num_set_far _ _ _ _ (by omega), num_set_far _ _ _ _ (by omega)]
              exact HUP.out j (by omega)
            · rw [HU0.out, HU1.out, HC.out, HV'.out]
          case measure => simp [intOf]; omega
        · obtain rfl : m = 8 := by omega
          have HE : l'.getD 8 0 = 0 := by
            have h9 := val_take l' 8 (by omega)
            rw [show 8 + 1 = l'.length from by omega, List.take_length, HV'.out] at h9
            have hp : a * b ≤ 1152921504606846976 * 1152921504606846976 := Nat.mul_le_mul ha hb
            rcases Nat.eq_zero_or_pos (l'.getD 8 0) with h0 | h0
            · exact h0
            · have : 1 * 1048576 ^ 8 ≤ l'.getD 8 0 * 1048576 ^ 8 := Nat.mul_le_mul_right _ h0
              omega
          have hall : ∀ j, l'.getD j 0 < 1048576 := by
            intro j
            rcases Nat.lt_or_ge j 8 with h | h
            · exact hlo j h
            · rcases Nat.lt_or_ge 8 j with h2 | h2
              · rw [getD_out _ _ (by omega)]
                omega
              · obtain rfl : j = 8 := by omega
                rw [HE]
                omega
          have HA := Lib.hid hall
          have HG := Lib.hid bl'
          clear hlo hup hmid hl' HE hall bl'
          go_wp2_with fail
          go_ret
          refine ⟨l', g3, rfl, r3', HL'.out, HA.out, HV'.out, ?_⟩
          rw [← HG1.out]
          exact HG.out
end Go.Proofs.YtfpjihicobmlkaaDoor
