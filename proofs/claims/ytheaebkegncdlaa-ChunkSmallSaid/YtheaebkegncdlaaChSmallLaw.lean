/- The walk of a law of layer 5: samples at one distance, of one value, need few bits. -/
import Derived.Test.YtheaebkegncdlaaChLives
namespace Go.Proofs.Ytheaebkegncdlaa
open Go.RowKit Go.Maps
set_option linter.unusedVariables false

/-- Samples at one distance, of one value. -/
def evenL (f d v : Int) (m : Nat) : List Smp := (List.range m).map fun (i : Nat) => (f + (i : Int) * d, v)
theorem evenL_len (f d v : Int) (m : Nat) : (evenL f d v m).length = m := by simp [evenL]
theorem evenL_next (f d v : Int) (m : Nat) : evenL f d v (m + 1) = evenL f d v m ++ [(f + (m : Int) * d, v)] := by
  unfold evenL
  rw [List.range_succ, List.map_append]
  rfl
theorem evenL_get (f d v : Int) (m i : Nat) (h : i < m) : (evenL f d v m).getD i (0, 0) = (f + (i : Int) * d, v) := by
  rw [getD_in _ _ (by rw [evenL_len]; exact h)]
  simp [evenL]
theorem even_t (f d v : Int) (m i : Nat) (h : i < m) : tOf (evenL f d v m) i = f + (i : Int) * d := by unfold tOf; rw [evenL_get f d v m i h]
theorem even_v (f d v : Int) (m i : Nat) (h : i < m) : vOf (evenL f d v m) i = v := by unfold vOf; rw [evenL_get f d v m i h]
theorem mul_le_119 {i : Nat} {d : Int} (hi : i ≤ 119) (h1 : 1 ≤ d) (h2 : d ≤ 2147483648) : 0 ≤ (i : Int) * d ∧ (i : Int) * d ≤ 255550554112 := by
  have a1 : (0 : Int) ≤ (i : Int) := by omega
  have a2 : (i : Int) ≤ 119 := by omega
  refine ⟨Int.mul_nonneg a1 (by omega), ?_⟩
  calc (i : Int) * d ≤ 119 * 2147483648 := Int.mul_le_mul a2 h2 (by omega) (by omega)
    _ ≤ 255550554112 := by decide
theorem succ_mul' (i : Nat) (d : Int) : ((i + 1 : Nat) : Int) * d = (i : Int) * d + d := by
  rw [Int.natCast_add, Int.add_mul]; simp
theorem even_chk {f d v : Int} {m : Nat} (hf0 : 0 ≤ f) (hf : f ≤ 549755813888) (hd1 : 1 ≤ d) (hd : d ≤ 2147483648) (hv0 : -1152921504606846976 ≤ v) (hv : v ≤ 1152921504606846976) (hm : 1 ≤ m) (hm2 : m ≤ 120) : chk (evenL f d v m) = 0 := by
  refine chk_zero.2 ⟨by rw [evenL_len]; omega, by rw [evenL_len]; omega, fun i hi => ?_⟩
  rw [evenL_len] at hi
  have hb := mul_le_119 (i := i) (by omega) hd1 hd
  rw [evenL_get f d v m i hi]
  refine ⟨mayB_iff.2 ⟨by show 0 ≤ f + (i : Int) * d; omega, by show f + (i : Int) * d ≤ _; omega, hv0, hv⟩, fun h0 => ?_⟩
  rw [even_t f d v m i hi, even_t f d v m (i - 1) (by omega)]
  obtain ⟨j, rfl⟩ : ∃ j, i = j + 1 := ⟨i - 1, by omega⟩
  rw [Nat.add_sub_cancel, succ_mul']
  omega
theorem even_dist {f d v : Int} {m i : Nat} (h : i < m) (h0 : 0 < i) : dist (evenL f d v m) i = d := by
  unfold dist preT
  rw [if_neg (by omega), even_t f d v m i h, even_t f d v m (i - 1) (by omega)]
  obtain ⟨j, rfl⟩ : ∃ j, i = j + 1 := ⟨i - 1, by omega⟩
  rw [Nat.add_sub_cancel, succ_mul']
  omega
theorem digs_of {u n : Nat} (h : u < 2 ^ n) : digs u ≤ n := digs_le.2 h
/-- The bits of so many samples. -/
theorem even_bits {f d v : Int} {m : Nat} (hf0 : 0 ≤ f) (hf : f ≤ 549755813888) (hd1 : 1 ≤ d) (hd : d ≤ 2147483648) (hv0 : -1152921504606846976 ≤ v) (hv : v ≤ 1152921504606846976) (hm2 : m ≤ 120) :
    ∀ k, k ≤ m → endN 0 (m :: body (evenL f d v m) k) ≤ if k = 0 then 14 else if k = 1 then 131 else 180 + 14 * (k - 2) := by
  intro k
  induction k with
  | zero =>
    intro _
    show 0 + (7 + digs m) ≤ 14
    have := digs_of (u := m) (n := 7) (by omega)
    omega
  | succ k ih =>
    intro hk
    have h1 := ih (by omega)
    have e : m :: body (evenL f d v m) (k + 1) = ((m :: body (evenL f d v m) k) ++ [tnum (evenL f d v m) k]) ++ [vnum (evenL f d v m) k] := by
      show m :: (body (evenL f d v m) k ++ [_, _]) = _
      simp
    rw [e, endN_snoc, endN_snoc]
    rw [if_neg (by omega)]
    by_cases k0 : k = 0
    · subst k0
      rw [if_pos rfl] at h1 ⊢
      have ht : tnum (evenL f d v m) 0 = f.toNat := by
        unfold tnum dist preT
        rw [if_pos (by omega), if_pos rfl, even_t f d v m 0 (by omega)]
        simp
      have hv2 : vnum (evenL f d v m) 0 = zig v := by
        unfold vnum preV
        rw [if_pos rfl, even_v f d v m 0 (by omega)]
        simp
      rw [ht, hv2]
      have d1 := digs_of (u := f.toNat) (n := 40) (by omega)
      have d2 := digs_of (u := zig v) (n := 63) (by unfold zig; split <;> omega)
      show _ ≤ if 0 + 1 = 1 then 131 else 180 + 14 * (0 + 1 - 2)
      rw [if_pos rfl]
      omega
    · have hvz : vnum (evenL f d v m) k = 0 := by
        unfold vnum preV
        rw [if_neg k0, even_v f d v m k (by omega), even_v f d v m (k - 1) (by omega)]
        simp [zig]
      rw [hvz, digs_zero]
      rw [if_neg (by omega)]
      by_cases k1 : k = 1
      · subst k1
        rw [if_neg (by omega), if_pos rfl] at h1
        have ht : tnum (evenL f d v m) 1 = d.toNat := by
          unfold tnum
          rw [if_pos (by omega), even_dist (by omega) (by omega)]
        rw [ht]
        have d1 := digs_of (u := d.toNat) (n := 32) (by omega)
        omega
      · rw [if_neg k0, if_neg k1] at h1
        have ht : tnum (evenL f d v m) k = 0 := by
          unfold tnum preD
          rw [if_neg (by omega), if_neg k0, even_dist (by omega) (by omega), even_dist (by omega) (by omega)]
          simp [zig]
        rw [ht, digs_zero]
        omega
theorem even_small {f d v : Int} {m : Nat} (hf0 : 0 ≤ f) (hf : f ≤ 549755813888) (hd1 : 1 ≤ d) (hd : d ≤ 2147483648) (hv0 : -1152921504606846976 ≤ v) (hv : v ≤ 1152921504606846976) (hm : 2 ≤ m) (hm2 : m ≤ 120) :
    8 * (encL (evenL f d v m)).length ≤ 240 + 14 * (m - 2) + 7 := by
  have h := even_bits hf0 hf hd1 hd hv0 hv hm2 m (Nat.le_refl _)
  rw [if_neg (by omega), if_neg (by omega)] at h
  have h2 := encN_len (nums (evenL f d v m))
  have h3 : nums (evenL f d v m) = m :: body (evenL f d v m) m := by
    unfold nums
    rw [evenL_len]
  rw [h3] at h2
  show 8 * (encN (nums (evenL f d v m))).length ≤ _
  rw [h3]
  omega

set_option maxHeartbeats 1000000 in
theorem chunkSmall_walk (w : World) (f : Int) (bf : -9223372036854775808 ≤ f ∧ f ≤ 9223372036854775807) (d : Int) (bd : -9223372036854775808 ≤ d ∧ d ≤ 9223372036854775807) (v : Int) (bv : -9223372036854775808 ≤ v ∧ v ≤ 9223372036854775807) (y : Int) (by_ : -9223372036854775808 ≤ y ∧ y ≤ 9223372036854775807) :
    Calls Try.prog 11 #[.int .i64 f, .int .i64 d, .int .i64 v, .int .i64 y] w fun e w' => e = .returned (.bool true) ∧ Below w.heap.size w w' := by
  obtain ⟨u, hu⟩ : ∃ u : Nat, IntKind.u64.wrap y = (u : Int) := by
    refine ⟨(IntKind.u64.wrap y).toNat, ?_⟩
    rw [IntKind.wrap_u64]
    omega
  have hu64 : (u : Int) ≤ 18446744073709551615 := by rw [← hu, IntKind.wrap_u64]; omega
  obtain ⟨r, hr⟩ : ∃ r : Nat, (u : Int) % 119 = (r : Int) := ⟨u % 119, by omega⟩
  have hr119 : r < 119 := by omega
  obtain ⟨m, hm⟩ : ∃ m : Nat, (2 : Int) + (r : Int) = (m : Int) := ⟨2 + r, by omega⟩
  have hm2 : 2 ≤ m ∧ m ≤ 120 := by omega
  have wr1 : IntKind.i64.wrap (r : Int) = (r : Int) := IntWalk.i64_in _ (by omega)
  have wr2 : IntKind.u64.wrap (r : Int) = (r : Int) := IntWalk.u64_in _ (by omega)
  have wr3 : IntKind.i64.wrap (m : Int) = (m : Int) := IntWalk.i64_in _ (by omega)
  have hu0 : (0 : Int) ≤ (u : Int) := by omega
  by_cases c1 : f < 0
  · have e1 : decide (f < 0) = true := decide_eq_true c1
    clear c1
    go_enter Try.func11, Try.ntmps11
    go_wp2_with fail
    refine (lives_true _).mono ?_
    rintro e w7 ⟨rfl, hb7⟩
    go_wp2_with fail
    go_ret
    exact ⟨rfl, hb7⟩
  have e1 : decide (f < 0) = false := decide_eq_false c1
  by_cases c2 : 549755813888 < f
  · have e2 : decide (549755813888 < f) = true := decide_eq_true c2
    clear c1 c2
    go_enter Try.func11, Try.ntmps11
    go_wp2_with fail
    refine (lives_true _).mono ?_
    rintro e w7 ⟨rfl, hb7⟩
    go_wp2_with fail
    go_ret
    exact ⟨rfl, hb7⟩
  have e2 : decide (549755813888 < f) = false := decide_eq_false c2
  by_cases c3 : d < 1
  · have e3 : decide (d < 1) = true := decide_eq_true c3
    clear c1 c2 c3
    go_enter Try.func11, Try.ntmps11
    go_wp2_with fail
    refine (lives_true _).mono ?_
    rintro e w7 ⟨rfl, hb7⟩
    go_wp2_with fail
    go_ret
    exact ⟨rfl, hb7⟩
  have e3 : decide (d < 1) = false := decide_eq_false c3
  by_cases c4 : 2147483648 < d
  · have e4 : decide (2147483648 < d) = true := decide_eq_true c4
    clear c1 c2 c3 c4
    go_enter Try.func11, Try.ntmps11
    go_wp2_with fail
    refine (lives_true _).mono ?_
    rintro e w7 ⟨rfl, hb7⟩
    go_wp2_with fail
    go_ret
    exact ⟨rfl, hb7⟩
  have e4 : decide (2147483648 < d) = false := decide_eq_false c4
  by_cases c5 : v < -1152921504606846976
  · have e5 : decide (v < -1152921504606846976) = true := decide_eq_true c5
    clear c1 c2 c3 c4 c5
    go_enter Try.func11, Try.ntmps11
    go_wp2_with fail
    refine (lives_true _).mono ?_
    rintro e w7 ⟨rfl, hb7⟩
    go_wp2_with fail
    go_ret
    exact ⟨rfl, hb7⟩
  have e5 : decide (v < -1152921504606846976) = false := decide_eq_false c5
  by_cases c6 : 1152921504606846976 < v
  · have e6 : decide (1152921504606846976 < v) = true := decide_eq_true c6
    clear c1 c2 c3 c4 c5 c6
    go_enter Try.func11, Try.ntmps11
    go_wp2_with fail
    refine (lives_true _).mono ?_
    rintro e w7 ⟨rfl, hb7⟩
    go_wp2_with fail
    go_ret
    exact ⟨rfl, hb7⟩
  have e6 : decide (1152921504606846976 < v) = false := decide_eq_false c6
  have hck := even_chk (f := f) (d := d) (v := v) (m := m) (by omega) (by omega) (by omega) (by omega) (by omega) (by omega) (by omega) hm2.2
  have hsm := even_small (f := f) (d := d) (v := v) (m := m) (by omega) (by omega) (by omega) (by omega) (by omega) (by omega) hm2.1 hm2.2
  have HEP := Lib.hid (fun V cc W hV => by have := encode_prog V (evenL f d v m) cc W hV (by rw [evenL_len]; omega); rw [hck, if_pos rfl, evenL_len] at this; exact this)
  have HSM := Lib.hid hsm
  clear hck hsm
  go_enter Try.func11, Try.ntmps11
  go_wp2_with fail
  go_loopw [9, 10] (fun vl i wr => ∃ (k : Nat) (P : Option Addr) (cc : Nat), k ≤ m ∧ i = .int .i64 (k : Int) ∧ vl = .slice P k cc ∧ OwnS wr w.heap.size (.slice P k cc) (evenL f d v k) ∧ Below w.heap.size w wr) (fun _ i _ => m - (intOf i).toNat)
  case atStart => exact ⟨0, none, 0, by omega, rfl, rfl, owns_nil _ _, Below.refl _ _⟩
  case round =>
    obtain ⟨k, P, cc, hk, rfl, rfl, hO, hbr⟩ := hrel
    have hsz := hbr.size
    by_cases hlt : k < m
    · have i2 : (k : Int) < (m : Int) := by omega
      have hmb := mul_le_119 (i := k) (d := d) (by omega) (by omega) (by omega)
      obtain ⟨T, hT⟩ : ∃ T, (k : Int) * d = T := ⟨_, rfl⟩
      rw [hT] at hmb
      have wT : IntKind.i64.wrap ((k : Int) * d) = T := by rw [hT]; exact IntWalk.i64_in _ (by omega)
      have HNX := Lib.hid (evenL_next f d v k)
      rw [hT] at HNX
      have HO1 := Lib.hid (owns_below hO (below_one wr (.cells #[.int .i64 (f + T), .int .i64 v] 44)))
      have HS1 := Lib.hid (smps_cell (Row.new wr 44 #[.int .i64 (f + T), .int .i64 v]))
      have HL1 := Lib.hid (show ((evenL f d v k).length + [(f + T, v)].length) * 16 ≤ 140737488355328 by rw [evenL_len]; simp; omega)
      have HB1 := Lib.hid (hbr.alloc hsz (.cells #[.int .i64 (f + T), .int .i64 v] 44))
      have hs1 : w.heap.size ≤ (wr.alloc (.cells #[.int .i64 (f + T), .int .i64 v] 44)).heap.size := by simp; omega
      clear hO hbr
      go_wp2_with (at_builtin; refine app_smps rfl (.tmp 46) (.tmp 54) rfl w.heap.size (.slice P k cc) (evenL f d v k) rfl HO1.out (some ⟨wr.heap.size, 0, none⟩) [(f + T, v)] 1 rfl HS1.out HL1.out hs1 ?_; intro v7 w7 hO7 hb7 _; rw [← HNX.out] at hO7; have HO7 := Lib.hid hO7; have HB7 := Lib.hid (HB1.out.trans hb7); obtain ⟨P7, c7, hv7, _, _, _⟩ := owns_slice hO7; rw [evenL_len] at hv7; subst hv7; clear hO7 hb7)
      go_roundw
      case rel => exact ⟨k + 1, P7, c7, by omega, by go_num, by go_num, HO7.out, HB7.out⟩
      case measure => simp [intOf]; omega
    · obtain rfl : k = m := by omega
      obtain ⟨P', cc', hv', _, hS, _⟩ := owns_slice hO
      rw [evenL_len] at hv'
      injection hv' with e7 _ e8
      subst e7
      have HC := Lib.hid (HEP.out P cc wr hS)
      clear hO hS HEP e8
      go_wp2_with fail
      refine HC.out.mono ?_
      rintro e w3 ⟨v3, rfl, hO3, hb3⟩
      obtain ⟨P3, c3, hv3, _, _⟩ := own_slice' hO3
      have hsm := HSM.out
      generalize (encL (evenL f d v k)).length = n at *
      have hfin : decide (8 * (n : Int) ≤ 240 + 14 * ((k : Int) - 2) + 7) = true := by simp; omega
      subst hv3
      clear hO3 HC
      go_wp2_with fail
      refine (lives_true _).mono ?_
      rintro e w7 ⟨rfl, hb7⟩
      go_wp2_with fail
      go_ret
      exact ⟨rfl, (hbr.trans (hb3.mono hbr.size)).trans (hb7.mono (Nat.le_trans hbr.size hb3.size))⟩
end Go.Proofs.Ytheaebkegncdlaa
