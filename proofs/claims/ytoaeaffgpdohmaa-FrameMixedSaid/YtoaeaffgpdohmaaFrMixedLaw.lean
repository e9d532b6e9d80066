/- The sum of three rows of bytes, xor byte by byte: a walk of the law. -/
import Derived.Test.YtoaeaffgpdohmaaFrLent
import Derived.Test.YtoaeaffgpdohmaaFrameMath3
import Derived.Deep.RegionWith
import Derived.Deep.RegionLaw
import Derived.Deep.RegionHeld3
import Derived.Deep.QuietTactic
import Derived.BigQuiet
import Derived.Deep.DeepCutAuto
import Derived.StillTailTactics
namespace Go.Proofs.Ytoaeaffgpdohmaa
open Go.RowKit
set_option linter.unusedVariables false

/-- Three rows, xor byte by byte. -/
def mix (a b c : List UInt8) (k : Nat) : List UInt8 := (List.range k).map fun i => UInt8.ofNat ((a.getD i 0).toNat ^^^ (b.getD i 0).toNat ^^^ (c.getD i 0).toNat)
theorem mix_length (a b c : List UInt8) (k : Nat) : (mix a b c k).length = k := by simp [mix]
theorem mix_succ (a b c : List UInt8) (k : Nat) : mix a b c (k + 1) = mix a b c k ++ [UInt8.ofNat ((a.getD k 0).toNat ^^^ (b.getD k 0).toNat ^^^ (c.getD k 0).toNat)] := by
  simp [mix, List.range_succ]
theorem mix_byte (x y z : UInt8) : (UInt8.ofNat (x.toNat ^^^ y.toNat ^^^ z.toNat)).toNat = x.toNat ^^^ y.toNat ^^^ z.toNat := by
  rw [UInt8.toNat_ofNat']
  have h := Nat.xor_lt_two_pow (Nat.xor_lt_two_pow (show x.toNat < 2 ^ 8 from x.toNat_lt) (show y.toNat < 2 ^ 8 from y.toNat_lt)) (show z.toNat < 2 ^ 8 from z.toNat_lt)
  omega
theorem take_succ_get (l : List UInt8) {k : Nat} (h : k < l.length) : l.take (k + 1) = l.take k ++ [l.getD k 0] := take_snoc l h
theorem mix_leN (a b c : List UInt8) : ∀ k, k ≤ a.length → k ≤ b.length → k ≤ c.length → leN (mix a b c k) = leN (a.take k) ^^^ leN (b.take k) ^^^ leN (c.take k) := by
  intro k
  induction k with
  | zero => intros; simp [mix, leN]
  | succ k ih =>
    intro ha hb hc
    have hla : (a.take k).length = k := by simp; omega
    have hlb : (b.take k).length = k := by simp; omega
    have hlc : (c.take k).length = k := by simp; omega
    have one : ∀ x : UInt8, leN [x] = x.toNat := fun x => by simp [leN]
    rw [mix_succ, take_snoc a ha, take_snoc b hb, take_snoc c hc, leN_append, leN_append, leN_append, leN_append, hla, hlb, hlc, mix_length, ih (by omega) (by omega) (by omega), one, one, one, one, mix_byte, pow_mul_xor, pow_mul_xor]
    generalize leN (a.take k) = A
    generalize leN (b.take k) = B
    generalize leN (c.take k) = C
    generalize 2 ^ (8 * k) * (a.getD k 0).toNat = A'
    generalize 2 ^ (8 * k) * (b.getD k 0).toNat = B'
    generalize 2 ^ (8 * k) * (c.getD k 0).toNat = C'
    apply Nat.eq_of_testBit_eq
    intro i
    simp only [Nat.testBit_xor]
    cases A.testBit i <;> cases B.testBit i <;> cases C.testBit i <;> cases A'.testBit i <;> cases B'.testBit i <;> cases C'.testBit i <;> rfl
theorem mix_sum (a b c : List UInt8) (n : Nat) (ha : n ≤ a.length) (hb : n ≤ b.length) (hc : n ≤ c.length) : sumN (mix a b c n) = sumN (a.take n) ^^^ sumN (b.take n) ^^^ sumN (c.take n) :=
  sum_three _ _ _ _ n (by simp; omega) (by simp; omega) (by simp; omega) (mix_length _ _ _ _) (mix_leN a b c n ha hb hc)
theorem xor_u8 (x y z : UInt8) : bits BinOp.xor IntKind.u8 (bits BinOp.xor IntKind.u8 (x.toNat : Int) (y.toNat : Int)) (z.toNat : Int) = ((UInt8.ofNat (x.toNat ^^^ y.toNat ^^^ z.toNat)).toNat : Int) := by
  rw [u8_xor_nat _ _ (byte_nat x) (byte_nat y), u8_xor_nat _ _ (Nat.xor_lt_two_pow (show x.toNat < 2 ^ 8 from x.toNat_lt) (show y.toNat < 2 ^ 8 from y.toNat_lt)) (byte_nat z), mix_byte]
theorem xor_u32 (x y z : Nat) (hx : x < 2 ^ 32) (hy : y < 2 ^ 32) (hz : z < 2 ^ 32) : bits BinOp.xor IntKind.u32 (bits BinOp.xor IntKind.u32 (x : Int) (y : Int)) (z : Int) = ((x ^^^ y ^^^ z : Nat) : Int) := by
  rw [u32_xor_nat _ _ hx hy, u32_xor_nat _ _ (Nat.xor_lt_two_pow hx hy) hz]

set_option maxHeartbeats 4000000 in
theorem mixed_go (a b c : List UInt8) (n : Nat) (hn : n ≤ a.length) (hnb : n ≤ b.length) (hnc : n ≤ c.length) (A B C : Option Addr) (ca cb cc : Nat) (w : World) (hA : Bys w A a) (hB : Bys w B b) (hC : Bys w C c)
    (hr : a.length ≤ 140737488351232) (hrb : b.length ≤ 140737488351232) (hrc : c.length ≤ 140737488351232) (hla : a.length ≤ ca) (hlb : b.length ≤ cb) (hlc : c.length ≤ cc) (hmin : n = min (min a.length b.length) c.length) :
    Calls Try.prog 12 #[.slice A a.length ca, .slice B b.length cb, .slice C c.length cc] w fun e w' => e = .returned (.bool true) ∧ Below w.heap.size w w' := by
  go_enter Try.func12, Try.ntmps12
  go_upto_region 1 with fail
  go_cut [7] (fun s7 wx => s7 = .int .i64 n ∧ w = wx)
  case first =>
    go_wp2_with fail
    all_goals go_meet
    all_goals exact ⟨by simp only [Value.int.injEq, true_and]; omega, rfl⟩
  case rest =>
    obtain ⟨rfl, rfl⟩ := hcut
    have HM := Lib.hid (mix_sum a b c n hn hnb hnc)
    clear hmin
    go_wp2_with fail
    go_loopw [8, 9] (fun v i wr => ∃ k : Nat, k ≤ n ∧ i = .int .i64 k ∧ Own wr w.heap.size v (mix a b c k) ∧ Below w.heap.size w wr) (fun _ i _ => n - (intOf i).toNat)
    case atStart => exact ⟨0, Nat.zero_le _, rfl, own_nil _ _, Below.refl _ _⟩
    case round =>
      obtain ⟨k, hk, rfl, hor, hbr⟩ := hrel
      by_cases hlt : k < n
      · obtain ⟨b1, o1, rfl, hb1, hc1⟩ := hA.at_ (by omega)
        obtain ⟨b2, o2, rfl, hb2, hc2⟩ := hB.at_ (by omega)
        obtain ⟨b3, o3, rfl, hb3, hc3⟩ := hC.at_ (by omega)
        have x1 := (hbr.cell (p := ⟨b1, o1 + k, none⟩) hb1).trans (hc1 k (by omega))
        have x2 := (hbr.cell (p := ⟨b2, o2 + k, none⟩) hb2).trans (hc2 k (by omega))
        have x3 := (hbr.cell (p := ⟨b3, o3 + k, none⟩) hb3).trans (hc3 k (by omega))
        have y1 := byte_nat (a.getD k 0)
        have y2 := byte_nat (b.getD k 0)
        have y3 := byte_nat (c.getD k 0)
        have HX := Lib.hid (xor_u8 (a.getD k 0) (b.getD k 0) (c.getD k 0))
        have HS := Lib.hid (mix_succ a b c k)
        have hl := mix_length a b c k
        have hs := hbr.size
        obtain ⟨Bv, dv, hv, _, _⟩ := own_slice' hor
        rw [hl] at hv
        subst hv
        have Hbr := Lib.hid hbr
        have Hor := Lib.hid hor
        clear hc1 hc2 hc3 hA hB hC hbr hor HM
        generalize UInt8.ofNat ((a.getD k 0).toNat ^^^ (b.getD k 0).toNat ^^^ (c.getD k 0).toNat) = z at *
        generalize (a.getD k 0).toNat = u1 at *
        generalize (b.getD k 0).toNat = u2 at *
        generalize (c.getD k 0).toNat = u3 at *
        go_wp2_with fail
        have hi1 : (k : Int) < (a.length : Int) := by omega
        have hi2 : (k : Int) < (b.length : Int) := by omega
        have hi3 : (k : Int) < (c.length : Int) := by omega
        have hi0 : (0 : Int) ≤ (k : Int) := by omega
        obtain ⟨i0, hi, hz0, hz1, hz2⟩ := info_parts u8_info
        have hq1 : b1 < wr.heap.size := Nat.lt_of_lt_of_le hb1 hs
        have hq2 : b2 < wr.heap.size := Nat.lt_of_lt_of_le hb2 hs
        have hq3 : b3 < wr.heap.size := Nat.lt_of_lt_of_le hb3 hs
        have x1a : ∀ o, (wr.alloc o).cell? ⟨b1, o1 + k, none⟩ = some (.int .u8 (u1 : Int)) := fun o => (((below_one wr o).cell (p := ⟨b1, o1 + k, none⟩) hq1)).trans x1
        have x2a : ∀ o, (wr.alloc o).cell? ⟨b2, o2 + k, none⟩ = some (.int .u8 (u2 : Int)) := fun o => (((below_one wr o).cell (p := ⟨b2, o2 + k, none⟩) hq2)).trans x2
        have x3a : ∀ o, (wr.alloc o).cell? ⟨b3, o3 + k, none⟩ = some (.int .u8 (u3 : Int)) := fun o => (((below_one wr o).cell (p := ⟨b3, o3 + k, none⟩) hq3)).trans x3
        have OB : ∀ o, Own (wr.alloc o).drew w.heap.size (.slice Bv k dv) (mix a b c k) := fun o => own_alloc Hor.out o
        have NB : Bys ((wr.alloc (.cells #[.int .u8 (bits BinOp.xor IntKind.u8 (bits BinOp.xor IntKind.u8 (u1 : Int) (u2 : Int)) (u3 : Int))] 5)).drew) (some ⟨wr.heap.size, 0, none⟩) [z] := bys_1 (by rw [HX.out]; exact Row.new wr _ _)
        go_region_held3 (fun w' => w'.cell? ⟨b1, o1 + k, none⟩ = some (.int .u8 (u1 : Int)) ∧ w'.cell? ⟨b2, o2 + k, none⟩ = some (.int .u8 (u2 : Int)) ∧ w'.cell? ⟨b3, o3 + k, none⟩ = some (.int .u8 (u3 : Int)))
          (first | exact ⟨x1, x2, x3⟩ | exact ⟨x1a _, x2a _, x3a _⟩ | exact ⟨z1, z2, z3⟩ | exact z1 | exact z2 | exact z3 | exact x1 | exact x2 | exact x3 | exact x1a _ | exact x2a _ | exact x3a _ | go_keep)
          (first
            | (refine step_app _ rfl (.tmp 22) (.tmp 37) 22 rfl w.heap.size i0 Try.underlying22 hi hz0 hz1 hz2 _ (mix a b c k) rfl (OB _) _ [z] 1 rfl NB (by simp only [List.length_cons, List.length_nil]; omega) (Nat.le_trans hs (by simp)) ?_
               intro v1 w1 hown1 hg1 hat1
               have hgB := Below.grown (Below.refl w.heap.size _) hg1 (Nat.le_trans hs (by simp)) (fun j hj => (World.ownsRow.lt (OB (.cells #[] 5)) _ hj).1)
               have z1 := (hgB.cell (p := ⟨b1, o1 + k, none⟩) hb1).trans (x1a _)
               have z2 := (hgB.cell (p := ⟨b2, o2 + k, none⟩) hb2).trans (x2a _)
               have z3 := (hgB.cell (p := ⟨b3, o3 + k, none⟩) hb3).trans (x3a _)
               obtain ⟨B9, d9, hv9, _, _⟩ := own_slice' hown1
               generalize (mix a b c k ++ [z]).length = ln at hv9
               subst hv9
               clear hat1))
        all_goals
          go_wp2
          go_roundw
          case rel => exact ⟨k + 1, by omega, by go_num, by rw [HS.out]; exact hown1, ((Hbr.out.alloc hs _).drew).trans hgB⟩
          case measure => simp [intOf]; omega
      · obtain rfl : k = n := by omega
        have hml := mix_length a b c k
        obtain ⟨Bx, dx, rfl, hBx, _⟩ := own_slice' hor
        have h1 := (hA.below hbr).front k
        have h2 := (hB.below hbr).front k
        have h3 := (hC.below hbr).front k
        have e1 : (a.take k).length = k := by simp; omega
        have e2 : (b.take k).length = k := by simp; omega
        have e3 : (c.take k).length = k := by simp; omega
        have HX := Lib.hid (xor_u32 (sumN (a.take k)) (sumN (b.take k)) (sumN (c.take k)) (sumN_lt _) (sumN_lt _) (sumN_lt _))
        have S0 : Calls Try.prog 25 #[.slice Bx k dx] wr.drew fun e w' => e = .returned (.int .u32 (sumN (mix a b c k))) ∧ w' = wr.drew := by
          have := sum_prog Bx (mix a b c k) dx wr.drew hBx (by omega)
          rw [hml] at this
          exact this.mono fun _ _ h => ⟨h.1, h.2.symm⟩
        have S1 : Calls Try.prog 25 #[.slice A k ca] wr.drew fun e w' => e = .returned (.int .u32 (sumN (a.take k))) ∧ w' = wr.drew := by
          have := sum_prog A (a.take k) ca wr.drew h1 (by omega)
          rw [e1] at this
          exact this.mono fun _ _ h => ⟨h.1, h.2.symm⟩
        have S2 : Calls Try.prog 25 #[.slice B k cb] wr.drew fun e w' => e = .returned (.int .u32 (sumN (b.take k))) ∧ w' = wr.drew := by
          have := sum_prog B (b.take k) cb wr.drew h2 (by omega)
          rw [e2] at this
          exact this.mono fun _ _ h => ⟨h.1, h.2.symm⟩
        have S3 : Calls Try.prog 25 #[.slice C k cc] wr.drew fun e w' => e = .returned (.int .u32 (sumN (c.take k))) ∧ w' = wr.drew := by
          have := sum_prog C (c.take k) cc wr.drew h3 (by omega)
          rw [e3] at this
          exact this.mono fun _ _ h => ⟨h.1, h.2.symm⟩
        rw [← HM.out] at HX
        generalize sumN (mix a b c k) = T0 at *
        generalize sumN (a.take k) = T1 at *
        generalize sumN (b.take k) = T2 at *
        generalize sumN (c.take k) = T3 at *
        have q0 : ((T0 : Int) == bits BinOp.xor IntKind.u32 (bits BinOp.xor IntKind.u32 (T1 : Int) (T2 : Int)) (T3 : Int)) = true := by rw [HX.out]; simp
        have hz0 : (0 : Int) ≤ (k : Int) := by omega
        have hz1 : (k : Int) ≤ (ca : Int) := by omega
        have hz2 : (k : Int) ≤ (cb : Int) := by omega
        have hz3 : (k : Int) ≤ (cc : Int) := by omega
        have HS0 := Lib.hid S0
        have HS1 := Lib.hid S1
        have HS2 := Lib.hid S2
        have HS3 := Lib.hid S3
        clear S0 S1 S2 S3 h1 h2 h3 e1 e2 e3 hBx HM HX
        have HQ := Lib.hid hor
        clear hor hA hB hC
        rw [hml]
        go_wp2_with fail
        go_still_tail 18, (by kernel_rfl)
        still_call HS0.out
        repeat still_step
        still_call HS1.out
        repeat still_step
        still_call HS2.out
        repeat still_step
        still_call HS3.out
        repeat still_step
        try refine wpStill_nil ?_
        change wpList _ _ _ _ _ wr.drew
        have hbd : Below w.heap.size w wr.drew := hbr.drew
        generalize wr.drew = w2 at *
        go_wp2_with fail
        refine (lives_true _).mono ?_
        rintro e w3 ⟨rfl, hb3⟩
        go_wp2
        go_ret
        exact ⟨rfl, below_then hbd hb3⟩

theorem frameMixed_walk (w : World) (A : Option Addr) (a : List UInt8) (ca : Nat) (hA : Bys w A a) (hr : a.length ≤ 140737488351232) (hla : a.length ≤ ca)
    (B : Option Addr) (b : List UInt8) (cb : Nat) (hB : Bys w B b) (hrb : b.length ≤ 140737488351232) (hlb : b.length ≤ cb)
    (C : Option Addr) (c : List UInt8) (cc : Nat) (hC : Bys w C c) (hrc : c.length ≤ 140737488351232) (hlc : c.length ≤ cc) :
    Calls Try.prog 12 #[.slice A a.length ca, .slice B b.length cb, .slice C c.length cc] w fun e w' => e = .returned (.bool true) ∧ Below w.heap.size w w' :=
  mixed_go a b c (min (min a.length b.length) c.length) (by omega) (by omega) (by omega) A B C ca cb cc w hA hB hC hr hrb hrc hla hlb hlc rfl
end Go.Proofs.Ytoaeaffgpdohmaa
