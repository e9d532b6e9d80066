/- Layer 3: math/bits.Div64: the quotient of 128 bits by 64. -/
import Derived.Test.YtfpjihicobmlkaaDoorFixOps
import Derived.Test.YtfpjihicobmlkaaDoorDivMath
import Derived.Test.YtfpjihicobmlkaaDoorShelf
import Derived.Lib.BitFns
import Derived.Lib.ItoaNum
import Derived.Laws.Bits64b
import Derived.Shelf.Bits.Mul64
import Derived.Laws.ShiftsVar
import Derived.Laws.ShiftsVarLaws
import Derived.Deep.DeepCutAuto
import Derived.Deep.CutBlock
import Derived.Deep.LoopGhost
import Derived.Deep.QuietTactic
import Derived.BigQuiet
namespace Go.Proofs.YtfpjihicobmlkaaDoor
open Go.RowKit
set_option linter.unusedVariables false

theorem div64_low (lo y : Nat) (hy : 0 < y) (hlo : lo ≤ 18446744073709551615) (hyb : y ≤ 18446744073709551615) (w : World) :
    Calls Tryd.prog 45 #[.int .u64 0, .int .u64 lo, .int .u64 y] w fun e w' => ∃ r : Int, e = .returned (.tuple #[.int .u64 ((lo / y : Nat) : Int), .int .u64 r]) ∧ Below w.heap.size w w' := by
  have h1 : ((y : Int) == 0) = false := by rw [beq_eq_false_iff_ne]; omega
  have h2 : decide (y = 0) = false := by simp; omega
  have hq : lo / y ≤ lo := Nat.div_le_self _ _
  have hw : IntKind.u64.wrap ((lo : Int) / (y : Int)) = ((lo / y : Nat) : Int) := by
    rw [show (lo : Int) / (y : Int) = ((lo / y : Nat) : Int) from rfl, IntKind.wrap_u64]
    generalize lo / y = q at *
    omega
  go_enter Tryd.func45, Tryd.ntmps45
  go_wp2_with fail
  go_quiet (fail)
  go_wp2
  go_ret2
  exact ⟨_, rfl, below_drewN' (Below.refl _ _) _⟩
/-- What the machine makes of a dividend and a divisor that are moved to the left. -/
theorem ret_two {k : IntKind} {a b : Int} {v : Value} (h : a = b) : Ending.returned (.tuple #[.int k a, v]) = .returned (.tuple #[.int k b, v]) := by rw [h]
theorem u64_eq {a b : Int} (h : a = b) : Value.int .u64 a = Value.int .u64 b := by rw [h]
theorem less_one {g k : Nat} (h : g - 1 = k) (h1 : 1 ≤ g) : Value.int .u64 ((g : Int) - 1) = Value.int .u64 (k : Int) := u64_eq (by omega)
structure Moved (hi lo y s Y Y1 Y0 H L P U D D1 D0 : Nat) : Prop where
  es : s ≤ 63
  eY : (y : Int) * 2 ^ s = (Y : Int)
  eYb : Y ≤ 18446744073709551615
  eY1 : (Y : Int) / 4294967296 = (Y1 : Int)
  eY0 : bits .and .u64 (Y : Int) 4294967295 = (Y0 : Int)
  eH : (hi : Int) * 2 ^ s = (H : Int)
  eHb : H ≤ 18446744073709551615
  eL : (lo : Int) * 2 ^ s = (L : Int)
  eP : (lo : Int) / 2 ^ (64 - s) = (P : Int)
  eU : bits .or .u64 (H : Int) (P : Int) = (U : Int)
  eUb : U ≤ 18446744073709551615
  eD : IntKind.u64.wrap (L : Int) = (D : Int)
  eDb : D ≤ 18446744073709551615
  eD1 : (D : Int) / 4294967296 = (D1 : Int)
  eD0 : bits .and .u64 (D : Int) 4294967295 = (D0 : Int)

set_option maxHeartbeats 2000000 in
set_option maxRecDepth 100000 in
theorem div64_go (hi lo y s Y Y1 Y0 H L P U D D1 D0 : Nat) (m : Moved hi lo y s Y Y1 Y0 H L P U D D1 D0) (k1 : Halves U Y1 Y0 D1) (hD0 : D0 < 4294967296) (hYY : Y = 4294967296 * Y1 + Y0) (T : Nat) (hTb : T ≤ 18446744073709551615) (hT : 4294967296 * ((4294967296 * U + D1) / Y) + (4294967296 * ((4294967296 * U + D1) % Y) + D0) / Y = T) (h0 : 0 < hi) (hhy : hi < y) (hlo : lo ≤ 18446744073709551615) (hyb : y ≤ 18446744073709551615) (w : World)
    (HZ : Calls Tryd.prog 53 #[.int .u64 y] w fun e w' => e = .returned (.int .i64 (s : Int)) ∧ w = w') :
    Calls Tryd.prog 45 #[.int .u64 hi, .int .u64 lo, .int .u64 y] w fun e w' => ∃ r : Int, e = .returned (.tuple #[.int .u64 (T : Int), .int .u64 r]) ∧ w = w' := by
  have HYY := Lib.hid hYY
  have HTT := Lib.hid hT
  clear hYY hT
  have h1 : ((y : Int) == 0) = false := by rw [beq_eq_false_iff_ne]; omega
  have h2 : decide (y ≤ hi) = false := by simp; omega
  have h3 : ((hi : Int) == 0) = false := by rw [beq_eq_false_iff_ne]; omega
  have h4 : ((Y1 : Int) == 0) = false := by have := k1.a; rw [beq_eq_false_iff_ne]; omega
  have h5 : ¬ Y1 = 0 := by have := k1.a; omega
  have hs := m.es
  have hm : min s 64 = s := by omega
  have hm2 : (64 : Int) - (s : Int) = ((64 - s : Nat) : Int) := by omega
  have hY := m.eY
  have hYb := m.eYb
  have hY1 := m.eY1
  have hY0 := m.eY0
  have hH := m.eH
  have hHb := m.eHb
  have hL := m.eL
  have hP := m.eP
  have hU := m.eU
  have hUb := m.eUb
  have hD := m.eD
  have hDb := m.eDb
  have hD1 := m.eD1
  have hD0 := m.eD0
  go_enter Tryd.func45, Tryd.ntmps45
  go_upto_region 15 with (refine HZ.mono ?_; rintro e w1 ⟨rfl, rfl⟩)
  clear hm hm2 hY hY1 hY0 hH hL hP hU hD hD1 hD0
  have g0 := guess_start k1
  have HG := Lib.hid g0
  have G0 := Lib.hid g0.sum
  clear g0
  have hq : IntKind.u64.wrap ((U : Int) / (Y1 : Int)) = ((U / Y1 : Nat) : Int) := by
    have := Nat.div_le_self U Y1
    rw [show (U : Int) / (Y1 : Int) = ((U / Y1 : Nat) : Int) from rfl, IntKind.wrap_u64]
    generalize U / Y1 = q at *
    omega
  generalize U / Y1 = Q at *
  generalize U % Y1 = R at *
  obtain ⟨M, hM⟩ : ∃ M : Nat, M = Q * Y1 := ⟨_, rfl⟩
  have hMc : (Q : Int) * (Y1 : Int) = (M : Int) := by rw [hM]; simp
  have hMR : M + R = U := by rw [hM]; exact G0.out
  have HMR := Lib.hid hMR
  have hML : M ≤ U := by omega
  clear hM hMR
  go_upto_block 0 with fail
  clear hq hMc
  go_cut [15] (fun q wx => q = .int .u64 (((4294967296 * U + D1) / (4294967296 * Y1 + Y0) : Nat) : Int) ∧ w = wx)
  case first =>
    go_wp2_with fail
    go_loopg [15, 16] Q (fun k q r wr => ∃ b : Nat, Guess U Y1 Y0 D1 k b ∧ q = .int .u64 (k : Int) ∧ r = .int .u64 (b : Int) ∧ w = wr)
    case atStart => exact ⟨_, HG.out, rfl, u64_eq (by have := HMR.out; omega), rfl⟩
    case round =>
      obtain ⟨b, g, rfl, rfl, rfl⟩ := hrel
      obtain ⟨x1, x2⟩ := g.calm k1
      have x3 := g.high
      have x4 := g.small
      have x5 := k1.b
      have x6 := k1.e
      have x7 := k1.a
      obtain ⟨M2, hM2⟩ : ∃ M2 : Nat, M2 = gk * Y0 := ⟨_, rfl⟩
      have hM2c : (gk : Int) * (Y0 : Int) = (M2 : Int) := by rw [hM2]; simp
      rw [← hM2] at x1
      have x1' : M2 ≤ 18446744073709551615 := by omega
      clear x1 x2
      have HM2 := Lib.hid hM2
      clear hM2
      have K0 := Lib.hid k1
      have K1 := Lib.hid g
      have y1 : (M2 : Int) ≤ 18446744073709551615 := by omega
      have y2 : (b : Int) < 4294967296 := by omega
      have y3 : (gk : Int) ≤ 4294967297 := by omega
      have y4 : (Y1 : Int) < 4294967296 := by omega
      have y5 : (D1 : Int) < 4294967296 := by omega
      by_cases c1 : 4294967296 ≤ gk
      · have hp := g.pos k1 (.inl c1)
        have z1 : decide ((4294967296 : Int) ≤ (gk : Int)) = true := decide_eq_true (by omega)
        have z1' : (4294967296 : Int) ≤ (gk : Int) := by omega
        have z2 : (1 : Int) ≤ gk := by omega
        by_cases c2 : 4294967296 ≤ b + Y1
        · have z3 : decide ((4294967296 : Int) ≤ (b : Int) + (Y1 : Int)) = true := decide_eq_true (by omega)
          have HB := Lib.hid (g.broke k1 (.inl c1) c2)
          clear x1' x3 x4 x5 x6 x7 c1 c2 k1 g
          go_wp2_with fail
          go_meet
          exact ⟨less_one HB.out hp, rfl⟩
        · have z3 : decide ((4294967296 : Int) ≤ (b : Int) + (Y1 : Int)) = false := decide_eq_false (by omega)
          have HD := Lib.hid (g.down k1 (.inl c1) (by omega))
          clear x1' x3 x4 x5 x6 x7 c1 c2 k1 g
          go_wp2_with fail
          go_roundg (gk - 1)
          case measure => omega
          case rel => exact ⟨_, HD.out, u64_eq (by omega), rfl, rfl⟩
      · have z1 : decide ((4294967296 : Int) ≤ (gk : Int)) = false := decide_eq_false (by omega)
        have z1' : (gk : Int) < 4294967296 := by omega
        by_cases c4 : 4294967296 * b + D1 < M2
        · have c5 : 4294967296 ≤ gk ∨ 4294967296 * b + D1 < gk * Y0 := .inr (by rw [← HM2.out]; exact c4)
          have hp := g.pos k1 c5
          have z2 : (1 : Int) ≤ gk := by omega
          have z4 : decide (4294967296 * (b : Int) + (D1 : Int) < (M2 : Int)) = true := decide_eq_true (by omega)
          by_cases c2 : 4294967296 ≤ b + Y1
          · have z3 : decide ((4294967296 : Int) ≤ (b : Int) + (Y1 : Int)) = true := decide_eq_true (by omega)
            have HB := Lib.hid (g.broke k1 c5 c2)
            clear x1' x3 x4 x5 x6 x7 c1 c2 c4 c5 k1 g
            go_wp2_with fail
            go_meet
            exact ⟨less_one HB.out hp, rfl⟩
          · have z3 : decide ((4294967296 : Int) ≤ (b : Int) + (Y1 : Int)) = false := decide_eq_false (by omega)
            have HD := Lib.hid (g.down k1 c5 (by omega))
            clear x1' x3 x4 x5 x6 x7 c1 c2 c4 c5 k1 g
            go_wp2_with fail
            go_roundg (gk - 1)
            case measure => omega
            case rel => exact ⟨_, HD.out, u64_eq (by omega), rfl, rfl⟩
        · have HF := Lib.hid (g.fits k1 (by rw [← HM2.out]; omega))
          have z4 : decide (4294967296 * (b : Int) + (D1 : Int) < (M2 : Int)) = false := decide_eq_false (by omega)
          clear x1' x3 x4 x5 x6 x7 c1 c4 k1 g
          go_wp2_with fail
          go_meet
          exact ⟨by rw [← HF.out], rfl⟩
  case rest =>
    obtain ⟨rfl, rfl⟩ := hcut
    clear HG G0 HMR hML
    have w1 := k1.digit
    have w2 : (4294967296 * U + D1) % (4294967296 * Y1 + Y0) < 4294967296 * Y1 + Y0 := Nat.mod_lt _ k1.pos
    have w3 := Nat.div_add_mod (4294967296 * U + D1) (4294967296 * Y1 + Y0)
    have hT' := HTT.out
    rw [HYY.out] at hT'
    generalize (4294967296 * U + D1) / (4294967296 * Y1 + Y0) = Q1 at *
    generalize (4294967296 * U + D1) % (4294967296 * Y1 + Y0) = V at *
    have k2 : Halves V Y1 Y0 D0 := ⟨k1.a, k1.b, k1.c, hD0, w2⟩
    have hV : IntKind.u64.wrap (IntKind.u64.wrap (IntKind.u64.wrap ((U : Int) * 4294967296) + (D1 : Int)) - IntKind.u64.wrap ((Q1 : Int) * (Y : Int))) = (V : Int) := by
      have e1 : (Q1 : Int) * (Y : Int) = 4294967296 * (U : Int) + (D1 : Int) - (V : Int) := by
        rw [HYY.out, ← Int.natCast_mul, Nat.mul_comm]
        omega
      have e2 : V ≤ 18446744073709551615 := by have := k1.b; have := k1.c; omega
      rw [e1]
      simp only [IntKind.wrap_u64]
      clear e1 w3 hT' h1 h2 h3 h4
      omega
    have hVb : V ≤ 18446744073709551615 := by have := k1.b; have := k1.c; omega
    have HT := Lib.hid hT'
    have hQb : (Q1 : Int) ≤ 4294967295 := by omega
    clear hT' w1 w2 w3
    go_upto_region 22 with fail
    clear hV
    have g0 := guess_start k2
    have HG := Lib.hid g0
    have G0 := Lib.hid g0.sum
    clear g0
    have hq : IntKind.u64.wrap ((V : Int) / (Y1 : Int)) = ((V / Y1 : Nat) : Int) := by
      have := Nat.div_le_self V Y1
      rw [show (V : Int) / (Y1 : Int) = ((V / Y1 : Nat) : Int) from rfl, IntKind.wrap_u64]
      generalize V / Y1 = q at *
      omega
    generalize V / Y1 = Q at *
    generalize V % Y1 = R at *
    obtain ⟨M, hM⟩ : ∃ M : Nat, M = Q * Y1 := ⟨_, rfl⟩
    have hMc : (Q : Int) * (Y1 : Int) = (M : Int) := by rw [hM]; simp
    have hMR : M + R = V := by rw [hM]; exact G0.out
    have HMR := Lib.hid hMR
    have hML : M ≤ V := by omega
    clear hM hMR
    go_upto_block 2 with fail
    clear hq hMc
    go_cut [18] (fun q wx => q = .int .u64 (((4294967296 * V + D0) / (4294967296 * Y1 + Y0) : Nat) : Int) ∧ w = wx)
    case first =>
      go_wp2_with fail
      go_loopg [18, 16] Q (fun k q r wr => ∃ b : Nat, Guess V Y1 Y0 D0 k b ∧ q = .int .u64 (k : Int) ∧ r = .int .u64 (b : Int) ∧ w = wr)
      case atStart => exact ⟨_, HG.out, rfl, u64_eq (by have := HMR.out; omega), rfl⟩
      case round =>
        obtain ⟨b, g, rfl, rfl, rfl⟩ := hrel
        obtain ⟨x1, x2⟩ := g.calm k2
        have x3 := g.high
        have x4 := g.small
        have x5 := k2.b
        have x6 := k2.e
        have x7 := k2.a
        obtain ⟨M2, hM2⟩ : ∃ M2 : Nat, M2 = gk * Y0 := ⟨_, rfl⟩
        have hM2c : (gk : Int) * (Y0 : Int) = (M2 : Int) := by rw [hM2]; simp
        rw [← hM2] at x1
        have x1' : M2 ≤ 18446744073709551615 := by omega
        clear x1 x2
        have HM2 := Lib.hid hM2
        clear hM2
        have K0 := Lib.hid k2
        have K1 := Lib.hid g
        have y1 : (M2 : Int) ≤ 18446744073709551615 := by omega
        have y2 : (b : Int) < 4294967296 := by omega
        have y3 : (gk : Int) ≤ 4294967297 := by omega
        have y4 : (Y1 : Int) < 4294967296 := by omega
        have y5 : (D0 : Int) < 4294967296 := by omega
        by_cases c1 : 4294967296 ≤ gk
        · have hp := g.pos k2 (.inl c1)
          have z1 : decide ((4294967296 : Int) ≤ (gk : Int)) = true := decide_eq_true (by omega)
          have z1' : (4294967296 : Int) ≤ (gk : Int) := by omega
          have z2 : (1 : Int) ≤ gk := by omega
          by_cases c2 : 4294967296 ≤ b + Y1
          · have z3 : decide ((4294967296 : Int) ≤ (b : Int) + (Y1 : Int)) = true := decide_eq_true (by omega)
            have HB := Lib.hid (g.broke k2 (.inl c1) c2)
            clear x1' x3 x4 x5 x6 x7 c1 c2 k2 g
            go_wp2_with fail
            go_meet
            exact ⟨less_one HB.out hp, rfl⟩
          · have z3 : decide ((4294967296 : Int) ≤ (b : Int) + (Y1 : Int)) = false := decide_eq_false (by omega)
            have HD := Lib.hid (g.down k2 (.inl c1) (by omega))
            clear x1' x3 x4 x5 x6 x7 c1 c2 k2 g
            go_wp2_with fail
            go_roundg (gk - 1)
            case measure => omega
            case rel => exact ⟨_, HD.out, u64_eq (by omega), rfl, rfl⟩
        · have z1 : decide ((4294967296 : Int) ≤ (gk : Int)) = false := decide_eq_false (by omega)
          have z1' : (gk : Int) < 4294967296 := by omega
          by_cases c4 : 4294967296 * b + D0 < M2
          · have c5 : 4294967296 ≤ gk ∨ 4294967296 * b + D0 < gk * Y0 := .inr (by rw [← HM2.out]; exact c4)
            have hp := g.pos k2 c5
            have z2 : (1 : Int) ≤ gk := by omega
            have z4 : decide (4294967296 * (b : Int) + (D0 : Int) < (M2 : Int)) = true := decide_eq_true (by omega)
            by_cases c2 : 4294967296 ≤ b + Y1
            · have z3 : decide ((4294967296 : Int) ≤ (b : Int) + (Y1 : Int)) = true := decide_eq_true (by omega)
              have HB := Lib.hid (g.broke k2 c5 c2)
              clear x1' x3 x4 x5 x6 x7 c1 c2 c4 c5 k2 g
              go_wp2_with fail
              go_meet
              exact ⟨less_one HB.out hp, rfl⟩
            · have z3 : decide ((4294967296 : Int) ≤ (b : Int) + (Y1 : Int)) = false := decide_eq_false (by omega)
              have HD := Lib.hid (g.down k2 c5 (by omega))
              clear x1' x3 x4 x5 x6 x7 c1 c2 c4 c5 k2 g
              go_wp2_with fail
              go_roundg (gk - 1)
              case measure => omega
              case rel => exact ⟨_, HD.out, u64_eq (by omega), rfl, rfl⟩
          · have HF := Lib.hid (g.fits k2 (by rw [← HM2.out]; omega))
            have z4 : decide (4294967296 * (b : Int) + (D0 : Int) < (M2 : Int)) = false := decide_eq_false (by omega)
            clear x1' x3 x4 x5 x6 x7 c1 c4 k2 g
            go_wp2_with fail
            go_meet
            exact ⟨by rw [← HF.out], rfl⟩
    case rest =>
      obtain ⟨rfl, rfl⟩ := hcut
      have q1 := k2.digit
      have HT2 := HT.out
      generalize (4294967296 * V + D0) / (4294967296 * Y1 + Y0) = Q0 at *
      have HT3 := Lib.hid HT2
      have hQ0 : (Q0 : Int) ≤ 4294967295 := by omega
      clear HT HT2 q1
      go_wp2_with fail
      go_ret2
      exact ⟨_, ret_two (by have := HT3.out; omega), rfl⟩

/-- 128 bits by 64, where the quotient needs no more than 64 bits. -/
theorem div64_prog (hi lo y : Nat) (hhy : hi < y) (hlo : lo ≤ 18446744073709551615) (hyb : y ≤ 18446744073709551615) (w : World) :
    Calls Tryd.prog 45 #[.int .u64 hi, .int .u64 lo, .int .u64 y] w fun e w' => ∃ r : Int, e = .returned (.tuple #[.int .u64 (((18446744073709551616 * hi + lo) / y : Nat) : Int), .int .u64 r]) ∧ Below w.heap.size w w' := by
  by_cases h0 : hi = 0
  · subst h0
    rw [Nat.mul_zero, Nat.zero_add]
    exact div64_low lo y (by omega) hlo hyb w
  · obtain ⟨b1, b2, b3⟩ := Lib.bitLenAux_bounds 64 y (by omega) (by omega)
    have b4 : Lib.bitLenAux 64 y ≤ 64 := Lib.bitLen_le y 64 (by omega) (by omega)
    have hz := Tryd.bits_LeadingZeros64 (y : Int) w (by omega) (by omega)
    rw [show ((y : Int).toNat) = y from by omega] at hz
    unfold Lib.bitLen at hz
    generalize Lib.bitLenAux 64 y = bl at *
    obtain ⟨s, hs⟩ : ∃ s, s = 64 - bl := ⟨_, rfl⟩
    have HZ : Calls Tryd.prog 53 #[.int .u64 (y : Int)] w fun e w' => e = .returned (.int .i64 (s : Int)) ∧ w = w' :=
      hz.mono fun e w' ⟨h1, h2⟩ => ⟨by rw [h1]; congr 2; omega, h2.symm⟩
    have hY1 : 9223372036854775808 ≤ y * 2 ^ s := by
      have := Nat.mul_le_mul_right (2 ^ s) b2
      rw [← Nat.pow_add, show bl - 1 + s = 63 from by omega] at this
      exact this
    have hY2 : y * 2 ^ s < 18446744073709551616 := by
      have := Nat.mul_lt_mul_of_pos_right b3 (Nat.two_pow_pos s)
      rw [← Nat.pow_add, show bl + s = 64 from by omega] at this
      exact this
    have hU := moved_lt hi lo y s (by omega) (by omega) hhy
    have hO := moved_or hi lo s (by omega) (by omega)
    have hD := Nat.div_add_mod (lo * 2 ^ s % 18446744073709551616) 4294967296
    have hT := division hi lo y s _ _ _ (by omega) (by omega) rfl hD
    have hTb : (18446744073709551616 * hi + lo) / y < 18446744073709551616 := div_less _ _ _ (by rw [Nat.mul_comm y]; omega)
    have cY : (y : Int) * 2 ^ s = ((y * 2 ^ s : Nat) : Int) := by simp
    have cH : (hi : Int) * 2 ^ s = ((hi * 2 ^ s : Nat) : Int) := by simp
    have cL : (lo : Int) * 2 ^ s = ((lo * 2 ^ s : Nat) : Int) := by simp
    have cP : (lo : Int) / 2 ^ (64 - s) = ((lo / 2 ^ (64 - s) : Nat) : Int) := by simp
    have k1 : Halves (hi * 2 ^ s + lo / 2 ^ (64 - s)) (y * 2 ^ s / 4294967296) (y * 2 ^ s % 4294967296) (lo * 2 ^ s % 18446744073709551616 / 4294967296) := by
      refine ⟨?_, ?_, ?_, ?_, ?_⟩
      · omega
      · omega
      · omega
      · omega
      · rw [Nat.div_add_mod]
        exact hU
    have hLb : lo * 2 ^ s % 18446744073709551616 < 18446744073709551616 := Nat.mod_lt _ (by omega)
    have m : Moved hi lo y s (y * 2 ^ s) (y * 2 ^ s / 4294967296) (y * 2 ^ s % 4294967296) (hi * 2 ^ s) (lo * 2 ^ s) (lo / 2 ^ (64 - s)) (hi * 2 ^ s + lo / 2 ^ (64 - s)) (lo * 2 ^ s % 18446744073709551616) (lo * 2 ^ s % 18446744073709551616 / 4294967296) (lo * 2 ^ s % 18446744073709551616 % 4294967296) := by
      refine ⟨by omega, cY, by omega, Mul64.divN _, Mul64.maskN _ hY2, cH, ?_, cL, cP, ?_, ?_, Mul64.wrapM _, by omega, Mul64.divN _, Mul64.maskN _ hLb⟩
      · exact Nat.le_of_lt_succ (Nat.lt_of_le_of_lt (Nat.le_add_right _ _) (Nat.lt_trans hU hY2))
      · rw [bits_or_u64_nat _ _ (Nat.lt_of_le_of_lt (Nat.le_add_right _ _) (Nat.lt_trans hU hY2)) (Nat.lt_of_le_of_lt (Nat.le_add_left _ _) (Nat.lt_trans hU hY2)), hO]
      · exact Nat.le_of_lt_succ (Nat.lt_trans hU hY2)
    exact (div64_go hi lo y s _ _ _ _ _ _ _ _ _ _ m k1 (Nat.mod_lt _ (by omega)) (Nat.div_add_mod _ _).symm _ (Nat.le_of_lt_succ hTb) hT (by omega) hhy hlo hyb w HZ).mono fun e w' ⟨r, h1, h2⟩ => ⟨r, h1, h2 ▸ Below.refl _ _⟩
end Go.Proofs.YtfpjihicobmlkaaDoor
