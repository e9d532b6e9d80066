/- The document's own answers for bits: one bit, right bits, the number at a place. -/
import Derived.Test.YtheaebkegncdlaaBitGet
namespace Go.Proofs.Ytheaebkegncdlaa
open Go.RowKit
set_option linter.unusedVariables false

theorem bit_ref (A : Option Addr) (l : List UInt8) (c : Nat) (N : Int) (i : Nat) (w : World) (hA : Bys w A l) (hi : i < 8 * l.length) (hl : l.length ≤ 562949953421312) :
    Calls Try.prog 62 #[.agg #[.slice A l.length c, .int .i64 N], .int .i64 i] w fun e w' => e = .returned (.int .u64 (bitN l i)) ∧ Below w.heap.size w w' := by
  obtain ⟨b, o, rfl, hb, hc⟩ := hA.at_ (by omega)
  have hcell := hc (i / 8) (by omega)
  have hx := byte_toNat (l.getD (i / 8) 0)
  have Hn := Lib.hid (show (l.getD (i / 8) 0).toNat / 2 ^ (7 - i % 8) % 2 = bitN l i from rfl)
  generalize (l.getD (i / 8) 0).toNat = x at *
  clear hc
  have hcell' : ∀ o1, (w.alloc o1).cell? ⟨b, o + i / 8, none⟩ = some (.int .u8 (x : Int)) := fun o1 => by rw [World.cell?_alloc_past _ _ _ hb]; exact hcell
  clear hcell
  have hi2 : i / 8 < l.length := by omega
  go_enter Try.func62, Try.ntmps62
  go_wp2
  go_loop [5, 6] (fun a k => ∃ j : Nat, j ≤ 7 - i % 8 ∧ k = .int .i64 j ∧ a = .int .u64 (x / 2 ^ j : Nat)) (fun _ k => 8 - (intOf k).toNat)
  case atStart => exact ⟨0, Nat.zero_le _, rfl, by simp⟩
  case round =>
    obtain ⟨j, hj, rfl, rfl⟩ := hrel
    have hle : x / 2 ^ j ≤ x := Nat.div_le_self _ _
    have H := Lib.hid (show ((x / 2 ^ j : Nat) : Int) / 2 = ((x / 2 ^ (j + 1) : Nat) : Int) by rw [Nat.pow_succ, ← Nat.div_div_eq_div_mul]; omega)
    generalize hy : x / 2 ^ j = y at *
    have Hy := Lib.hid hy
    clear hy
    by_cases hlt : j < 7 - i % 8
    · go_wp2
      go_round
      case rel => exact ⟨j + 1, by omega, by go_num, by rw [H.out]⟩
      case measure => simp [intOf]; omega
    · go_wp2
      go_ret
      refine ⟨ret_num ?_, below_one _ _⟩
      have hjj : j = 7 - i % 8 := by omega
      rw [← Hn.out, ← hjj, Hy.out]
      omega

theorem right_ref_no (A : Option Addr) (l : List UInt8) (c : Nat) (N : Int) (w : World) (h0 : N < 0) :
    Calls Try.prog 57 #[.agg #[.slice A l.length c, .int .i64 N]] w fun e w' => e = .returned (.bool false) ∧ Below w.heap.size w w' := by
  go_enter Try.func57, Try.ntmps57
  go_wp2
  go_ret
  exact ⟨rfl, below_one _ _⟩

theorem right_ref_len (A : Option Addr) (l : List UInt8) (c : Nat) (N : Nat) (w : World) (h1 : N ≤ 9223372036854775807) (hl : l.length ≤ 562949953421312) (h : l.length ≠ (N + 7) / 8) :
    Calls Try.prog 57 #[.agg #[.slice A l.length c, .int .i64 N]] w fun e w' => e = .returned (.bool false) ∧ Below w.heap.size w w' := by
  have hne : ((l.length : Int) != (N : Int) / 8 + ((N : Int) % 8 + 7) / 8) = true := by rw [bne_iff_ne]; omega
  have hn : decide ((N : Int) < 0) = false := by simp
  go_enter Try.func57, Try.ntmps57
  go_wp2
  go_ret
  exact ⟨rfl, below_one _ _⟩

set_option maxHeartbeats 400000 in
theorem right_ref_loop (A : Option Addr) (l : List UInt8) (c : Nat) (N : Nat) (w : World) (hA : Bys w A l) (h1 : N ≤ 9223372036854775807) (hl : l.length ≤ 562949953421312) (h : l.length = (N + 7) / 8) :
    Calls Try.prog 57 #[.agg #[.slice A l.length c, .int .i64 N]] w fun e w' => e = .returned (.bool (rightB l N)) ∧ Below w.heap.size w w' := by
  have hne : ((l.length : Int) != (N : Int) / 8 + ((N : Int) % 8 + 7) / 8) = false := by rw [bne_eq_false_iff_eq]; omega
  have hn : decide ((N : Int) < 0) = false := by simp
  have hN : N ≤ 8 * l.length := by omega
  have H := Lib.hid h
  clear h
  have hB0 : (w.alloc (.cells #[.slice A l.length c, .int .i64 N] 58)).cell? ⟨w.heap.size, 0, none⟩ = some (.slice A l.length c) := by rw [World.cell?_alloc_at _ _ _ _ rfl]; rfl
  have hB1 : (w.alloc (.cells #[.slice A l.length c, .int .i64 N] 58)).cell? ⟨w.heap.size, 1, none⟩ = some (.int .i64 N) := by rw [World.cell?_alloc_at _ _ _ _ rfl]; rfl
  have hW := below_one w (.cells #[.slice A l.length c, .int .i64 N] 58)
  have hz : w.heap.size < (w.alloc (.cells #[.slice A l.length c, .int .i64 N] 58)).heap.size := by simp
  go_enter Try.func57, Try.ntmps57
  go_wp2
  generalize (w.alloc (.cells #[.slice A l.length c, .int .i64 N] 58)) = w1 at *
  have hA1 := hA.below hW
  go_loopw [3] (fun i wr => ∃ k : Nat, N ≤ k ∧ k ≤ 8 * l.length ∧ i = .int .i64 k ∧ Hid (∀ j, N ≤ j → j < k → bitN l j = 0) ∧ Below w1.heap.size w1 wr) (fun i _ => 8 * l.length - (intOf i).toNat)
  case atStart => exact ⟨N, Nat.le_refl _, hN, rfl, fun j h1 h2 => by omega, Below.refl _ _⟩
  case round =>
    obtain ⟨k, hk1, hk2, rfl, hz0, hbr⟩ := hrel
    have hB0r := (hbr.cell (p := ⟨w.heap.size, 0, none⟩) hz).trans hB0
    have hB1r := (hbr.cell (p := ⟨w.heap.size, 1, none⟩) hz).trans hB1
    have hAr := hA1.below hbr
    clear hB0 hB1
    by_cases hlt : k < 8 * l.length
    · have hbt := bitN_lt l k
      have Hy := Lib.hid (show bitN l k = bitN l k from rfl)
      by_cases hbit : bitN l k = 0
      · have hb : ((bitN l k : Int) != 0) = false := by rw [hbit]; rfl
        have Hbit := Lib.hid hbit
        clear hbit
        go_wp2_with (go_at_call 62; refine (bit_ref A l c N k wr hAr hlt hl).mono ?_; rintro e w2 ⟨rfl, hb2⟩)
        go_roundw
        case rel =>
          refine ⟨k + 1, by omega, by omega, by go_num, fun j h1 h2 => ?_, below_then hbr hb2⟩
          by_cases e : j = k
          · rw [e]; exact Hbit.out
          · exact hz0.out j h1 (by omega)
        case measure => simp [intOf]; omega
      · have hb : ((bitN l k : Int) != 0) = true := by rw [bne_iff_ne]; omega
        have hR : rightB l (N : Int) = false := by
          rw [Bool.eq_false_iff]
          intro hr
          exact hbit ((rightB_iff.1 hr).2.2 k (by rw [Int.toNat_natCast]; exact hk1))
        have HR := Lib.hid hR
        clear hR hbit
        go_wp2_with (go_at_call 62; refine (bit_ref A l c N k wr hAr hlt hl).mono ?_; rintro e w2 ⟨rfl, hb2⟩)
        go_ret
        exact ⟨ret_bool HR.out.symm, below_then (below_then hW hbr) hb2⟩
    · have hR : rightB l (N : Int) = true := by
        refine rightB_iff.2 ⟨by omega, by rw [Int.toNat_natCast]; exact H.out, fun i hi => ?_⟩
        rw [Int.toNat_natCast] at hi
        by_cases ho : 8 * l.length ≤ i
        · exact bitN_out _ _ ho
        · exact hz0.out i hi (by omega)
      have HR := Lib.hid hR
      clear hR
      go_wp2
      go_ret
      exact ⟨ret_bool HR.out.symm, below_then hW hbr⟩

theorem right_ref (A : Option Addr) (l : List UInt8) (c : Nat) (N : Int) (w : World) (hA : Bys w A l) (h1 : N ≤ 9223372036854775807) (hl : l.length ≤ 562949953421312) :
    Calls Try.prog 57 #[.agg #[.slice A l.length c, .int .i64 N]] w fun e w' => e = .returned (.bool (rightB l N)) ∧ Below w.heap.size w w' := by
  by_cases h0 : N < 0
  · rw [right_neg h0]
    exact right_ref_no A l c N w h0
  · obtain ⟨k, rfl⟩ := Int.eq_ofNat_of_zero_le (show 0 ≤ N by omega)
    by_cases h : l.length = (k + 7) / 8
    · exact right_ref_loop A l c k w hA (by omega) hl h
    · rw [right_size h]
      exact right_ref_len A l c k w (by omega) hl h

theorem get_bad_ref (A : Option Addr) (l : List UInt8) (c : Nat) (N a n : Int) (w : World) (hA : Bys w A l) (h1 : N ≤ 9223372036854775807) (hl : l.length ≤ 562949953421312)
    (h : rightB l N = false ∨ n < 0 ∨ 64 < n ∨ a < 0 ∨ N < a) :
    Calls Try.prog 52 #[.agg #[.slice A l.length c, .int .i64 N], .int .i64 a, .int .i64 n] w fun e w' => e = .returned (.tuple #[.int .u64 0, .int .i64 2]) ∧ Below w.heap.size w w' := by
  have hcase : rightB l N = false ∨ (rightB l N = true ∧ decide (n < 0) = true) ∨ (rightB l N = true ∧ decide (n < 0) = false ∧ decide (64 < n) = true) ∨
      (rightB l N = true ∧ decide (n < 0) = false ∧ decide (64 < n) = false ∧ decide (a < 0) = true) ∨
      (rightB l N = true ∧ decide (n < 0) = false ∧ decide (64 < n) = false ∧ decide (a < 0) = false ∧ decide (N < a) = true) := by
    simp only [decide_eq_true_eq, decide_eq_false_iff_not]
    rcases h with h | h | h | h | h
    · exact .inl h
    all_goals
      cases rightB l N
      · exact .inl rfl
      · simp only [Bool.true_eq_false, false_or, true_and]
        omega
  clear h
  rcases hcase with h | ⟨h, h2⟩ | ⟨h, h2, h3⟩ | ⟨h, h2, h3, h4⟩ | ⟨h, h2, h3, h4, h5⟩
  all_goals
    go_enter Try.func52, Try.ntmps52
    go_wp2_with (go_at_call 57; refine (right_ref A l c N _ (hA.below (below_one _ _)) h1 hl).mono ?_; rintro e w1 ⟨rfl, hb1⟩; obtain ⟨hs, hf⟩ := stands hb1)
    go_ret2
    exact ⟨rfl, below_then (below_one _ _) hb1⟩

theorem get_short_ref (A : Option Addr) (l : List UInt8) (c : Nat) (N a n : Int) (w : World) (hA : Bys w A l) (h1 : N ≤ 9223372036854775807) (hl : l.length ≤ 562949953421312)
    (hr : rightB l N = true) (hn0 : 0 ≤ n) (hn : n ≤ 64) (ha0 : 0 ≤ a) (ha : a ≤ N) (h : N - a < n) :
    Calls Try.prog 52 #[.agg #[.slice A l.length c, .int .i64 N], .int .i64 a, .int .i64 n] w fun e w' => e = .returned (.tuple #[.int .u64 0, .int .i64 4]) ∧ Below w.heap.size w w' := by
  have d1 : decide (n < 0) = false := by simp; omega
  have d2 : decide (64 < n) = false := by simp; omega
  have d3 : decide (a < 0) = false := by simp; omega
  have d4 : decide (N < a) = false := by simp; omega
  go_enter Try.func52, Try.ntmps52
  go_wp2_with (go_at_call 57; refine (right_ref A l c N _ (hA.below (below_one _ _)) h1 hl).mono ?_; rintro e w1 ⟨rfl, hb1⟩; obtain ⟨hs, hf⟩ := stands hb1)
  go_ret2
  exact ⟨rfl, below_then (below_one _ _) hb1⟩

set_option maxHeartbeats 400000 in
theorem get_ok_ref (A : Option Addr) (l : List UInt8) (c : Nat) (N a n : Nat) (w : World) (hA : Bys w A l) (hl : l.length ≤ 562949953421312)
    (hr : rightB l (N : Int) = true) (hn : n ≤ 64) (h : a + n ≤ N) :
    Calls Try.prog 52 #[.agg #[.slice A l.length c, .int .i64 N], .int .i64 a, .int .i64 n] w fun e w' => e = .returned (.tuple #[.int .u64 (getN l a n), .int .i64 0]) ∧ Below w.heap.size w w' := by
  have hlen := (rightB_iff.1 hr).2.1
  rw [Int.toNat_natCast] at hlen
  have hN : N ≤ 8 * l.length := by omega
  clear hlen
  have d1 : decide ((n : Int) < 0) = false := by simp
  have d2 : decide (64 < (n : Int)) = false := by simp; omega
  have d3 : decide ((a : Int) < 0) = false := by simp
  have d4 : decide (N < a) = false := by simp; omega
  have d5 : decide ((N : Int) - (a : Int) < (n : Int)) = false := by simp; omega
  go_enter Try.func52, Try.ntmps52
  go_wp2_with (go_at_call 57; refine (right_ref A l c N _ (hA.below (below_one _ _)) (by omega) hl).mono ?_; rintro e w1 ⟨rfl, hb1⟩; obtain ⟨hs, hf⟩ := stands hb1)
  have hB0 : w1.cell? ⟨w.heap.size, 0, none⟩ = some (.slice A l.length c) := by rw [hs _ _ (by simp), World.cell?_alloc_at _ _ _ _ rfl]; rfl
  have hB1 : w1.cell? ⟨w.heap.size, 1, none⟩ = some (.int .i64 N) := by rw [hs _ _ (by simp), World.cell?_alloc_at _ _ _ _ rfl]; rfl
  have hz : w.heap.size < w1.heap.size := by have := hb1.size; simp at this; omega
  have hA1 : Bys w1 A l := hA.below (below_then (below_one _ _) hb1)
  clear hs hf
  go_loopw [8, 9] (fun u i wr => ∃ k : Nat, k ≤ n ∧ u = .int .u64 (getN l a k) ∧ i = .int .i64 k ∧ Below w1.heap.size w1 wr) (fun _ i _ => n - (intOf i).toNat)
  case atStart => exact ⟨0, Nat.zero_le _, rfl, rfl, Below.refl _ _⟩
  case round =>
    obtain ⟨k, hk, rfl, rfl, hbr⟩ := hrel
    have hB0r := (hbr.cell (p := ⟨w.heap.size, 0, none⟩) hz).trans hB0
    have hB1r := (hbr.cell (p := ⟨w.heap.size, 1, none⟩) hz).trans hB1
    have hAr := hA1.below hbr
    clear hB0 hB1
    by_cases hlt : k < n
    · have hg := getN_63 l a k (by omega)
      have hbt := bitN_lt l (a + k)
      have Hn := Lib.hid (show 2 * getN l a k + bitN l (a + k) = getN l a (k + 1) from rfl)
      have Hb := Lib.hid (show ((a + k : Nat) : Int) = (a : Int) + k by omega)
      generalize getN l a k = g at *
      go_wp2_with fail
      rw [← Hb.out]
      refine (bit_ref A l c N (a + k) wr hAr (by omega) hl).mono ?_
      rintro e w2 ⟨rfl, hb2⟩
      generalize bitN l (a + k) = d at *
      go_wp2
      go_roundw
      case rel => exact ⟨k + 1, by omega, by rw [← Hn.out]; go_num, by go_num, below_then hbr hb2⟩
      case measure => simp [intOf]; omega
    · have e : k = n := by omega
      subst e
      go_wp2
      go_ret2
      exact ⟨rfl, below_then (below_then (below_one _ _) hb1) hbr⟩
end Go.Proofs.Ytheaebkegncdlaa
