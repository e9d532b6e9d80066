/- A number that says itself how long it is, read at a place: as the program tells it. -/
import Derived.Test.YtheaebkegncdlaaBitGet
import Derived.Test.YtheaebkegncdlaaBitLen
namespace Go.Proofs.Ytheaebkegncdlaa
open Go.RowKit
set_option linter.unusedVariables false

/-- The document's answer: number, place behind it, error. -/
def gnum (l : List UInt8) (N a : Int) : Nat × Int × Int :=
  if rightB l N = false ∨ a < 0 ∨ N < a then (0, 0, 2)
  else if N - a < 7 then (0, 0, 4)
  else if 64 < getN l a.toNat 7 then (0, 0, 5)
  else if N - (a + 7) < getN l a.toNat 7 then (0, 0, 4)
  else if digs (getN l (a.toNat + 7) (getN l a.toNat 7)) ≠ getN l a.toNat 7 then (0, 0, 5)
  else (getN l (a.toNat + 7) (getN l a.toNat 7), a + 7 + getN l a.toNat 7, 0)

theorem getnum_prog (A : Option Addr) (l : List UInt8) (c : Nat) (N a : Int) (w : World) (hA : Bys w A l) (h0 : -9223372036854775808 ≤ N) (h1 : N ≤ 9223372036854775807) (hl : l.length ≤ 562949953421312) :
    Calls Try.prog 61 #[.agg #[.slice A l.length c, .int .i64 N], .int .i64 a] w fun e w' =>
      e = .returned (.tuple #[.int .u64 (gnum l N a).1, .int .i64 (gnum l N a).2.1, .int .i64 (gnum l N a).2.2]) ∧ Below w.heap.size w w' := by
  by_cases hbad : rightB l N = false ∨ a < 0 ∨ N < a
  · have e0 : gnum l N a = (0, 0, 2) := by unfold gnum; rw [if_pos hbad]
    rw [e0]
    go_enter Try.func61, Try.ntmps61
    go_wp2_with fail
    refine (get_bad A l c N a 7 _ (hA.below (below_one _ _)) h1 hl (by rcases hbad with h | h | h <;> simp [h])).mono ?_
    rintro e w1 ⟨rfl, hb1⟩
    go_wp2
    go_ret3
    exact ⟨rfl, below_then (below_one _ _) hb1⟩
  have hr : rightB l N = true := by
    cases h : rightB l N
    · exact absurd (.inl h) hbad
    · rfl
  have ha0 : 0 ≤ a := by omega
  have haN : a ≤ N := by omega
  obtain ⟨b, rfl⟩ := Int.eq_ofNat_of_zero_le ha0
  obtain ⟨M, rfl⟩ := Int.eq_ofNat_of_zero_le (show 0 ≤ N by omega)
  have hlen := (rightB_iff.1 hr).2.1
  rw [Int.toNat_natCast] at hlen
  have hM : M ≤ 4503599627370496 := by omega
  clear hlen
  by_cases hs : (M : Int) - b < 7
  · have e0 : gnum l M b = (0, 0, 4) := by unfold gnum; rw [if_neg hbad, if_pos hs]
    rw [e0]
    go_enter Try.func61, Try.ntmps61
    go_wp2_with fail
    refine (get_short A l c M b 7 _ (hA.below (below_one _ _)) h1 hl hr (by omega) (by omega) (by omega) haN hs).mono ?_
    rintro e w1 ⟨rfl, hb1⟩
    go_wp2
    go_ret3
    exact ⟨rfl, below_then (below_one _ _) hb1⟩
  have hg7 := getN_lt l b 7
  have first : ∀ W, Bys W A l → Calls Try.prog 65 #[.agg #[.slice A l.length c, .int .i64 M], .int .i64 b, .int .i64 7] W fun e w' => e = .returned (.tuple #[.int .u64 (getN l b 7), .int .i64 0]) ∧ Below W.heap.size W w' :=
    fun W hW => get_ok A l c M b 7 W hW hl hr (by omega) (by omega)
  have First := Lib.hid first
  clear first
  by_cases h64 : 64 < getN l b 7
  · have e0 : gnum l M b = (0, 0, 5) := by unfold gnum; rw [if_neg hbad, if_neg hs, Int.toNat_natCast, if_pos h64]
    rw [e0]
    clear e0
    generalize getN l b 7 = n at *
    go_enter Try.func61, Try.ntmps61
    go_wp2_with fail
    refine (First.out _ (hA.below (below_one _ _))).mono ?_
    rintro e w1 ⟨rfl, hb1⟩
    go_wp2
    go_ret3
    exact ⟨rfl, below_then (below_one _ _) hb1⟩
  by_cases hs2 : (M : Int) - (b + 7) < getN l b 7
  · have e0 : gnum l M b = (0, 0, 4) := by unfold gnum; rw [if_neg hbad, if_neg hs, Int.toNat_natCast, if_neg h64, if_pos hs2]
    rw [e0]
    clear e0
    generalize getN l b 7 = n at *
    go_enter Try.func61, Try.ntmps61
    go_wp2_with fail
    refine (First.out _ (hA.below (below_one _ _))).mono ?_
    rintro e w1 ⟨rfl, hb1⟩
    obtain ⟨hst, hfr⟩ := stands hb1
    go_wp2_with fail
    refine (get_short A l c M (b + 7) n w1 (hA.below (below_then (below_one _ _) hb1)) h1 hl hr (by omega) (by omega) (by omega) (by omega) hs2).mono ?_
    rintro e w2 ⟨rfl, hb2⟩
    go_wp2
    go_ret3
    exact ⟨rfl, below_then (below_then (below_one _ _) hb1) hb2⟩
  have second : ∀ W, Bys W A l → Calls Try.prog 65 #[.agg #[.slice A l.length c, .int .i64 M], .int .i64 ((b : Int) + 7), .int .i64 (getN l b 7)] W fun e w' =>
      e = .returned (.tuple #[.int .u64 (getN l (b + 7) (getN l b 7)), .int .i64 0]) ∧ Below W.heap.size W w' := fun W hW => by
    have := get_ok A l c M (b + 7) (getN l b 7) W hW hl hr (by omega) (by omega)
    rw [Int.natCast_add] at this
    exact this
  have Second := Lib.hid second
  clear second
  have hu := getN_64 l (b + 7) (getN l b 7) (by omega)
  have hdle := digs_64 hu
  have len : ∀ W, Calls Try.prog 55 #[.int .u64 (getN l (b + 7) (getN l b 7))] W fun e w' => e = .returned (.int .i64 (digs (getN l (b + 7) (getN l b 7)))) ∧ W = w' := fun W => len64_prog _ W hu
  have Len := Lib.hid len
  clear len
  by_cases hd : digs (getN l (b + 7) (getN l b 7)) ≠ getN l b 7
  · have e0 : gnum l M b = (0, 0, 5) := by unfold gnum; rw [if_neg hbad, if_neg hs, Int.toNat_natCast, if_neg h64, if_neg hs2, if_pos hd]
    rw [e0]
    clear e0
    generalize getN l (b + 7) (getN l b 7) = u at *
    generalize getN l b 7 = n at *
    generalize digs u = k at *
    have hne : ((k : Int) != (n : Int)) = true := by rw [bne_iff_ne]; omega
    clear hd
    go_enter Try.func61, Try.ntmps61
    go_wp2_with fail
    refine (First.out _ (hA.below (below_one _ _))).mono ?_
    rintro e w1 ⟨rfl, hb1⟩
    obtain ⟨hst, hfr⟩ := stands hb1
    go_wp2_with fail
    refine (Second.out w1 (hA.below (below_then (below_one _ _) hb1))).mono ?_
    rintro e w2 ⟨rfl, hb2⟩
    go_wp2_with fail
    refine (Len.out w2).mono ?_
    rintro e w3 ⟨rfl, rfl⟩
    go_wp2
    go_ret3
    exact ⟨rfl, below_then (below_then (below_one _ _) hb1) hb2⟩
  · have e0 : gnum l M b = (getN l (b + 7) (getN l b 7), (b : Int) + 7 + getN l b 7, 0) := by unfold gnum; rw [if_neg hbad, if_neg hs, Int.toNat_natCast, if_neg h64, if_neg hs2, if_neg hd]
    rw [e0]
    clear e0
    generalize getN l (b + 7) (getN l b 7) = u at *
    generalize getN l b 7 = n at *
    generalize digs u = k at *
    have hne : ((k : Int) != (n : Int)) = false := by rw [bne_eq_false_iff_eq]; omega
    clear hd
    go_enter Try.func61, Try.ntmps61
    go_wp2_with fail
    refine (First.out _ (hA.below (below_one _ _))).mono ?_
    rintro e w1 ⟨rfl, hb1⟩
    obtain ⟨hst, hfr⟩ := stands hb1
    go_wp2_with fail
    refine (Second.out w1 (hA.below (below_then (below_one _ _) hb1))).mono ?_
    rintro e w2 ⟨rfl, hb2⟩
    go_wp2_with fail
    refine (Len.out w2).mono ?_
    rintro e w3 ⟨rfl, rfl⟩
    go_wp2
    go_ret3
    exact ⟨rfl, below_then (below_then (below_one _ _) hb1) hb2⟩
end Go.Proofs.Ytheaebkegncdlaa
