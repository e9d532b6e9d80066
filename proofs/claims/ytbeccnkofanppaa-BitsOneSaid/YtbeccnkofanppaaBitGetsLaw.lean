/- The walk of a law of layer 1: at any place of any bits the number of any width is told that the document says, or it is refused. -/
import Derived.Test.YtbeccnkofanppaaBitOpen
import Derived.Test.YtbeccnkofanppaaBitLent
import Derived.Test.YtbeccnkofanppaaBitKept
import Derived.Test.YtbeccnkofanppaaRefBit
namespace Go.Proofs.Ytbeccnkofanppaa
open Go.RowKit
set_option linter.unusedVariables false

def getR (l : List UInt8) (N a n : Int) : Nat × Int :=
  if rightB l N = false ∨ n < 0 ∨ 64 < n ∨ a < 0 ∨ N < a then (0, 2) else if N - a < n then (0, 4) else (getN l a.toNat n.toNat, 0)

theorem getR_cases (l : List UInt8) (N a n : Int) (P : Nat × Int → Prop) (h1 : (rightB l N = false ∨ n < 0 ∨ 64 < n ∨ a < 0 ∨ N < a) → P (0, 2))
    (h2 : rightB l N = true → 0 ≤ n → n ≤ 64 → 0 ≤ a → a ≤ N → N - a < n → P (0, 4))
    (h3 : ∀ (M b k : Nat), N = M → a = b → n = k → rightB l (M : Int) = true → k ≤ 64 → b + k ≤ M → P (getN l b k, 0)) : P (getR l N a n) := by
  unfold getR
  by_cases hb : rightB l N = false ∨ n < 0 ∨ 64 < n ∨ a < 0 ∨ N < a
  · rw [if_pos hb]
    exact h1 hb
  · rw [if_neg hb]
    have hr : rightB l N = true := by
      cases h : rightB l N
      · exact absurd (.inl h) hb
      · rfl
    have hn0 : 0 ≤ n := by
      rcases Int.lt_or_le n 0 with h | h
      · exact absurd (.inr (.inl h)) hb
      · exact h
    have hn : n ≤ 64 := by
      rcases Int.lt_or_le 64 n with h | h
      · exact absurd (.inr (.inr (.inl h))) hb
      · exact h
    have ha0 : 0 ≤ a := by
      rcases Int.lt_or_le a 0 with h | h
      · exact absurd (.inr (.inr (.inr (.inl h)))) hb
      · exact h
    have ha : a ≤ N := by
      rcases Int.lt_or_le N a with h | h
      · exact absurd (.inr (.inr (.inr (.inr h)))) hb
      · exact h
    by_cases hs : N - a < n
    · rw [if_pos hs]
      exact h2 hr hn0 hn ha0 ha hs
    · rw [if_neg hs]
      obtain ⟨M, rfl⟩ := Int.eq_ofNat_of_zero_le (show 0 ≤ N by omega)
      obtain ⟨b, rfl⟩ := Int.eq_ofNat_of_zero_le ha0
      obtain ⟨k, rfl⟩ := Int.eq_ofNat_of_zero_le hn0
      exact h3 M b k rfl rfl rfl hr (by omega) (by omega)

theorem get_prog (A : Option Addr) (l : List UInt8) (c : Nat) (N a n : Int) (w : World) (hA : Bys w A l) (h1 : N ≤ 9223372036854775807) (hl : l.length ≤ 562949953421312) :
    Calls Try.prog 21 #[.agg #[.slice A l.length c, .int .i64 N], .int .i64 a, .int .i64 n] w fun e w' => e = .returned (.tuple #[.int .u64 (getR l N a n).1, .int .i64 (getR l N a n).2]) ∧ Below w.heap.size w w' := by
  refine getR_cases l N a n (fun r => Calls Try.prog 21 #[.agg #[.slice A l.length c, .int .i64 N], .int .i64 a, .int .i64 n] w fun e w' => e = .returned (.tuple #[.int .u64 r.1, .int .i64 r.2]) ∧ Below w.heap.size w w') ?_ ?_ ?_
  · exact fun h => get_bad A l c N a n w hA h1 hl h
  · exact fun hr hn0 hn ha0 ha hs => get_short A l c N a n w hA h1 hl hr hn0 hn ha0 ha hs
  · rintro M b k rfl rfl rfl hr hk hbk
    exact get_ok A l c M b k w hA hl hr hk hbk
theorem get_ref (A : Option Addr) (l : List UInt8) (c : Nat) (N a n : Int) (w : World) (hA : Bys w A l) (h1 : N ≤ 9223372036854775807) (hl : l.length ≤ 562949953421312) :
    Calls Try.prog 22 #[.agg #[.slice A l.length c, .int .i64 N], .int .i64 a, .int .i64 n] w fun e w' => e = .returned (.tuple #[.int .u64 (getR l N a n).1, .int .i64 (getR l N a n).2]) ∧ Below w.heap.size w w' := by
  refine getR_cases l N a n (fun r => Calls Try.prog 22 #[.agg #[.slice A l.length c, .int .i64 N], .int .i64 a, .int .i64 n] w fun e w' => e = .returned (.tuple #[.int .u64 r.1, .int .i64 r.2]) ∧ Below w.heap.size w w') ?_ ?_ ?_
  · exact fun h => get_bad_ref A l c N a n w hA h1 hl h
  · exact fun hr hn0 hn ha0 ha hs => get_short_ref A l c N a n w hA h1 hl hr hn0 hn ha0 ha hs
  · rintro M b k rfl rfl rfl hr hk hbk
    exact get_ok_ref A l c M b k w hA hl hr hk hbk

set_option maxHeartbeats 1000000 in
theorem bitsGets_walk (w : World) (A : Option Addr) (l : List UInt8) (c : Nat) (N : Int) (hA : Bys w A l) (hr : l.length ≤ 140737488351232) (hlc : l.length ≤ c) (lo : -9223372036854775808 ≤ N) (hi : N ≤ 9223372036854775807)
    (a : Int) (ba : -9223372036854775808 ≤ a ∧ a ≤ 9223372036854775807) (n : Int) (bn : -9223372036854775808 ≤ n ∧ n ≤ 9223372036854775807) :
    Calls Try.prog 5 #[.agg #[.slice A l.length c, .int .i64 N], .int .i64 a, .int .i64 n] w fun e w' => e = .returned (.bool true) ∧ Below w.heap.size w w' := by
  have hl : l.length ≤ 562949953421312 := by omega
  go_enter Try.func5, Try.ntmps5
  go_wp2_with fail
  refine (lent_law A l c N _ (hA.below (below_one _ _)) hr).mono ?_
  rintro e w1 ⟨G, cap, rfl, hG, hcap, hmax, hGw, hb1⟩
  obtain ⟨hs1, hf1⟩ := stands hb1
  have hW1 : Below w.heap.size w w1 := below_then (below_one _ _) hb1
  have hx0 : ∀ W, Below w1.heap.size w1 W → W.cell? ⟨w.heap.size, 0, none⟩ = some (.slice A l.length c) := fun W hW => by
    rw [hW.cell (by have := hb1.size; simp at this; show w.heap.size < _; omega), hs1 _ _ (by simp), World.cell?_alloc_at _ _ _ _ rfl]; rfl
  have hx1 : ∀ W, Below w1.heap.size w1 W → W.cell? ⟨w.heap.size, 1, none⟩ = some (.int .i64 N) := fun W hW => by
    rw [hW.cell (by have := hb1.size; simp at this; show w.heap.size < _; omega), hs1 _ _ (by simp), World.cell?_alloc_at _ _ _ _ rfl]; rfl
  have Hx0 := Lib.hid hx0
  have Hx1 := Lib.hid hx1
  clear hs1 hf1 hx0 hx1 hb1
  have hGf := bys_front hG
  go_wp2_with fail
  refine (get_prog (some ⟨G, 0, none⟩) l cap N a n _ (hGf.alloc _) hi hl).mono ?_
  rintro e w2 ⟨rfl, hb2⟩
  have hW2 : Below w1.heap.size w1 w2 := below_then (below_one _ _) hb2
  have X0 := Hx0.out w2 hW2
  have X1 := Hx1.out w2 hW2
  have Y : Row w2 w1.heap.size 24 #[.slice (some ⟨G, 0, none⟩) l.length cap, .int .i64 N] := (Row.new w1 _ _).below hb2 (by simp)
  go_wp2_with fail
  refine (get_ref A l c N a n _ ((hA.below hW1).below hW2) hi hl).mono ?_
  rintro e w3 ⟨rfl, hb3⟩
  have hW3 : Below w1.heap.size w1 w3 := below_then hW2 hb3
  have X03 := Hx0.out w3 hW3
  have X13 := Hx1.out w3 hW3
  have Y3 := Y.below hb3 Y.lt
  have Y0 : w3.cell? ⟨w1.heap.size, 0, none⟩ = some (.slice (some ⟨G, 0, none⟩) l.length cap) := Y3.cell 0
  have Y1 : w3.cell? ⟨w1.heap.size, 1, none⟩ = some (.int .i64 N) := Y3.cell 1
  have q1 : ((getR l N a n).1 == (getR l N a n).1) = true := beq_self_eq_true _
  clear X0 X1 Y Y3
  go_wp2_with fail
  refine (kept_law A l c G cap N _ ((hA.below hW1).below hW3) (hG.below hW3) hcap hr).mono ?_
  rintro e w4 ⟨rfl, hb4⟩
  go_wp2_with fail
  refine (lives_true w4).mono ?_
  rintro e w5 ⟨rfl, hb5⟩
  go_wp2
  go_ret
  exact ⟨rfl, below_then (below_then (below_then hW1 hW3) hb4) hb5⟩
end Go.Proofs.Ytbeccnkofanppaa
