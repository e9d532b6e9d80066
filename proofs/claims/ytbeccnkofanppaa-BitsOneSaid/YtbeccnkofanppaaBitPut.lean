/- What the laying down of a number in so many bits tells: refused, too big, or the bits with the number behind them, in new memory. -/
import Derived.Test.YtbeccnkofanppaaBitExtend
namespace Go.Proofs.Ytbeccnkofanppaa
open Go.RowKit
set_option linter.unusedVariables false

theorem row_two (w : World) (o : Obj) (cs : Array Value) (t : TypeId) : Row ((w.alloc o).alloc (.cells cs t)) (w.heap.size + 1) t cs := by
  have := Row.new (w.alloc o) t cs
  rw [show (w.alloc o).heap.size = w.heap.size + 1 from by simp] at this
  exact this
theorem below_two (w : World) (o o' : Obj) : Below w.heap.size w ((w.alloc o).alloc o') := (below_one w o).alloc (by simp) o'

theorem put_bad (A : Option Addr) (l : List UInt8) (c : Nat) (N n : Int) (u : Nat) (w : World) (hA : Bys w A l) (h1 : N ≤ 9223372036854775807) (hl : l.length ≤ 562949953421312)
    (h : rightB l N = false ∨ n < 0 ∨ 64 < n) :
    Calls Try.prog 13 #[.agg #[.slice A l.length c, .int .i64 N], .int .u64 u, .int .i64 n] w fun e w' =>
      e = .returned (.tuple #[.agg #[.slice none 0 0, .int .i64 0], .int .i64 2]) ∧ Below w.heap.size w w' := by
  have hcase : rightB l N = false ∨ (rightB l N = true ∧ decide (n < 0) = true) ∨ (rightB l N = true ∧ decide (n < 0) = false ∧ decide (64 < n) = true) := by
    simp only [decide_eq_true_eq, decide_eq_false_iff_not]
    rcases h with h | h | h
    · exact .inl h
    all_goals
      cases rightB l N
      · exact .inl rfl
      · simp only [Bool.true_eq_false, false_or, true_and]
        omega
  clear h
  rcases hcase with h | ⟨h, h2⟩ | ⟨h, h2, h3⟩
  all_goals
    go_enter Try.func13, Try.ntmps13
    go_wp2_with (go_at_call 19; refine (right_prog A l c N _ (hA.below (below_two _ _ _)) h1 hl).mono ?_; rintro e w1 ⟨rfl, hb1⟩; obtain ⟨hs, hf⟩ := stands hb1)
    have hR : Row w1 (w.heap.size + 1) 24 _ := (row_two _ _ _ _).below hb1 (by simp)
    have r0 := (hR.setAt 0 (.slice none 0 0)).setAt 1 (.int .i64 0)
    have c0 : ((w1.setCell ⟨w.heap.size + 1, 0, none⟩ (.slice none 0 0)).setCell ⟨w.heap.size + 1, 1, none⟩ (.int .i64 0)).cell? ⟨w.heap.size + 1, 0, none⟩ = some (.slice none 0 0) := r0.cell 0
    have c1 : ((w1.setCell ⟨w.heap.size + 1, 0, none⟩ (.slice none 0 0)).setCell ⟨w.heap.size + 1, 1, none⟩ (.int .i64 0)).cell? ⟨w.heap.size + 1, 1, none⟩ = some (.int .i64 0) := r0.cell 1
    exact bodyPost_ret (v := .tuple #[.agg #[.slice none 0 0, .int .i64 0], .int .i64 2]) (by simp [results, Try.results13, go_sem, c0, c1]) rfl
      ⟨rfl, ((below_then (below_two w _ _) hb1).setCell (p := ⟨w.heap.size + 1, 0, none⟩) (by show _ ≤ w.heap.size + 1; omega) _).setCell (p := ⟨w.heap.size + 1, 1, none⟩) (by show _ ≤ w.heap.size + 1; omega) _⟩

theorem shr_big (u n : Nat) (h : ¬ u < 2 ^ n) : ((u : Int) / 2 ^ n != 0) = true := by
  have : 1 ≤ u / 2 ^ n := (Nat.le_div_iff_mul_le (Nat.two_pow_pos n)).2 (by omega)
  rw [show (u : Int) / 2 ^ n = ((u / 2 ^ n : Nat) : Int) from by simp, bne_iff_ne]
  omega
theorem shr_small (u n : Nat) (h : u < 2 ^ n) : ((u : Int) / 2 ^ n != 0) = false := by
  rw [show (u : Int) / 2 ^ n = ((u / 2 ^ n : Nat) : Int) from by simp, Nat.div_eq_of_lt h]
  rfl

theorem put_big (A : Option Addr) (l : List UInt8) (c : Nat) (N n u : Nat) (w : World) (hA : Bys w A l) (h1 : N ≤ 9223372036854775807) (hl : l.length ≤ 562949953421312) (hu : u ≤ 18446744073709551615)
    (h : rightB l (N : Int) = true) (hn : n ≤ 64) (hbig : ¬ u < 2 ^ n) :
    Calls Try.prog 13 #[.agg #[.slice A l.length c, .int .i64 N], .int .u64 u, .int .i64 n] w fun e w' =>
      e = .returned (.tuple #[.agg #[.slice none 0 0, .int .i64 0], .int .i64 3]) ∧ Below w.heap.size w w' := by
  have d1 : decide ((n : Int) < 0) = false := by simp
  have d2 : decide (64 < (n : Int)) = false := by simp; omega
  have d3 := shr_big u n hbig
  clear hbig
  go_enter Try.func13, Try.ntmps13
  go_wp2_with (go_at_call 19; refine (right_prog A l c N _ (hA.below (below_two _ _ _)) (by omega) hl).mono ?_; rintro e w1 ⟨rfl, hb1⟩; obtain ⟨hs, hf⟩ := stands hb1)
  have hR : Row w1 (w.heap.size + 1) 24 _ := (row_two _ _ _ _).below hb1 (by simp)
  have r0 := (hR.setAt 0 (.slice none 0 0)).setAt 1 (.int .i64 0)
  have c0 : ((w1.setCell ⟨w.heap.size + 1, 0, none⟩ (.slice none 0 0)).setCell ⟨w.heap.size + 1, 1, none⟩ (.int .i64 0)).cell? ⟨w.heap.size + 1, 0, none⟩ = some (.slice none 0 0) := r0.cell 0
  have c1 : ((w1.setCell ⟨w.heap.size + 1, 0, none⟩ (.slice none 0 0)).setCell ⟨w.heap.size + 1, 1, none⟩ (.int .i64 0)).cell? ⟨w.heap.size + 1, 1, none⟩ = some (.int .i64 0) := r0.cell 1
  exact bodyPost_ret (v := .tuple #[.agg #[.slice none 0 0, .int .i64 0], .int .i64 3]) (by simp [results, Try.results13, go_sem, c0, c1]) rfl
    ⟨rfl, ((below_then (below_two w _ _) hb1).setCell (p := ⟨w.heap.size + 1, 0, none⟩) (by show _ ≤ w.heap.size + 1; omega) _).setCell (p := ⟨w.heap.size + 1, 1, none⟩) (by show _ ≤ w.heap.size + 1; omega) _⟩

set_option maxHeartbeats 400000 in
theorem put_ok (A : Option Addr) (l : List UInt8) (c : Nat) (N n u : Nat) (w : World) (hA : Bys w A l) (hl : l.length ≤ 281474976710000) (hu : u ≤ 18446744073709551615)
    (hr : rightB l (N : Int) = true) (hn : n ≤ 64) (hsm : u < 2 ^ n) :
    Calls Try.prog 13 #[.agg #[.slice A l.length c, .int .i64 N], .int .u64 u, .int .i64 n] w fun e w' => ∃ G,
      e = .returned (.tuple #[.agg #[.slice (some ⟨G, 0, none⟩) (putL l N u n).length (putL l N u n).length, .int .i64 (N + n : Nat)], .int .i64 0]) ∧
      Row w' G 5 (bcells (putL l N u n)) ∧ Below w.heap.size w w' ∧ w.heap.size ≤ G := by
  have hlen := (rightB_iff.1 hr).2.1
  rw [Int.toNat_natCast] at hlen
  have hN : N ≤ 2251799813680000 := by omega
  clear hlen
  have hpl : (putL l N u n).length = (N + n + 7) / 8 := length_mk _ _
  rw [hpl]
  have Hpl := Lib.hid hpl
  clear hpl
  have d1 : decide ((n : Int) < 0) = false := by simp
  have d2 : decide (64 < (n : Int)) = false := by simp; omega
  have d3 := shr_small u n hsm
  clear hsm
  go_enter Try.func13, Try.ntmps13
  go_wp2_with (go_at_call 19; refine (right_prog A l c N _ (hA.below (below_two _ _ _)) (by omega) (by omega)).mono ?_; rintro e w1 ⟨rfl, hb1⟩; obtain ⟨hs, hf⟩ := stands hb1)
  have hR : Row w1 (w.heap.size + 1) 24 _ := (row_two _ _ _ _).below hb1 (by simp)
  have hA1 := hA.below (below_then (below_two w _ _) hb1)
  refine (extend_prog A l c N n (putF l N u n) w1 (hA.below (below_then (below_two w _ _) hb1)) hl hr (putF_lt l N u n) (fun i hi => by unfold putF; rw [if_pos hi]) (by omega)).mono ?_
  rintro e w2 ⟨L, At, G, rfl, hL, hAt, hG, hb2, hL1, hA2, hG1, hAG, hLA, hLG⟩
  have hz1 := hR.lt
  have hR2 := hR.below hb2 hz1
  have HL := Lib.hid hL
  have HAt := Lib.hid hAt
  have HG := Lib.hid hG
  have HR2 := Lib.hid hR2
  clear hL hAt hG hR hR2
  obtain ⟨m, hmm⟩ : ∃ m, (N + n + 7) / 8 = m := ⟨_, rfl⟩
  rw [hmm] at HL HG Hpl ⊢
  have Hm := Lib.hid hmm
  clear hmm
  go_wp2_with fail
  have hLlt := HL.out.lt
  have hAlt := HAt.out.lt
  have hGlt := HG.out.lt
  have hRlt := HR2.out.lt
  have hN2 : N ≤ 8 * m := by have := Hm.out; omega
  have hN3 : N + n ≤ 8 * m := by have := Hm.out; omega
  refine (lay_prog (putF l N u n) (putF_lt l N u n) m N u n L At G (N + n) _ hu hn hN3 (by have := Hm.out; omega) ?_ (HL.out.alloc _) (HAt.out.alloc _) (HG.out.alloc _) hAG hLA hLG).mono ?_
  · intro j hj
    unfold putF
    rw [if_neg (by omega), if_pos (by omega)]
    congr 1
    omega
  rintro e w3 ⟨rfl, hAt3, hG3, h3⟩
  have hX : Row (w2.alloc (.cells #[.slice (some ⟨G, 0, none⟩) m m, .int .i64 ((N : Int) + n)] 24)) w2.heap.size 24 _ := Row.new _ _ _
  have hX3 : Row w3 w2.heap.size 24 _ := (h3.block w2.heap.size (by simp) (by omega) (by omega)).trans hX
  have hR3 : Row w3 (w.heap.size + 1) 24 _ := (h3.block (w.heap.size + 1) (by simp; omega) (by omega) (by omega)).trans (HR2.out.alloc _)
  rw [cut_all] at hG3
  have hx0 : w3.cell? ⟨w2.heap.size, 0, none⟩ = some (.slice (some ⟨G, 0, none⟩) m m) := hX3.cell 0
  have hx1 : w3.cell? ⟨w2.heap.size, 1, none⟩ = some (.int .i64 ((N : Int) + n)) := hX3.cell 1
  have hr0 : w3.cell? ⟨w.heap.size + 1, 0, none⟩ = some (.slice none 0 0) := hR3.cell 0
  have hr1 : w3.cell? ⟨w.heap.size + 1, 1, none⟩ = some (.int .i64 0) := hR3.cell 1
  have hf0 := hR3.frozen 0
  have hf1 := hR3.frozen 1
  have hbel : Below w.heap.size w w3 := Two.below ((below_then (below_then (below_two w _ _) hb1) hb2).alloc (by have := (below_then (below_then (below_two w _ _) hb1) hb2).size; exact this) _) h3 (by have := (below_then (below_then (below_two w _ _) hb1) hb2).size; simp; omega) (by have := (below_then (below_two w _ _) hb1).size; omega) (by have := (below_then (below_two w _ _) hb1).size; omega)
  have hGw : w.heap.size ≤ G := by have := (below_then (below_two w _ _) hb1).size; omega
  have f1 := ((hR3.setAt 0 (.slice (some ⟨G, 0, none⟩) m m)).setAt 1 (.int .i64 ((N : Int) + n)))
  have f3 := ((hG3.setFar (p := ⟨w.heap.size + 1, 0, none⟩) (by show G ≠ w.heap.size + 1; omega) (.slice (some ⟨G, 0, none⟩) m m)).setFar (p := ⟨w.heap.size + 1, 1, none⟩) (by show G ≠ w.heap.size + 1; omega) (.int .i64 ((N : Int) + n)))
  have f5 : Below w.heap.size w ((w3.setCell ⟨w.heap.size + 1, 0, none⟩ (.slice (some ⟨G, 0, none⟩) m m)).setCell ⟨w.heap.size + 1, 1, none⟩ (.int .i64 ((N : Int) + n))) :=
      ((hbel.setCell (p := ⟨w.heap.size + 1, 0, none⟩) (by show _ ≤ w.heap.size + 1; omega) _).setCell (p := ⟨w.heap.size + 1, 1, none⟩) (by show _ ≤ w.heap.size + 1; omega) _)
  have F1 := Lib.hid f1
  have F3 := Lib.hid f3
  clear hR3 hX3 hX hAt3 hG3 f1 f3 hA2
  go_wp2
  generalize hWW : ((w3.setCell ⟨w.heap.size + 1, 0, none⟩ (.slice (some ⟨G, 0, none⟩) m m)).setCell ⟨w.heap.size + 1, 1, none⟩ (.int .i64 ((N : Int) + n))) = WW at *
  have r0 : WW.cell? ⟨w.heap.size + 1, 0, none⟩ = some (.slice (some ⟨G, 0, none⟩) m m) := F1.out.cell 0
  have r1 : WW.cell? ⟨w.heap.size + 1, 1, none⟩ = some (.int .i64 ((N : Int) + n)) := F1.out.cell 1
  refine bodyPost_ret (v := .tuple #[.agg #[.slice (some ⟨G, 0, none⟩) m m, .int .i64 ((N : Int) + n)], .int .i64 0]) (by simp [results, Try.results13, go_sem, r0, r1]) rfl ⟨G, ?_, ?_, f5, hGw⟩
  · rw [Int.natCast_add, Hm.out]
  · have := F3.out
    rw [← Hm.out] at this
    exact this
end Go.Proofs.Ytbeccnkofanppaa
