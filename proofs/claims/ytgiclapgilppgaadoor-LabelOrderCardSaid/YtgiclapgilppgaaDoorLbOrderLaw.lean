/- LabelOrder's walk. -/
import Derived.Test.YtgiclapgilppgaaDoorLbLives
import Derived.Test.YtgiclapgilppgaaDoorLbCmp2
namespace Go.Proofs.YtgiclapgilppgaaDoor
open Go.RowKit
set_option linter.unusedVariables false
set_option linter.unusedSimpArgs false

/-- What three comparisons of an order can tell. -/
theorem three {X Y Z : Int} (rx : X = -1 ∨ X = 0 ∨ X = 1) (ry : Y = -1 ∨ Y = 0 ∨ Y = 1) (rz : Z = -1 ∨ Z = 0 ∨ Z = 1) (h1 : X ≤ 0 → Y ≤ 0 → Z ≤ 0) (h2 : 0 ≤ X → 0 ≤ Y → 0 ≤ Z) :
    ∃ b1 b2 b3 b4 b5 b6 : Bool, decide (0 < X) = b1 ∧ decide (0 < Y) = b2 ∧ decide (Z ≤ 0) = b3 ∧ decide (X < 0) = b4 ∧ decide (Y < 0) = b5 ∧ decide (0 ≤ Z) = b6 ∧ (b1 || b2 || b3) = true ∧ (b4 || b5 || b6) = true := by
  refine ⟨_, _, _, _, _, _, rfl, rfl, rfl, rfl, rfl, rfl, ?_, ?_⟩
  · simp only [Bool.or_eq_true, decide_eq_true_eq]; omega
  · simp only [Bool.or_eq_true, decide_eq_true_eq]; omega

set_option maxHeartbeats 1000000 in
theorem labelOrder_walk (w : World) (A : Option Addr) (l : List Lbl) (c : Nat) (hA : Lbls w A l) (hf : LFits l) (hr : l.length * 32 ≤ 140737488351232) (hlc : l.length ≤ c)
    (B : Option Addr) (m : List Lbl) (d : Nat) (hB : Lbls w B m) (hg : LFits m) (hq : m.length * 32 ≤ 140737488351232) (hmd : m.length ≤ d)
    (C : Option Addr) (n : List Lbl) (e0 : Nat) (hC : Lbls w C n) (hh : LFits n) (hs : n.length * 32 ≤ 140737488351232) (hne : n.length ≤ e0) :
    Calls Tryd.prog 8 #[.slice A l.length c, .slice B m.length d, .slice C n.length e0] w fun e w' => e = .returned (.bool true) ∧ Below w.heap.size w w' := by
  have rx := cmpLs_cmp.rng l m
  have ry := cmpLs_cmp.rng m n
  have rz := cmpLs_cmp.rng l n
  have h1 := cmpLs_cmp.trans l m n
  have h2 : 0 ≤ cmpLs l m → 0 ≤ cmpLs m n → 0 ≤ cmpLs l n := by
    have s1 := cmpLs_cmp.swap l m
    have s2 := cmpLs_cmp.swap m n
    have s3 := cmpLs_cmp.swap l n
    have := cmpLs_cmp.trans n m l
    omega
  have hz := cmpLs_cmp.zero l m
  have H1 := Lib.hid (compare_prog A B l m c d w hA hB (by omega) (by omega))
  have H2 := Lib.hid (fun W (h : Below w.heap.size w W) => compare_prog B C m n d e0 W (hB.below h) (hC.below h) (by omega) (by omega))
  have H3 := Lib.hid (fun W (h : Below w.heap.size w W) => compare_prog A C l n c e0 W (hA.below h) (hC.below h) (by omega) (by omega))
  have H4 := Lib.hid (fun W (h : Below w.heap.size w W) => compare_prog B A m l d c W (hB.below h) (hA.below h) (by omega) (by omega))
  have H5 := Lib.hid (fun W (h : Below w.heap.size w W) => same_ref A B l m c d W (hA.below h) (hB.below h) (by omega) (by omega))
  rw [cmpLs_cmp.swap l m] at H4
  have hd : decide (l = m) = decide (cmpLs l m = 0) := by rw [decide_eq_decide]; exact hz.symm
  rw [hd] at H5
  clear hA hB hC hf hg hh hz hd
  generalize cmpLs l m = X at *
  generalize cmpLs m n = Y at *
  generalize cmpLs l n = Z at *
  rcases rx with rfl | rfl | rfl <;> rcases ry with rfl | rfl | rfl <;> rcases rz with rfl | rfl | rfl
  all_goals first
    | (exfalso; omega)
    | (clear h1 h2
       simp only [Int.neg_neg, Int.neg_zero, Int.reduceNeg, Int.reduceEq, decide_true, decide_false] at H4 H5
       go_enter Tryd.func8, Tryd.ntmps8
       go_upto_region 2 with (first
         | (go_at_call_of 24 (Value.slice A l.length c); go_at_call_of 24 (Value.slice B m.length d); refine H1.out.mono ?_; rintro e w1 ⟨rfl, hb1⟩; have HB1 := Lib.hid hb1; clear hb1)
         | (go_at_call_of 24 (Value.slice B m.length d); go_at_call_of 24 (Value.slice C n.length e0); refine (H2.out _ HB1.out).mono ?_; rintro e w2 ⟨rfl, hb2⟩; have HB2 := Lib.hid (HB1.out.trans (hb2.mono HB1.out.size)); clear hb2)
         | (go_at_call_of 24 (Value.slice A l.length c); go_at_call_of 24 (Value.slice C n.length e0); refine (H3.out _ HB2.out).mono ?_; rintro e w3 ⟨rfl, hb3⟩; have HB3 := Lib.hid (HB2.out.trans (hb3.mono HB2.out.size)); clear hb3))
       go_wp2_with (first
         | (go_at_call 24; refine (H4.out _ HB3.out).mono ?_; rintro e w4 ⟨rfl, hb4⟩; have HB4 := Lib.hid (HB3.out.trans (hb4.mono HB3.out.size)); clear hb4)
         | (go_at_call 19; refine (H5.out _ HB4.out).mono ?_; rintro e w5 ⟨rfl, hb5⟩; have HB5 := Lib.hid (HB4.out.trans (hb5.mono HB4.out.size)); clear hb5)
         | (go_at_call 15; refine (lives_true _).mono ?_; rintro e w6 ⟨rfl, hb6⟩; have HB6 := Lib.hid (HB5.out.trans (hb6.mono HB5.out.size)); clear hb6))
       go_ret
       exact ⟨rfl, HB6.out⟩)
end Go.Proofs.YtgiclapgilppgaaDoor
