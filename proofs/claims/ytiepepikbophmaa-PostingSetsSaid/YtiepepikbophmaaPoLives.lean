/- The document's examples of layer 9, as the laws ask for them. -/
import Derived.Test.YtiepepikbophmaaPoAll
import Derived.Lib.SlBytesConst
namespace Go.Proofs.Ytiepepikbophmaa
open Go.RowKit Go.Maps
set_option linter.unusedVariables false

theorem boV_ex : boV [1, 3, 5] [3, 4, 5] = [3, 5] := by
  have h : refE [1, 3, 5] [3, 4, 5] = 0 := by decide
  have h1 : Up (-1) [1, 3, 5] := by simp [Up]
  have h2 : Up (-1) [3, 4, 5] := by simp [Up]
  unfold boV
  rw [if_pos h, both_pick h1 h2]
  decide
theorem postL_ex : puV [] [1, 300] = [2, 1, 171, 2] := by
  have h : pchk [1, 300] = 0 := by decide
  unfold puV
  rw [if_pos h]
  unfold postL riseF riseF riseF
  have e1 : uintL ([1, 300] : List Int).length = [2] := by rw [uintL_small (by simp)]; rfl
  have e2 : uintL ((1 : Int) - 0).toNat = [1] := by rw [uintL_small (by decide)]; rfl
  have e3 : uintL ((300 : Int) - 1).toNat = [171, 2] := by rw [uintL_big (by decide), uintL_small (by decide)]; rfl
  rw [e1, e2, e3]
  rfl
theorem zs_three {w : World} {g : Nat} {a b c : Int} (h : Row w g 3 #[.int .i64 a, .int .i64 b, .int .i64 c]) : Zs w (some ⟨g, 0, none⟩) [a, b, c] := At.row h
theorem zs_two {w : World} {g : Nat} {a b : Int} (h : Row w g 3 #[.int .i64 a, .int .i64 b]) : Zs w (some ⟨g, 0, none⟩) [a, b] := At.row h
theorem both_ex (A B : Option Addr) (w : World) (hA : Zs w A [1, 3, 5]) (hB : Zs w B [3, 4, 5]) :
    Calls Try.prog 22 #[.slice A 3 3, .slice B 3 3] w fun e w' => ∃ v, e = .returned (.tuple #[v, .int .i64 0]) ∧ OwnZ w' w.heap.size v [3, 5] ∧ Below w.heap.size w w' := by
  have := both_all A B [1, 3, 5] [3, 4, 5] 3 3 w hA hB (by decide) (by decide) (by decide) (by decide)
  rw [boV_ex, show refE [1, 3, 5] [3, 4, 5] = 0 from by decide] at this
  exact this
theorem put_ex (A : Option Addr) (w : World) (hA : Zs w A [1, 300]) :
    Calls Try.prog 30 #[.slice none 0 0, .slice A 2 2] w fun e w' => ∃ v, e = .returned (.tuple #[v, .int .i64 0]) ∧ Own w' w.heap.size v [2, 1, 171, 2] ∧ Below w.heap.size w w' := by
  have := put_all none A [] 0 [1, 300] 2 w (Bys.empty _ _) hA (by decide) (by decide)
  unfold PuTold at this
  rw [postL_ex, show pchk [1, 300] = 0 from by decide] at this
  exact this
theorem poLives_true (w : World) : Calls Try.prog 21 #[] w fun e w' => e = .returned (.bool true) ∧ Below w.heap.size w w' := by
  have HX := Lib.hid (zs_three ((Row.new w 3 #[.int .i64 1, .int .i64 3, .int .i64 5]).alloc (.cells #[.int .i64 3, .int .i64 4, .int .i64 5] 3)))
  have hy := zs_three (Row.new (w.alloc (.cells #[.int .i64 1, .int .i64 3, .int .i64 5] 3)) 3 #[.int .i64 3, .int .i64 4, .int .i64 5])
  rw [show (w.alloc (.cells #[.int .i64 1, .int .i64 3, .int .i64 5] 3)).heap.size = w.heap.size + 1 from by simp] at hy
  have HY := Lib.hid hy
  clear hy
  go_enter Try.func21, Try.ntmps21
  go_wp2_with fail
  refine (both_ex _ _ _ HX.out HY.out).mono ?_
  rintro e w1 ⟨v, rfl, hv, hb1⟩
  have hb : Below w.heap.size w w1 := (((Below.refl _ _).alloc (Nat.le_refl _) _).alloc (by simp) _).trans (hb1.mono (by simp; omega))
  obtain ⟨P, d, rfl, _, hP, _⟩ := ownz_slice hv
  have HP := Lib.hid hP
  have HB := Lib.hid hb
  clear hv hb1 hb hP
  go_wp2_with fail
  refine (put_ex _ _ (zs_two (Row.new w1 3 #[.int .i64 1, .int .i64 300]))).mono ?_
  rintro e w2 ⟨u, rfl, hu, hb2⟩
  obtain ⟨Q, f, rfl, hQ, _⟩ := own_slice' hu
  have HP2 := Lib.hid ((HP.out.alloc _).below hb2)
  have HB2 := Lib.hid (HB.out.trans (((Below.refl _ _).alloc HB.out.size _).trans (hb2.mono (by have := HB.out.size; simp; omega))))
  have HQ := Lib.hid hQ
  clear hu hb2 hQ
  go_wp2_with fail
  refine (same_yes _ _ [3, 5] d 2 _ (HP2.out.alloc (.cells #[.int .i64 3, .int .i64 5] 3)) (zs_two (Row.new w2 3 #[.int .i64 3, .int .i64 5])) (by simp)).mono ?_
  rintro e w3 ⟨rfl, hb3⟩
  have HB3 := Lib.hid (HB2.out.trans (((Below.refl _ _).alloc HB2.out.size _).trans (hb3.mono (by have := HB2.out.size; simp; omega))))
  have hQ3 := (HQ.out.below (below_one w2 _)).below hb3
  have c1 : (convert 35 9 (.slice Q 4 f)).run Try.prog w3 = .ok (.string (txt [2, 1, 171, 2])) w3 := conv_bys w3 Q [2, 1, 171, 2] f hQ3
  have q1 : ((txt [2, 1, 171, 2]).toList == [2, 1, 171, 2]) = true := by decide +kernel
  clear hb3 hQ3
  go_wp2
  go_ret
  exact ⟨rfl, HB3.out⟩
end Go.Proofs.Ytiepepikbophmaa
