/- The document's examples of layer 11, as the laws ask for them. -/
import Derived.Test.YtmgolnlkepiocaaWaOf
import Derived.Test.YtmgolnlkepiocaaWaBytes
import Derived.Lib.SlBytesConst
namespace Go.Proofs.Ytmgolnlkepiocaa
open Go.RowKit Go.Maps
set_option linter.unusedVariables false

def exRows : RecV := ⟨2, [], [(3, 10, -1)], [], 0, 0⟩
def exGone : RecV := ⟨3, [], [], [1, 3], 5, 9⟩
theorem exRows_right : recChk exRows = 0 := by decide +kernel
theorem exGone_right : recChk exGone = 0 := by decide +kernel
theorem exRows_bytes : recL exRows = [2, 1, 3, 10, 1] := by
  have e : recL exRows = uintL 2 ++ (uintL 1 ++ ((uintL 3 ++ (uintL 10 ++ uintL 1)) ++ [])) := rfl
  rw [e, uintL_small (n := 2) (by decide), uintL_small (n := 1) (by decide), uintL_small (n := 3) (by decide), uintL_small (n := 10) (by decide)]
  rfl
theorem exGone_bytes : recL exGone = [3, 2, 1, 2, 5, 9] := by
  have e : recL exGone = uintL 3 ++ ((uintL 2 ++ (uintL 1 ++ (uintL 2 ++ []))) ++ (uintL 5 ++ uintL 9)) := rfl
  rw [e, uintL_small (n := 2) (by decide), uintL_small (n := 1) (by decide), uintL_small (n := 3) (by decide), uintL_small (n := 5) (by decide), uintL_small (n := 9) (by decide)]
  rfl
theorem zs_2 {w : World} {g : Nat} {a b : Int} (h : Row w g 3 #[.int .i64 a, .int .i64 b]) : Zi w (some ⟨g, 0, none⟩) [a, b] := At.row h
theorem no_rec_nil : ∀ R, ¬ IsRec [] R := by
  rintro R ⟨_, h⟩
  have h1 : 0 < (recL R).length := by unfold recL; rw [List.length_append]; have := uintL_pos R.kind.toNat; omega
  rw [h] at h1
  simp at h1
theorem bytes_ex1 (w : World) : Calls Try.prog 8 #[.agg #[.int .i64 2, .slice none 0 0, .slice (some ⟨w.heap.size, 0, none⟩) 1 1, .slice none 0 0, .int .i64 0, .int .i64 0]] (w.alloc (.cells #[.int .i64 3, .int .i64 10, .int .i64 (-1)] 62)) fun e w' => ∃ v, e = .returned (.tuple #[v, .int .i64 0]) ∧ Own w' w.heap.size v [2, 1, 3, 10, 1] ∧ Below w.heap.size w w' := by
  refine (wbytes_yes exRows ⟨none, 0, some ⟨w.heap.size, 0, none⟩, 1, none, 0⟩ _ ⟨Lbls.nil _ _, wrows_cell (Row.new w _ _), Zi.nil _ _, Nat.le_refl _, Nat.le_refl _, Nat.le_refl _⟩ exRows_right).mono ?_
  rintro e w' ⟨v, rfl, h1, h2⟩
  rw [exRows_bytes] at h1
  exact ⟨v, rfl, own_lower h1 (by simp), (below_one _ _).trans (h2.mono (by simp))⟩
theorem bytes_ex2 (w : World) : Calls Try.prog 8 #[.agg #[.int .i64 3, .slice none 0 0, .slice none 0 0, .slice (some ⟨w.heap.size, 0, none⟩) 2 2, .int .i64 5, .int .i64 9]] (w.alloc (.cells #[.int .i64 1, .int .i64 3] 3)) fun e w' => ∃ v, e = .returned (.tuple #[v, .int .i64 0]) ∧ Own w' w.heap.size v [3, 2, 1, 2, 5, 9] ∧ Below w.heap.size w w' := by
  refine (wbytes_yes exGone ⟨none, 0, none, 0, some ⟨w.heap.size, 0, none⟩, 2⟩ _ ⟨Lbls.nil _ _, Wrows.nil _ _, zs_2 (Row.new w _ _), Nat.le_refl _, Nat.le_refl _, Nat.le_refl _⟩ exGone_right).mono ?_
  rintro e w' ⟨v, rfl, h1, h2⟩
  rw [exGone_bytes] at h1
  exact ⟨v, rfl, own_lower h1 (by simp), (below_one _ _).trans (h2.mono (by simp))⟩
theorem waLives_true (w : World) : Calls Try.prog 15 #[] w fun e w' => e = .returned (.bool true) ∧ Below w.heap.size w w' := by
  go_enter Try.func15, Try.ntmps15
  go_wp2_with fail
  refine (bytes_ex1 w).mono ?_
  rintro e w1 ⟨v, rfl, hv, hb1⟩
  obtain ⟨P, d, rfl, hP, _⟩ := own_slice' hv
  have HP := Lib.hid hP
  have HB1 := Lib.hid hb1
  clear hv hb1 hP
  go_wp2_with fail
  refine (bytes_ex2 w1).mono ?_
  rintro e w2 ⟨u, rfl, hu, hb2⟩
  obtain ⟨Q, f, rfl, hQ, _⟩ := own_slice' hu
  have HP2 := Lib.hid (HP.out.below hb2)
  have HB2 := Lib.hid (below_then HB1.out hb2)
  have HQ := Lib.hid hQ
  clear hu hb2 hQ
  go_wp2_with fail
  refine (of_no no_rec_nil none 0 w2 (Bys.empty _ _) (by simp) (by simp)).mono ?_
  rintro e w3 ⟨rfl, hb3⟩
  have HB3 := Lib.hid (below_then HB2.out hb3)
  have c1 : (convert 27 9 (.slice P 5 d)).run Try.prog (w3.alloc (.cells #[.int .i64 0, .slice none 0 0, .slice none 0 0, .slice none 0 0, .int .i64 0, .int .i64 0] 26)) = .ok (.string (txt [2, 1, 3, 10, 1])) (w3.alloc (.cells #[.int .i64 0, .slice none 0 0, .slice none 0 0, .slice none 0 0, .int .i64 0, .int .i64 0] 26)) := conv_bys _ P [2, 1, 3, 10, 1] d ((HP2.out.below hb3).alloc _)
  have c2 : (convert 27 9 (.slice Q 6 f)).run Try.prog (w3.alloc (.cells #[.int .i64 0, .slice none 0 0, .slice none 0 0, .slice none 0 0, .int .i64 0, .int .i64 0] 26)) = .ok (.string (txt [3, 2, 1, 2, 5, 9])) (w3.alloc (.cells #[.int .i64 0, .slice none 0 0, .slice none 0 0, .slice none 0 0, .int .i64 0, .int .i64 0] 26)) := conv_bys _ Q [3, 2, 1, 2, 5, 9] f ((HQ.out.below hb3).alloc _)
  have q1 : ((txt [2, 1, 3, 10, 1]).toList == [2, 1, 3, 10, 1]) = true := by decide +kernel
  have q2 : ((txt [3, 2, 1, 2, 5, 9]).toList == [3, 2, 1, 2, 5, 9]) = true := by decide +kernel
  clear hb3
  go_wp2
  go_ret
  exact ⟨rfl, HB3.out.alloc HB3.out.size _⟩
end Go.Proofs.Ytmgolnlkepiocaa
