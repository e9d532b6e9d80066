/- The law of texts there and back of layer 3: a walk. -/
import Derived.Test.YtfpjihicobmlkaaDoorFixRead
import Derived.Test.YtfpjihicobmlkaaDoorFixLives
namespace Go.Proofs.YtfpjihicobmlkaaDoor
open Go.RowKit
set_option linter.unusedVariables false

theorem back_print {n : Int} (h : fitsB n = true) : parseV (printL n) = n ∧ parseE (printL n) = 0 := by
  have k := fits_of h
  obtain ⟨h1, h2, h3⟩ := read_print n
  unfold parseV parseE
  rw [h1, h2, h3]
  have hN : n.natAbs ≤ 1152921504606846976 := by omega
  unfold tellV tellE
  simp only [if_true, if_pos hN]
  refine ⟨?_, trivial⟩
  by_cases hn : n < 0
  · simp only [hn, decide_true, if_true]
    omega
  · simp only [hn, decide_false, Bool.false_eq_true, if_false]
    omega
theorem back_parse {l : List UInt8} (h : parseE l = 0) : fitsB (parseV l) = true ∧ printL (parseV l) = l := by
  cases hg : goodB' l
  · rw [(parse_bad hg).2] at h
    omega
  · unfold parseE at h
    rw [hg] at h
    simp only [if_true] at h
    have hN : partsN l ≤ 1152921504606846976 := by
      by_cases hN : partsN l ≤ 1152921504606846976
      · exact hN
      · unfold tellE at h
        rw [if_neg hN] at h
        omega
    have hv : parseV l = if negB l then -(partsN l : Int) else (partsN l : Int) := by
      unfold parseV tellV
      rw [hg]
      simp only [if_true, if_pos hN]
    rw [hv]
    refine ⟨?_, print_read l hg⟩
    split <;> exact fits_mk (by omega) (by omega)
theorem back_none {l : List UInt8} (h : parseE l ≠ 0) : parseV l = 0 := by
  cases hg : goodB' l
  · exact (parse_bad hg).1
  · unfold parseE at h
    rw [hg] at h
    simp only [if_true] at h
    unfold parseV tellV
    rw [hg]
    simp only [if_true]
    by_cases hN : partsN l ≤ 1152921504606846976
    · unfold tellE at h
      rw [if_pos hN] at h
      omega
    · rw [if_neg hN]
theorem print_length (n : Int) (h : fitsB n = true) : (printL n).length ≤ 28 := by
  have k := fits_of h
  have h1 := digits_20 (n.natAbs / 1000000) (by omega)
  have h2 := behind_7 (n.natAbs % 1000000)
  unfold printL partsL
  split
  · rw [List.length_cons, List.length_append]
    omega
  · rw [List.length_append]
    omega

set_option maxHeartbeats 2000000 in
set_option maxRecDepth 100000 in
/-- The law's second half, whatever the first one was. -/
theorem back_go (n : Int) (s : ByteArray) (w : World) (F : Bool) (e0 m f : Int) (t : ByteArray)
    (HP : Calls Tryd.prog 27 #[.int .i64 n] w fun e w' => e = .returned (.tuple #[.string t, .int .i64 e0]) ∧ Below w.heap.size w w')
    (HT : F = true → ∀ w, Calls Tryd.prog 28 #[.string t] w fun e w' => e = .returned (.tuple #[.int .i64 n, .int .i64 0]) ∧ Below w.heap.size w w')
    (HS : ∀ w, Calls Tryd.prog 28 #[.string s] w fun e w' => e = .returned (.tuple #[.int .i64 m, .int .i64 f]) ∧ Below w.heap.size w w')
    (HF : ∀ w, Calls Tryd.prog 14 #[.int .i64 n] w fun e w' => e = .returned (.bool F) ∧ w = w')
    (HM : f = 0 → ∀ w', Below w.heap.size w w' → Calls Tryd.prog 27 #[.int .i64 m] w' fun e w'' => e = .returned (.tuple #[.string s, .int .i64 0]) ∧ Below w'.heap.size w' w'')
    (he : (e0 == 0) = F) (hm : f ≠ 0 → m = 0) :
    Calls Tryd.prog 7 #[.int .i64 n, .string s] w fun e w' => e = .returned (.bool true) ∧ Below w.heap.size w w' := by
  have q1 : (s.toList == s.toList) = true := by simp
  by_cases hf : f = 0
  · have HM' := HM hf
    have qf : (f != 0) = false := by simp [hf]
    have HFH := Lib.hid hf
    have HMM := Lib.hid hm
    clear HM hf hm
    cases F
    · clear HT
      go_enter Tryd.func7, Tryd.ntmps7
      go_wp2_with fail
      refine HP.mono ?_
      rintro r w1 ⟨rfl, hb1⟩
      go_wp2_with fail
      refine (HS w1).mono ?_
      rintro r w2 ⟨rfl, hb2⟩
      have hb12 := below_then hb1 hb2
      go_wp2_with fail
      refine (HM' w2 hb12).mono ?_
      rintro r w3 ⟨rfl, hb3⟩
      go_wp2_with fail
      refine (HF w3).mono ?_
      rintro r w4 ⟨rfl, rfl⟩
      go_wp2_with fail
      refine (lives_true w3).mono ?_
      rintro r w4 ⟨rfl, hb4⟩
      go_wp2
      go_ret
      exact ⟨rfl, below_then (below_then hb12 hb3) hb4⟩
    · have HT' := HT rfl
      clear HT
      go_enter Tryd.func7, Tryd.ntmps7
      go_wp2_with fail
      refine HP.mono ?_
      rintro r w0 ⟨rfl, hb0⟩
      go_wp2_with fail
      refine (HT' w0).mono ?_
      rintro r w1 ⟨rfl, hb1'⟩
      have hb1 := below_then hb0 hb1'
      go_wp2_with fail
      refine (HS w1).mono ?_
      rintro r w2 ⟨rfl, hb2⟩
      have hb12 := below_then hb1 hb2
      go_wp2_with fail
      refine (HM' w2 hb12).mono ?_
      rintro r w3 ⟨rfl, hb3⟩
      go_wp2_with fail
      refine (HF w3).mono ?_
      rintro r w4 ⟨rfl, rfl⟩
      go_wp2_with fail
      refine (lives_true w3).mono ?_
      rintro r w4 ⟨rfl, hb4⟩
      go_wp2
      go_ret
      exact ⟨rfl, below_then (below_then hb12 hb3) hb4⟩
  · have hm0 := hm hf
    subst hm0
    have qf : (f != 0) = true := by simp [hf]
    clear HM hf hm
    cases F
    · clear HT
      go_enter Tryd.func7, Tryd.ntmps7
      go_wp2_with fail
      refine HP.mono ?_
      rintro r w1 ⟨rfl, hb1⟩
      go_wp2_with fail
      refine (HS w1).mono ?_
      rintro r w2 ⟨rfl, hb2⟩
      go_wp2_with fail
      refine (HF w2).mono ?_
      rintro r w4 ⟨rfl, rfl⟩
      go_wp2_with fail
      refine (lives_true w2).mono ?_
      rintro r w4 ⟨rfl, hb4⟩
      go_wp2
      go_ret
      exact ⟨rfl, below_then (below_then hb1 hb2) hb4⟩
    · have HT' := HT rfl
      clear HT
      go_enter Tryd.func7, Tryd.ntmps7
      go_wp2_with fail
      refine HP.mono ?_
      rintro r w0 ⟨rfl, hb0⟩
      go_wp2_with fail
      refine (HT' w0).mono ?_
      rintro r w1 ⟨rfl, hb1'⟩
      have hb1 := below_then hb0 hb1'
      go_wp2_with fail
      refine (HS w1).mono ?_
      rintro r w2 ⟨rfl, hb2⟩
      go_wp2_with fail
      refine (HF w2).mono ?_
      rintro r w4 ⟨rfl, rfl⟩
      go_wp2_with fail
      refine (lives_true w2).mono ?_
      rintro r w4 ⟨rfl, hb4⟩
      go_wp2
      go_ret
      exact ⟨rfl, below_then (below_then hb1 hb2) hb4⟩

theorem fixedBack_walk (w : World) (hw : Pows w) (n : Int) (hn : -9223372036854775808 ≤ n ∧ n ≤ 9223372036854775807) (s : ByteArray) (hs : s.size ≤ 140737488351232) :
    Calls Tryd.prog 7 #[.int .i64 n, .string s] w fun e w' => e = .returned (.bool true) ∧ Below w.heap.size w w' := by
  have HS := fun w => parse_prog s w hs
  have HM : parseE (txl s) = 0 → ∀ w', Below w.heap.size w w' → Calls Tryd.prog 27 #[.int .i64 (parseV (txl s))] w' fun e w'' => e = .returned (.tuple #[.string s, .int .i64 0]) ∧ Below w'.heap.size w' w'' := by
    intro h w' hb
    obtain ⟨h1, h2⟩ := back_parse h
    have := print_prog (parseV (txl s)) w' h1 (.inr (hw.below hb))
    rw [h2, txt_txl] at this
    exact this
  cases hf : fitsB n
  · have HF := fun w => fits_prog n w
    rw [hf] at HF
    exact back_go n s w false 2 _ _ ByteArray.empty ((print_bad n w hf).mono fun e w' ⟨h1, h2⟩ => ⟨h1, h2 ▸ Below.refl _ _⟩) (fun h => by cases h) HS HF HM rfl back_none
  · have HF := fun w => fits_prog n w
    rw [hf] at HF
    have HT := fun w => parse_prog (txt (printL n)) w (by rw [txt_size']; have := print_length n hf; omega)
    rw [txl_txt, (back_print hf).1, (back_print hf).2] at HT
    exact back_go n s w true 0 _ _ (txt (printL n)) (print_prog n w hf (.inr hw)) (fun _ => HT) HS HF HM rfl back_none
end Go.Proofs.YtfpjihicobmlkaaDoor
