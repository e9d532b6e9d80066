/- RegexQuoted's walk, for texts that are not too long for a row of the call's own. -/
import Derived.Test.YtjljfilflajogaaReLives
import Derived.Test.YtjljfilflajogaaReQuote
namespace Go.Proofs.Ytjljfilflajogaa
open Go.RowKit
set_option linter.unusedVariables false

theorem str_eq (a b : ByteArray) : (a.toList == b.toList) = decide (strL a = strL b) := by
  rw [ByteArray.toList_eq, ByteArray.toList_eq, Bool.eq_iff_iff, beq_iff_eq, decide_eq_true_eq]
  rfl
set_option maxHeartbeats 1000000 in
theorem regexQuoted_walk (w : World) (s : ByteArray) (hs : s.size ≤ 1048576) (t : ByteArray) (ht : t.size ≤ 1048576) :
    Calls Try.prog 5 #[.string s, .string t] w fun e w' => e = .returned (.bool true) ∧ Below w.heap.size w w' := by
  have HQ := Lib.hid (quote_prog s w (by omega))
  obtain ⟨p, hp⟩ : ∃ p : ByteArray, txt (quoteL (strL s)) = p := ⟨_, rfl⟩
  have hpl : strL p = quoteL (strL s) := by rw [← hp, strL_txt]
  have hps := strL_length p
  have hsl := strL_length s
  have htl := strL_length t
  have hle := quote_len (strL s)
  rw [hp] at HQ
  have hll := quote_le (strL s)
  by_cases h1 : 64 < p.size
  · clear hp hpl hps hsl htl hle hll
    go_enter Try.func5, Try.ntmps5
    go_wp2_with (first
      | (go_at_call 18; refine (lives_true _).mono ?_; rintro e w9 ⟨rfl, hb9⟩; have HB := Lib.hid (HB.out.trans (hb9.mono HB.out.size)); clear hb9)
      | (go_at_call 21; refine HQ.out.mono ?_; rintro e w1 ⟨rfl, hb1⟩; have HB := Lib.hid hb1; clear hb1))
    go_ret
    exact ⟨rfl, HB.out⟩
  by_cases h2 : 64 < t.size
  · clear hp hpl hps hsl htl hle hll
    go_enter Try.func5, Try.ntmps5
    go_wp2_with (first
      | (go_at_call 18; refine (lives_true _).mono ?_; rintro e w9 ⟨rfl, hb9⟩; have HB := Lib.hid (HB.out.trans (hb9.mono HB.out.size)); clear hb9)
      | (go_at_call 21; refine HQ.out.mono ?_; rintro e w1 ⟨rfl, hb1⟩; have HB := Lib.hid hb1; clear hb1))
    go_ret
    exact ⟨rfl, HB.out⟩
  have hpat := pat_quoted (n := 300) (strL s) (by rw [hpl] at hps; omega)
  rw [← hpl] at hpat
  have ep : parseM 300 (strL p) = (0, .alt [.row ((strL s).map oneM)]) := by rw [parse_of hpat (by omega)]; rfl
  have f1 : fitB 300 (strL p) (strL s) = true := by rw [fitB_right ep (by rw [hpl] at hps; omega), fits_quoted]; simp
  have f2 : fitB 300 (strL p) (strL t) = decide (strL s = strL t) := by
    rw [fitB_right ep (by omega), fits_quoted, Bool.eq_iff_iff, decide_eq_true_eq, decide_eq_true_eq]
    exact eq_comm
  have HL := Lib.hid (fun W => literal_prog p W (by omega))
  have hlit : litV (litM (strL p)) = .tuple #[.string s, .bool true] := by
    rw [hpl, lit_quoted]
    simp [litV, txt_strL]
  rw [hlit] at HL
  have HC := Lib.hid (fun W => check_prog W p (n := 300) (by omega))
  rw [ep] at HC
  have F1 := Lib.hid (fun W => lfits_prog W p s (n := 300) (by omega))
  rw [f1] at F1
  have F2 := Lib.hid (fun W => lfits_prog W p t (n := 300) (by omega))
  rw [f2] at F2
  have q1 := str_eq s t
  have q2 : (s.toList == s.toList) = true := by simp
  generalize decide (strL s = strL t) = x at F2 q1
  clear hp hpl hps hsl htl hle hll hpat ep f1 f2 hlit
  cases x
  all_goals
    go_enter Try.func5, Try.ntmps5
    go_wp2_with (first
      | (go_at_call 18; refine (lives_true _).mono ?_; rintro e w9 ⟨rfl, hb9⟩; have HB := Lib.hid (HB.out.trans (hb9.mono HB.out.size)); clear hb9)
      | (go_at_call 23; refine F5.out.mono ?_; rintro e w5 ⟨rfl, hb5⟩; have HB := Lib.hid (HB.out.trans (hb5.mono HB.out.size)); clear hb5)
      | (go_at_call 23; refine F4.out.mono ?_; rintro e w4 ⟨rfl, hb4⟩; have HB := Lib.hid (HB.out.trans (hb4.mono HB.out.size)); have F5 := Lib.hid (F2.out w4); clear hb4)
      | (go_at_call 16; refine (HC.out _).mono ?_; rintro e w3 ⟨rfl, hb3⟩; have HB := Lib.hid (HB.out.trans (hb3.mono HB.out.size)); have F4 := Lib.hid (F1.out w3); clear hb3)
      | (go_at_call 22; refine (HL.out _).mono ?_; rintro e w2 ⟨rfl, hb2⟩; have HB := Lib.hid (HB.out.trans (hb2.mono HB.out.size)); clear hb2)
      | (go_at_call 21; refine HQ.out.mono ?_; rintro e w1 ⟨rfl, hb1⟩; have HB := Lib.hid hb1; clear hb1))
    go_ret
    exact ⟨rfl, HB.out⟩
end Go.Proofs.Ytjljfilflajogaa
