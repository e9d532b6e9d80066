/- What refuses a pattern, by the document's own answer; RegexChecks' walk. -/
import Derived.Test.YtjljfilflajogaaReRef5
import Derived.Test.YtjljfilflajogaaReLives
namespace Go.Proofs.Ytjljfilflajogaa
open Go.RowKit
set_option linter.unusedVariables false

/-- What refuses a pattern does not hang on the fuel, once it is enough. -/
theorem rchk_ref (p : ByteArray) : ∃ n : Nat, 260 ≤ n ∧ (∀ W : World, Calls Try.prog 17 #[.string p] W fun e w' => e = .returned (.int .i64 (parseM n (strL p)).1) ∧ Below W.heap.size W w') := by
  have hl := strL_length p
  by_cases h64 : 64 < p.size
  · refine ⟨260, Nat.le_refl _, fun W => ?_⟩
    rw [show parseM 260 (strL p) = (3, .row []) by unfold parseM; rw [if_pos (by omega)]]
    clear hl
    go_enter Try.func17, Try.ntmps17
    go_wp2_with fail
    go_ret
    exact ⟨rfl, Below.refl _ _⟩
  have HR := Lib.hid (right_all p (by omega))
  by_cases hr : RightP (strL p)
  · obtain ⟨n, ls, d, h⟩ := hr
    refine ⟨max n 260, by omega, fun W => ?_⟩
    have hp := pat_mono (m := max n 260) (by omega) h
    have hpm := parse_of hp (by omega)
    have HB := Lib.hid (HR.out true W ⟨fun _ => ⟨n, ls, d, h⟩, fun _ => rfl⟩)
    have hd : Dep 0 0 (strL p) d := pat_dep h (Nat.le_refl _) (by simpa using Dep.nil 0 d)
    have HD := Lib.hid (fun W => depth_ref p (by omega) d hd W)
    by_cases h8 : 8 < d
    · rw [hpm, if_pos h8]
      have i1 : (8 : Int) < (d : Int) := by omega
      clear hl h hp hpm hd
      go_enter Try.func17, Try.ntmps17
      go_wp2_with (first
        | (go_at_call 36; refine HB.out.mono ?_; rintro e w2 ⟨rfl, hb2⟩; have HB2 := Lib.hid hb2; clear hb2)
        | (go_at_call 37; refine (HD.out _).mono ?_; rintro e w3 ⟨rfl, hb3⟩; have HB3 := Lib.hid (HB2.out.trans (hb3.mono HB2.out.size)); clear hb3))
      go_ret
      exact ⟨rfl, HB3.out⟩
    · rw [hpm, if_neg h8]
      have i1 : ¬ (8 : Int) < (d : Int) := by omega
      clear hl h hp hpm hd
      go_enter Try.func17, Try.ntmps17
      go_wp2_with (first
        | (go_at_call 36; refine HB.out.mono ?_; rintro e w2 ⟨rfl, hb2⟩; have HB2 := Lib.hid hb2; clear hb2)
        | (go_at_call 37; refine (HD.out _).mono ?_; rintro e w3 ⟨rfl, hb3⟩; have HB3 := Lib.hid (HB2.out.trans (hb3.mono HB2.out.size)); clear hb3))
      go_ret
      exact ⟨rfl, HB3.out⟩
  · refine ⟨260, Nat.le_refl _, fun W => ?_⟩
    have hpm : (parseM 260 (strL p)).1 = 14 := by
      unfold parseM
      rw [if_neg (by omega)]
      cases hp : patM 260 (strL p) with
      | none => rfl
      | some q =>
        obtain ⟨ls, y, d⟩ := q
        cases y with
        | nil => exact absurd ⟨260, ls, d, hp⟩ hr
        | cons c t => rfl
    have HB := Lib.hid (HR.out false W ⟨fun h => (by cases h), fun h => absurd h hr⟩)
    rw [hpm]
    clear hl hpm hr
    go_enter Try.func17, Try.ntmps17
    go_wp2_with (go_at_call 36; refine HB.out.mono ?_; rintro e w2 ⟨rfl, hb2⟩; have HB2 := Lib.hid hb2; clear hb2)
    go_ret
    exact ⟨rfl, HB2.out⟩
theorem regexChecks_walk (w : World) (p : ByteArray) (hp : p.size ≤ 140737488351232) :
    Calls Try.prog 3 #[.string p] w fun e w' => e = .returned (.bool true) ∧ Below w.heap.size w w' := by
  obtain ⟨n, hn, hr⟩ := rchk_ref p
  have H1 := Lib.hid (check_prog w p hn)
  have H2 := Lib.hid hr
  generalize (parseM n (strL p)).1 = c at H1 H2
  clear hr
  go_enter Try.func3, Try.ntmps3
  go_wp2_with (first
    | (go_at_call 16; refine H1.out.mono ?_; rintro e w2 ⟨rfl, hb2⟩; have HB2 := Lib.hid hb2; clear hb2)
    | (go_at_call 17; refine (H2.out _).mono ?_; rintro e w3 ⟨rfl, hb3⟩; have HB3 := Lib.hid (HB2.out.trans (hb3.mono HB2.out.size)); clear hb3)
    | (go_at_call 18; refine (lives_true _).mono ?_; rintro e w9 ⟨rfl, hb9⟩; have HB9 := Lib.hid (HB3.out.trans (hb9.mono HB3.out.size)); clear hb9))
  go_ret
  exact ⟨rfl, HB9.out⟩
end Go.Proofs.Ytjljfilflajogaa
