/- What refuses a pattern, by the document's own answer; RegexChecks' walk. -/
import Derived.Test.YtpcjnagdanmdpaaGreatHdLotRO
import Derived.Test.YtpcjnagdanmdpaaGreatHdLotRI
namespace Go.Proofs.YtpcjnagdanmdpaaGreat
open Go.RowKit
set_option linter.unusedVariables false
/-- What refuses a pattern does not hang on the fuel, once it is enough. -/
theorem rchk_ref (p : ByteArray) : ∃ n : Nat, 260 ≤ n ∧ (∀ W : World, Calls Tryz.prog 88 #[.string p] W fun e w' => e = .returned (.int .i64 (parseM n (strL p)).1) ∧ Below W.heap.size W w') := by
  have hl := strL_length p
  by_cases h64 : 64 < p.size
  · refine ⟨260, Nat.le_refl _, fun W => ?_⟩
    rw [show parseM 260 (strL p) = (3, .row []) by unfold parseM; rw [if_pos (by omega)]]
    clear hl
    go_enter Tryz.func88, Tryz.ntmps88
    go_wp2_with fail
    go_ret
    exact ⟨rfl, Below.refl _ _⟩
  have HR := Lib.hid (right_all p (by omega))
  by_cases hr : RightP (strL p)
  · obtain ⟨n, ls, d, h⟩ := hr
    refine ⟨max n 260, by omega, fun W => ?_⟩
    have hp := pat_mono (m := max n 260) (by omega) h
    have hpm := parse_of hp (by omega)
    have HB := Lib.hid (HR.out true W ⟨fun _ => ⟨n, ls, d, h⟩, fun _ => rfl⟩)
    have hd : Dep 0 0 (strL p) d := pat_dep h (Nat.le_refl _) (by simpa using Dep.nil 0 d)
    have HD := Lib.hid (fun W => depth_ref p (by omega) d hd W)
    by_cases h8 : 8 < d
    · rw [hpm, if_pos h8]
      have i1 : (8 : Int) < (d : Int) := by omega
      clear hl h hp hpm hd
      go_enter Tryz.func88, Tryz.ntmps88
      go_wp2_with (first
        | (go_at_call 108; refine HB.out.mono ?_; rintro e w2 ⟨rfl, hb2⟩; have HB2 := Lib.hid hb2; clear hb2)
        | (go_at_call 109; refine (HD.out _).mono ?_; rintro e w3 ⟨rfl, hb3⟩; have HB3 := Lib.hid (HB2.out.trans (hb3.mono HB2.out.size)); clear hb3))
      go_ret
      exact ⟨rfl, HB3.out⟩
    · rw [hpm, if_neg h8]
      have i1 : ¬ (8 : Int) < (d : Int) := by omega
      clear hl h hp hpm hd
      go_enter Tryz.func88, Tryz.ntmps88
      go_wp2_with (first
        | (go_at_call 108; refine HB.out.mono ?_; rintro e w2 ⟨rfl, hb2⟩; have HB2 := Lib.hid hb2; clear hb2)
        | (go_at_call 109; refine (HD.out _).mono ?_; rintro e w3 ⟨rfl, hb3⟩; have HB3 := Lib.hid (HB2.out.trans (hb3.mono HB2.out.size)); clear hb3))
      go_ret
      exact ⟨rfl, HB3.out⟩
  · refine ⟨260, Nat.le_refl _, fun W => ?_⟩
    have hpm : (parseM 260 (strL p)).1 = 14 := by
      unfold parseM
      rw [if_neg (by omega)]
      cases hp : patM 260 (strL p) with
      | none => rfl
      | some q =>
        obtain ⟨ls, y, d⟩ := q
        cases y with
        | nil => exact absurd ⟨260, ls, d, hp⟩ hr
        | cons c t => rfl
    have HB := Lib.hid (HR.out false W ⟨fun h => (by cases h), fun h => absurd h hr⟩)
    rw [hpm]
    clear hl hpm hr
    go_enter Tryz.func88, Tryz.ntmps88
    go_wp2_with (go_at_call 108; refine HB.out.mono ?_; rintro e w2 ⟨rfl, hb2⟩; have HB2 := Lib.hid hb2; clear hb2)
    go_ret
    exact ⟨rfl, HB2.out⟩
end Go.Proofs.YtpcjnagdanmdpaaGreat
