/- RegexOr's walk. -/
import Derived.Test.YtjljfilflajogaaReLives
namespace Go.Proofs.Ytjljfilflajogaa
open Go.RowKit
set_option linter.unusedVariables false

theorem strL_app (a b : ByteArray) : strL (a ++ b) = strL a ++ strL b := by
  unfold strL
  simp
theorem strL_size (a : ByteArray) : a.size = (strL a).length := (strL_length a).symm
set_option maxHeartbeats 1000000 in
theorem regexOr_walk (w : World) (a : ByteArray) (ha : a.size ≤ 140737488351232) (b : ByteArray) (hb : b.size ≤ 140737488351232) (s : ByteArray) (hs : s.size ≤ 140737488351232) :
    Calls Try.prog 6 #[.string a, .string b, .string s] w fun e w' => e = .returned (.bool true) ∧ Below w.heap.size w w' := by
  obtain ⟨t, ht⟩ : ∃ t : ByteArray, a ++ ⟨#[124]⟩ ++ b = t := ⟨_, rfl⟩
  have hts : strL t = strL a ++ 124 :: strL b := by rw [← ht, strL_app, strL_app]; simp [strL]
  have hsz : (strL s).length = s.size := strL_length s
  have htz : (strL t).length = t.size := strL_length t
  by_cases h64 : 64 < s.size
  · clear hts hsz htz
    go_enter Try.func6, Try.ntmps6
    go_wp2_with (go_at_call 18; refine (lives_true _).mono ?_; rintro e w9 ⟨rfl, hb9⟩)
    go_ret
    exact ⟨rfl, hb9⟩
  have HC1 := Lib.hid (check_prog w a (n := 300) (by omega))
  by_cases hca : (parseM 300 (strL a)).1 = 0
  rotate_left
  · generalize (parseM 300 (strL a)).1 = ca at HC1 hca
    have d0 : (ca == 0) = false := by rw [beq_eq_false_iff_ne]; exact hca
    clear hts hsz htz
    go_enter Try.func6, Try.ntmps6
    go_wp2_with (first
      | (go_at_call 18; refine (lives_true _).mono ?_; rintro e w9 ⟨rfl, hb9⟩; have HB := Lib.hid (HB.out.trans (hb9.mono HB.out.size)); clear hb9)
      | (go_at_call 16; refine HC1.out.mono ?_; rintro e w1 ⟨rfl, hb1⟩; have HB := Lib.hid hb1; clear hb1))
    go_ret
    exact ⟨rfl, HB.out⟩
  rw [hca] at HC1
  by_cases hcb : (parseM 300 (strL b)).1 = 0
  rotate_left
  · have HK := Lib.hid (fun W => check_prog W b (n := 300) (by omega))
    generalize (parseM 300 (strL b)).1 = cb at HK hcb
    have d0 : (cb == 0) = false := by rw [beq_eq_false_iff_ne]; exact hcb
    clear hts hsz htz hca
    go_enter Try.func6, Try.ntmps6
    go_wp2_with (first
      | (go_at_call 18; refine (lives_true _).mono ?_; rintro e w9 ⟨rfl, hb9⟩; have HB := Lib.hid (HB.out.trans (hb9.mono HB.out.size)); clear hb9)
      | (go_at_call 16; refine HC2.out.mono ?_; rintro e w2 ⟨rfl, hb2⟩; have HB := Lib.hid (HB.out.trans (hb2.mono HB.out.size)); clear hb2)
      | (go_at_call 16; refine HC1.out.mono ?_; rintro e w1 ⟨rfl, hb1⟩; have HB := Lib.hid hb1; have HC2 := Lib.hid (HK.out w1); clear hb1))
    go_ret
    exact ⟨rfl, HB.out⟩
  have HK := Lib.hid (fun W => check_prog W b (n := 300) (by omega))
  rw [hcb] at HK
  by_cases hl : 64 < t.size
  · clear hts hsz htz hca hcb
    go_enter Try.func6, Try.ntmps6
    go_wp2_with (first
      | (go_at_call 18; refine (lives_true _).mono ?_; rintro e w9 ⟨rfl, hb9⟩; have HB := Lib.hid (HB.out.trans (hb9.mono HB.out.size)); clear hb9)
      | (go_at_call 16; refine HC2.out.mono ?_; rintro e w2 ⟨rfl, hb2⟩; have HB := Lib.hid (HB.out.trans (hb2.mono HB.out.size)); clear hb2)
      | (go_at_call 16; refine HC1.out.mono ?_; rintro e w1 ⟨rfl, hb1⟩; have HB := Lib.hid hb1; have HC2 := Lib.hid (HK.out w1); clear hb1))
    go_ret
    exact ⟨rfl, HB.out⟩
  obtain ⟨ls, d, pa, da, la, ea⟩ := parse_right hca
  obtain ⟨ms, e, pb, db, lb, eb⟩ := parse_right hcb
  have pt : patM 600 (strL t) = some (ls ++ ms, [], max d e) := by rw [hts]; exact pat_or pb pa
  have et : parseM 600 (strL t) = (0, .alt (ls ++ ms)) := by rw [parse_of pt (by omega), if_neg (by omega)]
  have hF : fitB 600 (strL t) (strL s) = (fitB 300 (strL a) (strL s) || fitB 300 (strL b) (strL s)) := by
    rw [fitB_right et (by omega), fitB_right ea (by omega), fitB_right eb (by omega), Bool.eq_iff_iff, Bool.or_eq_true, fits_iff pt, fits_iff pa, fits_iff pb, L_app]
  have HT := Lib.hid (fun W => check_prog W t (n := 600) (by omega))
  have HFt := Lib.hid (fun W => lfits_prog W t s (n := 600) (by omega))
  have HFa := Lib.hid (fun W => lfits_prog W a s (n := 300) (by omega))
  have HFb := Lib.hid (fun W => lfits_prog W b s (n := 300) (by omega))
  rw [et] at HT
  rw [hF] at HFt
  generalize fitB 300 (strL a) (strL s) = x at HFt HFa
  generalize fitB 300 (strL b) (strL s) = y at HFt HFb
  clear hts hsz htz hca hcb pa da la ea pb db lb eb pt et hF
  cases x <;> cases y
  all_goals
    go_enter Try.func6, Try.ntmps6
    go_wp2_with (first
      | (go_at_call 18; refine (lives_true _).mono ?_; rintro e w9 ⟨rfl, hb9⟩; have HB := Lib.hid (HB.out.trans (hb9.mono HB.out.size)); clear hb9)
      | (go_at_call 23; refine F3.out.mono ?_; rintro e w6 ⟨rfl, hb6⟩; have HB := Lib.hid (HB.out.trans (hb6.mono HB.out.size)); clear hb6)
      | (go_at_call 23; refine F2.out.mono ?_; rintro e w5 ⟨rfl, hb5⟩; have HB := Lib.hid (HB.out.trans (hb5.mono HB.out.size)); have F3 := Lib.hid (HFb.out w5); clear hb5)
      | (go_at_call 23; refine F1.out.mono ?_; rintro e w4 ⟨rfl, hb4⟩; have HB := Lib.hid (HB.out.trans (hb4.mono HB.out.size)); have F2 := Lib.hid (HFa.out w4); clear hb4)
      | (go_at_call 16; refine HC3.out.mono ?_; rintro e w3 ⟨rfl, hb3⟩; have HB := Lib.hid (HB.out.trans (hb3.mono HB.out.size)); have F1 := Lib.hid (HFt.out w3); clear hb3)
      | (go_at_call 16; refine HC2.out.mono ?_; rintro e w2 ⟨rfl, hb2⟩; have HB := Lib.hid (HB.out.trans (hb2.mono HB.out.size)); have HC3 := Lib.hid (HT.out w2); clear hb2)
      | (go_at_call 16; refine HC1.out.mono ?_; rintro e w1 ⟨rfl, hb1⟩; have HB := Lib.hid hb1; have HC2 := Lib.hid (HK.out w1); clear hb1))
    go_ret
    exact ⟨rfl, HB.out⟩
end Go.Proofs.Ytjljfilflajogaa
