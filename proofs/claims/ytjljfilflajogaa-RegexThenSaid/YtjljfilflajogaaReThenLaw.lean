/- RegexThen's walk. -/
import Derived.Test.YtjljfilflajogaaReOrLaw
namespace Go.Proofs.Ytjljfilflajogaa
open Go.RowKit
set_option linter.unusedVariables false

theorem strL_front (s : ByteArray) (k : Nat) : strL (s.extract 0 k) = (strL s).take k := by
  unfold strL
  rw [ByteArray.data_extract, Array.toList_extract, List.extract_eq_take_drop]
  simp
theorem strL_behind (s : ByteArray) (k : Nat) : strL (s.extract k s.size) = (strL s).drop k := by
  have hl := strL_length s
  unfold strL at *
  rw [ByteArray.data_extract, Array.toList_extract, List.extract_eq_take_drop]
  apply List.take_of_length_le
  rw [List.length_drop, hl]
  omega
/-- Of the first k cuts of a text one is right. -/
def cutB (f g : List UInt8 → Bool) (s : List UInt8) (k : Nat) : Bool := (List.range k).any fun j => f (s.take j) && g (s.drop j)
theorem cutB_zero (f g : List UInt8 → Bool) (s : List UInt8) : cutB f g s 0 = false := rfl
theorem cutB_succ (f g : List UInt8 → Bool) (s : List UInt8) (k : Nat) : cutB f g s (k + 1) = (cutB f g s k || (f (s.take k) && g (s.drop k))) := by
  unfold cutB
  rw [List.range_succ, List.any_append]
  simp
theorem cutB_iff (f g : List UInt8 → Bool) (s : List UInt8) (k : Nat) : cutB f g s k = true ↔ ∃ j, j < k ∧ f (s.take j) = true ∧ g (s.drop j) = true := by
  unfold cutB
  simp [List.any_eq_true]
set_option maxHeartbeats 1000000 in
theorem regexThen_walk (w : World) (a : ByteArray) (ha : a.size ≤ 140737488351232) (b : ByteArray) (hb : b.size ≤ 140737488351232) (s : ByteArray) (hs : s.size ≤ 140737488351232) :
    Calls Try.prog 7 #[.string a, .string b, .string s] w fun e w' => e = .returned (.bool true) ∧ Below w.heap.size w w' := by
  obtain ⟨t, ht⟩ : ∃ t : ByteArray, (⟨#[40]⟩ : ByteArray) ++ a ++ ⟨#[41, 40]⟩ ++ b ++ ⟨#[41]⟩ = t := ⟨_, rfl⟩
  have hts : strL t = 40 :: (strL a ++ 41 :: 40 :: (strL b ++ [41])) := by rw [← ht]; simp [strL_app]; simp [strL]
  have hsz : (strL s).length = s.size := strL_length s
  by_cases h64 : 64 < s.size
  · clear hts hsz
    go_enter Try.func7, Try.ntmps7
    go_wp2_with (go_at_call 18; refine (lives_true _).mono ?_; rintro e w9 ⟨rfl, hb9⟩)
    go_ret
    exact ⟨rfl, hb9⟩
  have HC1 := Lib.hid (check_prog w a (n := 300) (by omega))
  by_cases hca : (parseM 300 (strL a)).1 = 0
  rotate_left
  · generalize (parseM 300 (strL a)).1 = ca at HC1 hca
    have d0 : (ca == 0) = false := by rw [beq_eq_false_iff_ne]; exact hca
    clear hts hsz
    go_enter Try.func7, Try.ntmps7
    go_wp2_with (first
      | (go_at_call 18; refine (lives_true _).mono ?_; rintro e w9 ⟨rfl, hb9⟩; have HB := Lib.hid (HB.out.trans (hb9.mono HB.out.size)); clear hb9)
      | (go_at_call 16; refine HC1.out.mono ?_; rintro e w1 ⟨rfl, hb1⟩; have HB := Lib.hid hb1; clear hb1))
    go_ret
    exact ⟨rfl, HB.out⟩
  rw [hca] at HC1
  by_cases hcb : (parseM 300 (strL b)).1 = 0
  rotate_left
  · have HK := Lib.hid (fun W => check_prog W b (n := 300) (by omega))
    generalize (parseM 300 (strL b)).1 = cb at HK hcb
    have d0 : (cb == 0) = false := by rw [beq_eq_false_iff_ne]; exact hcb
    clear hts hsz hca
    go_enter Try.func7, Try.ntmps7
    go_wp2_with (first
      | (go_at_call 18; refine (lives_true _).mono ?_; rintro e w9 ⟨rfl, hb9⟩; have HB := Lib.hid (HB.out.trans (hb9.mono HB.out.size)); clear hb9)
      | (go_at_call 16; refine HC2.out.mono ?_; rintro e w2 ⟨rfl, hb2⟩; have HB := Lib.hid (HB.out.trans (hb2.mono HB.out.size)); clear hb2)
      | (go_at_call 16; refine HC1.out.mono ?_; rintro e w1 ⟨rfl, hb1⟩; have HB := Lib.hid hb1; have HC2 := Lib.hid (HK.out w1); clear hb1))
    go_ret
    exact ⟨rfl, HB.out⟩
  have HK := Lib.hid (fun W => check_prog W b (n := 300) (by omega))
  rw [hcb] at HK
  have HT := Lib.hid (fun W => check_prog W t (n := 606) (by omega))
  by_cases hct : (parseM 606 (strL t)).1 = 0
  rotate_left
  · generalize (parseM 606 (strL t)).1 = ct at HT hct
    have d0 : (ct == 0) = false := by rw [beq_eq_false_iff_ne]; exact hct
    have d1 : (ct != 0) = true := by rw [bne, d0]; rfl
    clear hts hsz hca hcb
    go_enter Try.func7, Try.ntmps7
    go_wp2_with (first
      | (go_at_call 18; refine (lives_true _).mono ?_; rintro e w9 ⟨rfl, hb9⟩; have HB := Lib.hid (HB.out.trans (hb9.mono HB.out.size)); clear hb9)
      | (go_at_call 16; refine HC3.out.mono ?_; rintro e w3 ⟨rfl, hb3⟩; have HB := Lib.hid (HB.out.trans (hb3.mono HB.out.size)); clear hb3)
      | (go_at_call 16; refine HC2.out.mono ?_; rintro e w2 ⟨rfl, hb2⟩; have HB := Lib.hid (HB.out.trans (hb2.mono HB.out.size)); have HC3 := Lib.hid (HT.out w2); clear hb2)
      | (go_at_call 16; refine HC1.out.mono ?_; rintro e w1 ⟨rfl, hb1⟩; have HB := Lib.hid hb1; have HC2 := Lib.hid (HK.out w1); clear hb1))
    go_ret
    exact ⟨rfl, HB.out⟩
  rw [hct] at HT
  obtain ⟨ls, d, pa, da, la, ea⟩ := parse_right hca
  obtain ⟨ms, e, pb, db, lb, eb⟩ := parse_right hcb
  have pt : patM 606 (strL t) = some ([.row [.alt ls, .alt ms]], [], max (d + 1) (max (e + 1) 0)) := by rw [hts]; exact pat_then pa pb
  obtain ⟨ks, d3, pt3, _, _, et⟩ := parse_right hct
  rw [pt] at pt3
  simp only [Option.some.injEq, Prod.mk.injEq] at pt3
  obtain ⟨rfl, _, _⟩ := pt3
  have hF : fitB 606 (strL t) (strL s) = cutB (fitB 300 (strL a)) (fitB 300 (strL b)) (strL s) (s.size + 1) := by
    rw [fitB_right et (by omega), Bool.eq_iff_iff, fits_iff pt, cutB_iff]
    have := L_then ls ms (strL s)
    simp only [L] at this
    rw [this]
    constructor
    · rintro ⟨k, hk, h1, h2⟩
      refine ⟨k, by omega, ?_, ?_⟩
      · rw [fitB_right ea (by rw [List.length_take]; omega), fits_iff pa]; exact h1
      · rw [fitB_right eb (by rw [List.length_drop]; omega), fits_iff pb]; exact h2
    · rintro ⟨k, hk, h1, h2⟩
      rw [fitB_right ea (by rw [List.length_take]; omega), fits_iff pa] at h1
      rw [fitB_right eb (by rw [List.length_drop]; omega), fits_iff pb] at h2
      exact ⟨k, by omega, h1, h2⟩
  have HFt := Lib.hid (fun W => lfits_prog W t s (n := 606) (by omega))
  rw [hF] at HFt
  have HFa := Lib.hid (fun W (k : Nat) => show Calls Try.prog 23 #[.string a, .string (s.extract 0 k)] W fun e w' => e = .returned (.bool (fitB 300 (strL a) ((strL s).take k))) ∧ Below W.heap.size W w' from by rw [← strL_front]; exact lfits_prog W a (s.extract 0 k) (n := 300) (by omega))
  have HFb := Lib.hid (fun W (k : Nat) => show Calls Try.prog 23 #[.string b, .string (s.extract k s.size)] W fun e w' => e = .returned (.bool (fitB 300 (strL b) ((strL s).drop k))) ∧ Below W.heap.size W w' from by rw [← strL_behind]; exact lfits_prog W b (s.extract k s.size) (n := 300) (by omega))
  have HZ := Lib.hid (cutB_zero (fitB 300 (strL a)) (fitB 300 (strL b)) (strL s))
  have HS := Lib.hid (cutB_succ (fitB 300 (strL a)) (fitB 300 (strL b)) (strL s))
  have i64 : s.size ≤ 64 := by omega
  clear hts hsz hca hcb hct pa da la ea pb db lb eb pt et hF
  go_enter Try.func7, Try.ntmps7
  go_wp2_with (first
    | (go_at_call 16; refine HC3.out.mono ?_; rintro e w3 ⟨rfl, hb3⟩; have HB := Lib.hid (HB.out.trans (hb3.mono HB.out.size)); clear hb3)
    | (go_at_call 16; refine HC2.out.mono ?_; rintro e w2 ⟨rfl, hb2⟩; have HB := Lib.hid (HB.out.trans (hb2.mono HB.out.size)); have HC3 := Lib.hid (HT.out w2); clear hb2)
    | (go_at_call 16; refine HC1.out.mono ?_; rintro e w1 ⟨rfl, hb1⟩; have HB := Lib.hid hb1; have HC2 := Lib.hid (HK.out w1); clear hb1))
  go_loopw [8, 9] (fun v i wr => ∃ k : Nat, k ≤ s.size + 1 ∧ i = .int .i64 (k : Int) ∧ v = .bool (cutB (fitB 300 (strL a)) (fitB 300 (strL b)) (strL s) k) ∧ Below w.heap.size w wr) (fun _ i _ => s.size + 1 - (intOf i).toNat)
  case atStart => exact ⟨0, Nat.zero_le _, rfl, by rw [HZ.out], HB.out⟩
  case round =>
    obtain ⟨k, hk, rfl, rfl, hbr⟩ := hrel
    have HBr := Lib.hid hbr
    clear hbr
    by_cases hlt : k ≤ s.size
    · have HSk := Lib.hid (HS.out k)
      have F1 := Lib.hid (HFa.out wr k)
      have HG := Lib.hid (fun W => HFb.out W k)
      generalize fitB 300 (strL a) ((strL s).take k) = x at HSk F1
      generalize fitB 300 (strL b) ((strL s).drop k) = y at HSk HG
      generalize cutB (fitB 300 (strL a)) (fitB 300 (strL b)) (strL s) k = z at HSk ⊢
      cases z
      · cases x
        · go_wp2_with (go_at_call 23; refine F1.out.mono ?_; rintro e w4 ⟨rfl, hb4⟩; have HB4 := Lib.hid (HBr.out.trans (hb4.mono HBr.out.size)); clear hb4)
          exact ⟨⟨k + 1, by omega, by go_num, by rw [HSk.out]; rfl, HB4.out⟩, by simp [intOf]; omega⟩
        · go_wp2_with (first
            | (go_at_call 23; refine F2.out.mono ?_; rintro e w5 ⟨rfl, hb5⟩; have HB5 := Lib.hid (HB4.out.trans (hb5.mono HB4.out.size)); clear hb5)
            | (go_at_call 23; refine F1.out.mono ?_; rintro e w4 ⟨rfl, hb4⟩; have HB4 := Lib.hid (HBr.out.trans (hb4.mono HBr.out.size)); have F2 := Lib.hid (HG.out w4); clear hb4))
          exact ⟨⟨k + 1, by omega, by go_num, by rw [HSk.out]; simp, HB5.out⟩, by simp [intOf]; omega⟩
      · go_wp2_with fail
        exact ⟨⟨k + 1, by omega, by go_num, by rw [HSk.out]; rfl, HBr.out⟩, by simp [intOf]; omega⟩
    · obtain rfl : k = s.size + 1 := by omega
      have F9 := Lib.hid (HFt.out wr)
      generalize cutB (fitB 300 (strL a)) (fitB 300 (strL b)) (strL s) (s.size + 1) = z at F9 ⊢
      cases z
      all_goals
        go_wp2_with (first
          | (go_at_call 18; refine (lives_true _).mono ?_; rintro e w9 ⟨rfl, hb9⟩; have HB9 := Lib.hid (HB8.out.trans (hb9.mono HB8.out.size)); clear hb9)
          | (go_at_call 23; refine F9.out.mono ?_; rintro e w8 ⟨rfl, hb8⟩; have HB8 := Lib.hid (HBr.out.trans (hb8.mono HBr.out.size)); clear hb8))
        go_ret
        exact ⟨rfl, HB9.out⟩
end Go.Proofs.Ytjljfilflajogaa
