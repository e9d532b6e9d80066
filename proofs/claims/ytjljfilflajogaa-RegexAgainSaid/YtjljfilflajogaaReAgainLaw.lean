/- RegexAgain's walk. -/
import Derived.Test.YtjljfilflajogaaReThenLaw
namespace Go.Proofs.Ytjljfilflajogaa
open Go.RowKit
set_option linter.unusedVariables false

/-- Of the first k cuts of a text, none at its front, one is right. -/
def moreB (f g : List UInt8 → Bool) (s : List UInt8) (k : Nat) : Bool := cutB (fun u => !u.isEmpty && f u) g s k
theorem moreB_one (f g : List UInt8 → Bool) (s : List UInt8) : moreB f g s 1 = false := by simp [moreB, cutB, List.range_succ]
theorem moreB_succ (f g : List UInt8 → Bool) (s : List UInt8) (k : Nat) (h1 : 1 ≤ k) (h2 : k ≤ s.length) : moreB f g s (k + 1) = (moreB f g s k || (f (s.take k) && g (s.drop k))) := by
  unfold moreB
  rw [cutB_succ]
  have : (s.take k).isEmpty = false := by
    rw [Bool.eq_false_iff]
    intro h
    rw [List.isEmpty_iff, List.take_eq_nil_iff] at h
    rcases h with h | h
    · omega
    · rw [h] at h2; simp at h2; omega
  rw [this]
  simp
theorem moreB_iff (f g : List UInt8 → Bool) (s : List UInt8) : moreB f g s (s.length + 1) = true ↔ ∃ i, 1 ≤ i ∧ i ≤ s.length ∧ f (s.take i) = true ∧ g (s.drop i) = true := by
  unfold moreB
  rw [cutB_iff]
  constructor
  · rintro ⟨j, hj, h1, h2⟩
    simp only [Bool.and_eq_true, Bool.not_eq_true'] at h1
    refine ⟨j, ?_, by omega, h1.2, h2⟩
    rcases Nat.eq_zero_or_pos j with h | h
    · subst h; simp at h1
    · exact h
  · rintro ⟨i, h1, h2, h3, h4⟩
    refine ⟨i, by omega, ?_, h4⟩
    rw [Bool.and_eq_true, Bool.not_eq_true', Bool.eq_false_iff]
    refine ⟨fun h => ?_, h3⟩
    rw [List.isEmpty_iff, List.take_eq_nil_iff] at h
    rcases h with h | h
    · omega
    · rw [h] at h2; simp at h2; omega
theorem parse_group {n : Nat} {a : List UInt8} {ls : List Re} {d : Nat} {c : UInt8} (ha : patM n a = some (ls, [], d)) (hc : c = 42 ∨ c = 43 ∨ c = 63) (hl : (40 :: (a ++ [41, c])).length ≤ 64) (hd : d + 1 ≤ 8) : parseM (n + 4) (40 :: (a ++ [41, c])) = (0, .alt [.row [repM c (.alt ls)]]) := by
  rw [parse_of (pat_again ha hc) hl, if_neg (by omega)]
theorem fits_rep (A : Re) (hA : freshM A = true) (c : UInt8) (s : List UInt8) : fitsM (.alt [.row [repM c A]]) s = true ↔ L (repM c A) s := by
  rw [fits_L (by simp only [freshM, freshAll, repM, hA]; rfl), L_row1]
set_option maxHeartbeats 1000000 in
theorem regexAgain_walk (w : World) (a : ByteArray) (ha : a.size ≤ 140737488351232) (s : ByteArray) (hs : s.size ≤ 140737488351232) :
    Calls Try.prog 8 #[.string a, .string s] w fun e w' => e = .returned (.bool true) ∧ Below w.heap.size w w' := by
  obtain ⟨t, ht⟩ : ∃ t : ByteArray, (⟨#[40]⟩ : ByteArray) ++ a ++ ⟨#[41, 42]⟩ = t := ⟨_, rfl⟩
  obtain ⟨t2, ht2⟩ : ∃ t2 : ByteArray, (⟨#[40]⟩ : ByteArray) ++ a ++ ⟨#[41, 43]⟩ = t2 := ⟨_, rfl⟩
  obtain ⟨t3, ht3⟩ : ∃ t3 : ByteArray, (⟨#[40]⟩ : ByteArray) ++ a ++ ⟨#[41, 63]⟩ = t3 := ⟨_, rfl⟩
  have hts : strL t = 40 :: (strL a ++ [41, 42]) := by rw [← ht]; simp [strL_app]; simp [strL]
  have hts2 : strL t2 = 40 :: (strL a ++ [41, 43]) := by rw [← ht2]; simp [strL_app]; simp [strL]
  have hts3 : strL t3 = 40 :: (strL a ++ [41, 63]) := by rw [← ht3]; simp [strL_app]; simp [strL]
  have hsz : (strL s).length = s.size := strL_length s
  by_cases h64 : 64 < s.size
  · clear hts hts2 hts3 hsz
    go_enter Try.func8, Try.ntmps8
    go_wp2_with (go_at_call 18; refine (lives_true _).mono ?_; rintro e w9 ⟨rfl, hb9⟩)
    go_ret
    exact ⟨rfl, hb9⟩
  have HC1 := Lib.hid (check_prog w a (n := 300) (by omega))
  by_cases hca : (parseM 300 (strL a)).1 = 0
  rotate_left
  · generalize (parseM 300 (strL a)).1 = ca at HC1 hca
    have d0 : (ca == 0) = false := by rw [beq_eq_false_iff_ne]; exact hca
    clear hts hts2 hts3 hsz
    go_enter Try.func8, Try.ntmps8
    go_wp2_with (first
      | (go_at_call 18; refine (lives_true _).mono ?_; rintro e w9 ⟨rfl, hb9⟩; have HB := Lib.hid (HB.out.trans (hb9.mono HB.out.size)); clear hb9)
      | (go_at_call 16; refine HC1.out.mono ?_; rintro e w1 ⟨rfl, hb1⟩; have HB := Lib.hid hb1; clear hb1))
    go_ret
    exact ⟨rfl, HB.out⟩
  rw [hca] at HC1
  have HT := Lib.hid (fun W => check_prog W t (n := 304) (by omega))
  by_cases hct : (parseM 304 (strL t)).1 = 0
  rotate_left
  · generalize (parseM 304 (strL t)).1 = ct at HT hct
    have d0 : (ct == 0) = false := by rw [beq_eq_false_iff_ne]; exact hct
    have d1 : (ct != 0) = true := by rw [bne, d0]; rfl
    clear hts hts2 hts3 hsz hca
    go_enter Try.func8, Try.ntmps8
    go_wp2_with (first
      | (go_at_call 18; refine (lives_true _).mono ?_; rintro e w9 ⟨rfl, hb9⟩; have HB := Lib.hid (HB.out.trans (hb9.mono HB.out.size)); clear hb9)
      | (go_at_call 16; refine HC2.out.mono ?_; rintro e w2 ⟨rfl, hb2⟩; have HB := Lib.hid (HB.out.trans (hb2.mono HB.out.size)); clear hb2)
      | (go_at_call 16; refine HC1.out.mono ?_; rintro e w1 ⟨rfl, hb1⟩; have HB := Lib.hid hb1; have HC2 := Lib.hid (HT.out w1); clear hb1))
    go_ret
    exact ⟨rfl, HB.out⟩
  rw [hct] at HT
  obtain ⟨ls, d, pa, da, la, ea⟩ := parse_right hca
  obtain ⟨ks, d3, pt3, hd3, hlt, et0⟩ := parse_right hct
  have hlt2 : (40 :: (strL a ++ [41, 42])).length ≤ 64 := by rw [← hts]; exact hlt
  have hd : d + 1 ≤ 8 := by
    rw [hts, pat_again pa (.inl rfl)] at pt3
    simp only [Option.some.injEq, Prod.mk.injEq] at pt3
    omega
  have et : parseM 304 (strL t) = (0, .alt [.row [repM 42 (.alt ls)]]) := by rw [hts]; exact parse_group pa (.inl rfl) hlt2 hd
  have et2 : parseM 304 (strL t2) = (0, .alt [.row [repM 43 (.alt ls)]]) := by rw [hts2]; exact parse_group pa (.inr (.inl rfl)) (by simpa using hlt2) hd
  have et3 : parseM 304 (strL t3) = (0, .alt [.row [repM 63 (.alt ls)]]) := by rw [hts3]; exact parse_group pa (.inr (.inr rfl)) (by simpa using hlt2) hd
  have hfr := fresh_alt pa
  have hfa : ∀ u : List UInt8, u.length ≤ 64 → (fitB 300 (strL a) u = true ↔ L (.alt ls) u) := fun u hu => by
    rw [fitB_right ea hu, fits_iff pa]; simp only [L]
  have hft : ∀ u : List UInt8, u.length ≤ 64 → (fitB 304 (strL t) u = true ↔ L (.rep (.alt ls) true true) u) := fun u hu => by
    rw [fitB_right et hu, fits_rep _ hfr]; rfl
  have hMore : moreB (fitB 300 (strL a)) (fitB 304 (strL t)) (strL s) (s.size + 1) = true ↔ MoreP (.alt ls) (strL s) := by
    rw [← hsz, moreB_iff]
    unfold MoreP
    constructor
    · rintro ⟨i, h1, h2, h3, h4⟩
      exact ⟨i, h1, h2, (hfa _ (by rw [List.length_take]; omega)).1 h3, (hft _ (by rw [List.length_drop]; omega)).1 h4⟩
    · rintro ⟨i, h1, h2, h3, h4⟩
      exact ⟨i, h1, h2, (hfa _ (by rw [List.length_take]; omega)).2 h3, (hft _ (by rw [List.length_drop]; omega)).2 h4⟩
  have e0 : (s.toList == []) = decide (strL s = []) := by
    rw [ByteArray.toList_eq, Bool.eq_iff_iff, beq_iff_eq, decide_eq_true_eq]
    rfl
  have hF1 : fitB 304 (strL t) (strL s) = (decide (strL s = []) || moreB (fitB 300 (strL a)) (fitB 304 (strL t)) (strL s) (s.size + 1)) := by
    rw [Bool.eq_iff_iff, hft _ (by omega), Bool.or_eq_true, hMore, decide_eq_true_eq]
    exact star_more _ _
  have hF2 : fitB 304 (strL t2) (strL s) = (moreB (fitB 300 (strL a)) (fitB 304 (strL t)) (strL s) (s.size + 1) || fitB 300 (strL a) (strL s)) := by
    rw [fitB_right et2 (by omega), Bool.eq_iff_iff, fits_rep _ hfr, Bool.or_eq_true, hMore, hfa _ (by omega)]
    exact plus_more _ _
  have hF3 : fitB 304 (strL t3) (strL s) = (decide (strL s = []) || fitB 300 (strL a) (strL s)) := by
    rw [fitB_right et3 (by omega), Bool.eq_iff_iff, fits_rep _ hfr, Bool.or_eq_true, hfa _ (by omega), decide_eq_true_eq]
    exact maybe_one _ _
  have HF1 := Lib.hid (fun W => lfits_prog W t s (n := 304) (by omega))
  have HF2 := Lib.hid (fun W => lfits_prog W t2 s (n := 304) (by omega))
  have HF3 := Lib.hid (fun W => lfits_prog W t3 s (n := 304) (by omega))
  have HFs := Lib.hid (fun W => lfits_prog W a s (n := 300) (by omega))
  rw [hF1] at HF1
  rw [hF2] at HF2
  rw [hF3] at HF3
  have HFa := Lib.hid (fun W (k : Nat) => show Calls Try.prog 23 #[.string a, .string (s.extract 0 k)] W fun e w' => e = .returned (.bool (fitB 300 (strL a) ((strL s).take k))) ∧ Below W.heap.size W w' from by rw [← strL_front]; exact lfits_prog W a (s.extract 0 k) (n := 300) (by omega))
  have HFb := Lib.hid (fun W (k : Nat) => show Calls Try.prog 23 #[.string t, .string (s.extract k s.size)] W fun e w' => e = .returned (.bool (fitB 304 (strL t) ((strL s).drop k))) ∧ Below W.heap.size W w' from by rw [← strL_behind]; exact lfits_prog W t (s.extract k s.size) (n := 304) (by omega))
  have HZ := Lib.hid (moreB_one (fitB 300 (strL a)) (fitB 304 (strL t)) (strL s))
  have HS := Lib.hid (fun k h1 (h2 : k ≤ s.size) => moreB_succ (fitB 300 (strL a)) (fitB 304 (strL t)) (strL s) k h1 (by omega))
  have i64 : s.size ≤ 64 := by omega
  generalize decide (strL s = []) = em at e0 HF1 HF3
  clear hts hts2 hts3 hsz hca hct pa da la ea pt3 et0 et et2 et3 hfr hfa hft hMore hF1 hF2 hF3 hlt hlt2
  go_enter Try.func8, Try.ntmps8
  go_wp2_with (first
    | (go_at_call 16; refine HC2.out.mono ?_; rintro e w2 ⟨rfl, hb2⟩; have HB := Lib.hid (HB.out.trans (hb2.mono HB.out.size)); clear hb2)
    | (go_at_call 16; refine HC1.out.mono ?_; rintro e w1 ⟨rfl, hb1⟩; have HB := Lib.hid hb1; have HC2 := Lib.hid (HT.out w1); clear hb1))
  go_loopw [8, 9] (fun v i wr => ∃ k : Nat, 1 ≤ k ∧ k ≤ s.size + 1 ∧ i = .int .i64 (k : Int) ∧ v = .bool (moreB (fitB 300 (strL a)) (fitB 304 (strL t)) (strL s) k) ∧ Below w.heap.size w wr) (fun _ i _ => s.size + 1 - (intOf i).toNat)
  case atStart => exact ⟨1, Nat.le_refl _, by omega, rfl, by rw [HZ.out], HB.out⟩
  case round =>
    obtain ⟨k, hk1, hk, rfl, rfl, hbr⟩ := hrel
    have HBr := Lib.hid hbr
    clear hbr
    by_cases hlt : k ≤ s.size
    · have HSk := Lib.hid (HS.out k hk1 hlt)
      have F1 := Lib.hid (HFa.out wr k)
      have HG := Lib.hid (fun W => HFb.out W k)
      generalize fitB 300 (strL a) ((strL s).take k) = x at HSk F1
      generalize fitB 304 (strL t) ((strL s).drop k) = y at HSk HG
      generalize moreB (fitB 300 (strL a)) (fitB 304 (strL t)) (strL s) k = z at HSk ⊢
      cases z
      · cases x
        · go_wp2_with (go_at_call 23; refine F1.out.mono ?_; rintro e w4 ⟨rfl, hb4⟩; have HB4 := Lib.hid (HBr.out.trans (hb4.mono HBr.out.size)); clear hb4)
          exact ⟨⟨k + 1, by omega, by omega, by go_num, by rw [HSk.out]; rfl, HB4.out⟩, by simp [intOf]; omega⟩
        · go_wp2_with (first
            | (go_at_call 23; refine F2.out.mono ?_; rintro e w5 ⟨rfl, hb5⟩; have HB5 := Lib.hid (HB4.out.trans (hb5.mono HB4.out.size)); clear hb5)
            | (go_at_call 23; refine F1.out.mono ?_; rintro e w4 ⟨rfl, hb4⟩; have HB4 := Lib.hid (HBr.out.trans (hb4.mono HBr.out.size)); have F2 := Lib.hid (HG.out w4); clear hb4))
          exact ⟨⟨k + 1, by omega, by omega, by go_num, by rw [HSk.out]; simp, HB5.out⟩, by simp [intOf]; omega⟩
      · go_wp2_with fail
        exact ⟨⟨k + 1, by omega, by omega, by go_num, by rw [HSk.out]; rfl, HBr.out⟩, by simp [intOf]; omega⟩
    · obtain rfl : k = s.size + 1 := by omega
      have G1 := Lib.hid (HF1.out wr)
      have K2 := Lib.hid (fun W => HF2.out W)
      have K3 := Lib.hid (fun W => HF3.out W)
      have Ks := Lib.hid (fun W => HFs.out W)
      generalize moreB (fitB 300 (strL a)) (fitB 304 (strL t)) (strL s) (s.size + 1) = z at G1 K2 ⊢
      generalize fitB 300 (strL a) (strL s) = y at K2 K3 Ks
      cases z <;> cases em <;> cases y
      all_goals
        go_wp2_with (first
          | (go_at_call 18; refine (lives_true _).mono ?_; rintro e w9 ⟨rfl, hb9⟩; have HBr := Lib.hid (HBr.out.trans (hb9.mono HBr.out.size)); clear hb9)
          | (go_at_call 23; (with_reducible refine G1.out.mono ?_); rintro e w8 ⟨rfl, hb8⟩; have HBr := Lib.hid (HBr.out.trans (hb8.mono HBr.out.size)); have G2 := Lib.hid (K2.out w8); clear hb8)
          | (go_at_call 23; (with_reducible refine (K2.out _).mono ?_); rintro e w8 ⟨rfl, hb8⟩; have HBr := Lib.hid (HBr.out.trans (hb8.mono HBr.out.size)); clear hb8)
          | (go_at_call 23; (with_reducible refine (K3.out _).mono ?_); rintro e w8 ⟨rfl, hb8⟩; have HBr := Lib.hid (HBr.out.trans (hb8.mono HBr.out.size)); clear hb8)
          | (go_at_call 23; (with_reducible refine (Ks.out _).mono ?_); rintro e w8 ⟨rfl, hb8⟩; have HBr := Lib.hid (HBr.out.trans (hb8.mono HBr.out.size)); clear hb8))
        go_ret
        exact ⟨rfl, HBr.out⟩
end Go.Proofs.Ytjljfilflajogaa
