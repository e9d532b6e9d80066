/- RegexClass' walk. -/
import Derived.Test.YtjljfilflajogaaReOrLaw
import Derived.Deep.RegionLaw
namespace Go.Proofs.Ytjljfilflajogaa
open Go.RowKit
set_option linter.unusedVariables false

theorem row_bys3 {w : World} {g : Nat} {a b : UInt8} (h : Row w g 5 #[.int .u8 (a.toNat : Int), .int .u8 45, .int .u8 (b.toNat : Int)]) : Bys w (some ⟨g, 0, none⟩) [a, 45, b] := Row.bys (l := [a, 45, b]) h
theorem row_bysOne {w : World} {g : Nat} {c : UInt8} (h : Row w g 5 #[.int .u8 (c.toNat : Int)]) : Bys w (some ⟨g, 0, none⟩) [c] := Row.bys (l := [c]) h
theorem parse_pair {n : Nat} {x : List UInt8} {a b : UInt8} {r : Re} (h : patM n x = if Pair a b then some ([.row [r]], [], 0) else none) (hx : x.length ≤ 64) : (Pair a b = true → parseM n x = (0, .alt [.row [r]])) ∧ (Pair a b = false → (parseM n x).1 = 14) := by
  constructor
  · intro hp
    rw [hp] at h
    rw [parse_of h hx]
    rfl
  · intro hp
    rw [hp] at h
    exact parse_fail h hx
set_option maxRecDepth 100000 in
set_option maxHeartbeats 2000000 in
theorem regexClass_u8 (w : World) (a b c : UInt8) :
    Calls Try.prog 9 #[.int .u8 (a.toNat : Int), .int .u8 (b.toNat : Int), .int .u8 (c.toNat : Int)] w fun e w' => e = .returned (.bool true) ∧ Below w.heap.size w w' := by
  obtain ⟨u, hu⟩ : ∃ u : ByteArray, txt [a, 45, b] = u := ⟨_, rfl⟩
  have hul : strL u = [a, 45, b] := by rw [← hu, strL_txt]
  have hu3 : u.size ≤ 3 := by have := strL_length u; rw [hul] at this; simp at this; omega
  obtain ⟨t, ht⟩ : ∃ t : ByteArray, (⟨#[91]⟩ : ByteArray) ++ u ++ ⟨#[93]⟩ = t := ⟨_, rfl⟩
  obtain ⟨t2, ht2⟩ : ∃ t2 : ByteArray, (⟨#[91, 94]⟩ : ByteArray) ++ u ++ ⟨#[93]⟩ = t2 := ⟨_, rfl⟩
  obtain ⟨s, hse⟩ : ∃ s : ByteArray, txt [c] = s := ⟨_, rfl⟩
  obtain ⟨ss, hss⟩ : ∃ ss : ByteArray, s ++ s = ss := ⟨_, rfl⟩
  have hts : strL t = [91, a, 45, b, 93] := by rw [← ht, strL_app, strL_app, hul]; rfl
  have hts2 : strL t2 = [91, 94, a, 45, b, 93] := by rw [← ht2, strL_app, strL_app, hul]; rfl
  have hs1 : strL s = [c] := by rw [← hse, strL_txt]
  have hsz : s.size ≤ 1 := by have := strL_length s; rw [hs1] at this; simp at this; omega
  have hs2 : strL ss = [c, c] := by rw [← hss, strL_app, hs1]; rfl
  have hp1 := parse_pair (pat_in 295 a b) (by simp)
  have hp2 := parse_pair (pat_out 295 a b) (by simp)
  rw [← hts] at hp1
  rw [← hts2] at hp2
  have HT := Lib.hid (fun W => check_prog W t (n := 300) (by omega))
  have HT2 := Lib.hid (fun W => check_prog W t2 (n := 300) (by omega))
  have HB0 := Lib.hid (show Below w.heap.size w (((w.alloc (.cells #[.int .u8 (a.toNat : Int), .int .u8 45, .int .u8 (b.toNat : Int)] 5)).alloc (.cells #[.int .u8 (a.toNat : Int), .int .u8 45, .int .u8 (b.toNat : Int)] 5)).drew) from (below_then (below_one w _) (below_one _ _)).drew)
  have k1 : (convert 36 9 (.slice (some ⟨w.heap.size, 0, none⟩) 3 3)).run Try.prog ((w.alloc (.cells #[.int .u8 (a.toNat : Int), .int .u8 45, .int .u8 (b.toNat : Int)] 5)).drew) = .ok (.string u) ((w.alloc (.cells #[.int .u8 (a.toNat : Int), .int .u8 45, .int .u8 (b.toNat : Int)] 5)).drew) := by
    rw [← hu]; exact conv_bys _ _ [a, 45, b] 3 (row_bys3 (Row.new w _ _))
  have k2 : (convert 36 9 (.slice (some ⟨w.heap.size + 1, 0, none⟩) 3 3)).run Try.prog (((w.alloc (.cells #[.int .u8 (a.toNat : Int), .int .u8 45, .int .u8 (b.toNat : Int)] 5)).alloc (.cells #[.int .u8 (a.toNat : Int), .int .u8 45, .int .u8 (b.toNat : Int)] 5)).drew) = .ok (.string u) (((w.alloc (.cells #[.int .u8 (a.toNat : Int), .int .u8 45, .int .u8 (b.toNat : Int)] 5)).alloc (.cells #[.int .u8 (a.toNat : Int), .int .u8 45, .int .u8 (b.toNat : Int)] 5)).drew) := by
    rw [← hu]; exact conv_bys _ _ [a, 45, b] 3 (row_bys3 (row_at w _ _ _))
  have k3 : (convert 36 9 (.slice (some ⟨w.heap.size, 0, none⟩) 3 3)).run Try.prog (((w.alloc (.cells #[.int .u8 (a.toNat : Int), .int .u8 45, .int .u8 (b.toNat : Int)] 5)).alloc (.cells #[.int .u8 (a.toNat : Int), .int .u8 45, .int .u8 (b.toNat : Int)] 5)).drew) = .ok (.string u) (((w.alloc (.cells #[.int .u8 (a.toNat : Int), .int .u8 45, .int .u8 (b.toNat : Int)] 5)).alloc (.cells #[.int .u8 (a.toNat : Int), .int .u8 45, .int .u8 (b.toNat : Int)] 5)).drew) := by
    rw [← hu]; exact conv_bys _ _ [a, 45, b] 3 (row_bys3 ((Row.new w _ _).alloc _))
  have HU := Lib.hid hu3
  clear hu hul
  cases hp : Pair a b
  · rw [hp1.2 hp] at HT
    rw [hp2.2 hp] at HT2
    clear hts hts2 hs1 hs2 hp1 hp2 hp
    go_enter Try.func9, Try.ntmps9
    go_wp2_with fail
    go_region
    all_goals
      go_wp2_with (first
        | (go_at_call 18; refine (lives_true _).mono ?_; rintro e w9 ⟨rfl, hb9⟩; have HB := Lib.hid (HB.out.trans (hb9.mono HB.out.size)); clear hb9)
        | (go_at_call 16; refine HC2.out.mono ?_; rintro e w2 ⟨rfl, hb2⟩; have HB := Lib.hid (HB.out.trans (hb2.mono HB.out.size)); clear hb2)
        | (go_at_call 16; refine (HT.out _).mono ?_; rintro e w1 ⟨rfl, hb1⟩; have HB := Lib.hid (HB0.out.trans (hb1.mono HB0.out.size)); have HC2 := Lib.hid (HT2.out w1); clear hb1))
      go_ret
      exact ⟨rfl, HB.out⟩
  · have e1 := hp1.1 hp
    have e2 := hp2.1 hp
    rw [e1] at HT
    have hl : ∀ (neg : Bool) (u : List UInt8) (x : List UInt8), u.length ≤ 64 → parseM 300 x = (0, .alt [.row [.atom [(a, b)] neg false]]) → (fitB 300 x u = true ↔ ∃ d, u = [d] ∧ ((decide (a ≤ d) && decide (d ≤ b)) != neg) = true) := fun neg u x hu hx => by
      rw [fitB_right hx hu, fits_leaf]
      simp only [has_pair]
    have g1 : fitB 300 (strL t) (strL s) = (decide (a ≤ c) && decide (c ≤ b)) := by
      rw [Bool.eq_iff_iff, hl false _ _ (by rw [hs1]; simp) e1, hs1]
      constructor
      · rintro ⟨d, h, k⟩; simp at h; subst h; simpa using k
      · intro k; exact ⟨c, rfl, by simpa using k⟩
    have g2 : fitB 300 (strL t2) (strL s) = !(decide (a ≤ c) && decide (c ≤ b)) := by
      rw [Bool.eq_iff_iff, hl true _ _ (by rw [hs1]; simp) e2, hs1]
      constructor
      · rintro ⟨d, h, k⟩; simp at h; subst h; simpa using k
      · intro k; exact ⟨c, rfl, by simpa using k⟩
    have g3 : fitB 300 (strL t) (strL ⟨#[]⟩) = false := by
      rw [Bool.eq_false_iff]
      intro h
      obtain ⟨d, h, _⟩ := (hl false _ _ (by simp [strL]) e1).1 h
      cases h
    have g4 : fitB 300 (strL t2) (strL ⟨#[]⟩) = false := by
      rw [Bool.eq_false_iff]
      intro h
      obtain ⟨d, h, _⟩ := (hl true _ _ (by simp [strL]) e2).1 h
      cases h
    have g5 : fitB 300 (strL t) (strL ss) = false := by
      rw [Bool.eq_false_iff, hs2]
      intro h
      obtain ⟨d, h, _⟩ := (hl false _ _ (by simp) e1).1 h
      cases h
    have F1 := Lib.hid (fun W => lfits_prog W t s (n := 300) (by omega))
    have F2 := Lib.hid (fun W => lfits_prog W t2 s (n := 300) (by omega))
    have F3 := Lib.hid (fun W => lfits_prog W t ⟨#[]⟩ (n := 300) (by omega))
    have F4 := Lib.hid (fun W => lfits_prog W t2 ⟨#[]⟩ (n := 300) (by omega))
    have F5 := Lib.hid (fun W => lfits_prog W t ss (n := 300) (by omega))
    rw [g1] at F1
    rw [g2] at F2
    rw [g3] at F3
    rw [g4] at F4
    rw [g5] at F5
    have q1 : decide ((a.toNat : Int) ≤ (c.toNat : Int)) = decide (a ≤ c) := by rw [decide_eq_decide, UInt8.le_iff_toNat_le]; omega
    have q2 : decide ((c.toNat : Int) ≤ (b.toNat : Int)) = decide (c ≤ b) := by rw [decide_eq_decide, UInt8.le_iff_toNat_le]; omega
    have q3 : decide (a.toNat ≤ c.toNat) = decide (a ≤ c) := by rw [decide_eq_decide, UInt8.le_iff_toNat_le]
    have q4 : decide (c.toNat ≤ b.toNat) = decide (c ≤ b) := by rw [decide_eq_decide, UInt8.le_iff_toNat_le]
    have HK4 := Lib.hid (fun (W : World) => conv_bys (W.alloc (.cells #[.int .u8 (c.toNat : Int)] 5)) _ [c] 1 (row_bysOne (Row.new W _ _)))
    rw [hse] at HK4
    generalize decide (a ≤ c) = x at q1 q3 F1 F2
    generalize decide (c ≤ b) = y at q2 q4 F1 F2
    clear hts hts2 hs1 hs2 hp1 hp2 hp e1 e2 hl g1 g2 g3 g4 g5
    cases x <;> cases y
    all_goals
      go_enter Try.func9, Try.ntmps9
      go_wp2_with fail
      go_region
      all_goals
        go_wp2_with (first
          | (go_at_call 18; refine (lives_true _).mono ?_; rintro e w9 ⟨rfl, hb9⟩; have HB := Lib.hid (HB.out.trans (hb9.mono HB.out.size)); clear hb9)
          | (go_at_call 23; (with_reducible refine (F1.out _).mono ?_); rintro e w8 ⟨rfl, hb8⟩; have HB := Lib.hid (below_then HB.out (below_then (below_one _ _) hb8)); clear hb8)
          | (go_at_call 23; (with_reducible refine (F2.out _).mono ?_); rintro e w8 ⟨rfl, hb8⟩; have HB := Lib.hid (HB.out.trans (hb8.mono HB.out.size)); clear hb8)
          | (go_at_call 23; (with_reducible refine (F3.out _).mono ?_); rintro e w8 ⟨rfl, hb8⟩; have HB := Lib.hid (HB.out.trans (hb8.mono HB.out.size)); clear hb8)
          | (go_at_call 23; (with_reducible refine (F4.out _).mono ?_); rintro e w8 ⟨rfl, hb8⟩; have HB := Lib.hid (HB.out.trans (hb8.mono HB.out.size)); clear hb8)
          | (go_at_call 23; (with_reducible refine (F5.out _).mono ?_); rintro e w8 ⟨rfl, hb8⟩; have HB := Lib.hid (HB.out.trans (hb8.mono HB.out.size)); clear hb8)
          | (go_at_call 16; refine (HT.out _).mono ?_; rintro e w1 ⟨rfl, hb1⟩; have HB := Lib.hid (HB0.out.trans (hb1.mono HB0.out.size)); have k4 := HK4.out w1; simp at k4; clear hb1))
        go_ret
        exact ⟨rfl, HB.out⟩
theorem u8_of {x : Int} (h0 : 0 ≤ x) (h1 : x < 256) : ∃ c : UInt8, x = (c.toNat : Int) := ⟨UInt8.ofNat x.toNat, by rw [UInt8.toNat_ofNat']; omega⟩
theorem regexClass_walk (w : World) (a : Int) (ha : 0 ≤ a ∧ a ≤ 255) (b : Int) (hb : 0 ≤ b ∧ b ≤ 255) (c : Int) (hc : 0 ≤ c ∧ c ≤ 255) :
    Calls Try.prog 9 #[.int .u8 a, .int .u8 b, .int .u8 c] w fun e w' => e = .returned (.bool true) ∧ Below w.heap.size w w' := by
  obtain ⟨a, rfl⟩ := u8_of ha.1 (by omega)
  obtain ⟨b, rfl⟩ := u8_of hb.1 (by omega)
  obtain ⟨c, rfl⟩ := u8_of hc.1 (by omega)
  exact regexClass_u8 w a b c
end Go.Proofs.Ytjljfilflajogaa
