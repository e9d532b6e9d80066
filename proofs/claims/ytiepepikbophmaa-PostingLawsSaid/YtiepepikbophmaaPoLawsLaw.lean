/- What is in both lists, in either, in the first alone: a walk of the law. -/
import Derived.Test.YtiepepikbophmaaPoLives
namespace Go.Proofs.Ytiepepikbophmaa
open Go.RowKit Go.Maps
set_option linter.unusedVariables false

theorem laws_skip1 (w : World) (A : Option Addr) (a : List Int) (ca : Nat) (hA : Zs w A a) (ra : a.length ≤ 17592186043904) (B : Option Addr) (nb cb : Nat) (n : Int) (h : pchk a ≠ 0) :
    Calls Try.prog 8 #[.slice A a.length ca, .slice B nb cb, .int .i64 n] w fun e w' => e = .returned (.bool true) ∧ Below w.heap.size w w' := by
  have HC := Lib.hid (check_prog A a ca w hA (by omega))
  generalize pchk a = E at *
  have i1 : (E != 0) = true := bne_iff_ne.2 h
  have i2 : (E == 0) = false := beq_eq_false_iff_ne.2 h
  clear h hA
  go_enter Try.func8, Try.ntmps8
  go_wp2_with fail
  refine HC.out.mono ?_
  rintro e w1 ⟨rfl, rfl⟩
  go_wp2_with fail
  refine (poLives_true _).mono ?_
  rintro e w2 ⟨rfl, hb⟩
  go_wp2
  go_ret
  exact ⟨rfl, hb⟩
theorem laws_skip2 (w : World) (A : Option Addr) (a : List Int) (ca : Nat) (hA : Zs w A a) (ra : a.length ≤ 17592186043904) (B : Option Addr) (b : List Int) (cb : Nat) (hB : Zs w B b) (rb : b.length ≤ 17592186043904) (n : Int) (ha : pchk a = 0) (h : pchk b ≠ 0) :
    Calls Try.prog 8 #[.slice A a.length ca, .slice B b.length cb, .int .i64 n] w fun e w' => e = .returned (.bool true) ∧ Below w.heap.size w w' := by
  have HC := Lib.hid (check_prog A a ca w hA (by omega))
  have HD := Lib.hid (check_prog B b cb w hB (by omega))
  rw [ha] at HC
  generalize pchk b = E at *
  have i1 : (E != 0) = true := bne_iff_ne.2 h
  have i2 : (E == 0) = false := beq_eq_false_iff_ne.2 h
  clear h hA hB ha
  go_enter Try.func8, Try.ntmps8
  go_wp2_with fail
  refine HC.out.mono ?_
  rintro e w1 ⟨rfl, rfl⟩
  go_wp2_with fail
  refine HD.out.mono ?_
  rintro e w1 ⟨rfl, rfl⟩
  go_wp2_with fail
  refine (poLives_true _).mono ?_
  rintro e w2 ⟨rfl, hb⟩
  go_wp2
  go_ret
  exact ⟨rfl, hb⟩
theorem parts_ei {a b : List Int} (ha : pchk a = 0) (hb : pchk b = 0) : eiV (bothL a b) (lessL a b) = a ∧ eiE (bothL a b) (lessL a b) = 0 := by
  have e := parts_whole (pchk_zero.1 ha).2 (pchk_zero.1 hb).2
  have h0 := refE_zero (pchk_both ha hb) (pchk_less ha hb)
  have hl := (pchk_zero.1 ha).1
  unfold eiV eiE
  rw [e, if_pos ⟨h0, hl⟩, if_pos h0, if_neg (by omega)]
  exact ⟨rfl, rfl⟩
theorem bo_right {a b : List Int} (ha : pchk a = 0) (hb : pchk b = 0) : boV a b = bothL a b ∧ boV b a = bothL a b ∧ leV a b = lessL a b := by
  unfold boV leV
  rw [if_pos (refE_zero ha hb), if_pos (refE_zero ha hb), if_pos (refE_zero hb ha), both_turn (pchk_zero.1 hb).2 (pchk_zero.1 ha).2]
  exact ⟨rfl, rfl, rfl⟩
theorem ei_turn {a b : List Int} (ha : pchk a = 0) (hb : pchk b = 0) : eiV b a = eiV a b ∧ eiE b a = eiE a b := by
  unfold eiV eiE
  rw [either_turn (pchk_zero.1 hb).2 (pchk_zero.1 ha).2, refE_zero ha hb, refE_zero hb ha]
  exact ⟨rfl, rfl⟩
theorem ei_cases {a b : List Int} (ha : pchk a = 0) (hb : pchk b = 0) : (eiE a b = 3) ∨ (eiE a b = 0 ∧ eiV a b = eitherL a b) := by
  unfold eiV eiE
  rw [refE_zero ha hb, if_pos rfl]
  split
  · exact .inl rfl
  · exact .inr ⟨rfl, if_pos ⟨rfl, by omega⟩⟩
set_option maxHeartbeats 4000000 in
theorem laws_go (w : World) (A : Option Addr) (a : List Int) (ca : Nat) (hA : Zs w A a) (ra : a.length ≤ 17592186043904) (hac : a.length ≤ ca)
    (B : Option Addr) (b : List Int) (cb : Nat) (hB : Zs w B b) (rb : b.length ≤ 17592186043904) (hbc : b.length ≤ cb) (n : Int) (ha : pchk a = 0) (hb : pchk b = 0) :
    Calls Try.prog 8 #[.slice A a.length ca, .slice B b.length cb, .int .i64 n] w fun e w' => e = .returned (.bool true) ∧ Below w.heap.size w w' := by
  have hz := refE_zero ha hb
  have hz2 := refE_zero hb ha
  have HC := Lib.hid (check_prog A a ca w hA (by omega))
  have HD := Lib.hid (check_prog B b cb w hB (by omega))
  rw [ha] at HC
  rw [hb] at HD
  have HP := Lib.hid (fun W (h : Below w.heap.size w W) => both_all A B a b ca cb W (hA.below h) (hB.below h) (by omega) (by omega) hac hbc)
  have HQ := Lib.hid (fun W (h : Below w.heap.size w W) => both_all B A b a cb ca W (hB.below h) (hA.below h) (by omega) (by omega) hbc hac)
  have HR := Lib.hid (fun W (h : Below w.heap.size w W) => less_all A B a b ca cb W (hA.below h) (hB.below h) (by omega) (by omega) hac hbc)
  have HT := Lib.hid (fun W (h : Below w.heap.size w W) => either_all A B a b ca cb W (hA.below h) (hB.below h) (by omega) (by omega) hac hbc)
  have HU := Lib.hid (fun W (h : Below w.heap.size w W) => either_all B A b a cb ca W (hB.below h) (hA.below h) (by omega) (by omega) hbc hac)
  obtain ⟨e1, e2, e3⟩ := bo_right ha hb
  obtain ⟨e4, e5⟩ := ei_turn ha hb
  have hl1 := boV_len a b
  have hl3 := leV_len a b
  have hl2 := eiV_len a b
  rw [hz, e1] at HP
  rw [hz2, e2] at HQ
  rw [hz, e3] at HR
  rw [e4, e5] at HU
  rw [e1] at hl1
  rw [e3] at hl3
  have HV := Lib.hid (fun P Q c1 c2 W (h1 : Zs W P (bothL a b)) (h2 : Zs W Q (lessL a b)) (k1 : (bothL a b).length ≤ c1) (k2 : (lessL a b).length ≤ c2) => either_all P Q (bothL a b) (lessL a b) c1 c2 W h1 h2 (by omega) (by omega) k1 k2)
  rw [(parts_ei ha hb).1, (parts_ei ha hb).2] at HV
  have HHA := Lib.hid (fun W (h : Below w.heap.size w W) => has_ref A a ca n W (hA.below h) (by omega))
  have HHB := Lib.hid (fun W (h : Below w.heap.size w W) => has_ref B b cb n W (hB.below h) (by omega))
  have HH1 := Lib.hid (fun P c W (h : Zs W P (bothL a b)) => has_ref P (bothL a b) c n W h (by omega))
  have HH2 := Lib.hid (fun P c W (h : Zs W P (lessL a b)) => has_ref P (lessL a b) c n W h (by omega))
  have HH3 := Lib.hid (fun P c W (h : Zs W P (eiV a b)) => has_ref P (eiV a b) c n W h (by omega))
  rw [has_both ha hb] at HH1
  rw [has_less ha hb] at HH2
  have HEI : eiE a b = 3 ∨ (eiE a b = 0 ∧ decide (n ∈ eiV a b) = (decide (n ∈ a) || decide (n ∈ b))) := by
    rcases ei_cases ha hb with h | ⟨h1, h2⟩
    · exact .inl h
    · exact .inr ⟨h1, by rw [h2, has_either ha hb]⟩
  generalize decide (n ∈ eiV a b) = x3 at *
  generalize eiE a b = E2 at *
  generalize eiV a b = L2 at *
  generalize bothL a b = L1 at *
  generalize lessL a b = L3 at *
  generalize decide (n ∈ a) = ia at *
  generalize decide (n ∈ b) = ib at *
  have q1 : (E2 != E2) = false := by simp
  have HA := Lib.hid (fun W (h : Below w.heap.size w W) => hA.below h)
  clear hA hB rb hbc ha hb hz hz2 e1 e2 e3 e4 e5
  go_enter Try.func8, Try.ntmps8
  go_wp2_with fail
  refine HC.out.mono ?_
  rintro e w1 ⟨rfl, rfl⟩
  go_wp2_with fail
  refine HD.out.mono ?_
  rintro e w1 ⟨rfl, rfl⟩
  go_wp2_with fail
  refine (HP.out _ (Below.refl _ _)).mono ?_
  rintro e w1 ⟨v1, rfl, hv1, hb1⟩
  obtain ⟨P1, d1, rfl, hd1, hs1, _⟩ := ownz_slice hv1
  have HB1 := Lib.hid hb1
  have HS1 := Lib.hid hs1
  clear hv1 hb1 hs1
  go_wp2_with fail
  refine (HQ.out _ HB1.out).mono ?_
  rintro e w2 ⟨v2, rfl, hv2, hb2⟩
  obtain ⟨P2, d2, rfl, hd2, hs2, _⟩ := ownz_slice hv2
  have HB2 := Lib.hid (below_then HB1.out hb2)
  have HS12 := Lib.hid (HS1.out.below hb2)
  have HS2 := Lib.hid hs2
  clear hv2 hb2 hs2
  go_wp2_with fail
  refine (HR.out _ HB2.out).mono ?_
  rintro e w3 ⟨v3, rfl, hv3, hb3⟩
  obtain ⟨P3, d3, rfl, hd3, hs3, _⟩ := ownz_slice hv3
  have HB3 := Lib.hid (below_then HB2.out hb3)
  have HS13 := Lib.hid (HS12.out.below hb3)
  have HS23 := Lib.hid (HS2.out.below hb3)
  have HS3 := Lib.hid hs3
  clear hv3 hb3 hs3
  go_wp2_with fail
  refine (same_yes P1 P2 L1 d1 d2 w3 HS13.out HS23.out (by omega)).mono ?_
  rintro e w4 ⟨rfl, hb4⟩
  have HB4 := Lib.hid (below_then HB3.out hb4)
  have HS14 := Lib.hid (HS13.out.below hb4)
  have HS34 := Lib.hid (HS3.out.below hb4)
  clear hb4
  go_wp2_with fail
  refine (HHA.out _ HB4.out).mono ?_
  rintro e w5 ⟨rfl, rfl⟩
  go_wp2_with fail
  refine (HHB.out _ HB4.out).mono ?_
  rintro e w5 ⟨rfl, rfl⟩
  go_wp2_with fail
  refine (HH1.out _ _ _ HS14.out).mono ?_
  rintro e w5 ⟨rfl, rfl⟩
  have HGO : ∀ (i j : Bool), ia = i → ib = j → (E2 = 3 ∨ (E2 = 0 ∧ x3 = (i || j))) := by
    rintro i j rfl rfl
    exact HEI
  cases ia <;> cases ib
  all_goals
    have HX3 := HGO _ _ rfl rfl
    clear HEI HGO
    go_wp2_with fail
    refine (HH2.out _ _ _ HS34.out).mono ?_
    rintro e w6 ⟨rfl, rfl⟩
    go_wp2_with fail
    refine (HV.out _ _ _ _ _ HS14.out HS34.out hd1 hd3).mono ?_
    rintro e w7 ⟨v7, rfl, hv7, hb7⟩
    obtain ⟨P7, d7, rfl, _, hs7, _⟩ := ownz_slice hv7
    have HS7 := Lib.hid hs7
    have HB7 := Lib.hid (below_then HB4.out hb7)
    clear hv7 hb7 hs7
    go_wp2_with fail
    refine (same_yes P7 A a d7 ca _ HS7.out (HA.out _ HB7.out) (by omega)).mono ?_
    rintro e w8 ⟨rfl, hb8⟩
    have HB8 := Lib.hid (below_then HB7.out hb8)
    clear hb8
    go_wp2_with fail
    refine (HT.out _ HB8.out).mono ?_
    rintro e w9 ⟨v9, rfl, hv9, hb9⟩
    obtain ⟨P9, d9, rfl, _, hs9, _⟩ := ownz_slice hv9
    have HS9 := Lib.hid hs9
    have HB9 := Lib.hid (below_then HB8.out hb9)
    clear hv9 hb9 hs9
    go_wp2_with fail
    refine (HU.out _ HB9.out).mono ?_
    rintro e w10 ⟨v10, rfl, hv10, hb10⟩
    obtain ⟨P10, d10, rfl, _, hs10, _⟩ := ownz_slice hv10
    have HS910 := Lib.hid (HS9.out.below hb10)
    have HS10 := Lib.hid hs10
    have HB10 := Lib.hid (below_then HB9.out hb10)
    clear hv10 hb10 hs10
    go_wp2_with fail
    refine (same_yes P9 P10 L2 d9 d10 _ HS910.out HS10.out (by omega)).mono ?_
    rintro e w11 ⟨rfl, hb11⟩
    have HB11 := Lib.hid (below_then HB10.out hb11)
    have HS911 := Lib.hid (HS910.out.below hb11)
    clear hb11
    rcases HX3 with rfl | ⟨rfl, rfl⟩
    · go_wp2_with fail
      refine (poLives_true _).mono ?_
      rintro e w13 ⟨rfl, hb13⟩
      have HB13 := Lib.hid (below_then HB11.out hb13)
      clear hb13
      go_wp2
      go_ret
      exact ⟨rfl, HB13.out⟩
    · go_wp2_with fail
      refine (HH3.out _ _ _ HS911.out).mono ?_
      rintro e w12 ⟨rfl, rfl⟩
      go_wp2_with fail
      refine (poLives_true _).mono ?_
      rintro e w13 ⟨rfl, hb13⟩
      have HB13 := Lib.hid (below_then HB11.out hb13)
      clear hb13
      go_wp2
      go_ret
      exact ⟨rfl, HB13.out⟩
theorem postingLaws_walk (w : World) (A : Option Addr) (a : List Int) (ca : Nat) (hA : Zs w A a) (ra : a.length ≤ 17592186043904) (hac : a.length ≤ ca)
    (B : Option Addr) (b : List Int) (cb : Nat) (hB : Zs w B b) (rb : b.length ≤ 17592186043904) (hbc : b.length ≤ cb) (n : Int) (bn : -9223372036854775808 ≤ n ∧ n ≤ 9223372036854775807) :
    Calls Try.prog 8 #[.slice A a.length ca, .slice B b.length cb, .int .i64 n] w fun e w' => e = .returned (.bool true) ∧ Below w.heap.size w w' := by
  by_cases ha : pchk a = 0
  · by_cases hb : pchk b = 0
    · exact laws_go w A a ca hA ra hac B b cb hB rb hbc n ha hb
    · exact laws_skip2 w A a ca hA ra B b cb hB rb n ha hb
  · exact laws_skip1 w A a ca hA ra B b.length cb n ha
end Go.Proofs.Ytiepepikbophmaa
