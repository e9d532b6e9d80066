/- Two lists held together: a walk of the law. -/
import Derived.Test.YtiepepikbophmaaPoLives
namespace Go.Proofs.Ytiepepikbophmaa
open Go.RowKit Go.Maps
set_option linter.unusedVariables false

/-- A slice whose cells may be written. -/
def Wz (w : World) (base : Nat) (P : Option Addr) (n : Nat) : Prop := n = 0 ∨ ∃ g cs, P = some ⟨g, 0, none⟩ ∧ base ≤ g ∧ Row w g 3 cs ∧ n ≤ cs.size
theorem wz_of {w : World} {base : Nat} {P : Option Addr} {n c : Nat} {l : List Int} (h : OwnZ w base (.slice P n c) l) : n = l.length ∧ Wz w base P n ∧ l.length ≤ c ∧ Zs w P l := by
  obtain ⟨P', c', e, hc, hz, _⟩ := ownz_slice h
  injection e with e1 e2 e3
  subst e1 e2 e3
  refine ⟨rfl, ?_, hc, hz⟩
  rcases h.2 with ⟨e, h0⟩ | ⟨g, cap, cur, hv2, hg, hh, hnc, hcm, hcs, htk⟩
  · exact .inl h0
  · injection hv2 with e1 _ _
    refine .inr ⟨g, cur, e1, hg, hh, ?_⟩
    have hlen := flat_len intE 1 intE_len l
    have := congrArg List.length htk
    rw [List.length_take, hlen, Array.length_toList] at this
    omega
theorem wz_set {w : World} {base : Nat} {P : Option Addr} {n : Nat} (h : Wz w base P n) (g i : Nat) (v : Value) : Wz (w.setCell ⟨g, i, none⟩ v) base P n := by
  rcases h with h | ⟨g', cs, rfl, hg, hr, hn⟩
  · exact .inl h
  · by_cases e : g' = g
    · subst e
      exact .inr ⟨g', _, rfl, hg, hr.setAt i v, by simpa using hn⟩
    · exact .inr ⟨g', cs, rfl, hg, hr.setFar e v, hn⟩
theorem wz_at {w : World} {base : Nat} {P : Option Addr} {n : Nat} (h : Wz w base P n) {k : Nat} (hk : k < n) :
    ∃ g u, P = some ⟨g, 0, none⟩ ∧ base ≤ g ∧ w.cell? ⟨g, k, none⟩ = some u ∧ w.frozen? ⟨g, k, none⟩ = false := by
  rcases h with rfl | ⟨g, cs, rfl, hg, hr, hn⟩
  · omega
  · have hkc : k < cs.size := by omega
    exact ⟨g, cs[k], rfl, hg, by rw [hr.cell k]; exact Array.getElem?_eq_getElem hkc, hr.frozen k⟩
theorem wz_below {w w' : World} {base : Nat} {P : Option Addr} {n : Nat} (h : Wz w base P n) (hb : Below w.heap.size w w') : Wz w' base P n := by
  rcases h with h | ⟨g, cs, e, hg, hr, hn⟩
  · exact .inl h
  · exact .inr ⟨g, cs, e, hg, hr.below hb hr.lt, hn⟩
theorem wz_lower {w : World} {base B : Nat} {P : Option Addr} {n : Nat} (h : Wz w base P n) (hb : B ≤ base) : Wz w B P n := by
  rcases h with h | ⟨g, cs, e, hg, hr, hn⟩
  · exact .inl h
  · exact .inr ⟨g, cs, e, Nat.le_trans hb hg, hr, hn⟩

set_option maxHeartbeats 4000000 in
theorem postingSets_walk (w : World) (A : Option Addr) (a : List Int) (ca : Nat) (hA : Zs w A a) (ra : a.length ≤ 17592186043904) (hac : a.length ≤ ca)
    (B : Option Addr) (b : List Int) (cb : Nat) (hB : Zs w B b) (rb : b.length ≤ 17592186043904) (hbc : b.length ≤ cb) :
    Calls Try.prog 6 #[.slice A a.length ca, .slice B b.length cb] w fun e w' => e = .returned (.bool true) ∧ Below w.heap.size w w' := by
  have HO1 := Lib.hid (own_law A a ca w hA ra)
  have HO2 := Lib.hid (fun W (h : Below w.heap.size w W) => own_law B b cb W (hB.below h) rb)
  have HP1 := Lib.hid (fun G1 c1 G2 c2 W (h1 : Zs W (some ⟨G1, 0, none⟩) (a ++ [77])) (h2 : Zs W (some ⟨G2, 0, none⟩) (b ++ [77])) (k1 : a.length + 1 ≤ c1) (k2 : b.length + 1 ≤ c2) => both_all (some ⟨G1, 0, none⟩) (some ⟨G2, 0, none⟩) a b c1 c2 W h1.front h2.front (by omega) (by omega) (by omega) (by omega))
  have HP2 := Lib.hid (fun G1 c1 G2 c2 W (h1 : Zs W (some ⟨G1, 0, none⟩) (a ++ [77])) (h2 : Zs W (some ⟨G2, 0, none⟩) (b ++ [77])) (k1 : a.length + 1 ≤ c1) (k2 : b.length + 1 ≤ c2) => either_all (some ⟨G1, 0, none⟩) (some ⟨G2, 0, none⟩) a b c1 c2 W h1.front h2.front (by omega) (by omega) (by omega) (by omega))
  have HP3 := Lib.hid (fun G1 c1 G2 c2 W (h1 : Zs W (some ⟨G1, 0, none⟩) (a ++ [77])) (h2 : Zs W (some ⟨G2, 0, none⟩) (b ++ [77])) (k1 : a.length + 1 ≤ c1) (k2 : b.length + 1 ≤ c2) => less_all (some ⟨G1, 0, none⟩) (some ⟨G2, 0, none⟩) a b c1 c2 W h1.front h2.front (by omega) (by omega) (by omega) (by omega))
  have HR1 := Lib.hid (fun W (h : Below w.heap.size w W) => refboth_all A B a b ca cb W (hA.below h) (hB.below h) (by omega) (by omega))
  have HR2 := Lib.hid (fun W (h : Below w.heap.size w W) => refeither_all A B a b ca cb W (hA.below h) (hB.below h) (by omega) (by omega))
  have HR3 := Lib.hid (fun W (h : Below w.heap.size w W) => refless_all A B a b ca cb W (hA.below h) (hB.below h) (by omega) (by omega))
  have HK1 := Lib.hid (fun G c W (h : Below w.heap.size w W) (hG : Zs W (some ⟨G, 0, none⟩) (a ++ [77])) (k : a.length + 1 ≤ c) => kept_law A a ca G c W (hA.below h) hG k ra)
  have HK2 := Lib.hid (fun G c W (h : Below w.heap.size w W) (hG : Zs W (some ⟨G, 0, none⟩) (b ++ [77])) (k : b.length + 1 ≤ c) => kept_law B b cb G c W (hB.below h) hG k rb)
  have hl1 := boV_len a b
  have hl2 := eiV_len a b
  have hl3 := leV_len a b
  generalize boV a b = L1 at *
  generalize eiV a b = L2 at *
  generalize leV a b = L3 at *
  generalize refE a b = E1 at *
  generalize eiE a b = E2 at *
  have q1 : (E1 != E1) = false := by simp
  have q2 : (E2 != E2) = false := by simp
  clear hA hB ra rb hac hbc
  go_enter Try.func6, Try.ntmps6
  go_wp2_with fail
  refine HO1.out.mono ?_
  rintro e w1 ⟨G1, c1, rfl, hG1, hc1, _, hb1⟩
  have HG1 := Lib.hid hG1
  have HC1 := Lib.hid hc1
  have HB1 := Lib.hid hb1
  clear hG1 hc1 hb1
  go_wp2_with fail
  refine (HO2.out _ HB1.out).mono ?_
  rintro e w2 ⟨G2, c2, rfl, hG2, hc2, _, hb2⟩
  have HG2 := Lib.hid hG2
  have HC2 := Lib.hid hc2
  have HG12 := Lib.hid (HG1.out.below hb2)
  have HB2 := Lib.hid (below_then HB1.out hb2)
  clear hG2 hc2 hb2
  go_wp2_with fail
  refine (HP1.out _ _ _ _ _ HG12.out HG2.out HC1.out HC2.out).mono ?_
  rintro e w3 ⟨v3, rfl, hv3, hb3⟩
  obtain ⟨P3, d3, rfl, _⟩ := ownz_slice hv3
  obtain ⟨_, hz3, hd3, hs3⟩ := wz_of hv3
  have HZ3 := Lib.hid hz3
  have HS3 := Lib.hid hs3
  have HB3 := Lib.hid hb3
  clear hv3 hz3 hs3 hb3
  go_wp2_with fail
  refine (HP2.out _ _ _ _ _ (HG12.out.below HB3.out) (HG2.out.below HB3.out) HC1.out HC2.out).mono ?_
  rintro e w4 ⟨v4, rfl, hv4, hb4⟩
  obtain ⟨P4, d4, rfl, _⟩ := ownz_slice hv4
  obtain ⟨_, hz4, hd4, hs4⟩ := wz_of hv4
  have HZ34 := Lib.hid (wz_below HZ3.out hb4)
  have HZ4 := Lib.hid (wz_lower hz4 HB3.out.size)
  have HS34 := Lib.hid (HS3.out.below hb4)
  have HS4 := Lib.hid hs4
  have HB4 := Lib.hid (below_then HB3.out hb4)
  clear hv4 hz4 hs4 hb4
  go_wp2_with fail
  refine (HP3.out _ _ _ _ _ (HG12.out.below HB4.out) (HG2.out.below HB4.out) HC1.out HC2.out).mono ?_
  rintro e w5 ⟨v5, rfl, hv5, hb5⟩
  obtain ⟨P5, d5, rfl, _⟩ := ownz_slice hv5
  obtain ⟨_, hz5, hd5, hs5⟩ := wz_of hv5
  have HZ35 := Lib.hid (wz_below HZ34.out hb5)
  have HZ45 := Lib.hid (wz_below HZ4.out hb5)
  have HZ5 := Lib.hid (wz_lower hz5 HB4.out.size)
  have HS35 := Lib.hid (HS34.out.below hb5)
  have HS45 := Lib.hid (HS4.out.below hb5)
  have HS5 := Lib.hid hs5
  have HB5 := Lib.hid (below_then HB4.out hb5)
  have HW5 := Lib.hid (below_then HB2.out HB5.out)
  clear hv5 hz5 hs5 hb5
  go_wp2_with fail
  refine (HR1.out _ HW5.out).mono ?_
  rintro e w6 ⟨v6, rfl, hv6, hb6⟩
  obtain ⟨P6, d6, rfl, _, hs6, _⟩ := ownz_slice hv6
  have HS6 := Lib.hid hs6
  have HB6 := Lib.hid hb6
  have HW6 := Lib.hid (below_then HW5.out hb6)
  clear hv6 hs6 hb6
  go_wp2_with fail
  refine (HR2.out _ HW6.out).mono ?_
  rintro e w7 ⟨v7, rfl, hv7, hb7⟩
  obtain ⟨P7, d7, rfl, _, hs7, _⟩ := ownz_slice hv7
  have HS67 := Lib.hid (HS6.out.below hb7)
  have HS7 := Lib.hid hs7
  have HB7 := Lib.hid (below_then HB6.out hb7)
  have HW7 := Lib.hid (below_then HW6.out hb7)
  clear hv7 hs7 hb7
  go_wp2_with fail
  refine (HR3.out _ HW7.out).mono ?_
  rintro e w8 ⟨v8, rfl, hv8, hb8⟩
  obtain ⟨P8, d8, rfl, _, hs8, _⟩ := ownz_slice hv8
  have HS68 := Lib.hid (HS67.out.below hb8)
  have HS78 := Lib.hid (HS7.out.below hb8)
  have HS8 := Lib.hid hs8
  have HB8 := Lib.hid (below_then HB7.out hb8)
  clear hv8 hs8 hb8
  go_wp2_with fail
  refine (same_yes P3 P6 L1 d3 d6 w8 (HS35.out.below HB8.out) HS68.out (by omega)).mono ?_
  rintro e w9 ⟨rfl, hb9⟩
  have HB9 := Lib.hid (below_then HB8.out hb9)
  have HB89 := Lib.hid hb9
  clear hb9
  go_wp2_with fail
  refine (same_yes P4 P7 L2 d4 d7 w9 (HS45.out.below HB9.out) (HS78.out.below HB89.out) (by omega)).mono ?_
  rintro e w10 ⟨rfl, hb10⟩
  have HB10 := Lib.hid (below_then HB9.out hb10)
  have HB8a := Lib.hid (below_then HB89.out hb10)
  clear hb10
  go_wp2_with fail
  refine (same_yes P5 P8 L3 d5 d8 w10 (HS5.out.below HB10.out) (HS8.out.below HB8a.out) (by omega)).mono ?_
  rintro e w11 ⟨rfl, hb11⟩
  have HB11 := Lib.hid (below_then HB10.out hb11)
  have HB2b := Lib.hid (below_then HB5.out HB11.out)
  have HX3 := Lib.hid (wz_below HZ35.out HB11.out)
  have HX4 := Lib.hid (wz_below HZ45.out HB11.out)
  have HX5 := Lib.hid (wz_below HZ5.out HB11.out)
  clear hb11 HS3 HS34 HS35 HS4 HS45 HS5 HS6 HS67 HS68 HS7 HS78 HS8 HZ3 HZ34 HZ35 HZ4 HZ45 HZ5 HP1 HP2 HP3 HR1 HR2 HR3 HO1 HO2
  generalize L1.length = n1 at *
  generalize L2.length = n2 at *
  generalize L3.length = n3 at *
  go_wp2_with fail
  go_loopw [19] (fun i wr => ∃ k : Nat, k ≤ n1 ∧ i = .int .i64 (k : Int) ∧ Wz wr w2.heap.size P3 n1 ∧ Wz wr w2.heap.size P4 n2 ∧ Wz wr w2.heap.size P5 n3 ∧ Below w2.heap.size w2 wr) (fun i _ => n1 - (intOf i).toNat)
  case atStart => exact ⟨0, Nat.zero_le _, rfl, HX3.out, HX4.out, HX5.out, HB2b.out⟩
  case round =>
    obtain ⟨k, hk, rfl, x3, x4, x5, hbr⟩ := hrel
    by_cases hlt : k < n1
    · obtain ⟨g, u, rfl, hg, hcl, hfz⟩ := wz_at x3 hlt
      have Y3 := Lib.hid (wz_set x3 g k (.int .i64 (-1)))
      have Y4 := Lib.hid (wz_set x4 g k (.int .i64 (-1)))
      have Y5 := Lib.hid (wz_set x5 g k (.int .i64 (-1)))
      have YB := Lib.hid (hbr.setCell (p := ⟨g, k, none⟩) hg (.int .i64 (-1)))
      have i2 : (k : Int) < (n1 : Int) := by omega
      clear x3 x4 x5 hbr HX3 HX4 HX5
      go_wp2_with fail
      go_roundw
      case rel => exact ⟨k + 1, by omega, by go_num, Y3.out, Y4.out, Y5.out, YB.out⟩
      case measure => simp [intOf]; omega
    · have X4 := Lib.hid x4
      have X5 := Lib.hid x5
      have XB := Lib.hid hbr
      clear x3 x4 x5 hbr HX3 HX4 HX5
      go_wp2_with fail
      go_loopw [20] (fun i wr => ∃ k : Nat, k ≤ n2 ∧ i = .int .i64 (k : Int) ∧ Wz wr w2.heap.size P4 n2 ∧ Wz wr w2.heap.size P5 n3 ∧ Below w2.heap.size w2 wr) (fun i _ => n2 - (intOf i).toNat)
      case atStart => exact ⟨0, Nat.zero_le _, rfl, X4.out, X5.out, XB.out⟩
      case round =>
        obtain ⟨k2, hk2, rfl, x4, x5, hbr⟩ := hrel
        by_cases hlt2 : k2 < n2
        · obtain ⟨g, u, rfl, hg, hcl, hfz⟩ := wz_at x4 hlt2
          have Y4 := Lib.hid (wz_set x4 g k2 (.int .i64 (-2)))
          have Y5 := Lib.hid (wz_set x5 g k2 (.int .i64 (-2)))
          have YB := Lib.hid (hbr.setCell (p := ⟨g, k2, none⟩) hg (.int .i64 (-2)))
          have i2 : (k2 : Int) < (n2 : Int) := by omega
          clear x4 x5 hbr X4 X5 XB
          go_wp2_with fail
          go_roundw
          case rel => exact ⟨k2 + 1, by omega, by go_num, Y4.out, Y5.out, YB.out⟩
          case measure => simp [intOf]; omega
        · have Z5 := Lib.hid x5
          have ZB := Lib.hid hbr
          clear x4 x5 hbr X4 X5 XB
          go_wp2_with fail
          go_loopw [21] (fun i wr => ∃ k : Nat, k ≤ n3 ∧ i = .int .i64 (k : Int) ∧ Wz wr w2.heap.size P5 n3 ∧ Below w2.heap.size w2 wr) (fun i _ => n3 - (intOf i).toNat)
          case atStart => exact ⟨0, Nat.zero_le _, rfl, Z5.out, ZB.out⟩
          case round =>
            obtain ⟨k3, hk3, rfl, x5, hbr⟩ := hrel
            by_cases hlt3 : k3 < n3
            · obtain ⟨g, u, rfl, hg, hcl, hfz⟩ := wz_at x5 hlt3
              have Y5 := Lib.hid (wz_set x5 g k3 (.int .i64 (-3)))
              have YB := Lib.hid (hbr.setCell (p := ⟨g, k3, none⟩) hg (.int .i64 (-3)))
              have i2 : (k3 : Int) < (n3 : Int) := by omega
              clear x5 hbr Z5 ZB
              go_wp2_with fail
              go_roundw
              case rel => exact ⟨k3 + 1, by omega, by go_num, Y5.out, YB.out⟩
              case measure => simp [intOf]; omega
            · have VB := Lib.hid (below_then HB2.out hbr)
              have VR := Lib.hid hbr
              clear x5 hbr Z5 ZB
              go_wp2_with fail
              refine (HK1.out _ _ _ VB.out (HG12.out.below VR.out) HC1.out).mono ?_
              rintro e w20 ⟨rfl, hb20⟩
              have VB2 := Lib.hid (below_then VB.out hb20)
              have VR2 := Lib.hid (below_then VR.out hb20)
              clear hb20
              go_wp2_with fail
              refine (HK2.out _ _ _ VB2.out (HG2.out.below VR2.out) HC2.out).mono ?_
              rintro e w21 ⟨rfl, hb21⟩
              have VB3 := Lib.hid (below_then VB2.out hb21)
              clear hb21
              go_wp2_with fail
              refine (poLives_true _).mono ?_
              rintro e w22 ⟨rfl, hb22⟩
              have VB4 := Lib.hid (below_then VB3.out hb22)
              clear hb22
              go_wp2
              go_ret
              exact ⟨rfl, VB4.out⟩
end Go.Proofs.Ytiepepikbophmaa
