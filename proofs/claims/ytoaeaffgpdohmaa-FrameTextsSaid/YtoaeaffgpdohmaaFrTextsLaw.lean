/- The law of texts: a walk of it. -/
import Derived.Test.YtoaeaffgpdohmaaFrKept
import Derived.Test.YtoaeaffgpdohmaaFrText
namespace Go.Proofs.Ytoaeaffgpdohmaa
open Go.RowKit
set_option linter.unusedVariables false

theorem same_text (x : ByteArray) : (x.toList != x.toList) = false := by simp
theorem same_text' (x : ByteArray) : (x.toList == x.toList) = true := by simp
set_option maxHeartbeats 1000000 in
theorem texts_go (A : Option Addr) (l : List UInt8) (c : Nat) (s : ByteArray) (a NX E E2 : Int) (T : ByteArray) (L : List UInt8) (w : World) (hA : Bys w A l) (hr : l.length ≤ 140737488351232) (hL : L.length ≤ 281474976710656)
    (hp : ∀ V cc W, Bys W V l → Calls Try.prog 21 #[.slice V l.length cc, .string s] W fun e w' => ∃ v, e = .returned (.tuple #[v, .int .i64 E]) ∧ Own w' W.heap.size v L ∧ Below W.heap.size W w')
    (hq : ∀ V cc W, Bys W V l → Calls Try.prog 22 #[.slice V l.length cc, .string s] W fun e w' => ∃ v, e = .returned (.tuple #[v, .int .i64 E]) ∧ Own w' W.heap.size v L ∧ Below W.heap.size W w')
    (hg : ∀ V cc W, Bys W V l → l.length ≤ cc → Calls Try.prog 23 #[.slice V l.length cc, .int .i64 a] W fun e w' => e = .returned (.tuple #[.string T, .int .i64 NX, .int .i64 E2]) ∧ Below W.heap.size W w')
    (hh : ∀ V cc W, Bys W V l → l.length ≤ cc → Calls Try.prog 24 #[.slice V l.length cc, .int .i64 a] W fun e w' => e = .returned (.tuple #[.string T, .int .i64 NX, .int .i64 E2]) ∧ Below W.heap.size W w') (hlc : l.length ≤ c) :
    Calls Try.prog 4 #[.slice A l.length c, .string s, .int .i64 a] w fun e w' => e = .returned (.bool true) ∧ Below w.heap.size w w' := by
  have Hp := Lib.hid hp
  have Hq := Lib.hid hq
  have Hg := Lib.hid hg
  have Hh := Lib.hid hh
  clear hp hq hg hh
  go_enter Try.func4, Try.ntmps4
  go_wp2_with fail
  refine (lent_law A l c w hA hr).mono ?_
  rintro e w1 ⟨G, cap, rfl, hG, hcap, hmax, hGw, hb1⟩
  have hs1 := hb1.size
  go_wp2_with fail
  refine (Hp.out (some ⟨G, 0, none⟩) cap w1 (bys_front hG)).mono ?_
  rintro e w2 ⟨v, rfl, hv, hb2⟩
  obtain ⟨B, d, rfl, hB, _⟩ := own_slice' hv
  have hs2 := hb2.size
  have hb12 := below_then hb1 hb2
  have Hv := Lib.hid hv
  clear hv
  go_wp2_with fail
  refine (Hq.out A c w2 (hA.below hb12)).mono ?_
  rintro e w3 ⟨u, rfl, hu, hb3⟩
  obtain ⟨C, f, rfl, hC, _⟩ := own_slice' hu
  have hs3 := hb3.size
  have c1 := conv_bys w3 B L d (hB.below hb3)
  have c2 := conv_bys w3 C L f hC
  have q := same_text (txt L)
  have Hb3 := Lib.hid hb3
  clear hu hC hB hb3
  go_wp2_with fail
  refine (spoil_law _ L w1.heap.size w3 (own_below Hv.out Hb3.out) hL).mono ?_
  rintro e w4 ⟨rfl, _, _, hb4⟩
  have hb14 : Below w1.heap.size w1 w4 := (hb2.trans (Hb3.out.mono hs2)).trans hb4
  have hbw4 : Below w.heap.size w w4 := hb1.trans (hb14.mono hs1)
  clear c1 c2
  go_wp2_with fail
  refine (Hg.out (some ⟨G, 0, none⟩) cap w4 ((bys_front hG).below hb14) (by omega)).mono ?_
  rintro e w5 ⟨rfl, hb5⟩
  have hbw5 := below_then hbw4 hb5
  have hb15 : Below w1.heap.size w1 w5 := hb14.trans (hb5.mono hb14.size)
  go_wp2_with fail
  refine (Hh.out A c w5 (hA.below hbw5) hlc).mono ?_
  rintro e w6 ⟨rfl, hb6⟩
  have hbw6 := below_then hbw5 hb6
  have hb16 : Below w1.heap.size w1 w6 := hb15.trans (hb6.mono hb15.size)
  have q2 := same_text' T
  go_wp2_with fail
  refine (kept_law A l c G cap w6 (hA.below hbw6) (hG.below hb16) hcap hr).mono ?_
  rintro e w7 ⟨rfl, hb7⟩
  go_wp2_with fail
  refine (lives_true w7).mono ?_
  rintro e w8 ⟨rfl, hb8⟩
  go_wp2
  go_ret
  exact ⟨rfl, below_then (below_then hbw6 hb7) hb8⟩

theorem frameTexts_walk (w : World) (A : Option Addr) (l : List UInt8) (c : Nat) (hA : Bys w A l) (hr : l.length ≤ 140737488351232) (hlc : l.length ≤ c)
    (s : ByteArray) (hs : s.size ≤ 140737488351232) (a : Int) (ba : -9223372036854775808 ≤ a ∧ a ≤ 9223372036854775807) :
    Calls Try.prog 4 #[.slice A l.length c, .string s, .int .i64 a] w fun e w' => e = .returned (.bool true) ∧ Below w.heap.size w w' := by
  have key1 : ∃ L E, L.length ≤ 281474976710656 ∧ (∀ V cc W, Bys W V l → Calls Try.prog 21 #[.slice V l.length cc, .string s] W fun e w' => ∃ v, e = .returned (.tuple #[v, .int .i64 E]) ∧ Own w' W.heap.size v L ∧ Below W.heap.size W w') ∧
      (∀ V cc W, Bys W V l → Calls Try.prog 22 #[.slice V l.length cc, .string s] W fun e w' => ∃ v, e = .returned (.tuple #[v, .int .i64 E]) ∧ Own w' W.heap.size v L ∧ Below W.heap.size W w') := by
    by_cases h : s.size ≤ 65535
    · have := uintL_9 (n := s.size) (by omega)
      exact ⟨l ++ textL s, 0, by rw [List.length_append, textL, List.length_append, strL_length]; omega, fun V cc W hV => puttext_prog V l cc s W hV hr h, fun V cc W hV => puttext_ref V l cc s W hV hr h⟩
    · refine ⟨[], 3, by simp, fun V cc W hV => ?_, fun V cc W hV => ?_⟩
      · refine (puttext_big V l.length cc s W (by omega) (by omega)).mono ?_
        rintro e w' ⟨rfl, rfl⟩
        exact ⟨_, rfl, own_nil _ _, Below.refl _ _⟩
      · refine (puttext_ref_big V l.length cc s W (by omega) (by omega)).mono ?_
        rintro e w' ⟨rfl, rfl⟩
        exact ⟨_, rfl, own_nil _ _, Below.refl _ _⟩
  have key2 : ∃ (T : ByteArray) (NX E : Int), (∀ V cc W, Bys W V l → l.length ≤ cc → Calls Try.prog 23 #[.slice V l.length cc, .int .i64 a] W fun e w' => e = .returned (.tuple #[.string T, .int .i64 NX, .int .i64 E]) ∧ Below W.heap.size W w') ∧
      (∀ V cc W, Bys W V l → l.length ≤ cc → Calls Try.prog 24 #[.slice V l.length cc, .int .i64 a] W fun e w' => e = .returned (.tuple #[.string T, .int .i64 NX, .int .i64 E]) ∧ Below W.heap.size W w') := by
    by_cases h : a < 0 ∨ (l.length : Int) < a
    · refine ⟨_, _, _, fun V cc W hV hc => gettext_prog V l cc a 0 0 2 _ _ _ W hV hc (by omega) (by omega) (by omega) ?_ (.no 0 0 2 (by omega)), fun V cc W hV hc => gettext_ref V l cc a 0 0 2 _ _ _ W hV hc (by omega) (by omega) (by omega) ?_ (.no 0 0 2 (by omega))⟩
      · refine (getuint_bad V l cc a W h).mono ?_
        rintro e w' ⟨rfl, rfl⟩
        exact ⟨rfl, Below.refl _ _⟩
      · refine (getuint_ref_bad V l cc a W h).mono ?_
        rintro e w' ⟨rfl, rfl⟩
        exact ⟨rfl, Below.refl _ _⟩
    · obtain ⟨k, rfl⟩ := Int.eq_ofNat_of_zero_le (a := a) (by omega)
      obtain ⟨N, NX, E, hg⟩ := gu_total l k (by omega)
      obtain ⟨T, k2, e2, ht⟩ := gt_total l N NX E (fun h => (gu_place hg h).1)
      refine ⟨T, k2, e2, fun V cc W hV hc => gettext_prog V l cc k N NX E T k2 e2 W hV hc (by omega) (gu_small hg) (fun h => (gu_place hg h).2.1) (getuint_prog V l cc k N NX E W hV hc (by omega) (by omega) hg) ht, fun V cc W hV hc => gettext_ref V l cc k N NX E T k2 e2 W hV hc (by omega) (gu_small hg) (fun h => (gu_place hg h).2.1) ?_ ht⟩
      refine (getuint_ref V l cc k N NX E W hV (by omega) (by omega) hg).mono ?_
      rintro e w' ⟨rfl, rfl⟩
      exact ⟨rfl, Below.refl _ _⟩
  obtain ⟨L, E, hL, hp, hq⟩ := key1
  obtain ⟨T, NX, E2, hg, hh⟩ := key2
  exact texts_go A l c s a NX E E2 T L w hA hr hL hp hq hg hh hlc
end Go.Proofs.Ytoaeaffgpdohmaa
