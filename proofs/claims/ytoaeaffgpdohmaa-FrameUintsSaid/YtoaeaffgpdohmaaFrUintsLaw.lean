/- The law of numbers, from a walk of it. -/
import Derived.Test.YtoaeaffgpdohmaaFrKept
import Derived.Test.YtoaeaffgpdohmaaFrGetUint
namespace Go.Proofs.Ytoaeaffgpdohmaa
open Go.RowKit
set_option linter.unusedVariables false

theorem same_not (x : ByteArray) : (x.toList != x.toList) = false := by simp
set_option maxHeartbeats 1000000 in
theorem uints_go (A : Option Addr) (l : List UInt8) (c : Nat) (n a N NX E E2 : Int) (L : List UInt8) (w : World) (hA : Bys w A l) (hr : l.length ≤ 140737488351232) (hL : L.length ≤ 281474976710656)
    (hp : ∀ V cc W, Bys W V l → l.length ≤ cc → Calls Try.prog 14 #[.slice V l.length cc, .int .i64 n] W fun e w' => ∃ v, e = .returned (.tuple #[v, .int .i64 E]) ∧ Own w' W.heap.size v L ∧ Below W.heap.size W w')
    (hq : ∀ V cc W, Bys W V l → Calls Try.prog 15 #[.slice V l.length cc, .int .i64 n] W fun e w' => ∃ v, e = .returned (.tuple #[v, .int .i64 E]) ∧ Own w' W.heap.size v L ∧ Below W.heap.size W w')
    (hg : ∀ V cc W, Bys W V l → l.length ≤ cc → Calls Try.prog 17 #[.slice V l.length cc, .int .i64 a] W fun e w' => e = .returned (.tuple #[.int .i64 N, .int .i64 NX, .int .i64 E2]) ∧ Below W.heap.size W w')
    (hh : ∀ V cc W, Bys W V l → Calls Try.prog 18 #[.slice V l.length cc, .int .i64 a] W fun e w' => e = .returned (.tuple #[.int .i64 N, .int .i64 NX, .int .i64 E2]) ∧ W = w') :
    Calls Try.prog 3 #[.slice A l.length c, .int .i64 n, .int .i64 a] w fun e w' => e = .returned (.bool true) ∧ Below w.heap.size w w' := by
  have Hp := Lib.hid hp
  have Hq := Lib.hid hq
  have Hg := Lib.hid hg
  have Hh := Lib.hid hh
  clear hp hq hg hh
  go_enter Try.func3, Try.ntmps3
  go_wp2_with fail
  refine (lent_law A l c w hA hr).mono ?_
  rintro e w1 ⟨G, cap, rfl, hG, hcap, hmax, hGw, hb1⟩
  have hs1 := hb1.size
  go_wp2_with fail
  refine (Hp.out (some ⟨G, 0, none⟩) cap w1 (bys_front hG) (by omega)).mono ?_
  rintro e w2 ⟨v, rfl, hv, hb2⟩
  obtain ⟨B, d, rfl, hB, _⟩ := own_slice' hv
  have hs2 := hb2.size
  have hb12 := below_then hb1 hb2
  have Hv := Lib.hid hv
  clear hv
  go_wp2_with fail
  refine (Hq.out A c w2 (hA.below hb12)).mono ?_
  rintro e w3 ⟨u, rfl, hu, hb3⟩
  obtain ⟨C, f, rfl, hC, _⟩ := own_slice' hu
  have hs3 := hb3.size
  have c1 := conv_bys w3 B L d (hB.below hb3)
  have c2 := conv_bys w3 C L f hC
  have q := same_not (txt L)
  have Hb3 := Lib.hid hb3
  have hb13 := below_then hb12 hb3
  clear hu hC hB hb3
  go_wp2_with fail
  refine (spoil_law _ L w1.heap.size w3 (own_below Hv.out Hb3.out) hL).mono ?_
  rintro e w4 ⟨rfl, _, _, hb4⟩
  have hb14 : Below w1.heap.size w1 w4 := (hb2.trans (Hb3.out.mono hs2)).trans hb4
  have hbw4 : Below w.heap.size w w4 := hb1.trans (hb14.mono hs1)
  clear c1 c2
  go_wp2_with fail
  refine (Hg.out (some ⟨G, 0, none⟩) cap w4 ((bys_front hG).below hb14) (by omega)).mono ?_
  rintro e w5 ⟨rfl, hb5⟩
  have hbw5 := below_then hbw4 hb5
  go_wp2_with fail
  refine (Hh.out A c w5 (hA.below hbw5)).mono ?_
  rintro e w6 ⟨rfl, rfl⟩
  go_wp2_with fail
  refine (kept_law A l c G cap w5 (hA.below hbw5) (hG.below (hb14.trans (hb5.mono hb14.size))) hcap hr).mono ?_
  rintro e w7 ⟨rfl, hb7⟩
  go_wp2_with fail
  refine (lives_true w7).mono ?_
  rintro e w8 ⟨rfl, hb8⟩
  go_wp2
  go_ret
  exact ⟨rfl, below_then (below_then hbw5 hb7) hb8⟩

theorem frameUints_walk (w : World) (A : Option Addr) (l : List UInt8) (c : Nat) (hA : Bys w A l) (hr : l.length ≤ 140737488351232) (hlc : l.length ≤ c)
    (n : Int) (bn : -9223372036854775808 ≤ n ∧ n ≤ 9223372036854775807) (a : Int) (ba : -9223372036854775808 ≤ a ∧ a ≤ 9223372036854775807) :
    Calls Try.prog 3 #[.slice A l.length c, .int .i64 n, .int .i64 a] w fun e w' => e = .returned (.bool true) ∧ Below w.heap.size w w' := by
  have key1 : ∃ L E, L.length ≤ 281474976710656 ∧ (∀ V cc W, Bys W V l → l.length ≤ cc → Calls Try.prog 14 #[.slice V l.length cc, .int .i64 n] W fun e w' => ∃ v, e = .returned (.tuple #[v, .int .i64 E]) ∧ Own w' W.heap.size v L ∧ Below W.heap.size W w') ∧
      (∀ V cc W, Bys W V l → Calls Try.prog 15 #[.slice V l.length cc, .int .i64 n] W fun e w' => ∃ v, e = .returned (.tuple #[v, .int .i64 E]) ∧ Own w' W.heap.size v L ∧ Below W.heap.size W w') := by
    rcases Int.lt_or_le n 0 with h | h
    · refine ⟨[], 2, by simp, fun V cc W hV hc => ?_, fun V cc W hV => ?_⟩
      · refine (putuint_bad V l.length cc n W h).mono ?_
        rintro e w' ⟨rfl, rfl⟩
        exact ⟨_, rfl, own_nil _ _, Below.refl _ _⟩
      · refine (putuint_ref_bad V l.length cc n W h).mono ?_
        rintro e w' ⟨rfl, rfl⟩
        exact ⟨_, rfl, own_nil _ _, Below.refl _ _⟩
    · obtain ⟨m, rfl⟩ := Int.eq_ofNat_of_zero_le h
      have := uintL_9 (n := m) (by omega)
      exact ⟨l ++ uintL m, 0, by rw [List.length_append]; omega, fun V cc W hV hc => putuint_prog V l cc m W hV (by omega) (by omega), fun V cc W hV => putuint_ref V l cc m W hV (by omega) (by omega)⟩
  have key2 : ∃ N NX E : Int, (∀ V cc W, Bys W V l → l.length ≤ cc → Calls Try.prog 17 #[.slice V l.length cc, .int .i64 a] W fun e w' => e = .returned (.tuple #[.int .i64 N, .int .i64 NX, .int .i64 E]) ∧ Below W.heap.size W w') ∧
      (∀ V cc W, Bys W V l → Calls Try.prog 18 #[.slice V l.length cc, .int .i64 a] W fun e w' => e = .returned (.tuple #[.int .i64 N, .int .i64 NX, .int .i64 E]) ∧ W = w') := by
    by_cases h : a < 0 ∨ (l.length : Int) < a
    · refine ⟨0, 0, 2, fun V cc W hV hc => ?_, fun V cc W hV => getuint_ref_bad V l cc a W h⟩
      refine (getuint_bad V l cc a W h).mono ?_
      rintro e w' ⟨rfl, rfl⟩
      exact ⟨rfl, Below.refl _ _⟩
    · obtain ⟨k, rfl⟩ := Int.eq_ofNat_of_zero_le (a := a) (by omega)
      obtain ⟨N, NX, E, hg⟩ := gu_total l k (by omega)
      exact ⟨N, NX, E, fun V cc W hV hc => getuint_prog V l cc k N NX E W hV hc (by omega) (by omega) hg, fun V cc W hV => getuint_ref V l cc k N NX E W hV (by omega) (by omega) hg⟩
  obtain ⟨L, E, hL, hp, hq⟩ := key1
  obtain ⟨N, NX, E2, hg, hh⟩ := key2
  exact uints_go A l c n a N NX E E2 L w hA hr hL hp hq hg hh
end Go.Proofs.Ytoaeaffgpdohmaa
