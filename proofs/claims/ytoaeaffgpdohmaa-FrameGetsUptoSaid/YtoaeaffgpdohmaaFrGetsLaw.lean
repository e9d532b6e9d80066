/- The law of frames that are read: a walk of it. -/
import Derived.Test.YtoaeaffgpdohmaaFrKept
import Derived.Test.YtoaeaffgpdohmaaFrAll
namespace Go.Proofs.Ytoaeaffgpdohmaa
open Go.RowKit
set_option linter.unusedVariables false

theorem same_gets (x : ByteArray) : (x.toList != x.toList) = false := by simp
set_option maxHeartbeats 2000000 in
theorem gets_go (A : Option Addr) (l : List UInt8) (c : Nat) (a N E : Int) (x : List UInt8) (xs : List (List UInt8)) (s : Nat) (w : World) (hA : Bys w A l) (hr : l.length ≤ 1048576) (hlc : l.length ≤ c) (hx : x.length ≤ 1048576)
    (hg : ∀ V cc W, Bys W V l → l.length ≤ cc → Calls Try.prog 29 #[.slice V l.length cc, .int .i64 a] W fun e w' => ∃ v, e = .returned (.tuple #[v, .int .i64 N, .int .i64 E]) ∧ Own w' W.heap.size v x ∧ Below W.heap.size W w')
    (hh : ∀ V cc W, Bys W V l → l.length ≤ cc → Calls Try.prog 30 #[.slice V l.length cc, .int .i64 a] W fun e w' => ∃ v, e = .returned (.tuple #[v, .int .i64 N, .int .i64 E]) ∧ Own w' W.heap.size v x ∧ Below W.heap.size W w')
    (haf : AF l 0 xs s) :
    Calls Try.prog 7 #[.slice A l.length c, .int .i64 a] w fun e w' => e = .returned (.bool true) ∧ Below w.heap.size w w' := by
  have hal := af_len haf (by omega)
  have hxl : xs.length ≤ 1048576 := by omega
  have HXS := Lib.hid hal.2.2
  clear hal
  have Hg := Lib.hid hg
  have Hh := Lib.hid hh
  have Haf := Lib.hid haf
  clear hg hh haf
  go_enter Try.func7, Try.ntmps7
  go_wp2_with fail
  refine (lent_law A l c w hA (by omega)).mono ?_
  rintro e w1 ⟨G, cap, rfl, hG, hcap, hmax, hGw, hb1⟩
  go_wp2_with fail
  refine (Hg.out (some ⟨G, 0, none⟩) cap w1 (bys_front hG) (by omega)).mono ?_
  rintro e w2 ⟨v2, rfl, hown2, hb2⟩
  obtain ⟨B2, d2, rfl, hB2, _⟩ := own_slice' hown2
  have HO2 := Lib.hid hown2
  have hbw2 := below_then hb1 hb2
  have hG2 := hG.below hb2
  have hs1 := hb1.size
  have hs2 := hb2.size
  clear hown2
  go_wp2_with fail
  refine (Hh.out A c w2 (hA.below hbw2) hlc).mono ?_
  rintro e w3 ⟨v3, rfl, hown3, hb3⟩
  obtain ⟨B3, d3, rfl, hB3, _⟩ := own_slice' hown3
  have hbw3 := below_then hbw2 hb3
  have hG3 := hG2.below hb3
  have hs3 := hb3.size
  clear hown3
  go_wp2_with fail
  refine (all_prog (some ⟨G, 0, none⟩) l cap xs s w3 (bys_front hG3) (by omega) (by omega) Haf.out).mono ?_
  rintro e w4 ⟨v4, vs4, rfl, hF4, hb4⟩
  obtain ⟨B4, d4, hv4, _⟩ := ownV_slice hF4.row
  rw [hF4.len] at hv4
  subst hv4
  have HF4 := Lib.hid hF4
  have hbw4 := below_then hbw3 hb4
  have hs4 := hb4.size
  clear hF4
  go_wp2_with fail
  refine (all_ref A l c xs s w4 (hA.below hbw4) hlc (by omega) Haf.out).mono ?_
  rintro e w5 ⟨v5, vs5, rfl, hF5, hb5⟩
  obtain ⟨B5, d5, hv5, _⟩ := ownV_slice hF5.row
  rw [hF5.len] at hv5
  subst hv5
  have HF5 := Lib.hid hF5
  have hbw5 := below_then hbw4 hb5
  have hs5 := hb5.size
  have c1 := conv_bys w5 B2 x d2 ((hB2.below hb3).below (hb4.trans (hb5.mono hs4)))
  have c2 := conv_bys w5 B3 x d3 (hB3.below (hb4.trans (hb5.mono hs4)))
  have q := same_gets (txt x)
  clear hF5
  go_wp2_with fail
  refine (same_ref _ _ _ _ vs4 vs5 xs w5 (HF4.out.below hb5) HF5.out (by omega)).mono ?_
  rintro e w6 ⟨rfl, hb6⟩
  have hb56 : Below w4.heap.size w4 w6 := hb5.trans (hb6.mono hs5)
  have hF6 := HF4.out.below hb56
  have hb36 : Below w3.heap.size w3 w6 := hb4.trans (hb56.mono hs4)
  have hb26 : Below w2.heap.size w2 w6 := hb3.trans (hb36.mono hs3)
  have hbw6 : Below w.heap.size w w6 := hbw2.trans (hb26.mono (by omega))
  have hs6 := hb6.size
  clear c1 c2
  have hO6 := own_below HO2.out hb26
  go_wp2_with fail
  refine (spoil_law _ x w1.heap.size w6 hO6 (by omega)).mono ?_
  rintro e w7 ⟨rfl, hg7, _, hb7⟩
  have hF7 : Fs w7 w3.heap.size (.slice B4 xs.length d4) vs4 xs := hF6.grown_low hg7 (fun k hk => by
    have := (World.ownsRow.lt HO2.out _ hk).2
    omega)
  have hb17 : Below w1.heap.size w1 w7 := (hb2.trans (hb26.mono hs2)).trans hb7
  have HG1 := Lib.hid hG
  have hbw7 : Below w.heap.size w w7 := hb1.trans (hb17.mono hs1)
  have hb37 : w3.heap.size ≤ w7.heap.size := by have := hb36.size; have := hb7.size; omega
  have HF7 := Lib.hid hF7
  have hn : xs.length = vs4.length := hF7.len.symm
  have Hn := Lib.hid hn
  clear hF6 hF7 hg7 hG hG2 hG3 hO6 hn
  go_wp2_with fail
  go_loopw [16] (fun i wr => ∃ k : Nat, k ≤ xs.length ∧ i = .int .i64 k ∧ OwnV wr w3.heap.size (.slice B4 xs.length d4) vs4 ∧ (∀ j, k ≤ j → j < xs.length → ∃ y, y.length ≤ l.length ∧ Own wr w3.heap.size (vs4.getD j undef) y) ∧ Below w3.heap.size w7 wr) (fun i _ => xs.length - (intOf i).toNat)
  case atStart => exact ⟨0, Nat.zero_le _, rfl, HF7.out.row, fun j _ hj => ⟨xs.getD j [], HXS.out _ (by rw [getD_in xs [] hj]; exact List.getElem_mem hj), HF7.out.each j hj⟩, Below.refl _ _⟩
  case round =>
    obtain ⟨k, hk, rfl, hV, hE, hbr⟩ := hrel
    have HV := Lib.hid hV
    have HE := Lib.hid hE
    have hsr := hbr.size
    by_cases hlt : k < xs.length
    · obtain ⟨y, hyl, hy⟩ := hE k (Nat.le_refl _) hlt
      obtain ⟨g, cg, f1, _, _, _, hc⟩ := ownV_form hV (by have := Hn.out; omega)
      have hx0 := hc k (by have := Hn.out; omega)
      have HY := Lib.hid hy
      obtain ⟨By, dy, hvy, _⟩ := own_slice' hy
      have HVY := Lib.hid hvy
      rw [hvy] at hx0
      have HS := spoil_law _ y w3.heap.size wr hy (by omega)
      rw [hvy] at HS
      have HSS := Lib.hid HS
      simp only [Value.slice.injEq] at f1
      obtain ⟨rfl, f9, rfl⟩ := f1
      clear f9
      generalize y.length = ny at *
      clear hy hvy HS hc hV hE
      go_wp2_with fail
      refine HSS.out.mono ?_
      rintro e w8 ⟨rfl, hg8, _, hb8⟩
      have HG8 := Lib.hid hg8
      clear hg8
      go_wp2
      go_roundw
      case rel =>
        refine ⟨k + 1, by omega, by go_num, ownV_grown HV.out HG8.out ?_, fun j hj1 hj2 => ?_, hbr.trans hb8⟩
        · intro m hm e
          rw [← HVY.out] at e
          exact own_apart HY.out HV.out m e.symm hm
        · obtain ⟨y2, h2, h3⟩ := HE.out j (by omega) hj2
          refine ⟨y2, h2, own_grown h3 HG8.out ?_⟩
          intro m hm e
          rw [← HVY.out] at e
          exact HF7.out.apart k j (by omega) hj2 m e.symm hm
      case measure => simp [intOf]; omega
    · have hG9 := HG1.out.below (hb17.trans (hbr.mono (by omega)))
      · have hbw9 : Below w.heap.size w wr := hbw7.trans (hbr.mono (by omega))
        clear hV hE
        go_wp2_with fail
        refine (kept_law A l c G cap wr (hA.below hbw9) hG9 hcap (by omega)).mono ?_
        rintro e w10 ⟨rfl, hb10⟩
        go_wp2_with fail
        refine (lives_true w10).mono ?_
        rintro e w11 ⟨rfl, hb11⟩
        go_wp2
        go_ret
        exact ⟨rfl, below_then (below_then hbw9 hb10) hb11⟩

theorem frameGets_walk (w : World) (A : Option Addr) (l : List UInt8) (c : Nat) (hA : Bys w A l) (hr : l.length ≤ 1048576) (hlc : l.length ≤ c)
    (a : Int) (ba : -9223372036854775808 ≤ a ∧ a ≤ 9223372036854775807) :
    Calls Try.prog 7 #[.slice A l.length c, .int .i64 a] w fun e w' => e = .returned (.bool true) ∧ Below w.heap.size w w' := by
  obtain ⟨xs, s, haf⟩ := af_total l l.length 0 (by omega) (by omega)
  by_cases h : a < 0 ∨ (l.length : Int) < a
  · refine gets_go A l c a 0 2 [] xs s w hA hr hlc (by simp) (fun V cc W hV hc => ?_) (fun V cc W hV hc => ?_) haf
    · refine (get_bad V l cc a W h).mono ?_
      rintro e w' ⟨rfl, rfl⟩
      exact ⟨_, rfl, own_nil _ _, Below.refl _ _⟩
    · refine (getref_bad V l cc a W h).mono ?_
      rintro e w' ⟨rfl, rfl⟩
      exact ⟨_, rfl, own_nil _ _, Below.refl _ _⟩
  · obtain ⟨k, rfl⟩ := Int.eq_ofNat_of_zero_le (a := a) (by omega)
    obtain ⟨x, n, e, hg⟩ := fg_total l k
    have hx : x.length ≤ 1048576 := by
      by_cases he : e = 0
      · have := fg_next hg he
        omega
      · rw [(fg_none hg he).1]
        simp
    exact gets_go A l c k n e x xs s w hA hr hlc hx (fun V cc W hV hc => get_prog V l cc k x n e W hV hc (by omega) (by omega) hg) (fun V cc W hV hc => getref_prog V l cc k x n e W hV hc (by omega) (by omega) hg) haf
end Go.Proofs.Ytoaeaffgpdohmaa
