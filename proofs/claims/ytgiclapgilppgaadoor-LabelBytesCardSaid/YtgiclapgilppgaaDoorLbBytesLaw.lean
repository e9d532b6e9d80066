/- LabelBytes' walk. -/
import Derived.Test.YtgiclapgilppgaaDoorLbLives
import Derived.Test.YtgiclapgilppgaaDoorLbCmp2
import Derived.Test.YtgiclapgilppgaaDoorLbReadRef
namespace Go.Proofs.YtgiclapgilppgaaDoor
open Go.RowKit Go.Maps
set_option linter.unusedVariables false

theorem put_both (B : Option Addr) (b : List UInt8) (l : List Lbl) (d : Nat) (hb : b.length ≤ 140737488351232) (hl : l.length ≤ 100000000000000) (hf : LFits l) :
    ∃ (L : List UInt8) (E : Int), (∀ V cc W, Bys W V b → Lbls W B l → Calls Tryd.prog 30 #[.slice V b.length cc, .slice B l.length d] W fun e w' => ∃ v, e = .returned (.tuple #[v, .int .i64 E]) ∧ Own w' W.heap.size v L ∧ Below W.heap.size W w') ∧
      (∀ V cc W, Bys W V b → Lbls W B l → Calls Tryd.prog 31 #[.slice V b.length cc, .slice B l.length d] W fun e w' => ∃ v, e = .returned (.tuple #[v, .int .i64 E]) ∧ Own w' W.heap.size v L ∧ Below W.heap.size W w') := by
  by_cases h : lbChk l = 0
  · exact ⟨b ++ bytesL l, 0, fun V cc W hV hB => put_yes V B b cc l d W hV hB (by omega) h, fun V cc W hV hB => put_ref_yes V B b cc l d W hV hB (by omega) hf h⟩
  · refine ⟨[], lbChk l, fun V cc W hV hB => ?_, fun V cc W hV hB => ?_⟩
    · refine (put_no V B b.length cc l d W hB hl h).mono ?_
      rintro e w' ⟨rfl, hb⟩
      exact ⟨_, rfl, own_nil _ _, hb⟩
    · refine (put_ref_no V B b.length cc l d W hB hl hf h).mono ?_
      rintro e w' ⟨rfl, hb⟩
      exact ⟨_, rfl, own_nil _ _, hb⟩
theorem read_both (b : List UInt8) (a : Int) (hb : b.length ≤ 140737488351232) :
    ∃ (LS : List Lbl) (P E : Int), LS.length ≤ 8 ∧ (∀ V cc W, Bys W V b → b.length ≤ cc → Calls Tryd.prog 32 #[.slice V b.length cc, .int .i64 a] W fun e w' => ∃ v, e = .returned (.tuple #[v, .int .i64 P, .int .i64 E]) ∧ OwnL w' W.heap.size v LS ∧ Below W.heap.size W w') ∧
      (∀ V cc W, Bys W V b → b.length ≤ cc → Calls Tryd.prog 33 #[.slice V b.length cc, .int .i64 a] W fun e w' => ∃ v, e = .returned (.tuple #[v, .int .i64 P, .int .i64 E]) ∧ OwnL w' W.heap.size v LS ∧ Below W.heap.size W w') := by
  obtain ⟨n, nx, e0, hg⟩ := gx_total b a
  by_cases he : e0 = 0
  · subst he
    by_cases hn : 8 < n
    · refine ⟨[], 0, 3, by simp, fun V cc W hV hc => ?_, fun V cc W hV hc => ?_⟩
      · refine (read_big hg hn V cc W hV hc (by omega)).mono ?_
        rintro e w' ⟨rfl, hb⟩
        exact ⟨_, rfl, ownl_nil _ _, hb⟩
      · refine (read_ref_big hg hn V cc W hV hc (by omega)).mono ?_
        rintro e w' ⟨rfl, hb⟩
        exact ⟨_, rfl, ownl_nil _ _, hb⟩
    · obtain ⟨LS, P, E, hr⟩ := rl_total b n nx
      by_cases hE : E = 0
      · by_cases hX : lbChk LS = 0
        · refine ⟨LS, P, 0, by have := (rl_size hr).2; omega, fun V cc W hV hc => ?_, fun V cc W hV hc => ?_⟩
          · refine (read_told hg (by omega) hr V cc W hV hc (by omega)).mono ?_
            rintro e w' ⟨hb, ⟨h, _⟩ | ⟨_, h, _⟩ | ⟨_, _, v, rfl, hv⟩⟩
            · exact absurd hE h
            · exact absurd hX h
            · exact ⟨v, rfl, hv, hb⟩
          · refine (read_ref_told hg (by omega) hr V cc W hV hc (by omega)).mono ?_
            rintro e w' ⟨hb, ⟨h, _⟩ | ⟨_, h, _⟩ | ⟨_, _, v, rfl, hv⟩⟩
            · exact absurd hE h
            · exact absurd hX h
            · exact ⟨v, rfl, hv, hb⟩
        · refine ⟨[], 0, 5, by simp, fun V cc W hV hc => ?_, fun V cc W hV hc => ?_⟩
          · refine (read_told hg (by omega) hr V cc W hV hc (by omega)).mono ?_
            rintro e w' ⟨hb, ⟨h, _⟩ | ⟨_, _, rfl⟩ | ⟨_, h, _⟩⟩
            · exact absurd hE h
            · exact ⟨_, rfl, ownl_nil _ _, hb⟩
            · exact absurd h hX
          · refine (read_ref_told hg (by omega) hr V cc W hV hc (by omega)).mono ?_
            rintro e w' ⟨hb, ⟨h, _⟩ | ⟨_, _, rfl⟩ | ⟨_, h, _⟩⟩
            · exact absurd hE h
            · exact ⟨_, rfl, ownl_nil _ _, hb⟩
            · exact absurd h hX
      · refine ⟨[], 0, E, by simp, fun V cc W hV hc => ?_, fun V cc W hV hc => ?_⟩
        · refine (read_told hg (by omega) hr V cc W hV hc (by omega)).mono ?_
          rintro e w' ⟨hb, ⟨_, rfl⟩ | ⟨h, _⟩ | ⟨h, _⟩⟩
          · exact ⟨_, rfl, ownl_nil _ _, hb⟩
          · exact absurd h hE
          · exact absurd h hE
        · refine (read_ref_told hg (by omega) hr V cc W hV hc (by omega)).mono ?_
          rintro e w' ⟨hb, ⟨_, rfl⟩ | ⟨h, _⟩ | ⟨h, _⟩⟩
          · exact ⟨_, rfl, ownl_nil _ _, hb⟩
          · exact absurd h hE
          · exact absurd h hE
  · refine ⟨[], 0, e0, by simp, fun V cc W hV hc => ?_, fun V cc W hV hc => ?_⟩
    · refine (read_no hg he V cc W hV hc (by omega)).mono ?_
      rintro e w' ⟨rfl, hb⟩
      exact ⟨_, rfl, ownl_nil _ _, hb⟩
    · refine (read_ref_no hg he V cc W hV hc (by omega)).mono ?_
      rintro e w' ⟨rfl, hb⟩
      exact ⟨_, rfl, ownl_nil _ _, hb⟩
set_option maxHeartbeats 1000000 in
theorem labelBytes_walk (w : World) (A : Option Addr) (b : List UInt8) (c : Nat) (hA : Bys w A b) (hb : b.length ≤ 140737488351232) (hbc : b.length ≤ c)
    (B : Option Addr) (l : List Lbl) (d : Nat) (hB : Lbls w B l) (hf : LFits l) (hr : l.length * 32 ≤ 140737488351232) (hld : l.length ≤ d) (a : Int) (ha : -9223372036854775808 ≤ a ∧ a ≤ 9223372036854775807) :
    Calls Tryd.prog 7 #[.slice A b.length c, .slice B l.length d, .int .i64 a] w fun e w' => e = .returned (.bool true) ∧ Below w.heap.size w w' := by
  obtain ⟨L, E, hp, hq⟩ := put_both B b l d hb (by omega) hf
  obtain ⟨LS, P, E2, hls, hg, hh⟩ := read_both b a hb
  have HP := Lib.hid hp
  have HQ := Lib.hid hq
  have HG := Lib.hid hg
  have HH := Lib.hid hh
  have HA := Lib.hid hA
  have HB := Lib.hid hB
  have q1 : ((txt L).toList == (txt L).toList) = true := beq_self_eq_true _
  have q2 : (E == E) = true := beq_self_eq_true _
  have q3 : (P == P) = true := beq_self_eq_true _
  have q4 : (E2 == E2) = true := beq_self_eq_true _
  clear hp hq hg hh hA hB hf
  go_enter Tryd.func7, Tryd.ntmps7
  go_upto_region 5 with (first
    | (at_builtin; refine app_u8 rfl (.tmp 18) (.tmp 19) rfl w.heap.size _ [] rfl (own_empty (Row.new _ _ _) (Nat.le_refl _)) A b c rfl (HA.out.alloc _) (by simp only [List.length_nil]; omega) (by simp) ?_; intro v1 w1 hown1 hb1' _; rw [List.nil_append] at hown1; obtain ⟨P1, d1, hv1, hP1, _⟩ := own_slice' hown1; subst hv1; have HP1 := Lib.hid hP1; have HB1 := Lib.hid ((below_one w (.cells #[] 5)).trans hb1'); clear hown1 hb1' hP1)
    | (go_at_call 30; refine (HP.out _ _ _ HP1.out (HB.out.below HB1.out)).mono ?_; rintro e w2 ⟨v2, rfl, ho2, hb2⟩; obtain ⟨P2, d2, hv2, hP2, _⟩ := own_slice' ho2; subst hv2; have HP2 := Lib.hid hP2; have HB2 := Lib.hid (HB1.out.trans (hb2.mono HB1.out.size)); clear ho2 hb2 hP2)
    | (go_at_call 31; refine (HQ.out _ _ _ (HA.out.below HB2.out) (HB.out.below HB2.out)).mono ?_; rintro e w3 ⟨v3, rfl, ho3, hb3⟩; obtain ⟨P3, d3, hv3, hP3, _⟩ := own_slice' ho3; subst hv3; have HP3 := Lib.hid hP3; have HP23 := Lib.hid (HP2.out.below hb3); have HB3 := Lib.hid (HB2.out.trans (hb3.mono HB2.out.size)); clear ho3 hb3 hP3)
    | (go_at_call 32; refine (HG.out _ _ _ (HA.out.below HB3.out) hbc).mono ?_; rintro e w4 ⟨v4, rfl, ho4, hb4⟩; obtain ⟨P4, d4, hv4, _, hL4, _⟩ := ownl_slice ho4; subst hv4; have HL4 := Lib.hid hL4; have HP34 := Lib.hid (HP3.out.below hb4); have HP24 := Lib.hid (HP23.out.below hb4); have HB4 := Lib.hid (HB3.out.trans (hb4.mono HB3.out.size)); clear ho4 hb4 hL4)
    | (go_at_call 33; refine (HH.out _ _ _ (HA.out.below HB4.out) hbc).mono ?_; rintro e w5 ⟨v5, rfl, ho5, hb5⟩; obtain ⟨P5, d5, hv5, _, hL5, _⟩ := ownl_slice ho5; subst hv5; have HL5 := Lib.hid hL5; have HL45 := Lib.hid (HL4.out.below hb5); have c3 := conv_bys w5 P3 L d3 (HP34.out.below hb5); have c2 := conv_bys w5 P2 L d2 (HP24.out.below hb5); have HB5 := Lib.hid (HB4.out.trans (hb5.mono HB4.out.size)); clear ho5 hb5 hL5))
  have HS := Lib.hid (same_ref P4 P5 LS LS d4 d5 w5 HL45.out HL5.out (by omega) (by omega))
  rw [show decide (LS = LS) = true from decide_eq_true rfl] at HS
  go_wp2_with (first
    | (go_at_call 19; refine HS.out.mono ?_; rintro e w6 ⟨rfl, hb6⟩; have HB6 := Lib.hid (HB5.out.trans (hb6.mono HB5.out.size)); clear hb6)
    | (go_at_call 15; refine (lives_true _).mono ?_; rintro e w7 ⟨rfl, hb7⟩; have HB7 := Lib.hid (HB6.out.trans (hb7.mono HB6.out.size)); clear hb7))
  go_ret
  exact ⟨rfl, HB7.out⟩
end Go.Proofs.YtgiclapgilppgaaDoor
