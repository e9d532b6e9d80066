/- The walk of a law of layer 5: any bytes are the samples that the document says, or no chunk; their bounds, and where a time stands. -/
import Derived.Test.YtheaebkegncdlaaChAppendRef
namespace Go.Proofs.Ytheaebkegncdlaa
open Go.RowKit Go.Maps
set_option linter.unusedVariables false

set_option maxHeartbeats 2000000 in
theorem chunkDecodes_walk (w : World) (A : Option Addr) (b : List UInt8) (c : Nat) (hA : Bys w A b) (hl : b.length ≤ 140737488351232) (hlc : b.length ≤ c) (t : Int) (bt : -9223372036854775808 ≤ t ∧ t ≤ 9223372036854775807) :
    Calls Try.prog 4 #[.slice A b.length c, .int .i64 t] w fun e w' => e = .returned (.bool true) ∧ Below w.heap.size w w' := by
  have HA := Lib.hid (fun W (hW : Below w.heap.size w W) => hA.below hW)
  have hR : Row (w.alloc (.cells #[] 5)) w.heap.size 5 #[] := Row.new w _ _
  have HO := Lib.hid (own_empty hR (Nat.le_refl _))
  have hA1 := hA.alloc (.cells #[] 5)
  have hW1 := below_one w (.cells #[] 5)
  have hs1 := hW1.size
  have q2 : ((txt b).toList != (txt b).toList) = false := bne_self_eq_false _
  have q3 : ((txt b).toList == (txt b).toList) = true := beq_self_eq_true _
  have hlz : ([] : List UInt8).length + b.length ≤ 211106232532992 := by simp; omega
  clear hA hR
  rcases chunk_or b with ⟨l, h0, he⟩ | hno
  · obtain ⟨l0, l120, hg⟩ := chk_zero.1 h0
    have HD := Lib.hid (fun V cc W hV => decode_yes (w := W) (A := V) (b := b) (c := cc) (l := l) hV (by omega) h0 he)
    have HDR := Lib.hid (fun V cc W hV => dref_yes (w := W) (A := V) (b := b) (c := cc) (l := l) hV (by omega) h0 he)
    have HBN := Lib.hid (fun V cc W hV => bounds_yes (w := W) (A := V) (b := b) (c := cc) (l := l) hV (by omega) h0 he)
    have HSK := Lib.hid (fun V cc W hV => seek_yes (w := W) (A := V) (b := b) (c := cc) (l := l) t hV (by omega) h0 he)
    have HSA := Lib.hid (fun V U cc dd W hV hU => same_smps V U l cc dd W hV hU (by omega))
    have HSR := Lib.hid (fun V cc W hV => seek_ref (w := W) (A := V) (l := l) (c := cc) t hV hg l120)
    have i0 : (0 : Int) < (l.length : Int) := by omega
    have hj : (l.length : Int) - 1 = ((l.length - 1 : Nat) : Int) := by omega
    have hjl : ((l.length - 1 : Nat) : Int) < (l.length : Int) := by omega
    have HJ := Lib.hid (show l.length - 1 < l.length by omega)
    have HL := Lib.hid l0
    clear h0 he hg
    go_enter Try.func4, Try.ntmps4
    go_wp2_with (at_builtin; refine app_u8 rfl (.tmp 16) (.tmp 17) rfl w.heap.size _ [] rfl HO.out A b c rfl hA1 hlz hs1 ?_; intro v1 w1 hO1 hb1 _; rw [List.nil_append] at hO1; obtain ⟨P1, c1, hv1, hB1, _⟩ := own_slice' hO1; have HB1 := Lib.hid hB1; have HW1 := Lib.hid (hW1.trans hb1); subst hv1; clear hO1 hb1 hB1)
    refine (HD.out P1 c1 _ HB1.out).mono ?_
    rintro e w2 ⟨v2, rfl, hO2, hb2⟩
    obtain ⟨P2, c2, hv2, _, hS2, _⟩ := owns_slice hO2
    subst hv2
    have HW2 := Lib.hid (HW1.out.trans (hb2.mono HW1.out.size))
    have HB2 := Lib.hid (HB1.out.below hb2)
    clear hO2 hb2
    go_wp2_with fail
    refine (HDR.out A c _ (HA.out _ HW2.out)).mono ?_
    rintro e w3 ⟨v3, rfl, hO3, hb3⟩
    obtain ⟨P3, c3, hv3, _, hS3, _⟩ := owns_slice hO3
    subst hv3
    have HW3 := Lib.hid (HW2.out.trans (hb3.mono HW2.out.size))
    have HB3 := Lib.hid (HB2.out.below hb3)
    have HS23 := Lib.hid (hS2.below hb3)
    have HS3 := Lib.hid hS3
    clear hO3 hb3 hS2 hS3
    go_wp2_with fail
    refine (HBN.out P1 c1 _ HB3.out).mono ?_
    rintro e w4 ⟨rfl, hb4⟩
    have HW4 := Lib.hid (HW3.out.trans (hb4.mono HW3.out.size))
    have HB4 := Lib.hid (HB3.out.below hb4)
    have HS24 := Lib.hid (HS23.out.below hb4)
    have HS34 := Lib.hid (HS3.out.below hb4)
    clear hb4
    go_wp2_with fail
    refine (HSK.out P1 c1 _ HB4.out).mono ?_
    rintro e w5 ⟨⟨k, rfl, hk⟩, hb5⟩
    have HW5 := Lib.hid (HW4.out.trans (hb5.mono HW4.out.size))
    have HB5 := Lib.hid (HB4.out.below hb5)
    have HS25 := Lib.hid (HS24.out.below hb5)
    have HS35 := Lib.hid (HS34.out.below hb5)
    have HK := Lib.hid hk
    clear hb5 hk
    go_wp2_with fail
    refine (HSA.out P2 P3 c2 c3 _ HS25.out HS35.out).mono ?_
    rintro e w6 ⟨rfl, hb6⟩
    have HW6 := Lib.hid (HW5.out.trans (hb6.mono HW5.out.size))
    have HS36 := Lib.hid (HS35.out.below hb6)
    have x1 : (convert 24 9 (.slice P1 b.length c1)).run Try.prog w6 = .ok (.string (txt b)) w6 := conv_bys _ _ _ _ (HB5.out.below hb6)
    have x2 : (convert 24 9 (.slice A b.length c)).run Try.prog w6 = .ok (.string (txt b)) w6 := conv_bys _ _ _ _ (HA.out _ HW6.out)
    have hS36 := HS36.out
    obtain ⟨bb, oo, rfl, hbb, hcc⟩ := hS36.all HL.out
    have g0 := (hcc 0 HL.out).1
    have g1 := (hcc (l.length - 1) HJ.out).1
    rw [Nat.zero_mul, Nat.add_zero] at g0
    have HSS := Lib.hid (HSR.out (some ⟨bb, oo, none⟩) c3 w6 HS36.out)
    generalize tOf l 0 = T0 at *
    generalize tOf l (l.length - 1) = T1 at *
    generalize l.length - 1 = j at *
    have wrj : IntKind.i64.wrap ((l.length : Int) - 1) = (j : Int) := by rw [hj]; exact IntWalk.i64_in _ (by omega)
    have wrjj : IntKind.i64.wrap (j : Int) = (j : Int) := IntWalk.i64_in _ (by omega)
    have r0 : (T0 == T0) = true := beq_self_eq_true _
    have r1 : (T1 == T1) = true := beq_self_eq_true _
    clear hb6 hS36 hcc HJ
    go_wp2_with fail
    refine HSS.out.mono ?_
    rintro e w7 ⟨⟨m, rfl, hm⟩, rfl⟩
    have hkm := place_one HK.out hm
    subst hkm
    clear hm
    go_wp2_with fail
    refine (lives_true _).mono ?_
    rintro e w8 ⟨rfl, hb8⟩
    go_wp2_with fail
    go_ret
    exact ⟨rfl, HW6.out.trans (hb8.mono HW6.out.size)⟩
  · have HD := Lib.hid (fun V cc W hV => decode_no (w := W) (A := V) (b := b) (c := cc) hV (by omega) hno)
    have HDR := Lib.hid (fun V cc W hV => dref_no (w := W) (A := V) (b := b) (c := cc) hV (by omega) hno)
    have HBN := Lib.hid (fun V cc W hV => bounds_no (w := W) (A := V) (b := b) (c := cc) hV (by omega) hno)
    have HSK := Lib.hid (fun V cc W hV => seek_no (w := W) (A := V) (b := b) (c := cc) t hV (by omega) hno)
    clear hno
    go_enter Try.func4, Try.ntmps4
    go_wp2_with (at_builtin; refine app_u8 rfl (.tmp 16) (.tmp 17) rfl w.heap.size _ [] rfl HO.out A b c rfl hA1 hlz hs1 ?_; intro v1 w1 hO1 hb1 _; rw [List.nil_append] at hO1; obtain ⟨P1, c1, hv1, hB1, _⟩ := own_slice' hO1; have HB1 := Lib.hid hB1; have HW1 := Lib.hid (hW1.trans hb1); subst hv1; clear hO1 hb1 hB1)
    refine (HD.out P1 c1 _ HB1.out).mono ?_
    rintro e w2 ⟨rfl, hb2⟩
    have HW2 := Lib.hid (HW1.out.trans (hb2.mono HW1.out.size))
    have HB2 := Lib.hid (HB1.out.below hb2)
    clear hb2
    go_wp2_with fail
    refine (HDR.out A c _ (HA.out _ HW2.out)).mono ?_
    rintro e w3 ⟨rfl, hb3⟩
    have HW3 := Lib.hid (HW2.out.trans (hb3.mono HW2.out.size))
    have HB3 := Lib.hid (HB2.out.below hb3)
    clear hb3
    go_wp2_with fail
    refine (HBN.out P1 c1 _ HB3.out).mono ?_
    rintro e w4 ⟨rfl, hb4⟩
    have HW4 := Lib.hid (HW3.out.trans (hb4.mono HW3.out.size))
    have HB4 := Lib.hid (HB3.out.below hb4)
    clear hb4
    go_wp2_with fail
    refine (HSK.out P1 c1 _ HB4.out).mono ?_
    rintro e w5 ⟨rfl, hb5⟩
    have HW5 := Lib.hid (HW4.out.trans (hb5.mono HW4.out.size))
    have HB5 := Lib.hid (HB4.out.below hb5)
    have HSN := Lib.hid (same_smps none none [] 0 0 w5 (Smps.nil _ _) (Smps.nil _ _) (by simp))
    clear hb5
    go_wp2_with fail
    refine HSN.out.mono ?_
    rintro e w6 ⟨rfl, hb6⟩
    have HW6 := Lib.hid (HW5.out.trans (hb6.mono HW5.out.size))
    have x1 : (convert 24 9 (.slice P1 b.length c1)).run Try.prog w6 = .ok (.string (txt b)) w6 := conv_bys _ _ _ _ (HB5.out.below hb6)
    have x2 : (convert 24 9 (.slice A b.length c)).run Try.prog w6 = .ok (.string (txt b)) w6 := conv_bys _ _ _ _ (HA.out _ HW6.out)
    clear hb6
    go_wp2_with fail
    refine (lives_true _).mono ?_
    rintro e w8 ⟨rfl, hb8⟩
    go_wp2_with fail
    go_ret
    exact ⟨rfl, HW6.out.trans (hb8.mono HW6.out.size)⟩
end Go.Proofs.Ytheaebkegncdlaa
