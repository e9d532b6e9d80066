/- The walk of a law of layer 5: any samples have the chunk that the document says, or none. -/
import Derived.Test.YtheaebkegncdlaaChLives
namespace Go.Proofs.Ytheaebkegncdlaa
open Go.RowKit Go.Maps
set_option linter.unusedVariables false

theorem chunkEncodes_walk (w : World) (A : Option Addr) (l : List Smp) (c : Nat) (hA : Smps w A l) (hfit : Fits l) (hl : l.length * 16 ≤ 140737488351232) (hlc : l.length ≤ c) :
    Calls Try.prog 3 #[.slice A l.length c] w fun e w' => e = .returned (.bool true) ∧ Below w.heap.size w w' := by
  have HO := Lib.hid (own_law A l c w hA (by omega))
  have HA := Lib.hid (fun W (hW : Below w.heap.size w W) => hA.below hW)
  have HEP := Lib.hid (fun V cc W hV => encode_prog V l cc W hV (by omega))
  have HER := Lib.hid (fun V cc W hV => encode_ref V l cc W hV (by omega))
  have HCP := Lib.hid (fun V cc W hV => chk_prog V l cc W hV (by omega))
  have HCR := Lib.hid (fun V cc W hV => chk_ref V l cc W hV (by omega))
  have HSA := Lib.hid (fun V U cc dd W hV hU => same_smps V U l cc dd W hV hU (by omega))
  generalize (if chk l = 0 then encL l else []) = X at *
  generalize chk l = ck at *
  have q1 : (ck == ck) = true := beq_self_eq_true _
  have q2 : ((txt X).toList == (txt X).toList) = true := beq_self_eq_true _
  clear hA hfit
  go_enter Try.func3, Try.ntmps3
  go_wp2_with fail
  refine HO.out.mono ?_
  rintro e w1 ⟨v1, rfl, hO1, hb1⟩
  obtain ⟨P1, c1, hv1, _, hS1, _⟩ := owns_slice hO1
  subst hv1
  clear hO1 HO
  go_wp2_with fail
  refine (HEP.out P1 c1 _ hS1).mono ?_
  rintro e w2 ⟨v2, rfl, hO2, hb2⟩
  obtain ⟨P2, c2, hv2, hB2, _⟩ := own_slice' hO2
  generalize hX : X.length = nX at *
  have HX := Lib.hid hX
  subst hv2
  have k2 := hb1.trans (hb2.mono hb1.size)
  have hS2 := hS1.below hb2
  clear hX hO2 hb2 hS1
  go_wp2_with fail
  refine (HER.out A c _ (HA.out _ k2)).mono ?_
  rintro e w3 ⟨v3, rfl, ⟨P3, c3, hv3, hB3⟩, hb3⟩
  rw [HX.out] at hv3
  subst hv3
  have k3 := k2.trans (hb3.mono k2.size)
  have hS3 := hS2.below hb3
  have hB23 := hB2.below hb3
  clear hS2 hB2 hb3
  go_wp2_with fail
  refine (HCP.out P1 c1 _ hS3).mono ?_
  rintro e w4 ⟨rfl, hb4⟩
  have k4 := k3.trans (hb4.mono k3.size)
  have hS4 := hS3.below hb4
  have hB24 := hB23.below hb4
  have hB34 := hB3.below hb4
  clear hS3 hB23 hB3 hb4
  go_wp2_with fail
  refine (HCR.out A c _ (HA.out _ k4)).mono ?_
  rintro e w5 ⟨rfl, hb5⟩
  have k5 := k4.trans (hb5.mono k4.size)
  have hS5 := hS4.below hb5
  have x1 : (convert 24 9 (.slice P2 nX c2)).run Try.prog w5 = .ok (.string (txt X)) w5 := by rw [← HX.out]; exact conv_bys _ _ _ _ (hB24.below hb5)
  have x2 : (convert 24 9 (.slice P3 nX c3)).run Try.prog w5 = .ok (.string (txt X)) w5 := by rw [← HX.out]; exact conv_bys _ _ _ _ (hB34.below hb5)
  clear hS4 hB24 hB34 hb5
  go_wp2_with fail
  refine (HSA.out P1 A c1 c _ hS5 (HA.out _ k5)).mono ?_
  rintro e w6 ⟨rfl, hb6⟩
  go_wp2_with fail
  refine (lives_true _).mono ?_
  rintro e w7 ⟨rfl, hb7⟩
  go_wp2_with fail
  go_ret
  exact ⟨rfl, (k5.trans (hb6.mono k5.size)).trans (hb7.mono (Nat.le_trans k5.size hb6.size))⟩
end Go.Proofs.Ytheaebkegncdlaa
