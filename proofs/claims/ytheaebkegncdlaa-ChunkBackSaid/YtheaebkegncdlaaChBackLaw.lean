/- The walk of a law of layer 5: samples that are laid down are read as they were. -/
import Derived.Test.YtheaebkegncdlaaChLives
namespace Go.Proofs.Ytheaebkegncdlaa
open Go.RowKit Go.Maps
set_option linter.unusedVariables false

theorem chunkBack_walk (w : World) (A : Option Addr) (l : List Smp) (c : Nat) (hA : Smps w A l) (hfit : Fits l) (hl : l.length * 16 ≤ 140737488351232) (hlc : l.length ≤ c) :
    Calls Try.prog 6 #[.slice A l.length c] w fun e w' => e = .returned (.bool true) ∧ Below w.heap.size w w' := by
  have HA := Lib.hid (fun W (hW : Below w.heap.size w W) => hA.below hW)
  have HEP := Lib.hid (encode_prog A l c w hA (by omega))
  have HSA := Lib.hid (fun V U cc dd W hV hU => same_smps V U l cc dd W hV hU (by omega))
  by_cases h0 : chk l = 0
  · rw [if_pos h0, h0] at HEP
    have HD := Lib.hid (fun V cc W hV => decode_yes (w := W) (A := V) (b := encL l) (c := cc) (l := l) hV (by have := enc_few h0; omega) h0 rfl)
    generalize encL l = X at *
    clear hA hfit h0
    go_enter Try.func6, Try.ntmps6
    go_wp2_with fail
    refine HEP.out.mono ?_
    rintro e w1 ⟨v1, rfl, hO1, hb1⟩
    obtain ⟨P1, c1, hv1, hB1, _⟩ := own_slice' hO1
    subst hv1
    clear hO1
    go_wp2_with fail
    refine (HD.out P1 c1 _ hB1).mono ?_
    rintro e w2 ⟨v2, rfl, hO2, hb2⟩
    obtain ⟨P2, c2, hv2, _, hS2, _⟩ := owns_slice hO2
    subst hv2
    have k2 := hb1.trans (hb2.mono hb1.size)
    clear hO2 hb2 hB1
    go_wp2_with fail
    refine (HSA.out P2 A c2 c _ hS2 (HA.out _ k2)).mono ?_
    rintro e w6 ⟨rfl, hb6⟩
    go_wp2_with fail
    refine (lives_true _).mono ?_
    rintro e w7 ⟨rfl, hb7⟩
    go_wp2_with fail
    go_ret
    exact ⟨rfl, (k2.trans (hb6.mono k2.size)).trans (hb7.mono (Nat.le_trans k2.size hb6.size))⟩
  · rw [if_neg h0] at HEP
    have hq : (chk l != 0) = true := by rw [bne_iff_ne]; exact h0
    generalize chk l = ck at *
    clear hA hfit h0
    go_enter Try.func6, Try.ntmps6
    go_wp2_with fail
    refine HEP.out.mono ?_
    rintro e w1 ⟨v1, rfl, hO1, hb1⟩
    obtain ⟨P1, c1, hv1, hB1, _⟩ := own_slice' hO1
    rw [List.length_nil] at hv1
    subst hv1
    clear hO1
    go_wp2_with fail
    refine (lives_true _).mono ?_
    rintro e w7 ⟨rfl, hb7⟩
    go_wp2_with fail
    go_ret
    exact ⟨rfl, hb1.trans (hb7.mono hb1.size)⟩
end Go.Proofs.Ytheaebkegncdlaa
