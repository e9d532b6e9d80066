/- The walk of a law of layer 5: bytes that are read as samples are just those that are laid down for them. -/
import Derived.Test.YtheaebkegncdlaaChLives
namespace Go.Proofs.Ytheaebkegncdlaa
open Go.RowKit Go.Maps
set_option linter.unusedVariables false

theorem chunkOne_walk (w : World) (A : Option Addr) (b : List UInt8) (c : Nat) (hA : Bys w A b) (hl : b.length ≤ 140737488351232) (hlc : b.length ≤ c) :
    Calls Try.prog 7 #[.slice A b.length c] w fun e w' => e = .returned (.bool true) ∧ Below w.heap.size w w' := by
  have HA := Lib.hid (fun W (hW : Below w.heap.size w W) => hA.below hW)
  rcases chunk_or b with ⟨l, h0, he⟩ | hno
  · have HD := Lib.hid (decode_yes (c := c) hA (by omega) h0 he)
    have hl120 := (chk_zero.1 h0).2.1
    have HEP := Lib.hid (fun V cc W hV => by have := encode_prog V l cc W hV (by omega); rw [if_pos h0, h0, he] at this; exact this)
    have q2 : ((txt b).toList == (txt b).toList) = true := beq_self_eq_true _
    clear hA h0 he hl120
    go_enter Try.func7, Try.ntmps7
    go_wp2_with fail
    refine HD.out.mono ?_
    rintro e w1 ⟨v1, rfl, hO1, hb1⟩
    obtain ⟨P1, c1, hv1, _, hS1, _⟩ := owns_slice hO1
    subst hv1
    clear hO1
    go_wp2_with fail
    refine (HEP.out P1 c1 _ hS1).mono ?_
    rintro e w2 ⟨v2, rfl, hO2, hb2⟩
    obtain ⟨P2, c2, hv2, hB2, _⟩ := own_slice' hO2
    subst hv2
    have k2 := hb1.trans (hb2.mono hb1.size)
    have x1 : (convert 24 9 (.slice P2 b.length c2)).run Try.prog w2 = .ok (.string (txt b)) w2 := conv_bys _ _ _ _ hB2
    have x2 : (convert 24 9 (.slice A b.length c)).run Try.prog w2 = .ok (.string (txt b)) w2 := conv_bys _ _ _ _ (HA.out _ k2)
    clear hO2 hb2 hB2 hS1
    go_wp2_with fail
    refine (lives_true _).mono ?_
    rintro e w7 ⟨rfl, hb7⟩
    go_wp2_with fail
    go_ret
    exact ⟨rfl, k2.trans (hb7.mono k2.size)⟩
  · have HD := Lib.hid (decode_no (c := c) hA (by omega) hno)
    clear hA hno
    go_enter Try.func7, Try.ntmps7
    go_wp2_with fail
    refine HD.out.mono ?_
    rintro e w1 ⟨rfl, hb1⟩
    go_wp2_with fail
    refine (lives_true _).mono ?_
    rintro e w7 ⟨rfl, hb7⟩
    go_wp2_with fail
    go_ret
    exact ⟨rfl, hb1.trans (hb7.mono hb1.size)⟩
end Go.Proofs.Ytheaebkegncdlaa
