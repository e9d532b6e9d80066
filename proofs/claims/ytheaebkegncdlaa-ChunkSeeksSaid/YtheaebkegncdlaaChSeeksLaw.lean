/- The walk of a law of layer 5: ahead of the place that is told all times are below the one that is looked for, from it on none is. -/
import Derived.Test.YtheaebkegncdlaaChSeek
namespace Go.Proofs.Ytheaebkegncdlaa
open Go.RowKit Go.Maps
set_option linter.unusedVariables false

theorem chunkSeeks_walk (w : World) (A : Option Addr) (l : List Smp) (c : Nat) (hA : Smps w A l) (hfit : Fits l) (hl : l.length * 16 ≤ 140737488351232) (hlc : l.length ≤ c) (t : Int) (bt : -9223372036854775808 ≤ t ∧ t ≤ 9223372036854775807) :
    Calls Try.prog 9 #[.slice A l.length c, .int .i64 t] w fun e w' => e = .returned (.bool true) ∧ Below w.heap.size w w' := by
  have HEP := Lib.hid (encode_prog A l c w hA (by omega))
  by_cases h0 : chk l = 0
  · rw [if_pos h0, h0] at HEP
    obtain ⟨l0, l1, hg⟩ := chk_zero.1 h0
    obtain ⟨b, o, rfl, hb, hc⟩ := hA.all l0
    have Hc := Lib.hid (fun W (hW : Below w.heap.size w W) i hi => (show W.cell? ⟨b, o + i * 2, none⟩ = some (.int .i64 (tOf l i)) from (hW.cell (p := ⟨b, o + i * 2, none⟩) hb).trans (hc i hi).1))
    have HSK := Lib.hid (fun V cc W hV => seek_yes (w := W) (A := V) (b := encL l) (c := cc) (l := l) t hV (by have := enc_few h0; omega) h0 rfl)
    generalize encL l = X at *
    clear hA hfit h0 hc hg
    go_enter Try.func9, Try.ntmps9
    go_wp2_with fail
    refine HEP.out.mono ?_
    rintro e w1 ⟨v1, rfl, hO1, hb1⟩
    obtain ⟨P1, c1, hv1, hB1, _⟩ := own_slice' hO1
    subst hv1
    clear hO1
    go_wp2_with fail
    refine (HSK.out P1 c1 _ hB1).mono ?_
    rintro e w2 ⟨⟨k, rfl, hk⟩, hb2⟩
    have HK2 := Lib.hid (hb1.trans (hb2.mono hb1.size))
    have hkl := hk.1
    have HKA := Lib.hid hk.2.1
    have HKB := Lib.hid hk.2.2
    have d1 : decide ((k : Int) < 0) = false := by simp
    have d2 : decide ((l.length : Int) < (k : Int)) = false := by simp; omega
    clear hb2 hB1 hk
    go_wp2_with fail
    go_loopw [9] (fun i wr => ∃ j : Nat, j ≤ l.length ∧ i = .int .i64 (j : Int) ∧ Below w.heap.size w wr) (fun i _ => l.length - (intOf i).toNat)
    case atStart => exact ⟨0, Nat.zero_le _, rfl, HK2.out⟩
    case round =>
      obtain ⟨j, hj, rfl, hbr⟩ := hrel
      by_cases hlt : j < l.length
      · have g0 := Hc.out wr hbr j hlt
        have i2 : (j : Int) < (l.length : Int) := by omega
        by_cases hjk : j < k
        · have e1 : decide (tOf l j < t) = true := decide_eq_true (HKA.out j hjk)
          have e2 : decide ((j : Int) < (k : Int)) = true := by simp; omega
          generalize tOf l j = T at *
          go_wp2_with fail
          go_roundw
          case rel => exact ⟨j + 1, by omega, by go_num, hbr⟩
          case measure => simp [intOf]; omega
        · have e1 : decide (tOf l j < t) = false := decide_eq_false (by have := HKB.out j (by omega) hlt; omega)
          have e2 : decide ((j : Int) < (k : Int)) = false := by simp; omega
          generalize tOf l j = T at *
          go_wp2_with fail
          go_roundw
          case rel => exact ⟨j + 1, by omega, by go_num, hbr⟩
          case measure => simp [intOf]; omega
      · obtain rfl : j = l.length := by omega
        go_wp2_with fail
        refine (lives_true _).mono ?_
        rintro e w7 ⟨rfl, hb7⟩
        go_wp2_with fail
        go_ret
        exact ⟨rfl, hbr.trans (hb7.mono hbr.size)⟩
  · rw [if_neg h0] at HEP
    have hq : (chk l != 0) = true := by rw [bne_iff_ne]; exact h0
    generalize chk l = ck at *
    clear hA hfit h0
    go_enter Try.func9, Try.ntmps9
    go_wp2_with fail
    refine HEP.out.mono ?_
    rintro e w1 ⟨v1, rfl, hO1, hb1⟩
    obtain ⟨P1, c1, hv1, hB1, _⟩ := own_slice' hO1
    rw [List.length_nil] at hv1
    subst hv1
    clear hO1
    go_wp2_with fail
    refine (lives_true _).mono ?_
    rintro e w7 ⟨rfl, hb7⟩
    go_wp2_with fail
    go_ret
    exact ⟨rfl, hb1.trans (hb7.mono hb1.size)⟩
end Go.Proofs.Ytheaebkegncdlaa
