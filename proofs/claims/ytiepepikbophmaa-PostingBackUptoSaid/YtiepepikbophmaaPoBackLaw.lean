/- A list that is laid down is read as it was: a walk of the law. -/
import Derived.Test.YtiepepikbophmaaPoLives
namespace Go.Proofs.Ytiepepikbophmaa
open Go.RowKit Go.Maps
set_option linter.unusedVariables false

theorem postingBack_walk (w : World) (B : Option Addr) (l : List Int) (d : Nat) (hB : Zs w B l) (rl : l.length ≤ 1048576) (hlc : l.length ≤ d)
    (A : Option Addr) (b : List UInt8) (c : Nat) (hA : Bys w A b) (rb : b.length ≤ 1048576) (hbc : b.length ≤ c)
    (M : Option Addr) (more : List UInt8) (cm : Nat) (hM : Bys w M more) (rm : more.length ≤ 1048576) (hmc : more.length ≤ cm) :
    Calls Try.prog 9 #[.slice B l.length d, .slice A b.length c, .slice M more.length cm] w fun e w' => e = .returned (.bool true) ∧ Below w.heap.size w w' := by
  by_cases h : pchk l = 0
  · have HP := Lib.hid (put_yes A B b c l d w hA hB (by omega) h)
    have hp9 := postL_len h
    have hpx := px_of l h b more
    obtain ⟨x, hx⟩ : ∃ x, b ++ postL l = x := ⟨_, rfl⟩
    have hxl : x.length = b.length + (postL l).length := by rw [← hx, List.length_append]
    rw [hx, ← hxl] at hpx
    rw [hx] at HP
    obtain ⟨all, hall⟩ : ∃ all, x ++ more = all := ⟨_, rfl⟩
    have hal : all.length = x.length + more.length := by rw [← hall, List.length_append]
    rw [hall] at hpx
    have hpy : PY all (b.length : Int) l x.length 0 := .inr ⟨b.length, rfl, by omega, hpx⟩
    have HR := Lib.hid (fun P cc W (hP : Bys W P all) (hc : all.length ≤ cc) => read_all hpy P cc W hP hc (by omega))
    have HAL := Lib.hid hall
    have HM := Lib.hid (fun W (h : Below w.heap.size w W) => hM.below h)
    have HBZ := Lib.hid (fun W (h : Below w.heap.size w W) => hB.below h)
    have q1 : ((x.length : Int) == (x.length : Int)) = true := by simp
    have bx : x.length ≤ 1057801 := by omega
    have ba : all.length ≤ 2106377 := by omega
    clear hB hA hM hpx hpy hx hall h hxl hal hp9
    go_enter Try.func9, Try.ntmps9
    go_wp2_with fail
    refine HP.out.mono ?_
    rintro e w1 ⟨v1, rfl, hv1, hb1⟩
    obtain ⟨P1, d1, rfl, hP1, _⟩ := own_slice' hv1
    have HP1 := Lib.hid hP1
    have HB1 := Lib.hid hb1
    clear hv1 hb1 hP1
    go_wp2_with (first
      | (at_builtin; refine app_u8 rfl (.tmp 33) (.tmp 34) rfl w1.heap.size _ [] rfl (own_empty (Row.new w1 _ _) (Nat.le_refl _)) P1 x d1 rfl (HP1.out.alloc _) (by simp only [List.length_nil]; omega) (by simp) ?_; intro v2 w2 hown2 hb2' _; rw [List.nil_append] at hown2; have HO2 := Lib.hid hown2; have HB2 := Lib.hid (((Below.refl _ _).alloc (Nat.le_refl _) _).trans hb2'); clear hown2 hb2')
      | (at_builtin; refine app_u8 rfl (.tmp 35) (.tmp 36) rfl w1.heap.size _ x rfl HO2.out M more cm rfl (HM.out _ (below_then HB1.out HB2.out)) (by omega) HB2.out.size ?_; intro v3 w3 hown3 hb3' _; rw [HAL.out] at hown3; obtain ⟨P3, d3, hv3, hP3, _, hd3, _⟩ := own_cap hown3; subst hv3; have HP3 := Lib.hid hP3; have HB3 := Lib.hid (HB2.out.trans hb3'); clear hown3 hb3' hP3)
      | (go_at_call 32; refine (HR.out _ _ _ HP3.out hd3).mono ?_; rintro e4 w4 ⟨v4, rfl, hv4, hb4⟩; obtain ⟨P4, d4, hv, _, hP4, _⟩ := ownz_slice hv4; subst hv; have HP4 := Lib.hid hP4; have HB4 := Lib.hid (below_then (below_then HB1.out HB3.out) hb4); clear hv4 hb4 hP4)
      | (go_at_call 28; refine (same_yes P4 B l d4 d _ HP4.out (HBZ.out _ HB4.out) (by omega)).mono ?_; rintro e5 w5 ⟨rfl, hb5⟩; have HB5 := Lib.hid (below_then HB4.out hb5); clear hb5)
      | (go_at_call 21; refine (poLives_true _).mono ?_; rintro e6 w6 ⟨rfl, hb6⟩; have HB6 := Lib.hid (below_then HB5.out hb6); clear hb6))
    go_ret
    exact ⟨rfl, HB6.out⟩
  · have HP := Lib.hid (put_no A B b.length c l d w hB (by omega) h)
    have HC := Lib.hid (fun W (hW : Below w.heap.size w W) => check_prog B l d W (hB.below hW) (by omega))
    generalize pchk l = E at *
    have i1 : (E != 0) = true := bne_iff_ne.2 h
    have i2 : (E == 0) = false := beq_eq_false_iff_ne.2 h
    have i3 : (E == E) = true := by simp
    clear hB hA hM h
    go_enter Try.func9, Try.ntmps9
    go_wp2_with fail
    refine HP.out.mono ?_
    rintro e w1 ⟨rfl, hb1⟩
    go_wp2_with fail
    refine (HC.out _ hb1).mono ?_
    rintro e w2 ⟨rfl, rfl⟩
    go_wp2_with fail
    refine (poLives_true _).mono ?_
    rintro e w3 ⟨rfl, hb⟩
    go_wp2
    go_ret
    exact ⟨rfl, below_then hb1 hb⟩
end Go.Proofs.Ytiepepikbophmaa
