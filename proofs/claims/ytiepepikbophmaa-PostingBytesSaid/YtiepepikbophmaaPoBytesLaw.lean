/- A list laid behind bytes, and one read: a walk of the law. -/
import Derived.Test.YtiepepikbophmaaPoLives
namespace Go.Proofs.Ytiepepikbophmaa
open Go.RowKit Go.Maps
set_option linter.unusedVariables false

set_option maxHeartbeats 2000000 in
theorem postingBytes_walk (w : World) (A : Option Addr) (b : List UInt8) (c : Nat) (hA : Bys w A b) (rb : b.length ≤ 140737488351232) (hbc : b.length ≤ c)
    (B : Option Addr) (l : List Int) (d : Nat) (hB : Zs w B l) (rl : l.length ≤ 17592186043904) (hlc : l.length ≤ d) (a : Int) (ba : -9223372036854775808 ≤ a ∧ a ≤ 9223372036854775807) :
    Calls Try.prog 7 #[.slice A b.length c, .slice B l.length d, .int .i64 a] w fun e w' => e = .returned (.bool true) ∧ Below w.heap.size w w' := by
  obtain ⟨ls, p, e, hpy⟩ := py_total b a
  have hls := (py_err hpy).2
  have HO := Lib.hid (fun W (h : Below w.heap.size w W) => own_law B l d W (hB.below h) rl)
  have HP := Lib.hid (fun P cc G c2 W (h1 : Bys W P b) (h2 : Zs W (some ⟨G, 0, none⟩) (l ++ [77])) => put_all P (some ⟨G, 0, none⟩) b cc l c2 W h1 h2.front (by omega) (by omega))
  have HQ := Lib.hid (fun W (h : Below w.heap.size w W) => refput_all A B b c l d W (hA.below h) (hB.below h) (by omega) (by omega))
  have HR := Lib.hid (fun W (h : Below w.heap.size w W) => read_all hpy A c W (hA.below h) hbc (by omega))
  have HS := Lib.hid (fun W (h : Below w.heap.size w W) => refread_all hpy A c W (hA.below h) hbc (by omega))
  have hX := puV_len b l
  unfold PuTold at HP HQ
  generalize pchk l = E at *
  generalize puV b l = X at *
  have q1 : (E == E) = true := by simp
  have q2 : ((e : Int) == (e : Int)) = true := by simp
  have q3 : ((p : Int) == (p : Int)) = true := by simp
  have q4 : ((txt X).toList == (txt X).toList) = true := by simp
  have HA := Lib.hid hA
  clear hpy hA hB rl hlc ba
  go_enter Try.func7, Try.ntmps7
  go_wp2_with (first
    | (at_builtin; refine app_u8 rfl (.tmp 18) (.tmp 19) rfl w.heap.size _ [] rfl (own_empty (Row.new w _ _) (Nat.le_refl _)) A b c rfl (HA.out.alloc _) (by simp only [List.length_nil]; omega) (by simp) ?_; intro v1 w1 hown1 hb1' _; rw [List.nil_append] at hown1; obtain ⟨P1, d1, hv1, hP1, _⟩ := own_slice' hown1; subst hv1; have HP1 := Lib.hid hP1; have HB1 := Lib.hid (((Below.refl _ _).alloc (Nat.le_refl _) _).trans hb1'); clear hown1 hb1' hP1)
    | (go_at_call 19; refine (HO.out _ HB1.out).mono ?_; rintro e2 w2 ⟨G2, c2, rfl, hG2, _, _, hb2⟩; have HG2 := Lib.hid hG2; have HP2 := Lib.hid (HP1.out.below hb2); have HB2 := Lib.hid (below_then HB1.out hb2); clear hG2 hb2)
    | (go_at_call 30; refine (HP.out _ _ _ _ _ HP2.out HG2.out).mono ?_; rintro e3 w3 ⟨v3, rfl, hv3, hb3⟩; obtain ⟨P3, d3, hv, hP3, _⟩ := own_slice' hv3; subst hv; have HP3 := Lib.hid hP3; have HB3 := Lib.hid (below_then HB2.out hb3); clear hv3 hb3 hP3)
    | (go_at_call 31; refine (HQ.out _ HB3.out).mono ?_; rintro e4 w4 ⟨v4, rfl, hv4, hb4⟩; obtain ⟨P4, d4, hv, hP4, _⟩ := own_slice' hv4; subst hv; have HP4 := Lib.hid hP4; have HP34 := Lib.hid (HP3.out.below hb4); have HB4 := Lib.hid (below_then HB3.out hb4); clear hv4 hb4 hP4)
    | (go_at_call 32; refine (HR.out _ HB4.out).mono ?_; rintro e5 w5 ⟨v5, rfl, hv5, hb5⟩; obtain ⟨P5, d5, hv, _, hP5, _⟩ := ownz_slice hv5; subst hv; have HP5 := Lib.hid hP5; have HP35 := Lib.hid (HP34.out.below hb5); have HP45 := Lib.hid (HP4.out.below hb5); have HB5 := Lib.hid (below_then HB4.out hb5); clear hv5 hb5 hP5)
    | (go_at_call 33; refine (HS.out _ HB5.out).mono ?_; rintro e6 w6 ⟨v6, rfl, hv6, hb6⟩; obtain ⟨P6, d6, hv, _, hP6, _⟩ := ownz_slice hv6; subst hv; have HP6 := Lib.hid hP6; have HP56 := Lib.hid (HP5.out.below hb6); have z1 := conv_bys w6 P3 X d3 (HP35.out.below hb6); have z2 := conv_bys w6 P4 X d4 (HP45.out.below hb6); have HB6 := Lib.hid (below_then HB5.out hb6); clear hv6 hb6 hP6)
    | (go_at_call 28; refine (same_yes P5 P6 ls d5 d6 w6 HP56.out HP6.out (by omega)).mono ?_; rintro e7 w7 ⟨rfl, hb7⟩; have HB7 := Lib.hid (below_then HB6.out hb7); clear hb7)
    | (go_at_call 21; refine (poLives_true _).mono ?_; rintro e8 w8 ⟨rfl, hb8⟩; have HB8 := Lib.hid (below_then HB7.out hb8); clear hb8))
  go_ret
  exact ⟨rfl, HB8.out⟩
end Go.Proofs.Ytiepepikbophmaa
