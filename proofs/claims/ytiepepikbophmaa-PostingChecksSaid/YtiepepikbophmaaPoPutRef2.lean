/- A posting list laid behind given bytes, or refused: as the document's own answer does it. -/
import Derived.Test.YtiepepikbophmaaPoPutRef
namespace Go.Proofs.Ytiepepikbophmaa
open Go.RowKit Go.Maps
set_option linter.unusedVariables false

theorem put_ref_no (A B : Option Addr) (n c : Nat) (l : List Int) (d : Nat) (w : World) (hB : Zs w B l) (hl : l.length ≤ 281474976710656) (h : pchk l ≠ 0) :
    Calls Try.prog 31 #[.slice A n c, .slice B l.length d] w fun e w' => e = .returned (.tuple #[.slice none 0 0, .int .i64 (pchk l)]) ∧ Below w.heap.size w w' := by
  have HC := Lib.hid (check_ref B l d w hB hl)
  generalize pchk l = C at *
  have i1 : (C != 0) = true := bne_iff_ne.2 h
  have i2 : (C == 0) = false := beq_eq_false_iff_ne.2 h
  clear h hB
  go_enter Try.func31, Try.ntmps31
  go_wp2_with (first | (go_at_call 20; refine HC.out.mono ?_; rintro e w1 ⟨rfl, hb1⟩))
  go_ret2
  exact ⟨rfl, hb1⟩
theorem put_ref_yes (A B : Option Addr) (b : List UInt8) (c : Nat) (l : List Int) (d : Nat) (w : World) (hA : Bys w A b) (hB : Zs w B l) (hb : b.length ≤ 140737488351300) (h : pchk l = 0) :
    Calls Try.prog 31 #[.slice A b.length c, .slice B l.length d] w fun e w' => ∃ v, e = .returned (.tuple #[v, .int .i64 0]) ∧ Own w' w.heap.size v (b ++ postL l) ∧ Below w.heap.size w w' := by
  have h8 := (pchk_zero.1 h).1
  have HC := Lib.hid (check_ref B l d w hB (by omega))
  rw [h] at HC
  have HBY := Lib.hid (fun W (hW : Below w.heap.size w W) => bytes_ref B l d W (hB.below hW) h)
  have HSM := Lib.hid (postL_len h)
  have HA := Lib.hid hA
  obtain ⟨y, hy⟩ : ∃ y, postL l = y := ⟨_, rfl⟩
  rw [hy] at HBY HSM
  have HY := Lib.hid hy
  clear hA hB h hy
  go_enter Try.func31, Try.ntmps31
  go_wp2_with (first
    | (go_at_call 20; refine HC.out.mono ?_; rintro e w1 ⟨rfl, hb1⟩; have HB1 := Lib.hid hb1; clear hb1)
    | (go_at_call 64; refine (HBY.out _ HB2.out).mono ?_; rintro e w3 ⟨v3, rfl, ho3, hb3⟩; obtain ⟨P3, d3, hv3, hP3, _⟩ := own_slice' ho3; subst hv3; have HP3 := Lib.hid hP3; have HO3 := Lib.hid (own_below HO2.out hb3); have HB3 := Lib.hid (HB2.out.trans (hb3.mono HB2.out.size)); clear ho3 hb3 hP3)
    | (at_builtin; refine app_u8 rfl (.tmp 12) (.tmp 13) rfl w.heap.size _ [] rfl (own_empty (Row.new _ _ _) HB1.out.size) A b c rfl ((HA.out.below HB1.out).alloc _) (by simp only [List.length_nil]; omega) (Nat.le_trans HB1.out.size (by simp)) ?_; intro v2 w2 hown2 hb2 _; rw [List.nil_append] at hown2; have HO2 := Lib.hid hown2; have HB2 := Lib.hid ((HB1.out.alloc HB1.out.size _).trans hb2); clear hown2 hb2)
    | (at_builtin; refine app_u8 rfl (.tmp 14) (.tmp 16) rfl w.heap.size _ b rfl HO3.out P3 y d3 rfl HP3.out (by have := HSM.out; omega) HB3.out.size ?_; intro v4 w4 hown4 hb4 _; have HO4 := Lib.hid hown4; have HB4 := Lib.hid (HB3.out.trans hb4); clear hown4 hb4))
  go_ret2
  exact ⟨v4, rfl, by rw [HY.out]; exact HO4.out, HB4.out⟩
end Go.Proofs.Ytiepepikbophmaa
