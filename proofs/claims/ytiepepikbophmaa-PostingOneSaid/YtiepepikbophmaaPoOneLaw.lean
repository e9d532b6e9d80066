/- What is read as a list is laid down as just the bytes that were read: a walk of the law. -/
import Derived.Test.YtiepepikbophmaaPoLives
import Derived.Deep.RegionWith
import Derived.StillTailTactics
namespace Go.Proofs.Ytiepepikbophmaa
open Go.RowKit Go.Maps
set_option linter.unusedVariables false

set_option maxRecDepth 100000 in
set_option maxHeartbeats 1000000 in
theorem postingOne_walk (w : World) (A : Option Addr) (l : List UInt8) (c : Nat) (hA : Bys w A l) (hr : l.length ≤ 140737488351232) (hlc : l.length ≤ c) :
    Calls Try.prog 10 #[.slice A l.length c] w fun e w' => e = .returned (.bool true) ∧ Below w.heap.size w w' := by
  obtain ⟨ls, p, e, hg⟩ := px_total l 0 (by omega)
  have hpy : PY l 0 ls p e := .inr ⟨0, rfl, by omega, hg⟩
  have HG := Lib.hid (read_all hpy A c w hA hlc (by omega))
  by_cases he : e = 0
  · subst he
    obtain ⟨hc, _, hnx, hu⟩ := px_list hg
    rw [List.drop_zero, Nat.sub_zero] at hu
    have hul : (postL ls).length = p := by rw [hu, List.length_take]; omega
    have h9 := postL_len hc
    have h8 := (pchk_zero.1 hc).1
    have HP := Lib.hid (fun P cc W (hz : Zs W P ls) => put_yes none P [] 0 ls cc W (Bys.empty _ _) hz (by simp) hc)
    obtain ⟨X, hX⟩ : ∃ X, postL ls = X := ⟨_, rfl⟩
    rw [hX] at hu hul HP h9
    have Hu := Lib.hid hu
    have Hul := Lib.hid hul
    clear hg hu hul hpy hc hX
    go_enter Try.func10, Try.ntmps10
    go_wp2_with fail
    refine HG.out.mono ?_
    rintro e' w1 ⟨v1, rfl, hv1, hb1⟩
    obtain ⟨P1, d1, rfl, _, hP1, _⟩ := ownz_slice hv1
    have HP1 := Lib.hid hP1
    clear hv1 hP1
    go_wp2_with fail
    refine (HP.out _ _ _ HP1.out).mono ?_
    rintro e' w2 ⟨v, rfl, hown, hb2⟩
    rw [List.nil_append] at hown
    obtain ⟨B, d, rfl, hB, _⟩ := own_slice' hown
    rw [Hul.out] at hown ⊢
    have hbw := below_then hb1 hb2
    have hA2 := (hA.below hbw).front p
    have hln : (l.take p).length = p := by simp; omega
    have k1 : ∀ W, Bys W B X → (convert 35 9 (.slice B p d)).run Try.prog W = .ok (.string (txt X)) W := fun W h => by
      have := conv_bys W B X d h
      rwa [Hul.out] at this
    have k2 : ∀ W, Bys W A (l.take p) → (convert 35 9 (.slice A p c)).run Try.prog W = .ok (.string (txt X)) W := fun W h => by
      have := conv_bys W A (l.take p) c h
      rwa [hln, ← Hu.out] at this
    have k1a := k1 w2 hB
    have k1b := k1 w2.drew hB
    have k2a := k2 w2 hA2
    have k2b := k2 w2.drew hA2
    have q : ((txt X).toList == (txt X).toList) = true := by simp
    have q2 : decide ((p : Int) ≤ (l.length : Int)) = true := by simp; omega
    have hz0 : (0 : Int) ≤ (p : Int) := by omega
    have hz1 : (p : Int) ≤ (c : Int) := by omega
    clear HG HP hown hB hA2 k1 k2
    generalize txt X = T at *
    have HL := fun W => poLives_true W
    go_wp2_with fail
    go_still_tail 18, (by kernel_rfl)
    change wpList _ _ _ _ _ w2.drew
    have hbd : Below w.heap.size w w2.drew := hbw.drew
    generalize w2.drew = w4 at *
    go_wp2_with fail
    refine (poLives_true _).mono ?_
    rintro e' w3 ⟨rfl, hb3⟩
    go_wp2
    go_ret
    exact ⟨rfl, below_then hbd hb3⟩
  · obtain ⟨rfl, rfl⟩ := (px_err hg).1 he
    have q : ((e : Int) != 0) = true := by rw [bne_iff_ne]; omega
    have q2 : ((e : Int) == 0) = false := by rw [beq_eq_false_iff_ne]; omega
    clear hg he hpy
    go_enter Try.func10, Try.ntmps10
    go_wp2_with fail
    refine HG.out.mono ?_
    rintro e' w1 ⟨v1, rfl, hv1, hb1⟩
    obtain ⟨P1, d1, rfl, _⟩ := ownz_slice hv1
    go_wp2_with fail
    refine (poLives_true w1).mono ?_
    rintro e' w2 ⟨rfl, hb2⟩
    go_wp2
    go_ret
    exact ⟨rfl, below_then hb1 hb2⟩
end Go.Proofs.Ytiepepikbophmaa
