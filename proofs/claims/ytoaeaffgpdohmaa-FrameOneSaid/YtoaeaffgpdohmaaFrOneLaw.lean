/- What is read as a number has just its bytes: a walk of the law. -/
import Derived.Test.YtoaeaffgpdohmaaFrKept
import Derived.Test.YtoaeaffgpdohmaaFrGetUint
import Derived.Test.YtoaeaffgpdohmaaFrText
import Derived.Test.YtoaeaffgpdohmaaFrameMath3
import Derived.Deep.RegionWith
import Derived.Deep.RegionLaw
import Derived.StillTailTactics
namespace Go.Proofs.Ytoaeaffgpdohmaa
open Go.RowKit
set_option linter.unusedVariables false

theorem gu_no {l : List UInt8} {a n nx e : Nat} (h : GU l a n nx e) (he : e ≠ 0) : n = 0 ∧ nx = 0 := by
  cases h with
  | short k hk hc he' => exact ⟨rfl, rfl⟩
  | nought k hk h0 hc he' hz => exact ⟨rfl, rfl⟩
  | long he' hc => exact ⟨rfl, rfl⟩
  | ok k hk hc he' hl hz => exact absurd rfl he
set_option maxHeartbeats 1000000 in
theorem frameOne_walk (w : World) (A : Option Addr) (l : List UInt8) (c : Nat) (hA : Bys w A l) (hr : l.length ≤ 140737488351232) (hlc : l.length ≤ c) :
    Calls Try.prog 9 #[.slice A l.length c] w fun e w' => e = .returned (.bool true) ∧ Below w.heap.size w w' := by
  obtain ⟨n, nx, e, hg⟩ := gu_total l 0 (by omega)
  have HG := Lib.hid (getuint_prog A l c 0 n nx e w hA hlc (by omega) (by omega) hg)
  by_cases he : e = 0
  · subst he
    obtain ⟨hu, hnx⟩ := gu_bytes hg
    rw [List.drop_zero, Nat.sub_zero] at hu
    have hn := gu_small hg
    have hul : (uintL n).length = nx := by rw [hu, List.length_take]; omega
    have Hu := Lib.hid hu
    have Hul := Lib.hid hul
    clear hg hu hul
    go_enter Try.func9, Try.ntmps9
    go_wp2_with fail
    refine HG.out.mono ?_
    rintro e' w1 ⟨rfl, hb1⟩
    go_wp2_with fail
    refine (putuint_prog none [] 0 n w1 (Bys.empty _ _) (by simp) (by omega)).mono ?_
    rintro e' w2 ⟨v, rfl, hown, hb2⟩
    rw [List.nil_append] at hown
    obtain ⟨B, d, rfl, hB, _⟩ := own_slice' hown
    rw [Hul.out] at hown ⊢
    have hbw := below_then hb1 hb2
    have hA2 := (hA.below hbw).front nx
    have hln : (l.take nx).length = nx := by simp; omega
    have k1 : ∀ W, Bys W B (uintL n) → (convert 22 9 (.slice B nx d)).run Try.prog W = .ok (.string (txt (uintL n))) W := fun W h => by
      have := conv_bys W B (uintL n) d h
      rwa [Hul.out] at this
    have k2 : ∀ W, Bys W A (l.take nx) → (convert 22 9 (.slice A nx c)).run Try.prog W = .ok (.string (txt (uintL n))) W := fun W h => by
      have := conv_bys W A (l.take nx) c h
      rwa [hln, ← Hu.out] at this
    have k1a := k1 w2 hB
    have k1b := k1 w2.drew hB
    have k2a := k2 w2 hA2
    have k2b := k2 w2.drew hA2
    have q : ((txt (uintL n)).toList == (txt (uintL n)).toList) = true := by simp
    have q2 : decide ((nx : Int) ≤ (l.length : Int)) = true := by simp; omega
    have hz0 : (0 : Int) ≤ (nx : Int) := by omega
    have hz1 : (nx : Int) ≤ (c : Int) := by omega
    clear HG hown hB hA2 k1 k2
    generalize txt (uintL n) = T at *
    have HL := fun W => lives_true W
    go_wp2_with fail
    go_still_tail 18, (by kernel_rfl)
    change wpList _ _ _ _ _ w2.drew
    have hbd : Below w.heap.size w w2.drew := hbw.drew
    generalize w2.drew = w4 at *
    go_wp2_with fail
    refine (lives_true _).mono ?_
    rintro e' w3 ⟨rfl, hb3⟩
    go_wp2
    go_ret
    exact ⟨rfl, below_then hbd hb3⟩
  · obtain ⟨rfl, rfl⟩ := gu_no hg he
    have q : ((e : Int) != 0) = true := by rw [bne_iff_ne]; omega
    clear hg he
    go_enter Try.func9, Try.ntmps9
    go_wp2_with fail
    refine HG.out.mono ?_
    rintro e' w1 ⟨rfl, hb1⟩
    go_wp2_with fail
    refine (lives_true w1).mono ?_
    rintro e' w2 ⟨rfl, hb2⟩
    go_wp2
    go_ret
    exact ⟨rfl, below_then hb1 hb2⟩
end Go.Proofs.Ytoaeaffgpdohmaa
