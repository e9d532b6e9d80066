/- A head's Select: a series' samples of some times, found by halving. -/
import Derived.Test.YtpcjnagdanmdpaaHdRemove
namespace Go.Proofs.Ytpcjnagdanmdpaa
open Go.RowKit Go.Maps
open Ch
set_option linter.unusedVariables false
set_option linter.unusedSimpArgs false
set_option maxRecDepth 100000
theorem hclone_prog (A : Option Addr) (l : List Smp) (c : Nat) (w : World) (hA : Smps w A l) (hl : l.length * 16 ≤ 140737488355328) :
    Calls Try.prog 32 #[.slice A l.length c] w fun e w' => ∃ v, e = .returned v ∧ OwnS w' w.heap.size v l ∧ Below w.heap.size w w' := by
  cases A with
  | some ad =>
    obtain ⟨b, o, sp⟩ := ad
    rcases Nat.eq_zero_or_pos l.length with h0 | h0
    · obtain rfl : l = [] := List.length_eq_zero_iff.1 h0
      have q := ix_eqnil (P := Try.prog) w 45 63 (some ⟨b, o, sp⟩) 0 c Try.underlying45
      have HO := Lib.hid (owns_empty (base := w.heap.size) (Row.new w 63 #[]) (Nat.le_refl _))
      have hW1 := below_one w (.cells #[] 63)
      clear hA
      go_enter Try.func32, Try.ntmps32
      go_wp2_with (at_builtin; refine app_smps rfl (.tmp 5) (.tmp 6) rfl w.heap.size _ [] rfl HO.out (some ⟨b, o, sp⟩) [] c rfl (Smps.nil _ _) (by simp) hW1.size ?_; intro v3 w3 hF3 hb3 _; rw [List.nil_append] at hF3; have HF3 := Lib.hid hF3; obtain ⟨P3, c3, hv3, _, _, _⟩ := owns_slice hF3; clear hF3; subst hv3)
      go_ret
      exact ⟨_, rfl, HF3.out, hW1.trans hb3⟩
    · obtain ⟨b', o', e, _⟩ := hA.all h0
      injection e with e
      injection e with e1 e2 e3
      subst e1 e2 e3
      exact Ch.clone_prog b o l c w hA hl
  | none =>
    have h0 : l = [] := by
      rcases Nat.eq_zero_or_pos l.length with h0 | h0
      · exact List.length_eq_zero_iff.1 h0
      · obtain ⟨b', o', e, _⟩ := hA.all h0
        cases e
    subst h0
    have q := ix_eqnil (P := Try.prog) w 45 63 none 0 c Try.underlying45
    clear hA
    go_enter Try.func32, Try.ntmps32
    go_wp2_with fail
    go_ret
    exact ⟨_, rfl, owns_nil _ _, Below.refl _ _⟩
end Go.Proofs.Ytpcjnagdanmdpaa
