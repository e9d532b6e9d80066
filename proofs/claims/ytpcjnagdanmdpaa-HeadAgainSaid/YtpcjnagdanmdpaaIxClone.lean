/- The program's index: Clone of a set; whether sets may be an index's. -/
import Derived.BigQuiet
import Derived.Test.YtpcjnagdanmdpaaHdLotG
namespace Go.Proofs.Ytpcjnagdanmdpaa
open Go.RowKit Go.Maps
set_option linter.unusedVariables false
theorem ix_eqnil {P : Program} (w : World) (t e : TypeId) (a : Option Addr) (l c : Nat) (h : P.underlying t = some (.slice e)) : (binOp .eql t (.slice a l c) (.slice none 0 0)).run P w = .ok (.bool a.isNone) w := by
  simp only [binOp]
  simp [run_equal_slice_nil w t e a l c h]
set_option maxRecDepth 100000 in
theorem ixclone_prog (A : Option Addr) (l : List Lbl) (c : Nat) (w : World) (hA : Lbls w A l) (hl : l.length * 32 ≤ 140737488355328) :
    Calls Try.prog 31 #[.slice A l.length c] w fun e w' => ∃ v, e = .returned v ∧ OwnL w' w.heap.size v l ∧ Below w.heap.size w w' := by
  have q := ix_eqnil (P := Try.prog) w 26 69 A l.length c Try.underlying26
  cases A with
  | none =>
    have h0 : l = [] := by
      rcases hA with h | ⟨b, o, e, _⟩
      · have := flat_len lblE 2 lblE_len l
        rw [h] at this
        simp at this
        exact List.eq_nil_of_length_eq_zero (by omega)
      · cases e
    subst h0
    clear hA q
    have q := ix_eqnil (P := Try.prog) w 26 69 none 0 c Try.underlying26
    go_enter Try.func31, Try.ntmps31
    go_wp2_with fail
    go_ret
    exact ⟨_, rfl, ownl_nil _ _, Below.refl _ _⟩
  | some ad =>
    have HO := Lib.hid (ownl_empty (Row.new w 69 #[]) (Nat.le_refl _))
    have HA1 := Lib.hid (hA.alloc (.cells #[] 69))
    have hW1 := below_one w (.cells #[] 69)
    clear hA
    go_enter Try.func31, Try.ntmps31
    go_wp2_with (at_builtin; refine app_lbls rfl (.tmp 5) (.tmp 6) rfl w.heap.size _ [] rfl HO.out (some ad) l c rfl HA1.out (by simpa using hl) hW1.size ?_; intro v3 w3 hF3 hb3 _; rw [List.nil_append] at hF3; have HF3 := Lib.hid hF3; obtain ⟨P3, c3, hv3, _, _, _⟩ := ownl_slice hF3; clear hF3; subst hv3)
    go_ret
    exact ⟨_, rfl, HF3.out, hW1.trans hb3⟩
end Go.Proofs.Ytpcjnagdanmdpaa
