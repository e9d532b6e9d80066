/- slices.Chunk over samples: what its function value does when a loop ranges over it. -/
import Derived.RangeFuncBox
import Derived.RangeFuncCalls
import Derived.Shelf.RegionOpen
import Derived.OwnWalkIn
import Derived.LoopNIn
import Derived.LoopIn
import Derived.Test.YtpcjnagdanmdpaaChRef1
namespace Go.Proofs.Ytpcjnagdanmdpaa.Ch
open Go.RowKit Go.Shelf
set_option linter.unusedVariables false
attribute [local go_sem] Oper.semAt_some
/-! ### Clone -/
set_option maxRecDepth 100000 in
set_option maxHeartbeats 1000000 in
theorem clone_prog (b o : Nat) (l : List Smp) (c : Nat) (w : World) (hA : Smps w (some ⟨b, o, none⟩) l) (hl : l.length * 16 ≤ 140737488355328) :
    Calls Try.prog 32 #[.slice (some ⟨b, o, none⟩) l.length c] w fun e w' => ∃ v, e = .returned v ∧ OwnS w' w.heap.size v l ∧ Below w.heap.size w w' := by
  have hR : Row (w.alloc (.cells #[] 63)) w.heap.size 63 #[] := Row.new w _ _
  have hO : OwnS (w.alloc (.cells #[] 63)) w.heap.size (.slice (some ⟨w.heap.size, 0, none⟩) 0 0) [] := owns_empty hR (Nat.le_refl _)
  have hA1 := hA.alloc (.cells #[] 63)
  have hW1 := below_one w (.cells #[] 63)
  have hs1 := hW1.size
  have q : (binOp .eql 45 (.slice (some ⟨b, o, none⟩) l.length c) (.slice none 0 0)).run Try.prog w = .ok (.bool false) w := Lib.run_eql_slice_nil w _ _ _ _ _ _ _ Try.underlying45
  have HO := Lib.hid hO
  clear hO hR
  go_enter Try.func32, Try.ntmps32
  go_wp2_with (at_builtin; refine app_smps rfl (.tmp 5) (.tmp 6) rfl w.heap.size _ [] rfl HO.out (some ⟨b, o, none⟩) l c rfl hA1 (by simpa using hl) hs1 ?_; intro v3 w3 hF3 hb3 _; have HF3 := Lib.hid hF3; obtain ⟨P3, c3, hv3, _, _, _⟩ := owns_slice hF3; clear hF3; generalize ([] ++ l).length = n3 at hv3; subst hv3)
  go_ret
  exact ⟨_, rfl, HF3.out, hW1.trans hb3⟩
end Go.Proofs.Ytpcjnagdanmdpaa.Ch
