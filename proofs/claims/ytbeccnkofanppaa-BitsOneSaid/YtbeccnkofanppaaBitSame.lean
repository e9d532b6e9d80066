/- Two rows of bits are the same just where their numbers and their bytes are, as the document's own 'Same' asks. -/
import Derived.Test.YtbeccnkofanppaaBitAt
import Derived.Test.YtbeccnkofanppaaStr
namespace Go.Proofs.Ytbeccnkofanppaa
open Go.RowKit
set_option linter.unusedVariables false

theorem same_ref (A B : Option Addr) (l m : List UInt8) (c d : Nat) (N M : Int) (w : World) (hA : Bys w A l) (hB : Bys w B m) :
    Calls Try.prog 15 #[.agg #[.slice A l.length c, .int .i64 N], .agg #[.slice B m.length d, .int .i64 M]] w fun e w' => e = .returned (.bool (decide (N = M ∧ l = m))) ∧ Below w.heap.size w w' := by
  have k1 : ∀ o1 o2, (convert 22 9 (.slice A l.length c)).run Try.prog ((w.alloc o1).alloc o2) = .ok (.string (txt l)) ((w.alloc o1).alloc o2) := fun o1 o2 => conv_bys _ _ _ _ ((hA.alloc o1).alloc o2)
  have k2 : ∀ o1 o2, (convert 22 9 (.slice B m.length d)).run Try.prog ((w.alloc o1).alloc o2) = .ok (.string (txt m)) ((w.alloc o1).alloc o2) := fun o1 o2 => conv_bys _ _ _ _ ((hB.alloc o1).alloc o2)
  have hb : ∀ o1 o2, Below w.heap.size w ((w.alloc o1).alloc o2) := fun o1 o2 => (below_one w o1).alloc (by simp) o2
  have tl : ∀ l : List UInt8, (txt l).toList = l := by intro l; simp [txt, ByteArray.toList_eq]
  clear hA hB
  by_cases hN : N = M
  · have q : (N == M) = true := by rw [hN]; exact beq_self_eq_true _
    have H := Lib.hid (show ((txt l).toList == (txt m).toList) = decide (N = M ∧ l = m) by rw [tl, tl, Bool.eq_iff_iff, beq_iff_eq, decide_eq_true_eq]; exact ⟨fun h => ⟨hN, h⟩, fun h => h.2⟩)
    clear tl hN
    go_enter Try.func15, Try.ntmps15
    go_wp2
    go_ret
    exact ⟨ret_bool H.out, hb _ _⟩
  · have q : (N == M) = false := by rw [beq_eq_false_iff_ne]; exact hN
    have H := Lib.hid (show false = decide (N = M ∧ l = m) by rw [Bool.eq_iff_iff, decide_eq_true_eq]; simp [hN])
    clear tl hN
    go_enter Try.func15, Try.ntmps15
    go_wp2
    go_ret
    exact ⟨ret_bool H.out, hb _ _⟩
end Go.Proofs.Ytbeccnkofanppaa
