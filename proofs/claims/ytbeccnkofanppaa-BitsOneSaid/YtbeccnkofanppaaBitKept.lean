/- Whether bits that were lent are as they were, the byte behind their end, too. -/
import Derived.Test.YtbeccnkofanppaaBitSame
import Derived.Deep.QuietTactic
import Derived.BigQuiet
namespace Go.Proofs.Ytbeccnkofanppaa
open Go.RowKit
set_option linter.unusedVariables false

theorem bys_drewN {w : World} {A : Option Addr} {l : List UInt8} (h : Bys w A l) (n : Nat) : Bys (w.drewN n) A l := h
theorem bys_front {w : World} {A : Option Addr} {l m : List UInt8} (h : Bys w A (l ++ m)) : Bys w A l := by
  rcases Nat.eq_zero_or_pos l.length with h0 | h0
  · exact .inl (List.eq_nil_of_length_eq_zero h0)
  · obtain ⟨b, o, e, hb, hc⟩ := h.at_ (by rw [List.length_append]; omega)
    refine .inr ⟨b, o, e, hb, fun i hi => ?_⟩
    rw [hc i (by rw [List.length_append]; omega)]
    congr 3
    rw [List.getD_eq_getElem?_getD, List.getD_eq_getElem?_getD, List.getElem?_append_left hi]

set_option maxHeartbeats 1000000 in
theorem kept_law (A : Option Addr) (l : List UInt8) (c G cap : Nat) (N : Int) (w : World) (hA : Bys w A l) (hG : Bys w (some ⟨G, 0, none⟩) (l ++ [90])) (hcap : l.length + 1 ≤ cap) (hmax : l.length ≤ 140737488351232) :
    Calls Try.prog 16 #[.agg #[.slice (some ⟨G, 0, none⟩) l.length cap, .int .i64 N], .agg #[.slice A l.length c, .int .i64 N]] w fun e w' => e = .returned (.bool true) ∧ Below w.heap.size w w' := by
  have k1 : ∀ o1 o2 n, (convert 22 9 (.slice (some ⟨G, 0, none⟩) (l.length + 1) cap)).run Try.prog (((w.alloc o1).alloc o2).drewN n) = .ok (.string (txt (l ++ [90]))) (((w.alloc o1).alloc o2).drewN n) := fun o1 o2 n => by
    have := conv_bys _ (some ⟨G, 0, none⟩) (l ++ [90]) cap (bys_drewN ((hG.alloc o1).alloc o2) n)
    rw [show (l ++ [90] : List UInt8).length = l.length + 1 from by simp] at this
    exact this
  have k2 : ∀ o1 o2 n, (convert 22 9 (.slice A l.length c)).run Try.prog (((w.alloc o1).alloc o2).drewN n) = .ok (.string (txt l)) (((w.alloc o1).alloc o2).drewN n) := fun o1 o2 n => conv_bys _ _ _ _ (bys_drewN ((hA.alloc o1).alloc o2) n)
  have hb : ∀ o1 o2 n, Below w.heap.size w (((w.alloc o1).alloc o2).drewN n) := fun o1 o2 n => below_drewN' ((below_one w o1).alloc (by simp) o2) n
  have q : (N == N) = true := beq_self_eq_true _
  have hwr : IntKind.i64.wrap ((l.length : Int) + 1) = (l.length : Int) + 1 := IntWalk.i64_in _ (by omega)
  have hz0 : (0 : Int) ≤ (l.length : Int) + 1 := by omega
  have hz1 : ((l.length : Int) + 1).toNat = l.length + 1 := by omega
  have hz2 : (l.length : Int) + 1 ≤ (cap : Int) := by omega
  have hsz : (txt l).size = l.length := by simp [txt, ByteArray.size]
  have hcat : txt l ++ ⟨#[90]⟩ = txt (l ++ [90]) := ByteArray.mk_append_mk l [90]
  have hadd : ∀ W, (Op.stringOp .add (txt l) ⟨#[90]⟩).run Try.prog W = .ok (.string (txt (l ++ [90]))) W := fun W => by
    rw [run_string_add_sum (P := Try.prog) (w := W) (txt l) ⟨#[90]⟩ (by rw [hsz]; show l.length + 1 ≤ _; omega), hcat]
  have q2 : ((txt (l ++ [90])).toList == (txt (l ++ [90])).toList) = true := beq_self_eq_true _
  clear hA hG
  go_enter Try.func16, Try.ntmps16
  go_wp2_with fail
  go_quiet (fail)
  go_wp2
  go_ret
  exact ⟨rfl, hb _ _ _⟩
end Go.Proofs.Ytbeccnkofanppaa
