/- Whether bytes that were lent are as they were, the byte behind their end, too. -/
import Derived.Test.YtoaeaffgpdohmaaFrLent
import Derived.Deep.QuietTactic
import Derived.BigQuiet
namespace Go.Proofs.Ytoaeaffgpdohmaa
open Go.RowKit
set_option linter.unusedVariables false

theorem bys_drewN {w : World} {A : Option Addr} {l : List UInt8} (h : Bys w A l) (n : Nat) : Bys (w.drewN n) A l := h
theorem bys_front {w : World} {A : Option Addr} {l m : List UInt8} (h : Bys w A (l ++ m)) : Bys w A l := by
  have := h.front l.length
  rwa [List.take_left] at this
theorem kept_law (A : Option Addr) (l : List UInt8) (c G cap : Nat) (w : World) (hA : Bys w A l) (hG : Bys w (some ⟨G, 0, none⟩) (l ++ [90])) (hcap : l.length + 1 ≤ cap) (hmax : l.length ≤ 140737488351232) :
    Calls Try.prog 19 #[.slice (some ⟨G, 0, none⟩) l.length cap, .slice A l.length c] w fun e w' => e = .returned (.bool true) ∧ Below w.heap.size w w' := by
  have k1 : ∀ n, (convert 22 9 (.slice (some ⟨G, 0, none⟩) (l.length + 1) cap)).run Try.prog (w.drewN n) = .ok (.string (txt (l ++ [90]))) (w.drewN n) := fun n => by
    have := conv_bys _ (some ⟨G, 0, none⟩) (l ++ [90]) cap (bys_drewN hG n)
    rw [show (l ++ [90] : List UInt8).length = l.length + 1 from by simp] at this
    exact this
  have k2 : ∀ n, (convert 22 9 (.slice A l.length c)).run Try.prog (w.drewN n) = .ok (.string (txt l)) (w.drewN n) := fun n => conv_bys _ _ _ _ (bys_drewN hA n)
  have hb : ∀ n, Below w.heap.size w (w.drewN n) := fun n => below_drewN' (Below.refl _ _) n
  have hwr : IntKind.i64.wrap ((l.length : Int) + 1) = (l.length : Int) + 1 := IntWalk.i64_in _ (by omega)
  have hz0 : (0 : Int) ≤ (l.length : Int) + 1 := by omega
  have hz1 : ((l.length : Int) + 1).toNat = l.length + 1 := by omega
  have hz2 : (l.length : Int) + 1 ≤ (cap : Int) := by omega
  have hsz : (txt l).size = l.length := by simp [txt, ByteArray.size]
  have hcat : txt l ++ ⟨#[90]⟩ = txt (l ++ [90]) := ByteArray.mk_append_mk l [90]
  have hadd : ∀ W, (Op.stringOp .add (txt l) ⟨#[90]⟩).run Try.prog W = .ok (.string (txt (l ++ [90]))) W := fun W => by
    rw [run_string_add_sum (P := Try.prog) (w := W) (txt l) ⟨#[90]⟩ (by rw [hsz]; show l.length + 1 ≤ _; omega), hcat]
  have q2 : ((txt (l ++ [90])).toList == (txt (l ++ [90])).toList) = true := beq_self_eq_true _
  clear hA hG
  go_enter Try.func19, Try.ntmps19
  go_wp2_with fail
  go_quiet (fail)
  go_wp2
  go_ret
  exact ⟨rfl, hb _⟩
end Go.Proofs.Ytoaeaffgpdohmaa
