/- In one text, written by lotify.py: LbPut, LbPutRef. -/
import Derived.Deep.DeepCutAuto
import Derived.Test.YtpcjnagdanmdpaaLbCheck
import Derived.Lib.AppendZeros
import Derived.Deep.RegionHeld3
import Derived.Deep.RegionLaw
namespace Go.Proofs.Ytpcjnagdanmdpaa
open Go.RowKit Go.Maps
set_option linter.unusedVariables false
theorem right_at {l : List Lbl} (h : lbChk l = 0) {k : Nat} (hk : k < l.length) : (nmOf l k).size ≤ 32 ∧ (vlOf l k).size ≤ 64 := by
  have h1 := lbErrAt_zero.1 ((lbChk_ok.1 h).2 k hk)
  exact ⟨(nameB_size h1.1).2, h1.2.2.1⟩
attribute [-go_sem] Builtin.append_
end Go.Proofs.Ytpcjnagdanmdpaa
