/- The walk of a law of layer 1: bits are right just as the document says. -/
import Derived.Test.YtbeccnkofanppaaBitOpen
import Derived.Test.YtbeccnkofanppaaRefBit
import Derived.Deep.RegionWith
namespace Go.Proofs.Ytbeccnkofanppaa
open Go.RowKit
set_option linter.unusedVariables false

set_option maxHeartbeats 1600000 in
theorem bitsRights_walk (w : World) (A : Option Addr) (l : List UInt8) (c : Nat) (N : Int) (hA : Bys w A l) (hr : l.length ≤ 140737488351232) (hlc : l.length ≤ c) (lo : -9223372036854775808 ≤ N) (hi : N ≤ 9223372036854775807) :
    Calls Try.prog 4 #[.agg #[.slice A l.length c, .int .i64 N]] w fun e w' => e = .returned (.bool true) ∧ Below w.heap.size w w' := by
  have hA0 := hA.below (below_one w (.cells #[.slice A l.length c, .int .i64 N] 24))
  have hA0' : Bys (w.alloc (.cells #[.slice A l.length c, .int .i64 N] 24)).drew A l := hA0
  have hW0 : Below w.heap.size w (w.alloc (.cells #[.slice A l.length c, .int .i64 N] 24)).drew := (below_one _ _).drew
  have hl : l.length ≤ 562949953421312 := by omega
  go_enter Try.func4, Try.ntmps4
  go_wp2_with fail
  go_region_with (first
    | (go_at_call 19; refine (right_prog A l c N _ (by exact hA0') hi hl).mono ?_; rintro e w1 ⟨rfl, hb1⟩; obtain ⟨hs1, hf1⟩ := stands hb1; have hA1 := Bys.below hA0' hb1)
    | (go_at_call 20; refine (right_ref A l c N _ (by exact hA1) hi hl).mono ?_; rintro e w2 ⟨rfl, hb2⟩; obtain ⟨hs2, hf2⟩ := stands hb2)
    | (go_at_call 18; refine (lives_true _).mono ?_; rintro e w3 ⟨rfl, hb3⟩))
  all_goals
    go_wp2
    go_ret
    exact ⟨rfl, below_then (below_then (below_then hW0 hb1) hb2) hb3⟩
end Go.Proofs.Ytbeccnkofanppaa
