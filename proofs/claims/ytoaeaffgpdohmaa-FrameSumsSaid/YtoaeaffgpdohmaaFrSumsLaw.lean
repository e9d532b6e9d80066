/- The law of sums: a walk of it. -/
import Derived.Test.YtoaeaffgpdohmaaFrKept
namespace Go.Proofs.Ytoaeaffgpdohmaa
open Go.RowKit
set_option linter.unusedVariables false

theorem frameSums_walk (w : World) (A : Option Addr) (l : List UInt8) (c : Nat) (hA : Bys w A l) (hr : l.length ≤ 140737488351232) (hlc : l.length ≤ c) :
    Calls Try.prog 5 #[.slice A l.length c] w fun e w' => e = .returned (.bool true) ∧ Below w.heap.size w w' := by
  go_enter Try.func5, Try.ntmps5
  go_wp2_with fail
  refine (lent_law A l c w hA hr).mono ?_
  rintro e w1 ⟨G, cap, rfl, hG, hcap, hmax, hGw, hb1⟩
  go_wp2_with fail
  refine (sum_prog (some ⟨G, 0, none⟩) l cap w1 (bys_front hG) (by omega)).mono ?_
  rintro e w2 ⟨rfl, rfl⟩
  go_wp2_with fail
  refine (sum_ref A l c w1 (hA.below hb1) (by omega)).mono ?_
  rintro e w2 ⟨rfl, rfl⟩
  go_wp2_with fail
  refine (kept_law A l c G cap w1 (hA.below hb1) hG hcap hr).mono ?_
  rintro e w7 ⟨rfl, hb7⟩
  go_wp2_with fail
  refine (lives_true w7).mono ?_
  rintro e w8 ⟨rfl, hb8⟩
  go_wp2
  go_ret
  exact ⟨rfl, below_then (below_then hb1 hb7) hb8⟩
end Go.Proofs.Ytoaeaffgpdohmaa
