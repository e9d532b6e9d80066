/- Whether numbers are a posting list: a walk of the law. -/
import Derived.Test.YtiepepikbophmaaPoLives
namespace Go.Proofs.Ytiepepikbophmaa
open Go.RowKit Go.Maps
set_option linter.unusedVariables false

theorem postingChecks_walk (w : World) (A : Option Addr) (l : List Int) (c : Nat) (hA : Zs w A l) (hr : l.length ≤ 17592186043904) (hlc : l.length ≤ c) :
    Calls Try.prog 5 #[.slice A l.length c] w fun e w' => e = .returned (.bool true) ∧ Below w.heap.size w w' := by
  have HO := Lib.hid (own_law A l c w hA hr)
  have HR := Lib.hid (fun W (h : Below w.heap.size w W) => check_ref A l c W (hA.below h) (by omega))
  have HC := Lib.hid (fun G cap W (h : Zs W (some ⟨G, 0, none⟩) (l ++ [77])) => check_prog (some ⟨G, 0, none⟩) l cap W h.front (by omega))
  generalize pchk l = E at *
  have q1 : (E == E) = true := by simp
  have q2 : (E != E) = false := by simp
  clear hA
  go_enter Try.func5, Try.ntmps5
  go_wp2_with fail
  refine HO.out.mono ?_
  rintro e w1 ⟨G, cap, rfl, hG, hcap, hGw, hb1⟩
  have HG := Lib.hid hG
  have HB1 := Lib.hid hb1
  clear hG hb1
  go_wp2_with fail
  refine (HC.out _ _ _ HG.out).mono ?_
  rintro e w2 ⟨rfl, rfl⟩
  go_wp2_with fail
  refine (HR.out _ HB1.out).mono ?_
  rintro e w2 ⟨rfl, hb2⟩
  have HB2 := Lib.hid (below_then HB1.out hb2)
  clear hb2
  go_wp2_with fail
  refine (poLives_true _).mono ?_
  rintro e w3 ⟨rfl, hb3⟩
  have HB3 := Lib.hid (below_then HB2.out hb3)
  clear hb3
  go_wp2
  go_ret
  exact ⟨rfl, HB3.out⟩
end Go.Proofs.Ytiepepikbophmaa
