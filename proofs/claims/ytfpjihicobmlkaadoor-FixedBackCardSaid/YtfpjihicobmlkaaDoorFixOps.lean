/- Layer 3: which number fits; its size; the closure that gives a size its sign. -/
import Derived.Test.YtfpjihicobmlkaaDoorWords
import Derived.Test.YtfpjihicobmlkaaDoorChecked
import Derived.WalkKit
import Derived.ProofKit
import Derived.WalkSpells
import Derived.WalkLawsBesides
import Derived.IntWalk
import Derived.Outline
import Derived.Lib.Hide
namespace Go.Proofs.YtfpjihicobmlkaaDoor
open Go.RowKit
set_option linter.unusedVariables false

def fitsB (n : Int) : Bool := decide (-1152921504606846976 ≤ n ∧ n ≤ 1152921504606846976)
theorem fits_mk {n : Int} (h0 : -1152921504606846976 ≤ n) (h1 : n ≤ 1152921504606846976) : fitsB n = true := by
  unfold fitsB
  simp [h0, h1]
theorem fits_of {n : Int} (h : fitsB n = true) : -1152921504606846976 ≤ n ∧ n ≤ 1152921504606846976 := by simpa [fitsB] using h
theorem fits_not {n : Int} (h : fitsB n = false) : ¬ (-1152921504606846976 ≤ n ∧ n ≤ 1152921504606846976) := by
  intro hn
  rw [fits_mk hn.1 hn.2] at h
  cases h
theorem fits_no {n : Int} (h : ¬ (-1152921504606846976 ≤ n ∧ n ≤ 1152921504606846976)) : fitsB n = false := by
  cases hb : fitsB n
  · rfl
  · exact absurd (fits_of hb) h

theorem fits_prog (n : Int) (w : World) :
    Calls Tryd.prog 14 #[.int .i64 n] w fun e w' => e = .returned (.bool (fitsB n)) ∧ w = w' := by
  by_cases h0 : -1152921504606846976 ≤ n
  · by_cases h1 : n ≤ 1152921504606846976
    · rw [fits_mk h0 h1]
      go_enter Tryd.func14, Tryd.ntmps14
      go_wp2
      go_ret
      exact ⟨rfl, rfl⟩
    · rw [fits_no (by omega)]
      go_enter Tryd.func14, Tryd.ntmps14
      go_wp2
      go_ret
      exact ⟨rfl, rfl⟩
  · rw [fits_no (by omega)]
    go_enter Tryd.func14, Tryd.ntmps14
    go_wp2
    go_ret
    exact ⟨rfl, rfl⟩
theorem fits_ref (n : Int) (w : World) :
    Calls Tryd.prog 15 #[.int .i64 n] w fun e w' => e = .returned (.bool (fitsB n)) ∧ w = w' := by
  by_cases h0 : -1152921504606846976 ≤ n
  · by_cases h1 : n ≤ 1152921504606846976
    · rw [fits_mk h0 h1]
      go_enter Tryd.func15, Tryd.ntmps15
      go_wp2
      go_ret
      exact ⟨rfl, rfl⟩
    · rw [fits_no (by omega)]
      go_enter Tryd.func15, Tryd.ntmps15
      go_wp2
      go_ret
      exact ⟨rfl, rfl⟩
  · rw [fits_no (by omega)]
    go_enter Tryd.func15, Tryd.ntmps15
    go_wp2
    go_ret
    exact ⟨rfl, rfl⟩

def tellV (neg : Bool) (s : Nat) : Int := if s ≤ 1152921504606846976 then (if neg then -(s : Int) else (s : Int)) else 0
def tellE (s : Nat) : Int := if s ≤ 1152921504606846976 then 0 else 11

theorem size_prog (n : Int) (w : World) (h0 : -9223372036854775807 ≤ n) (h1 : n ≤ 9223372036854775807) :
    Calls Tryd.prog 30 #[.int .i64 n] w fun e w' => e = .returned (.int .u64 (n.natAbs : Int)) ∧ w = w' := by
  by_cases h : n < 0
  · obtain ⟨k, rfl⟩ : ∃ k : Nat, n = -(k : Int) := ⟨n.natAbs, by omega⟩
    rw [show ((-(k : Int)).natAbs : Int) = (k : Int) from by omega]
    go_enter Tryd.func30, Tryd.ntmps30
    go_wp2
    go_ret
    exact ⟨by simp, rfl⟩
  · obtain ⟨k, rfl⟩ : ∃ k : Nat, n = (k : Int) := ⟨n.natAbs, by omega⟩
    rw [show (((k : Int)).natAbs : Int) = (k : Int) from by omega]
    go_enter Tryd.func30, Tryd.ntmps30
    go_wp2
    go_ret
    exact ⟨by simp, rfl⟩

theorem teller_prog (b : Bool) (w : World) :
    Calls Tryd.prog 29 #[.bool b] w fun e w' => e = .returned (.func (.func 43) #[] #[.pointer (some ⟨w.heap.size, 0, none⟩)]) ∧ w.alloc (.cells #[.bool b] 4) = w' := by
  have hmf : ∀ (fn : Fn) (first cap : Array Value) (w : World), (Instr.makeFunc fn first cap).run Tryd.prog w = .ok (.func fn first cap) w := fun _ _ _ _ => rfl
  go_enter Tryd.func29, Tryd.ntmps29
  go_wp2
  go_ret
  exact ⟨rfl, rfl⟩
theorem told_prog (b : Bool) (s : Nat) (a : Addr) (w : World) (hs : s ≤ 18446744073709551615) (hc : w.cell? a = some (.bool b)) :
    Calls Tryd.prog 43 #[.int .u64 s, .pointer (some a)] w fun e w' => e = .returned (.tuple #[.int .i64 (tellV b s), .int .i64 (tellE s)]) ∧ w = w' := by
  by_cases h : s ≤ 1152921504606846976
  · cases b
    · rw [show tellV false s = (s : Int) from by simp [tellV, h], show tellE s = 0 from by simp [tellE, h]]
      go_enter Tryd.func43, Tryd.ntmps43
      go_wp2
      go_ret2
      exact ⟨rfl, rfl⟩
    · rw [show tellV true s = -(s : Int) from by simp [tellV, h], show tellE s = 0 from by simp [tellE, h]]
      go_enter Tryd.func43, Tryd.ntmps43
      go_wp2
      go_ret2
      exact ⟨rfl, rfl⟩
  · rw [show tellV b s = 0 from by simp [tellV, h], show tellE s = 11 from by simp [tellE, h]]
    go_enter Tryd.func43, Tryd.ntmps43
    go_wp2
    go_ret2
    exact ⟨rfl, rfl⟩
end Go.Proofs.YtfpjihicobmlkaaDoor
