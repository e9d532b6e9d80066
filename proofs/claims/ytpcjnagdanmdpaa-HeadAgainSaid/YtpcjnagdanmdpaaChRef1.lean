/- The document's own answer of layer 5, in part: whether samples may be a chunk's; that two rows of samples are the same; and a law's copy of samples. -/
import Derived.Test.YtpcjnagdanmdpaaChCheck
namespace Go.Proofs.Ytpcjnagdanmdpaa.Ch
open Go.RowKit
set_option linter.unusedVariables false
theorem same_smps (A B : Option Addr) (l : List Smp) (c d : Nat) (w : World) (hA : Smps w A l) (hB : Smps w B l) (hl : l.length ≤ 100000000000000) :
    Calls Try.prog 20 #[.slice A l.length c, .slice B l.length d] w fun e w' => e = .returned (.bool true) ∧ Below w.heap.size w w' := by
  have Hall := Lib.hid (fun h => hA.all h)
  have Hbll := Lib.hid (fun h => hB.all h)
  clear hA hB
  have q0 : ((l.length : Int) != (l.length : Int)) = false := by simp
  go_enter Try.func20, Try.ntmps20
  go_wp2_with fail
  go_loopw [5] (fun i wr => ∃ k : Nat, k ≤ l.length ∧ i = .int .i64 (k : Int) ∧ Below w.heap.size w wr) (fun i _ => l.length - (intOf i).toNat)
  case atStart => exact ⟨0, Nat.zero_le _, rfl, Below.refl _ _⟩
  case round =>
    obtain ⟨k, hk, rfl, hbr⟩ := hrel
    by_cases hlt : k < l.length
    · obtain ⟨b, o, rfl, hb, hc⟩ := Hall.out (by omega)
      obtain ⟨b', o', rfl, hb', hc'⟩ := Hbll.out (by omega)
      obtain ⟨g0, g1⟩ := hc k hlt
      obtain ⟨k0, k1⟩ := hc' k hlt
      have c0 := (hbr.cell (p := ⟨b, o + k * 2, none⟩) hb).trans g0
      have c1 := (hbr.cell (p := ⟨b, o + k * 2 + 1, none⟩) hb).trans g1
      have d0 := (hbr.cell (p := ⟨b', o' + k * 2, none⟩) hb').trans k0
      have d1 := (hbr.cell (p := ⟨b', o' + k * 2 + 1, none⟩) hb').trans k1
      have i2 : (k : Int) < (l.length : Int) := by omega
      have hd : Below w.heap.size w wr.drew := hbr.drew
      clear hc hc' g0 g1 k0 k1
      generalize tOf l k = t at *
      generalize vOf l k = v at *
      have q1 : (t == t) = true := beq_self_eq_true _
      have q2 : (v == v) = true := beq_self_eq_true _
      go_wp2_with fail
      go_region
      all_goals
        go_wp2_with fail
        go_roundw
        case rel => exact ⟨k + 1, by omega, by go_num, hd⟩
        case measure => simp [intOf]; omega
    · obtain rfl : k = l.length := by omega
      go_wp2_with fail
      go_ret
      exact ⟨rfl, hbr⟩
end Go.Proofs.Ytpcjnagdanmdpaa.Ch
