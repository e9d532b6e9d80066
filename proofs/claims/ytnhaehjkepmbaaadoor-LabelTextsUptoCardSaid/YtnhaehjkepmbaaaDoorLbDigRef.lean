/- A digit to the base 16: as the document's own answer reads it. -/
import Derived.Test.YtnhaehjkepmbaaaDoorLtLotL
namespace Go.Proofs.YtnhaehjkepmbaaaDoor
open Go.RowKit
set_option linter.unusedVariables false

/-- What a byte counts as a digit to the base 16; -1: it is none. -/
def digV (c : UInt8) : Int :=
  if 48 ≤ c.toNat ∧ c.toNat ≤ 57 then (c.toNat : Int) - 48 else if 97 ≤ c.toNat ∧ c.toNat ≤ 102 then (c.toNat : Int) - 87 else -1
theorem digV_range (c : UInt8) : -1 ≤ digV c ∧ digV c < 16 := by
  unfold digV
  split
  · omega
  · split <;> omega
theorem digV_hex (q : Nat) (h : q < 16) : digV (hexD q) = q := by
  have e := hex_byte q h
  unfold digV
  rcases Nat.lt_or_ge q 10 with g | g
  · rw [if_pos g] at e; rw [if_pos (by omega)]; omega
  · rw [if_neg (by omega)] at e; rw [if_neg (by omega), if_pos (by omega)]; omega
theorem digit_ref (c : UInt8) (w : World) : Calls Tryd.prog 21 #[.int .u8 (c.toNat : Int)] w fun e w' => e = .returned (.int .i64 (digV c)) ∧ w = w' := by
  have hc := c.toNat_lt
  have k1 : IntKind.i64.wrap (c.toNat : Int) = (c.toNat : Int) := by rw [IntKind.wrap_i64]; omega
  have k2 : IntKind.i64.wrap ((c.toNat : Int) - 48) = (c.toNat : Int) - 48 := by rw [IntKind.wrap_i64]; omega
  have k3 : IntKind.i64.wrap ((c.toNat : Int) - 97) = (c.toNat : Int) - 97 := by rw [IntKind.wrap_i64]; omega
  have k4 : IntKind.i64.wrap ((c.toNat : Int) - 97 + 10) = (c.toNat : Int) - 97 + 10 := by rw [IntKind.wrap_i64]; omega
  by_cases h1 : 48 ≤ c.toNat
  · have d1 : decide ((48 : Int) ≤ (c.toNat : Int)) = true := by simp; omega
    by_cases h2 : c.toNat ≤ 57
    · have d2 : decide ((c.toNat : Int) ≤ 57) = true := by simp; omega
      have hv : digV c = (c.toNat : Int) - 48 := by unfold digV; rw [if_pos ⟨h1, h2⟩]
      rw [hv]
      clear h1 h2 hv
      go_enter Tryd.func21, Tryd.ntmps21
      go_wp2
      go_ret
      exact ⟨rfl, rfl⟩
    · have d2 : decide ((c.toNat : Int) ≤ 57) = false := by simp; omega
      by_cases h3 : 97 ≤ c.toNat
      · have d3 : decide ((97 : Int) ≤ (c.toNat : Int)) = true := by simp; omega
        by_cases h4 : c.toNat ≤ 102
        · have d4 : decide ((c.toNat : Int) ≤ 102) = true := by simp; omega
          have hv : digV c = (c.toNat : Int) - 97 + 10 := by unfold digV; rw [if_neg (by omega), if_pos ⟨h3, h4⟩]; omega
          rw [hv]
          clear h1 h2 h3 h4 hv
          go_enter Tryd.func21, Tryd.ntmps21
          go_wp2
          go_ret
          exact ⟨rfl, rfl⟩
        · have d4 : decide ((c.toNat : Int) ≤ 102) = false := by simp; omega
          have hv : digV c = -1 := by unfold digV; rw [if_neg (by omega), if_neg (by omega)]
          rw [hv]
          clear h1 h2 h3 h4 hv
          go_enter Tryd.func21, Tryd.ntmps21
          go_wp2
          go_ret
          exact ⟨rfl, rfl⟩
      · have d3 : decide ((97 : Int) ≤ (c.toNat : Int)) = false := by simp; omega
        have hv : digV c = -1 := by unfold digV; rw [if_neg (by omega), if_neg (by omega)]
        rw [hv]
        clear h1 h2 h3 hv
        go_enter Tryd.func21, Tryd.ntmps21
        go_wp2
        go_ret
        exact ⟨rfl, rfl⟩
  · have d1 : decide ((48 : Int) ≤ (c.toNat : Int)) = false := by simp; omega
    have d3 : decide ((97 : Int) ≤ (c.toNat : Int)) = false := by simp; omega
    have hv : digV c = -1 := by unfold digV; rw [if_neg (by omega), if_neg (by omega)]
    rw [hv]
    clear h1 hv
    go_enter Tryd.func21, Tryd.ntmps21
    go_wp2
    go_ret
    exact ⟨rfl, rfl⟩
end Go.Proofs.YtnhaehjkepmbaaaDoor
