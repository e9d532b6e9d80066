/- One bit of a row of bits, and whether bits are right, as the program asks it. -/
import Derived.Test.YtheaebkegncdlaaBitInts
import Derived.Test.YtheaebkegncdlaaWords
import Derived.Deep.QuietTactic
import Derived.BigQuiet
namespace Go.Proofs.Ytheaebkegncdlaa
open Go.RowKit
set_option linter.unusedVariables false

theorem ret_bool {a b : Bool} (h : a = b) : Ending.returned (.bool a) = .returned (.bool b) := by rw [h]
theorem u8_pow_div (x k : Nat) : x / 2 ^ k ≤ x := Nat.div_le_self _ _
theorem u64_bit (x k : Nat) (hx : x < 256) : bits BinOp.and IntKind.u64 (IntKind.u64.wrap ((x : Int) / 2 ^ k)) 1 = ((x / 2 ^ k % 2 : Nat) : Int) := by
  have h1 := u8_pow_div x k
  have e : (x : Int) / 2 ^ k = ((x / 2 ^ k : Nat) : Int) := by rw [Int.natCast_ediv, Int.natCast_pow]; rfl
  rw [e]
  generalize x / 2 ^ k = y at *
  rw [IntWalk.u64_in _ (by omega), u64_and_one _ (by omega)]

theorem bitAt_prog (A : Option Addr) (l : List UInt8) (c : Nat) (N : Int) (i : Nat) (w : World) (hA : Bys w A l) (hi : i < 8 * l.length) (hl : l.length ≤ 562949953421312) :
    Calls Try.prog 66 #[.agg #[.slice A l.length c, .int .i64 N], .int .i64 i] w fun e w' => e = .returned (.int .u64 (bitN l i)) ∧ Below w.heap.size w w' := by
  obtain ⟨b, o, rfl, hb, hc⟩ := hA.at_ (by omega)
  have hcell := hc (i / 8) (by omega)
  have hx := byte_toNat (l.getD (i / 8) 0)
  have Hn := Lib.hid (show (l.getD (i / 8) 0).toNat / 2 ^ (7 - i % 8) % 2 = bitN l i from rfl)
  generalize (l.getD (i / 8) 0).toNat = x at *
  clear hc
  have hcell' : ∀ o1, (w.alloc o1).cell? ⟨b, o + i / 8, none⟩ = some (.int .u8 (x : Int)) := fun o1 => by rw [World.cell?_alloc_past _ _ _ hb]; exact hcell
  clear hcell
  have hi2 : i / 8 < l.length := by omega
  go_enter Try.func66, Try.ntmps66
  go_wp2
  go_ret
  exact ⟨ret_num (by rw [u64_bit x _ hx, Hn.out]), below_one _ _⟩

theorem right_no (A : Option Addr) (l : List UInt8) (c : Nat) (N : Int) (w : World) (h0 : N < 0) :
    Calls Try.prog 54 #[.agg #[.slice A l.length c, .int .i64 N]] w fun e w' => e = .returned (.bool false) ∧ Below w.heap.size w w' := by
  go_enter Try.func54, Try.ntmps54
  go_wp2_with fail
  go_quiet (fail)
  go_wp2
  go_ret
  exact ⟨rfl, below_drewN' (below_one _ _) _⟩

theorem right_len (A : Option Addr) (l : List UInt8) (c : Nat) (N : Nat) (w : World) (h1 : N ≤ 9223372036854775807) (hl : l.length ≤ 562949953421312) (h : l.length ≠ (N + 7) / 8) :
    Calls Try.prog 54 #[.agg #[.slice A l.length c, .int .i64 N]] w fun e w' => e = .returned (.bool false) ∧ Below w.heap.size w w' := by
  have hne : ((l.length : Int) != ((N : Int) + 7) / 8) = true := by rw [bne_iff_ne]; omega
  have hn : decide ((N : Int) < 0) = false := by simp
  go_enter Try.func54, Try.ntmps54
  go_wp2_with fail
  go_quiet ((go_at_call 63; exact Calls.quiet_of_same ((bytesOf_prog _ _ h1).mono fun _ _ h => ⟨h.1, h.2.symm⟩)))
  go_wp2
  go_ret
  exact ⟨rfl, below_drewN' (below_one _ _) _⟩

theorem right_even (A : Option Addr) (l : List UInt8) (c : Nat) (N : Nat) (w : World) (h1 : N ≤ 9223372036854775807) (hl : l.length ≤ 562949953421312) (h : l.length = (N + 7) / 8) (h8 : N % 8 = 0) :
    Calls Try.prog 54 #[.agg #[.slice A l.length c, .int .i64 N]] w fun e w' => e = .returned (.bool true) ∧ Below w.heap.size w w' := by
  have hne : ((l.length : Int) != ((N : Int) + 7) / 8) = false := by rw [bne_eq_false_iff_eq]; omega
  have hn : decide ((N : Int) < 0) = false := by simp
  have hu : ((N : Int) % 8 == 0) = true := by rw [beq_iff_eq]; omega
  clear h h8
  go_enter Try.func54, Try.ntmps54
  go_wp2_with fail
  go_quiet ((go_at_call 63; exact Calls.quiet_of_same ((bytesOf_prog _ _ h1).mono fun _ _ h => ⟨h.1, h.2.symm⟩)))
  go_wp2
  go_ret
  exact ⟨rfl, below_drewN' (below_one _ _) _⟩

theorem right_odd (A : Option Addr) (l : List UInt8) (c : Nat) (N : Nat) (w : World) (hA : Bys w A l) (h1 : N ≤ 9223372036854775807) (hl : l.length ≤ 562949953421312) (h : l.length = (N + 7) / 8) (h8 : ¬ N % 8 = 0) :
    Calls Try.prog 54 #[.agg #[.slice A l.length c, .int .i64 N]] w fun e w' =>
      e = .returned (.bool (decide ((l.getD (l.length - 1) 0).toNat * 2 ^ (N % 8) % 256 = 0))) ∧ Below w.heap.size w w' := by
  obtain ⟨b, o, rfl, hb, hc⟩ := hA.at_ (by omega)
  have hcell := hc (l.length - 1) (by omega)
  have hx := byte_toNat (l.getD (l.length - 1) 0)
  generalize (l.getD (l.length - 1) 0).toNat = x at *
  clear hc
  have hcell' : ∀ o1, (w.alloc o1).cell? ⟨b, o + (l.length - 1), none⟩ = some (.int .u8 (x : Int)) := fun o1 => by rw [World.cell?_alloc_past _ _ _ hb]; exact hcell
  clear hcell
  have hne : ((l.length : Int) != ((N : Int) + 7) / 8) = false := by rw [bne_eq_false_iff_eq]; omega
  have hn : decide ((N : Int) < 0) = false := by simp
  have hu : ((N : Int) % 8 == 0) = false := by rw [beq_eq_false_iff_ne]; omega
  have hl1 : 1 ≤ l.length := by omega
  clear h h8
  go_enter Try.func54, Try.ntmps54
  go_wp2_with fail
  go_quiet ((go_at_call 63; exact Calls.quiet_of_same ((bytesOf_prog _ _ h1).mono fun _ _ h => ⟨h.1, h.2.symm⟩)))
  go_wp2
  go_ret
  refine ⟨ret_bool ?_, below_drewN' (below_one _ _) _⟩
  have e : (x : Int) * 2 ^ (N % 8) % 256 = ((x * 2 ^ (N % 8) % 256 : Nat) : Int) := by simp
  show ((x : Int) * 2 ^ (N % 8) % 256 == 0) = _
  rw [e, Bool.eq_iff_iff, beq_iff_eq, decide_eq_true_eq]
  omega

theorem right_prog (A : Option Addr) (l : List UInt8) (c : Nat) (N : Int) (w : World) (hA : Bys w A l) (h1 : N ≤ 9223372036854775807) (hl : l.length ≤ 562949953421312) :
    Calls Try.prog 54 #[.agg #[.slice A l.length c, .int .i64 N]] w fun e w' => e = .returned (.bool (rightB l N)) ∧ Below w.heap.size w w' := by
  by_cases h0 : N < 0
  · rw [right_neg h0]
    exact right_no A l c N w h0
  · obtain ⟨k, rfl⟩ := Int.eq_ofNat_of_zero_le (show 0 ≤ N by omega)
    by_cases h : l.length = (k + 7) / 8
    · by_cases h8 : k % 8 = 0
      · rw [right_whole h h8]
        exact right_even A l c k w (by omega) hl h h8
      · rw [← right_last h h8]
        exact right_odd A l c k w hA (by omega) hl h h8
    · rw [right_size h]
      exact right_len A l c k w (by omega) hl h
end Go.Proofs.Ytheaebkegncdlaa
