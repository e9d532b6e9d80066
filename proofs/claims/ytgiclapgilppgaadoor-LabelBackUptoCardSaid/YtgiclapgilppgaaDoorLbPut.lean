/- Labels laid behind bytes: as the program does it. -/
import Derived.Test.YtgiclapgilppgaaDoorFrTextG
import Derived.Test.YtgiclapgilppgaaDoorLbCheck
import Derived.Lib.AppendZeros
namespace Go.Proofs.YtgiclapgilppgaaDoor
open Go.RowKit Go.Maps
set_option linter.unusedVariables false

/-- The bytes of a right set: how many labels there are, and the first k of them. -/
def bytesF (l : List Lbl) : Nat → List UInt8
  | 0 => uintL l.length
  | k + 1 => (bytesF l k ++ textL (nmOf l k)) ++ textL (vlOf l k)
def bytesL (l : List Lbl) : List UInt8 := bytesF l l.length
theorem right_at {l : List Lbl} (h : lbChk l = 0) {k : Nat} (hk : k < l.length) : (nmOf l k).size ≤ 32 ∧ (vlOf l k).size ≤ 64 := by
  have h1 := lbErrAt_zero.1 ((lbChk_ok.1 h).2 k hk)
  exact ⟨(nameB_size h1.1).2, h1.2.2.1⟩
theorem textL_len {s : ByteArray} {m : Nat} (h : s.size ≤ m) (hm : m ≤ 100) : (textL s).length ≤ 9 + m := by
  rw [textL, List.length_append, strL_length]
  have := uintL_9 (n := s.size) (by omega)
  omega
theorem bytesF_len {l : List Lbl} (h : lbChk l = 0) : ∀ k, k ≤ l.length → (bytesF l k).length ≤ 9 + k * 114 := by
  intro k
  induction k with
  | zero =>
    intro _
    have := uintL_9 (n := l.length) (by have := (lbChk_ok.1 h).1; omega)
    show (uintL l.length).length ≤ _
    omega
  | succ k ih =>
    intro hk
    have h1 := ih (by omega)
    obtain ⟨h2, h3⟩ := right_at h (show k < l.length by omega)
    have h4 := textL_len h2 (by omega)
    have h5 := textL_len h3 (by omega)
    rw [bytesF, List.length_append, List.length_append]
    omega
theorem bytesF_small {l : List Lbl} (h : lbChk l = 0) {k : Nat} (hk : k ≤ l.length) : (bytesF l k).length ≤ 1000 := by
  have := bytesF_len h k hk
  have := (lbChk_ok.1 h).1
  omega

theorem grow_prog (n : Nat) (w : World) (h0 : 0 < n) (hn : n ≤ 211106232532992) :
    Calls Tryd.prog 68 #[.slice none 0 0, .int .i64 n] w fun e w' => ∃ v, e = .returned v ∧ Own w' w.heap.size v [] ∧ Below w.heap.size w w' := by
  obtain ⟨i0, hi, hz0, hz1, hz2⟩ := info_parts u8_info
  have hr := Go.Lib.run_append_nil_zeros (P := Tryd.prog) w 42 3 42 5 i0 (.int .u8 0) .i64 .i64 Tryd.underlying42 Tryd.underlying3 hi hz0 n h0 (by omega) (by omega) (by rw [hz2]; omega)
  have HG := Lib.hid (grownCap_ge w n 0 5)
  have HM := Lib.hid (grownCap_le_maxLen w n 0 5 (by simp only [maxLen]; omega))
  have HR := Lib.hid hr
  have i1 : decide ((n : Int) < 0) = false := by simp
  have i2 : decide ((0 : Int) < (n : Int)) = true := by simp; omega
  have i3 : IntKind.i64.wrap (n : Int) = n := IntWalk.i64_in _ (by omega)
  clear hr hi hz0 hz1 hz2
  go_enter Tryd.func68, Tryd.ntmps68
  go_wp2_with (at_builtin; refine Go.Lib.wpList_append_run _ rfl (.tmp 20) (.tmp 21) 42 3 rfl _ _ rfl rfl _ _ HR.out ?_)
  go_ret
  refine ⟨_, rfl, ⟨by simp [bcells], .inr ⟨w.heap.size, _, _, rfl, Nat.le_refl _, heap_alloc_new w.drew _, Nat.zero_le _, HM.out, ?_, by simp [bcells]⟩⟩, ((Below.refl _ _).drew.alloc (Nat.le_refl _) _)⟩
  have := HG.out
  simp only [Array.size_append, size_zeroCells]
  simp
  omega
end Go.Proofs.YtgiclapgilppgaaDoor
