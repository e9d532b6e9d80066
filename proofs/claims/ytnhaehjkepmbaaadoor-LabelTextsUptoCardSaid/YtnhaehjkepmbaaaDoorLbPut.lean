/- Labels laid behind bytes: as the program does it. -/
import Derived.Test.YtnhaehjkepmbaaaDoorFrTextG
import Derived.Test.YtnhaehjkepmbaaaDoorLbCheck
import Derived.Lib.AppendZeros
namespace Go.Proofs.YtnhaehjkepmbaaaDoor
open Go.RowKit Go.Maps
set_option linter.unusedVariables false

/-- The bytes of a right set: how many labels there are, and the first k of them. -/
def bytesF (l : List Lbl) : Nat → List UInt8
  | 0 => uintL l.length
  | k + 1 => (bytesF l k ++ textL (nmOf l k)) ++ textL (vlOf l k)
def bytesL (l : List Lbl) : List UInt8 := bytesF l l.length
theorem right_at {l : List Lbl} (h : lbChk l = 0) {k : Nat} (hk : k < l.length) : (nmOf l k).size ≤ 32 ∧ (vlOf l k).size ≤ 64 := by
  have h1 := lbErrAt_zero.1 ((lbChk_ok.1 h).2 k hk)
  exact ⟨(nameB_size h1.1).2, h1.2.2.1⟩
theorem textL_len {s : ByteArray} {m : Nat} (h : s.size ≤ m) (hm : m ≤ 100) : (textL s).length ≤ 9 + m := by
  rw [textL, List.length_append, strL_length]
  have := uintL_9 (n := s.size) (by omega)
  omega
theorem bytesF_len {l : List Lbl} (h : lbChk l = 0) : ∀ k, k ≤ l.length → (bytesF l k).length ≤ 9 + k * 114 := by
  intro k
  induction k with
  | zero =>
    intro _
    have := uintL_9 (n := l.length) (by have := (lbChk_ok.1 h).1; omega)
    show (uintL l.length).length ≤ _
    omega
  | succ k ih =>
    intro hk
    have h1 := ih (by omega)
    obtain ⟨h2, h3⟩ := right_at h (show k < l.length by omega)
    have h4 := textL_len h2 (by omega)
    have h5 := textL_len h3 (by omega)
    rw [bytesF, List.length_append, List.length_append]
    omega
theorem bytesF_small {l : List Lbl} (h : lbChk l = 0) {k : Nat} (hk : k ≤ l.length) : (bytesF l k).length ≤ 1000 := by
  have := bytesF_len h k hk
  have := (lbChk_ok.1 h).1
  omega

end Go.Proofs.YtnhaehjkepmbaaaDoor
