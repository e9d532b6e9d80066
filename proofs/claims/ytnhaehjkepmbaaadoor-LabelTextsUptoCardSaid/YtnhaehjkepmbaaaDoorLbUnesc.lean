/- A value read back out of its text: as the program does it. -/
import Derived.Test.YtnhaehjkepmbaaaDoorLbHex
import Derived.Test.YtnhaehjkepmbaaaDoorLbEsc
namespace Go.Proofs.YtnhaehjkepmbaaaDoor
open Go.RowKit
set_option linter.unusedVariables false

theorem ret_2 {a b : Int} {x y : Int} (h1 : a = x) (h2 : b = y) : Ending.returned (.tuple #[.int .u8 a, .int .i64 b]) = .returned (.tuple #[.int .u8 x, .int .i64 y]) := by rw [h1, h2]
theorem puint_ok (s : ByteArray) (a b : UInt8) (hs : strL s = [a, b]) (hxa : hexN a.toNat < 16) (hxb : hexN b.toNat < 16) (v : Nat) (hv : 16 * hexN a.toNat + hexN b.toNat = v) (w : World) :
    Calls Tryd.prog 31 #[.string s, .int .i64 16, .int .i64 8] w fun e w' => e = .returned (.tuple #[.int .u64 (v : Int), .nilIface]) ∧ Below w.heap.size w w' := by
  have HP := Lib.hid (pu_ok s a b hs hxa hxb v hv w)
  clear hs hxa hxb hv
  go_enter Tryd.func31, Tryd.ntmps31
  go_wp2_with (first | (go_at_call 36; refine HP.out.mono ?_; rintro e w1 ⟨rfl, hb1⟩))
  go_ret2
  exact ⟨rfl, hb1⟩
theorem hexN_hexD : ∀ q : Fin 16, hexN (hexD q.val).toNat = q.val := by decide +kernel
/-- Behind an escape: a byte that stands as it is. -/
theorem behind_plain (s : ByteArray) (c : UInt8) (h0 : 0 < s.size) (hc : s[0] = c) (hx : c.toNat ≠ 120) (w : World) :
    Calls Tryd.prog 26 #[.string s] w fun e w' => e = .returned (.tuple #[.int .u8 (c.toNat : Int), .int .i64 1]) ∧ Below w.heap.size w w' := by
  have i0 : ((s.size : Int) == 0) = false := by rw [beq_eq_false_iff_ne]; omega
  have i1 : ((s[0].toNat : Int) != 120) = true := by rw [hc]; exact bne_iff_ne.2 (by omega)
  have i2 : ((s[0].toNat : Int) == 120) = false := by rw [hc]; exact beq_eq_false_iff_ne.2 (by omega)
  have i3 : (0 : Int) < (s.size : Int) := by omega
  have HC := Lib.hid hc
  clear hc hx
  go_enter Tryd.func26, Tryd.ntmps26
  go_wp2_with fail
  go_ret2
  exact ⟨ret_2 (by rw [HC.out]) rfl, Below.refl _ _⟩
theorem strL_ext (s : ByteArray) (i j : Nat) : strL (s.extract i j) = ((strL s).drop i).take (j - i) := by
  unfold strL
  rw [ByteArray.data_extract, Array.toList_extract, List.extract_eq_take_drop]
/-- Behind an escape: x and two digits. -/
theorem behind_hex (s : ByteArray) (q r : Nat) (hq : q < 16) (hr : r < 16) (R : List UInt8) (hs : strL s = 120 :: hexD q :: hexD r :: R) (w : World) :
    Calls Tryd.prog 26 #[.string s] w fun e w' => e = .returned (.tuple #[.int .u8 ((16 * q + r : Nat) : Int), .int .i64 3]) ∧ Below w.heap.size w w' := by
  have hz : s.size = R.length + 3 := by rw [← strL_length, hs]; rfl
  have h0 : s[0]'(by omega) = 120 := by
    have := strL_get s (k := 0) (by omega)
    rw [hs] at this
    exact this.symm
  have hx : strL (s.extract 1 3) = [hexD q, hexD r] := by rw [strL_ext, hs]; rfl
  have e1 := hexN_hexD ⟨q, hq⟩
  have e2 := hexN_hexD ⟨r, hr⟩
  simp only at e1 e2
  have HP := Lib.hid (fun W => puint_ok (s.extract 1 3) (hexD q) (hexD r) hx (by omega) (by omega) (16 * q + r) (by omega) W)
  obtain ⟨v, hv⟩ : ∃ v, 16 * q + r = v := ⟨_, rfl⟩
  rw [hv] at HP ⊢
  have i0 : ((s.size : Int) == 0) = false := by rw [beq_eq_false_iff_ne]; omega
  have i1 : (((s[0]'(by omega)).toNat : Int) != 120) = false := by rw [h0]; rfl
  have i2 : (((s[0]'(by omega)).toNat : Int) == 120) = true := by rw [h0]; rfl
  have i3 : (0 : Int) < (s.size : Int) := by omega
  have i4 : decide ((s.size : Int) < 3) = false := decide_eq_false (by omega)
  have i5 : (3 : Int) ≤ (s.size : Int) := by omega
  have i6 : 3 ≤ s.size := by omega
  have w1 : IntKind.u8.wrap (v : Int) = (v : Int) := by rw [IntKind.wrap_u8]; omega
  clear hx e1 e2 hs hv h0
  go_enter Tryd.func26, Tryd.ntmps26
  go_wp2_with (first | (go_at_call 31; refine (HP.out _).mono ?_; rintro e w2 ⟨rfl, hb2⟩; have HB := Lib.hid hb2; clear hb2))
  go_ret2
  exact ⟨rfl, HB.out⟩

/-- Where the text of a value stands: ahead of place k of the value stand so many bytes. -/
def escP (v : List UInt8) (k : Nat) : Nat := (escL (v.take k)).length
theorem escP_succ (v : List UInt8) {k : Nat} (h : k < v.length) : escP v (k + 1) = escP v k + (escB (v.getD k 0)).length := by
  unfold escP escL
  rw [List.take_succ_eq_append_getElem h, List.flatMap_append, List.length_append, getD_in v 0 h]
  simp
theorem escL_drop (v : List UInt8) (R : List UInt8) {k : Nat} (h : k ≤ v.length) : (escL v ++ R).drop (escP v k) = escL (v.drop k) ++ R := by
  have e : escL v = escL (v.take k) ++ escL (v.drop k) := by
    unfold escL
    rw [← List.flatMap_append, List.take_append_drop]
  rw [e, List.append_assoc, escP, List.drop_append_of_le_length (Nat.le_refl _), List.drop_of_length_le (Nat.le_refl _), List.nil_append]
theorem escL_at (v : List UInt8) (R : List UInt8) {k : Nat} (h : k < v.length) : (escL v ++ R).drop (escP v k) = escB (v.getD k 0) ++ (escL (v.drop (k + 1)) ++ R) := by
  rw [escL_drop v R (by omega), List.drop_eq_getElem_cons h, escL, List.flatMap_cons, getD_in v 0 h, List.append_assoc]
  rfl
theorem at_drop {l X : List UInt8} {p : Nat} {c : UInt8} (h : l.drop p = c :: X) : p < l.length ∧ l.getD p 0 = c ∧ l.drop (p + 1) = X := by
  have hl : p < l.length := by
    rcases Nat.lt_or_ge p l.length with h1 | h1
    · exact h1
    · rw [List.drop_of_length_le h1] at h; cases h
  rw [List.drop_eq_getElem_cons hl] at h
  injection h with h1 h2
  exact ⟨hl, by rw [getD_in l 0 hl]; exact h1, h2⟩
end Go.Proofs.YtnhaehjkepmbaaaDoor
