/- What stands behind an escape, whatever it is; a value at the front of any text. -/
import Derived.Test.YtnhaehjkepmbaaaDoorLbHexBad
import Derived.Test.YtnhaehjkepmbaaaDoorLbUnesc
import Derived.Test.YtnhaehjkepmbaaaDoorShelf
namespace Go.Proofs.YtnhaehjkepmbaaaDoor
open Go.RowKit
set_option linter.unusedVariables false
/-- The library's own error of a text stands in its place. -/
def ErrAt (w : World) : Prop := 1 < w.heap.size ∧ ∃ ev, w.cell? ⟨1, 0, none⟩ = some ev ∧ (ev = .nilIface ∨ ∃ te pe, ev = .iface te pe)
theorem ErrAt.below {w w' : World} (h : ErrAt w) (hb : Below w.heap.size w w') : ErrAt w' := by
  obtain ⟨h1, ev, h2, h3⟩ := h
  exact ⟨Nat.lt_of_lt_of_le h1 hb.size, ev, (hb.cell (p := ⟨1, 0, none⟩) h1).trans h2, h3⟩
theorem puint_bad (s : ByteArray) (a b : UInt8) (hs : strL s = [a, b]) (hx : ¬ (hexN a.toNat < 16 ∧ hexN b.toNat < 16)) (w : World) (hg : ErrAt w) :
    Calls Tryd.prog 31 #[.string s, .int .i64 16, .int .i64 8] w fun e w' => (∃ N, e = .returned (.tuple #[.int .u64 0, .iface 69 (.pointer (some ⟨N, 0, none⟩))])) ∧ Below w.heap.size w w' := by
  have HP := Lib.hid (pu_bad s a b hs hx w)
  have hsz : s.size = 2 := by rw [← strL_length, hs]; rfl
  have HT := Lib.hid (fun (x : World) (hx : Below w.heap.size w x) => show Calls Tryd.prog 37 #[.string ⟨#[80, 97, 114, 115, 101, 85, 105, 110, 116]⟩, .string s, .int .i64 16, .int .i64 8, .iface 67 (.int .i64 2)] x fun e w' => ∃ N, e = .returned (.iface 69 (.pointer (some ⟨N, 0, none⟩))) ∧ Below x.heap.size x w' from by
    obtain ⟨_, ev, h2, h3⟩ := hg.below hx
    refine (Tryd.strconv_toError_syntax ⟨#[80, 97, 114, 115, 101, 85, 105, 110, 116]⟩ s 16 8 ev x (by omega) h2 h3).mono ?_
    rintro e w' ⟨N, h1, _, _, h4⟩
    exact ⟨N, h1, h4⟩)
  clear hs hx hg hsz
  go_enter Tryd.func31, Tryd.ntmps31
  go_wp2_with fail
  refine HP.out.mono ?_
  rintro e w1 ⟨rfl, hb1⟩
  have HB1 := Lib.hid hb1
  have HTX := Lib.hid (HT.out w1 hb1)
  clear hb1
  go_wp2_with fail
  refine HTX.out.mono ?_
  rintro e w2 ⟨N, rfl, hb2⟩
  have HB2 := Lib.hid (below_then HB1.out hb2)
  clear hb2
  go_wp2_with fail
  go_ret2
  exact ⟨⟨N, rfl⟩, HB2.out⟩
def BehTold (s : ByteArray) (w : World) (e : Ending) (w' : World) : Prop := (∃ (c : UInt8) (n : Nat), e = .returned (.tuple #[.int .u8 (c.toNat : Int), .int .i64 (n : Int)]) ∧ n ≤ s.size) ∧ Below w.heap.size w w'
theorem behind_any (s : ByteArray) (w : World) (hg : ErrAt w) : Calls Tryd.prog 26 #[.string s] w (BehTold s w) := by
  by_cases h0 : s.size = 0
  · have i0 : ((s.size : Int) == 0) = true := by rw [beq_iff_eq]; omega
    clear hg
    go_enter Tryd.func26, Tryd.ntmps26
    go_wp2_with fail
    go_ret2
    exact ⟨⟨0, 0, rfl, by omega⟩, Below.refl _ _⟩
  have hp : 0 < s.size := by omega
  by_cases h1 : s[0].toNat = 120
  rotate_left
  · refine (behind_plain s s[0] hp rfl h1 w).mono ?_
    rintro e w' ⟨rfl, hb⟩
    exact ⟨⟨s[0], 1, rfl, hp⟩, hb⟩
  have i0 : ((s.size : Int) == 0) = false := by rw [beq_eq_false_iff_ne]; omega
  have i1 : ((s[0].toNat : Int) != 120) = false := by rw [h1]; rfl
  have i2 : ((s[0].toNat : Int) == 120) = true := by rw [h1]; rfl
  have i3 : (0 : Int) < (s.size : Int) := by omega
  by_cases h3 : s.size < 3
  · have i4 : decide ((s.size : Int) < 3) = true := decide_eq_true (by omega)
    clear hg h1
    go_enter Tryd.func26, Tryd.ntmps26
    go_wp2_with fail
    go_ret2
    exact ⟨⟨0, s.size, rfl, Nat.le_refl _⟩, Below.refl _ _⟩
  have i4 : decide ((s.size : Int) < 3) = false := decide_eq_false (by omega)
  have i5 : (3 : Int) ≤ (s.size : Int) := by omega
  have i6 : 3 ≤ s.size := by omega
  have hx : strL (s.extract 1 3) = [s[1], s[2]] := by
    rw [strL_ext]
    apply List.ext_getElem?
    intro t
    rcases t with _ | _ | t
    · rw [List.getElem?_take_of_lt (by omega), List.getElem?_drop, List.getElem?_eq_getElem (by rw [strL_length]; omega)]; rfl
    · rw [List.getElem?_take_of_lt (by omega), List.getElem?_drop, List.getElem?_eq_getElem (by rw [strL_length]; omega)]; rfl
    · rw [List.getElem?_eq_none (by simp; omega), List.getElem?_eq_none (by simp)]
  by_cases hd : hexN s[1].toNat < 16 ∧ hexN s[2].toNat < 16
  · have HP := Lib.hid (fun W => puint_ok (s.extract 1 3) s[1] s[2] hx hd.1 hd.2 _ rfl W)
    obtain ⟨v, hv⟩ : ∃ v, 16 * hexN s[1].toNat + hexN s[2].toNat = v := ⟨_, rfl⟩
    rw [hv] at HP
    have hv2 : v < 256 := by omega
    have w1 : IntKind.u8.wrap (v : Int) = (v : Int) := by rw [IntKind.wrap_u8]; omega
    have HR := Lib.hid (show ((UInt8.ofNat v).toNat : Int) = (v : Int) by simp; omega)
    clear hx hd hg hv h1
    go_enter Tryd.func26, Tryd.ntmps26
    go_wp2_with (first | (go_at_call 31; refine (HP.out _).mono ?_; rintro e w2 ⟨rfl, hb2⟩; have HB := Lib.hid hb2; clear hb2))
    go_ret2
    exact ⟨⟨UInt8.ofNat v, 3, by rw [HR.out]; rfl, i6⟩, HB.out⟩
  · have HP := Lib.hid (puint_bad (s.extract 1 3) s[1] s[2] hx hd w hg)
    clear hx hd hg h1
    go_enter Tryd.func26, Tryd.ntmps26
    go_wp2_with fail
    refine HP.out.mono ?_
    rintro e w2 ⟨⟨N, rfl⟩, hb2⟩
    have HB := Lib.hid hb2
    clear hb2
    go_wp2_with fail
    go_ret2
    exact ⟨⟨0, 3, rfl, i6⟩, HB.out⟩
end Go.Proofs.YtnhaehjkepmbaaaDoor
