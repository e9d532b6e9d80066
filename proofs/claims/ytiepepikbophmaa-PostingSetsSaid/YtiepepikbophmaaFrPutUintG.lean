/- A number laid down behind bytes, as the program and as the document's own answer do it. -/
import Derived.Test.YtiepepikbophmaaOwn
import Derived.Test.YtiepepikbophmaaFrSumG
namespace Go.Proofs.Ytiepepikbophmaa
open Go.RowKit
set_option linter.unusedVariables false

theorem bys_1 {w : World} {g : Nat} {x : UInt8} (h : Row w g 5 #[.int .u8 (x.toNat : Int)]) : Bys w (some ⟨g, 0, none⟩) [x] := Row.bys (l := [x]) h
theorem byte_of (d : Nat) (h : d < 256) : (d : Int) = ((UInt8.ofNat d).toNat : Int) := by rw [UInt8.toNat_ofNat']; omega

theorem longer_prog (A : Option Addr) (l : List UInt8) (c : Nat) (more : Int) (w : World) (hA : Bys w A l) (h0 : 0 ≤ more) (h1 : (l.length : Int) + more ≤ 281474976710656) (hl : l.length ≤ 140737488355328) :
    Calls Try.prog 86 #[.slice A l.length c, .int .i64 more] w fun e w' => ∃ v, e = .returned v ∧ Own w' w.heap.size v l ∧ Below w.heap.size w w' := by
  have hmk := make_room ((l.length : Int) + more) (by omega) h1
  have hcap : ((l.length : Int) + more).toNat ≤ maxLen := by simp [maxLen]; omega
  generalize ((l.length : Int) + more).toNat = cap at *
  go_enter Try.func86, Try.ntmps86
  go_wp2_with (at_builtin; refine app_u8 rfl (.tmp 9) (.tmp 10) rfl w.heap.size (.slice (some ⟨w.heap.size, 0, none⟩) 0 cap) [] rfl (own_room (Row.new w _ _) (Nat.le_refl _) hcap) A l c rfl (hA.alloc _) (by simp only [List.length_nil]; omega) (by simp) ?_; intro v1 w1 hown1 hb1 hg1)
  go_ret
  exact ⟨v1, rfl, hown1, ((Below.refl _ _).alloc (Nat.le_refl _) _).trans hb1⟩

/-- A digit behind what has been laid down: by the closure. -/
theorem digit_put (d : Nat) (hd : d < 256) (X : Nat) (v : Value) (x : List UInt8) (base : Nat) (w : World) (hX : Row w X 35 #[v]) (hown : Own w base v x) (hb : base ≤ w.heap.size) (hbX : base ≤ X) (hn : x.length + 1 ≤ 140737488355328) :
    Calls Try.prog 87 #[.int .i64 d, .pointer (some ⟨X, 0, none⟩)] w fun e w' => ∃ v', e = .returned (.tuple #[]) ∧ Row w' X 35 #[v'] ∧ Own w' base v' (x ++ [UInt8.ofNat d]) ∧ Below base w w' := by
  have hX0 := hX.cell 0
  simp only [List.getElem?_toArray, List.getElem?_cons_zero] at hX0
  have hne := own_ne hown hX (by decide)
  have hXl := hX.lt
  have HX := Lib.hid hX
  have Hd := Lib.hid (byte_of d hd)
  clear hX
  go_enter Try.func87, Try.ntmps87
  go_wp2_with (at_builtin; refine app_u8 rfl (.tmp 3) (.tmp 6) rfl base v x rfl (own_alloc hown _) _ [UInt8.ofNat d] 1 rfl (bys_1 (by rw [← Hd.out]; exact Row.new _ _ _)) (by simp only [List.length_cons, List.length_nil]; omega) (Nat.le_trans hb (by simp)) ?_; intro v1 w1 hown1 hb1 hg1; obtain ⟨B1, d1, hv1, _, _⟩ := own_slice' hown1; generalize (x ++ [UInt8.ofNat d]).length = ln at hv1; subst hv1; have hX1 := grown_row (HX.out.alloc _) hg1 hne; have hXf := hX1.frozen 0; have hXc := hX1.cell 0; simp only [List.getElem?_toArray, List.getElem?_cons_zero] at hXc; have HX1 := Lib.hid hX1; clear hX1)
  go_end0
  have h3 := own_ne hown1 HX1.out (by decide)
  exact ⟨.slice B1 ln d1, rfl, by simpa using HX1.out.setAt 0 (.slice B1 ln d1), own_setFar hown1 (fun e => h3 e.symm) _, (((Below.refl _ _).alloc hb _).trans hb1).setCell hbX _⟩

theorem putuint_prog (A : Option Addr) (l : List UInt8) (c n : Nat) (w : World) (hA : Bys w A l) (hl : l.length ≤ 140737488355000) (hn : n ≤ 9223372036854775807) :
    Calls Try.prog 62 #[.slice A l.length c, .int .i64 n] w fun e w' => ∃ v, e = .returned (.tuple #[v, .int .i64 0]) ∧ Own w' w.heap.size v (l ++ uintL n) ∧ Below w.heap.size w w' := by
  have d0 : decide ((n : Int) < 0) = false := by simp
  have hmf : ∀ (fn : Fn) (first cap : Array Value) (w : World), (Instr.makeFunc fn first cap).run Try.prog w = .ok (.func fn first cap) w := fun _ _ _ _ => rfl
  have hu9 := uintL_9 (n := n) (by omega)
  go_enter Try.func62, Try.ntmps62
  go_wp2_with fail
  refine (longer_prog A l c 9 w hA (by omega) (by omega) (by omega)).mono ?_
  rintro e w1 ⟨v1, rfl, hown1, hb1⟩
  obtain ⟨B1, d1, hv1, _, _⟩ := own_slice' hown1
  subst hv1
  have hR1 := Row.new w1 35 #[.slice B1 l.length d1]
  have hown1' := own_alloc hown1 (.cells #[.slice B1 l.length d1] 35)
  have hB1 : Below w.heap.size w (w1.alloc (.cells #[.slice B1 l.length d1] 35)) := hb1.alloc hb1.size _
  have hs1 := hb1.size
  go_wp2_with fail
  generalize hxx : w1.alloc (.cells #[.slice B1 l.length d1] 35) = x1 at *
  generalize hX : w1.heap.size = X at *
  clear hxx
  go_loopw [1] (fun i wr => ∃ (m : Nat) (v : Value) (x : List UInt8), m ≤ n ∧ i = .int .i64 m ∧ Row wr X 35 #[v] ∧ Own wr w.heap.size v x ∧ x ++ uintL m = l ++ uintL n ∧ Below w.heap.size w wr) (fun i _ => (intOf i).toNat)
  case atStart => exact ⟨n, _, l, Nat.le_refl _, rfl, hR1, hown1', rfl, hB1⟩
  case round =>
    obtain ⟨m, v, x, hm, rfl, hRr, hor, hxm, hbr⟩ := hrel
    have hlen := congrArg List.length hxm
    rw [List.length_append, List.length_append] at hlen
    have hsr := hbr.size
    by_cases hbig : m < 128
    · have Hx := Lib.hid (show x ++ [UInt8.ofNat m] = l ++ uintL n by rw [← hxm, uintL_small hbig])
      have hup := uintL_pos m
      have dd : decide (128 ≤ (m : Int)) = false := by simp; omega
      clear hxm
      go_wp2_with fail
      refine (digit_put m (by omega) X v x w.heap.size wr hRr hor hsr hs1 (by omega)).mono ?_
      rintro e w2 ⟨v2, rfl, hR2, hO2, hb2⟩
      have hX0 := hR2.cell 0
      simp only [List.getElem?_toArray, List.getElem?_cons_zero] at hX0
      go_wp2
      go_ret2
      exact ⟨v2, rfl, by rw [← Hx.out]; exact hO2, hbr.trans hb2⟩
    · have Hx := Lib.hid (show (x ++ [UInt8.ofNat (m % 128 + 128)]) ++ uintL (m / 128) = l ++ uintL n by rw [← hxm, uintL_big hbig]; simp)
      have hup := uintL_pos m
      have dd : decide (128 ≤ (m : Int)) = true := by simp; omega
      have hwr : (m : Int) % 128 + 128 = ((m % 128 + 128 : Nat) : Int) := by omega
      have HP := Lib.hid (digit_put (m % 128 + 128) (by omega) X v x w.heap.size wr hRr hor hsr hs1 (by omega))
      rw [← hwr] at HP
      clear hxm hwr
      go_wp2_with fail
      refine HP.out.mono ?_
      rintro e w2 ⟨v2, rfl, hR2, hO2, hb2⟩
      go_wp2
      go_roundw
      case rel => exact ⟨m / 128, v2, _, by omega, by go_num, hR2, hO2, Hx.out, hbr.trans hb2⟩
      case measure => simp [intOf]; omega
theorem putuint_bad (A : Option Addr) (len c : Nat) (n : Int) (w : World) (hn : n < 0) :
    Calls Try.prog 62 #[.slice A len c, .int .i64 n] w fun e w' => e = .returned (.tuple #[.slice none 0 0, .int .i64 2]) ∧ w = w' := by
  go_enter Try.func62, Try.ntmps62
  go_wp2
  go_ret2
  exact ⟨rfl, rfl⟩

theorem uint_ref (n : Nat) (w : World) (hn : n ≤ 9223372036854775807) :
    Calls Try.prog 89 #[.int .i64 n] w fun e w' => ∃ v, e = .returned v ∧ Own w' w.heap.size v (uintL n) ∧ Below w.heap.size w w' := by
  have hu9 := uintL_9 (n := n) (by omega)
  go_enter Try.func89, Try.ntmps89
  go_wp2
  go_loopw [0, 3] (fun i v wr => ∃ (m : Nat) (x : List UInt8), m ≤ n ∧ i = .int .i64 m ∧ Own wr w.heap.size v x ∧ x ++ uintL m = uintL n ∧ Below w.heap.size w wr) (fun i _ _ => (intOf i).toNat)
  case atStart => exact ⟨n, [], Nat.le_refl _, rfl, own_nil _ _, rfl, Below.refl _ _⟩
  case round =>
    obtain ⟨m, x, hm, rfl, hor, hxm, hbr⟩ := hrel
    have hlen := congrArg List.length hxm
    rw [List.length_append] at hlen
    have hsr := hbr.size
    have hup := uintL_pos m
    by_cases hbig : m < 128
    · have Hx := Lib.hid (show x ++ [UInt8.ofNat m] = uintL n by rw [← hxm, uintL_small hbig])
      have dd : decide (127 < (m : Int)) = false := by simp; omega
      have Hd := Lib.hid (byte_of m (by omega))
      clear hxm
      go_wp2_with (at_builtin; refine app_u8 rfl (.tmp 15) (.tmp 18) rfl w.heap.size _ x rfl (own_alloc hor _) _ [UInt8.ofNat m] 1 rfl (bys_1 (by rw [← Hd.out]; exact Row.new _ _ _)) (by simp only [List.length_singleton]; omega) (Nat.le_trans hsr (by simp)) ?_; intro v1 w1 hown1 hb1 hg1)
      go_ret
      exact ⟨v1, rfl, by rw [← Hx.out]; exact hown1, (hbr.alloc hsr _).trans hb1⟩
    · have Hx := Lib.hid (show (x ++ [UInt8.ofNat (m % 128 + 128)]) ++ uintL (m / 128) = uintL n by rw [← hxm, uintL_big hbig]; simp)
      have dd : decide (127 < (m : Int)) = true := by simp; omega
      have Hd := Lib.hid (show (m : Int) % 128 + 128 = ((UInt8.ofNat (m % 128 + 128)).toNat : Int) by rw [UInt8.toNat_ofNat']; omega)
      clear hxm
      go_wp2_with (at_builtin; refine app_u8 rfl (.tmp 6) (.tmp 11) rfl w.heap.size _ x rfl (own_alloc hor _) _ [UInt8.ofNat (m % 128 + 128)] 1 rfl (bys_1 (by rw [← Hd.out]; exact Row.new _ _ _)) (by simp only [List.length_singleton]; omega) (Nat.le_trans hsr (by simp)) ?_; intro v1 w1 hown1 hb1 hg1)
      go_roundw
      case rel => exact ⟨m / 128, _, by omega, by go_num, hown1, Hx.out, (hbr.alloc hsr _).trans hb1⟩
      case measure => simp [intOf]; omega
end Go.Proofs.Ytiepepikbophmaa
