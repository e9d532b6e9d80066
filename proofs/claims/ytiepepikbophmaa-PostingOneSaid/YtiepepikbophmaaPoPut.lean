/- A posting list laid behind bytes: as the program and as the document's own answer do it. -/
import Derived.Test.YtiepepikbophmaaPoCat
namespace Go.Proofs.Ytiepepikbophmaa
open Go.RowKit Go.Maps
set_option linter.unusedVariables false

/-- A number's bytes behind what has been laid down: by the closure. -/
theorem lay_put (n : Nat) (hn : n ≤ 9223372036854775807) (X : Nat) (v : Value) (x : List UInt8) (base : Nat) (w : World) (hX : Row w X 35 #[v]) (hown : Own w base v x) (hb : base ≤ w.heap.size) (hbX : base ≤ X) (hl : x.length ≤ 1000000) :
    Calls Try.prog 61 #[.int .i64 n, .pointer (some ⟨X, 0, none⟩)] w fun e w' => ∃ v', e = .returned (.tuple #[]) ∧ Row w' X 35 #[v'] ∧ Own w' base v' (x ++ uintL n) ∧ Below base w w' := by
  have hu9 := uintL_9 (n := n) (by omega)
  have HP := Lib.hid (fun W => putuint_prog none [] 0 n W (Bys.empty _ _) (by simp) hn)
  have HX := Lib.hid hX
  have HO := Lib.hid hown
  have HU := Lib.hid hu9
  clear hX hown hu9
  generalize uintL n = y at *
  go_enter Try.func61, Try.ntmps61
  go_wp2_with (first
    | (go_at_call 62; refine (HP.out _).mono ?_; rintro e w2 ⟨v2, rfl, ho2, hb2⟩; rw [List.nil_append] at ho2; obtain ⟨P2, d2, hv2, hP2, _⟩ := own_slice' ho2; subst hv2; have HP2 := Lib.hid hP2; have HB2 := Lib.hid (hb2.mono hb); have HX2 := Lib.hid (HX.out.below hb2 (Row.lt HX.out)); have HO2 := Lib.hid (own_below HO.out hb2); have c0 := HX2.out.cell 0; simp only [List.getElem?_toArray, List.getElem?_cons_zero] at c0; have hs2 := hb2.size; clear ho2 hb2 hP2)
    | (at_builtin; refine app_u8 rfl (.tmp 10) (.tmp 11) rfl base v x rfl HO2.out P2 y d2 rfl HP2.out (by have := HU.out; omega) (Nat.le_trans hb hs2) ?_; intro v3 w3 hown3 hb3 hg3; have hX3 := grown_row HX2.out hg3 (own_ne HO2.out HX2.out (by decide)); have HX3 := Lib.hid hX3; have hf := hX3.frozen 0; have hc3 := hX3.cell 0; simp only [List.getElem?_toArray, List.getElem?_cons_zero] at hc3; obtain ⟨P3, d3, hv3, _, _⟩ := own_slice' hown3; have HO3 := Lib.hid hown3; have HB3 := Lib.hid (HB2.out.trans hb3); generalize (x ++ y).length = ln at hv3; clear hown3 hb3 hg3 hX3; subst hv3))
  go_end0
  have h3 := own_ne HO3.out HX3.out (by decide)
  exact ⟨_, rfl, by simpa using HX3.out.setAt 0 (.slice P3 ln d3), own_setFar HO3.out (fun e => h3 e.symm) _, HB3.out.setCell hbX _⟩
theorem put_no (A B : Option Addr) (n c : Nat) (l : List Int) (d : Nat) (w : World) (hB : Zs w B l) (hl : l.length ≤ 281474976710656) (h : pchk l ≠ 0) :
    Calls Try.prog 30 #[.slice A n c, .slice B l.length d] w fun e w' => e = .returned (.tuple #[.slice none 0 0, .int .i64 (pchk l)]) ∧ Below w.heap.size w w' := by
  have HC := Lib.hid (check_prog B l d w hB hl)
  generalize pchk l = C at *
  have i1 : (C != 0) = true := bne_iff_ne.2 h
  have i2 : (C == 0) = false := beq_eq_false_iff_ne.2 h
  clear h hB
  go_enter Try.func30, Try.ntmps30
  go_wp2_with fail
  refine HC.out.mono ?_
  rintro e w1 ⟨rfl, rfl⟩
  go_wp2_with fail
  go_ret2
  exact ⟨rfl, Below.refl _ _⟩
set_option maxRecDepth 100000 in
set_option maxHeartbeats 2000000 in
theorem put_yes (A B : Option Addr) (b : List UInt8) (c : Nat) (l : List Int) (d : Nat) (w : World) (hA : Bys w A b) (hB : Zs w B l) (hb : b.length ≤ 140737488351300) (h : pchk l = 0) :
    Calls Try.prog 30 #[.slice A b.length c, .slice B l.length d] w fun e w' => ∃ v, e = .returned (.tuple #[v, .int .i64 0]) ∧ Own w' w.heap.size v (b ++ postL l) ∧ Below w.heap.size w w' := by
  have h8 := (pchk_zero.1 h).1
  have HC := Lib.hid (check_prog B l d w hB (by omega))
  rw [h] at HC
  have hmf : ∀ (fn : Fn) (first cap : Array Value) (w : World), (Instr.makeFunc fn first cap).run Try.prog w = .ok (.func fn first cap) w := fun _ _ _ _ => rfl
  have HA := Lib.hid hA
  have HB := Lib.hid hB
  have HH := Lib.hid h
  have HR1 := Lib.hid (Row.new w 35 #[.slice none 0 0])
  have HB0 := Lib.hid (below_one w (.cells #[.slice none 0 0] 35))
  have HU0 := Lib.hid (uintL_9 (n := l.length) (by omega))
  have HPL := Lib.hid (postL_len h)
  have HPP := Lib.hid (postL_pos l)
  clear hA hB h
  go_enter Try.func30, Try.ntmps30
  go_wp2_with fail
  refine HC.out.mono ?_
  rintro e w1 ⟨rfl, rfl⟩
  go_wp2_with (first
    | (go_at_call 61; refine (lay_put l.length (by omega) w.heap.size _ [] w.heap.size _ HR1.out (own_nil _ _) (by simp) (Nat.le_refl _) (by simp)).mono ?_; rintro e w2 ⟨v2, rfl, hX2, ho2, hb2⟩; rw [List.nil_append] at ho2; have HX2 := Lib.hid hX2; have HO2 := Lib.hid ho2; have HB2 := Lib.hid (HB0.out.trans hb2); clear hX2 ho2 hb2))
  generalize hXX : w.heap.size = X at *
  go_loopw [24, 9] (fun i u wr => ∃ (k : Nat) (v : Value) (x : List UInt8), k ≤ l.length ∧ i = .int .i64 (k : Int) ∧ u = .int .i64 (before l k) ∧ Row wr X 35 #[v] ∧ Own wr X v x ∧ x ++ riseF (before l k) (l.drop k) = postL l ∧ x.length ≤ 9 * (k + 1) ∧ Below X w wr) (fun i _ _ => l.length - (intOf i).toNat)
  case atStart => exact ⟨0, v2, _, Nat.zero_le _, rfl, rfl, HX2.out, HO2.out, rfl, by have := HU0.out; omega, HB2.out⟩
  case round =>
    obtain ⟨k, v, x, hk, rfl, rfl, hXr, ho, hcat, hxl, hbr⟩ := hrel
    have hsz : X ≤ wr.heap.size := by have := hbr.size; omega
    by_cases hlt : k < l.length
    · obtain ⟨bb, o, rfl, hbl, g0⟩ := HB.out.at_ hlt
      rw [hXX] at hbl
      have c0 := (hbr.cell (p := ⟨bb, o + k, none⟩) hbl).trans g0
      have i2 : (k : Int) < (l.length : Int) := by omega
      obtain ⟨r1, r2, r3⟩ := rise_at HH.out hlt
      rw [rise_next l hlt] at hcat
      have HBS := Lib.hid (before_succ l k)
      obtain ⟨q, hq⟩ : ∃ q : Nat, l.getD k 0 - before l k = (q : Int) := ⟨(l.getD k 0 - before l k).toNat, by omega⟩
      have hq9 : q ≤ 1099511627776 := by omega
      have hwr : IntKind.i64.wrap (l.getD k 0 - before l k) = (q : Int) := by rw [hq]; exact IntWalk.i64_in _ (by omega)
      have HU := Lib.hid (uintL_9 (n := q) (by omega))
      rw [hq] at hcat
      rw [show ((q : Nat) : Int).toNat = q from rfl] at hcat
      have HCAT := Lib.hid hcat
      have HXR := Lib.hid hXr
      have HO := Lib.hid ho
      have HBR := Lib.hid hbr
      have HXL := Lib.hid hxl
      clear hcat hXr ho hbr g0 hxl r1 r2 r3
      generalize before l k = last at *
      generalize l.getD k 0 = n at *
      clear hq
      go_wp2_with (first
        | (go_at_call 61; refine (lay_put q (by omega) X v x X _ HXR.out HO.out hsz (Nat.le_refl _) (by have := HXL.out; omega)).mono ?_; rintro e w3 ⟨v3, rfl, hX3, ho3, hb3⟩; have HX3 := Lib.hid hX3; have HO3 := Lib.hid ho3; have HB3 := Lib.hid (HBR.out.trans hb3); clear hX3 ho3 hb3))
      go_roundw
      case rel => exact ⟨k + 1, v3, _, by omega, by go_num, by rw [HBS.out], HX3.out, HO3.out, by rw [List.append_assoc]; exact HCAT.out, by have := HXL.out; have := HU.out; rw [List.length_append]; omega, HB3.out⟩
      case measure => simp [intOf]; omega
    · obtain rfl : k = l.length := by omega
      rw [List.drop_length] at hcat
      have hx : x = postL l := by rw [← hcat]; simp [riseF]
      clear hcat
      obtain ⟨P0, d0, hu, hP0, _⟩ := own_slice' ho
      have hpl := HPL.out
      have hpp := HPP.out
      rw [← hx] at hpl hpp
      have HY := Lib.hid hx
      clear hx
      subst hu
      have c0 := hXr.cell 0
      simp only [List.getElem?_toArray, List.getElem?_cons_zero] at c0
      have HAB := Lib.hid (fun W (hW : Below X w W) => (show Bys W A b from HA.out.below (by rw [hXX]; exact hW)))
      have HCN := Lib.hid (fun W (g : Nat) (hgr : Row W g 35 #[.slice A b.length c, .slice P0 x.length d0]) (hW : Below X w W) (hp : Bys W P0 x) => concat_prog g A P0 b x c d0 W hgr (HAB.out W hW) hp hb hpp (by omega))
      have HBR := Lib.hid hbr
      have HP0 := Lib.hid hP0
      clear hbr hP0 hpp hpl ho hxl hXr
      go_wp2_with (first
        | (go_at_call 63; refine (HCN.out _ _ (Row.new _ _ _) (HBR.out.alloc hsz _) (HP0.out.alloc _)).mono ?_; rintro e w5 ⟨v5, rfl, ho5, hb5⟩; have HO5 := Lib.hid (own_lower (base' := X) ho5 (Nat.le_trans hsz (by simp))); have HB5 := Lib.hid ((HBR.out.alloc hsz _).trans (hb5.mono (Nat.le_trans hsz (by simp)))); clear ho5 hb5))
      go_ret2
      exact ⟨v5, rfl, by rw [hXX, ← HY.out]; exact HO5.out, by rw [hXX]; exact HB5.out⟩
end Go.Proofs.Ytiepepikbophmaa
