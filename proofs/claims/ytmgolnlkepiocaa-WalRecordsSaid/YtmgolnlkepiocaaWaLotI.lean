/- In one text, written by lotify.py: PoPut, PoPlace, PoRead. -/
import Derived.Test.YtmgolnlkepiocaaWaLotH
import Derived.Test.YtmgolnlkepiocaaWaLotE
namespace Go.Proofs.Ytmgolnlkepiocaa
open Go.RowKit Go.Maps
set_option linter.unusedVariables false

/-- A number's bytes behind what has been laid down: by the closure. -/
theorem lay_put (n : Nat) (hn : n ≤ 9223372036854775807) (X : Nat) (v : Value) (x : List UInt8) (base : Nat) (w : World) (hX : Row w X 27 #[v]) (hown : Own w base v x) (hb : base ≤ w.heap.size) (hbX : base ≤ X) (hl : x.length ≤ 1000000) :
    Calls Try.prog 60 #[.int .i64 n, .pointer (some ⟨X, 0, none⟩)] w fun e w' => ∃ v', e = .returned (.tuple #[]) ∧ Row w' X 27 #[v'] ∧ Own w' base v' (x ++ uintL n) ∧ Below base w w' := by
  have hu9 := uintL_9 (n := n) (by omega)
  have HP := Lib.hid (fun W => putuint_prog none [] 0 n W (Bys.empty _ _) (by simp) hn)
  have HX := Lib.hid hX
  have HO := Lib.hid hown
  have HU := Lib.hid hu9
  clear hX hown hu9
  generalize uintL n = y at *
  go_enter Try.func60, Try.ntmps60
  go_wp2_with (first
    | (go_at_call 56; refine (HP.out _).mono ?_; rintro e w2 ⟨v2, rfl, ho2, hb2⟩; rw [List.nil_append] at ho2; obtain ⟨P2, d2, hv2, hP2, _⟩ := own_slice' ho2; subst hv2; have HP2 := Lib.hid hP2; have HB2 := Lib.hid (hb2.mono hb); have HX2 := Lib.hid (HX.out.below hb2 (Row.lt HX.out)); have HO2 := Lib.hid (own_below HO.out hb2); have c0 := HX2.out.cell 0; simp only [List.getElem?_toArray, List.getElem?_cons_zero] at c0; have hs2 := hb2.size; clear ho2 hb2 hP2)
    | (at_builtin; refine app_u8 rfl (.tmp 10) (.tmp 11) rfl base v x rfl HO2.out P2 y d2 rfl HP2.out (by have := HU.out; omega) (Nat.le_trans hb hs2) ?_; intro v3 w3 hown3 hb3 hg3; have hX3 := grown_row HX2.out hg3 (own_ne HO2.out HX2.out (by decide)); have HX3 := Lib.hid hX3; have hf := hX3.frozen 0; have hc3 := hX3.cell 0; simp only [List.getElem?_toArray, List.getElem?_cons_zero] at hc3; obtain ⟨P3, d3, hv3, _, _⟩ := own_slice' hown3; have HO3 := Lib.hid hown3; have HB3 := Lib.hid (HB2.out.trans hb3); generalize (x ++ y).length = ln at hv3; clear hown3 hb3 hg3 hX3; subst hv3))
  go_end0
  have h3 := own_ne HO3.out HX3.out (by decide)
  exact ⟨_, rfl, by simpa using HX3.out.setAt 0 (.slice P3 ln d3), own_setFar HO3.out (fun e => h3 e.symm) _, HB3.out.setCell hbX _⟩
theorem po_put_no (A B : Option Addr) (n c : Nat) (l : List Int) (d : Nat) (w : World) (hB : Zi w B l) (hl : l.length ≤ 281474976710656) (h : pchk l ≠ 0) :
    Calls Try.prog 28 #[.slice A n c, .slice B l.length d] w fun e w' => e = .returned (.tuple #[.slice none 0 0, .int .i64 (pchk l)]) ∧ Below w.heap.size w w' := by
  have HC := Lib.hid (po_check_prog B l d w hB hl)
  generalize pchk l = C at *
  have i1 : (C != 0) = true := bne_iff_ne.2 h
  have i2 : (C == 0) = false := beq_eq_false_iff_ne.2 h
  clear h hB
  go_enter Try.func28, Try.ntmps28
  go_wp2_with fail
  refine HC.out.mono ?_
  rintro e w1 ⟨rfl, rfl⟩
  go_wp2_with fail
  go_ret2
  exact ⟨rfl, Below.refl _ _⟩
set_option maxRecDepth 100000 in
set_option maxHeartbeats 2000000 in
theorem po_put_yes (A B : Option Addr) (b : List UInt8) (c : Nat) (l : List Int) (d : Nat) (w : World) (hA : Bys w A b) (hB : Zi w B l) (hb : b.length ≤ 140737488351300) (h : pchk l = 0) :
    Calls Try.prog 28 #[.slice A b.length c, .slice B l.length d] w fun e w' => ∃ v, e = .returned (.tuple #[v, .int .i64 0]) ∧ Own w' w.heap.size v (b ++ postL l) ∧ Below w.heap.size w w' := by
  have h8 := (pchk_zero.1 h).1
  have HC := Lib.hid (po_check_prog B l d w hB (by omega))
  rw [h] at HC
  have hmf : ∀ (fn : Fn) (first cap : Array Value) (w : World), (Instr.makeFunc fn first cap).run Try.prog w = .ok (.func fn first cap) w := fun _ _ _ _ => rfl
  have HA := Lib.hid hA
  have HB := Lib.hid hB
  have HH := Lib.hid h
  have HR1 := Lib.hid (Row.new w 27 #[.slice none 0 0])
  have HB0 := Lib.hid (below_one w (.cells #[.slice none 0 0] 27))
  have HU0 := Lib.hid (uintL_9 (n := l.length) (by omega))
  have HPL := Lib.hid (postL_len h)
  have HPP := Lib.hid (postL_pos l)
  clear hA hB h
  go_enter Try.func28, Try.ntmps28
  go_wp2_with fail
  refine HC.out.mono ?_
  rintro e w1 ⟨rfl, rfl⟩
  go_wp2_with (first
    | (go_at_call 60; refine (lay_put l.length (by omega) w.heap.size _ [] w.heap.size _ HR1.out (own_nil _ _) (by simp) (Nat.le_refl _) (by simp)).mono ?_; rintro e w2 ⟨v2, rfl, hX2, ho2, hb2⟩; rw [List.nil_append] at ho2; have HX2 := Lib.hid hX2; have HO2 := Lib.hid ho2; have HB2 := Lib.hid (HB0.out.trans hb2); clear hX2 ho2 hb2))
  generalize hXX : w.heap.size = X at *
  go_loopw [24, 9] (fun i u wr => ∃ (k : Nat) (v : Value) (x : List UInt8), k ≤ l.length ∧ i = .int .i64 (k : Int) ∧ u = .int .i64 (before l k) ∧ Row wr X 27 #[v] ∧ Own wr X v x ∧ x ++ riseF (before l k) (l.drop k) = postL l ∧ x.length ≤ 9 * (k + 1) ∧ Below X w wr) (fun i _ _ => l.length - (intOf i).toNat)
  case atStart => exact ⟨0, v2, _, Nat.zero_le _, rfl, rfl, HX2.out, HO2.out, rfl, by have := HU0.out; omega, HB2.out⟩
  case round =>
    obtain ⟨k, v, x, hk, rfl, rfl, hXr, ho, hcat, hxl, hbr⟩ := hrel
    have hsz : X ≤ wr.heap.size := by have := hbr.size; omega
    by_cases hlt : k < l.length
    · obtain ⟨bb, o, rfl, hbl, g0⟩ := HB.out.at_ hlt
      rw [hXX] at hbl
      have c0 := (hbr.cell (p := ⟨bb, o + k, none⟩) hbl).trans g0
      have i2 : (k : Int) < (l.length : Int) := by omega
      obtain ⟨r1, r2, r3⟩ := rise_at HH.out hlt
      rw [rise_next l hlt] at hcat
      have HBS := Lib.hid (before_succ l k)
      obtain ⟨q, hq⟩ : ∃ q : Nat, l.getD k 0 - before l k = (q : Int) := ⟨(l.getD k 0 - before l k).toNat, by omega⟩
      have hq9 : q ≤ 1099511627776 := by omega
      have hwr : IntKind.i64.wrap (l.getD k 0 - before l k) = (q : Int) := by rw [hq]; exact IntWalk.i64_in _ (by omega)
      have HU := Lib.hid (uintL_9 (n := q) (by omega))
      rw [hq] at hcat
      rw [show ((q : Nat) : Int).toNat = q from rfl] at hcat
      have HCAT := Lib.hid hcat
      have HXR := Lib.hid hXr
      have HO := Lib.hid ho
      have HBR := Lib.hid hbr
      have HXL := Lib.hid hxl
      clear hcat hXr ho hbr g0 hxl r1 r2 r3
      generalize before l k = last at *
      generalize l.getD k 0 = n at *
      clear hq
      go_wp2_with (first
        | (go_at_call 60; refine (lay_put q (by omega) X v x X _ HXR.out HO.out hsz (Nat.le_refl _) (by have := HXL.out; omega)).mono ?_; rintro e w3 ⟨v3, rfl, hX3, ho3, hb3⟩; have HX3 := Lib.hid hX3; have HO3 := Lib.hid ho3; have HB3 := Lib.hid (HBR.out.trans hb3); clear hX3 ho3 hb3))
      go_roundw
      case rel => exact ⟨k + 1, v3, _, by omega, by go_num, by rw [HBS.out], HX3.out, HO3.out, by rw [List.append_assoc]; exact HCAT.out, by have := HXL.out; have := HU.out; rw [List.length_append]; omega, HB3.out⟩
      case measure => simp [intOf]; omega
    · obtain rfl : k = l.length := by omega
      rw [List.drop_length] at hcat
      have hx : x = postL l := by rw [← hcat]; simp [riseF]
      clear hcat
      obtain ⟨P0, d0, hu, hP0, _⟩ := own_slice' ho
      have hpl := HPL.out
      have hpp := HPP.out
      rw [← hx] at hpl hpp
      have HY := Lib.hid hx
      clear hx
      subst hu
      have c0 := hXr.cell 0
      simp only [List.getElem?_toArray, List.getElem?_cons_zero] at c0
      have HAB := Lib.hid (fun W (hW : Below X w W) => (show Bys W A b from HA.out.below (by rw [hXX]; exact hW)))
      have HCN := Lib.hid (fun W (g : Nat) (hgr : Row W g 27 #[.slice A b.length c, .slice P0 x.length d0]) (hW : Below X w W) (hp : Bys W P0 x) => po_concat_prog g A P0 b x c d0 W hgr (HAB.out W hW) hp hb hpp (by omega))
      have HBR := Lib.hid hbr
      have HP0 := Lib.hid hP0
      clear hbr hP0 hpp hpl ho hxl hXr
      go_wp2_with (first
        | (go_at_call 58; refine (HCN.out _ _ (Row.new _ _ _) (HBR.out.alloc hsz _) (HP0.out.alloc _)).mono ?_; rintro e w5 ⟨v5, rfl, ho5, hb5⟩; have HO5 := Lib.hid (own_lower (base' := X) ho5 (Nat.le_trans hsz (by simp))); have HB5 := Lib.hid ((HBR.out.alloc hsz _).trans (hb5.mono (Nat.le_trans hsz (by simp)))); clear ho5 hb5))
      go_ret2
      exact ⟨v5, rfl, by rw [hXX, ← HY.out]; exact HO5.out, by rw [hXX]; exact HB5.out⟩
end Go.Proofs.Ytmgolnlkepiocaa

namespace Go.Proofs.Ytmgolnlkepiocaa
open Go.RowKit Go.Maps
set_option linter.unusedVariables false

def PY (l : List UInt8) (a : Int) (ls : List Int) (p e : Nat) : Prop := ((a < 0 ∨ (l.length : Int) < a) ∧ ls = [] ∧ p = 0 ∧ e = 2) ∨ ∃ k : Nat, a = k ∧ k ≤ l.length ∧ PX l k ls p e
theorem py_total (l : List UInt8) (a : Int) : ∃ ls p e, PY l a ls p e := by
  by_cases h : a < 0 ∨ (l.length : Int) < a
  · exact ⟨[], 0, 2, .inl ⟨h, rfl, rfl, rfl⟩⟩
  · obtain ⟨k, rfl⟩ := Int.eq_ofNat_of_zero_le (a := a) (by omega)
    obtain ⟨ls, p, e, hp⟩ := px_total l k (by omega)
    exact ⟨ls, p, e, .inr ⟨k, rfl, by omega, hp⟩⟩
theorem py_err {l : List UInt8} {a : Int} {ls : List Int} {p e : Nat} (h : PY l a ls p e) : (e ≠ 0 → ls = [] ∧ p = 0) ∧ ls.length ≤ 1024 := by
  rcases h with ⟨_, rfl, rfl, rfl⟩ | ⟨k, rfl, _, hp⟩
  · exact ⟨fun _ => ⟨rfl, rfl⟩, by simp⟩
  · exact px_err hp
/-- What Read hands back. -/
def PoTold (w : World) (ls : List Int) (p e : Nat) (e' : Ending) (w' : World) : Prop :=
  Below w.heap.size w w' ∧ ((e ≠ 0 ∧ e' = .returned (.tuple #[.slice none 0 0, .int .i64 0, .int .i64 e])) ∨ (e = 0 ∧ ∃ v, e' = .returned (.tuple #[v, .int .i64 p, .int .i64 0]) ∧ OwnZ w' w.heap.size v ls))

theorem has_both {a b : List Int} (ha : pchk a = 0) (hb : pchk b = 0) (n : Int) : decide (n ∈ bothL a b) = (decide (n ∈ a) && decide (n ∈ b)) := by
  have := both_mem (pchk_zero.1 ha).2 (pchk_zero.1 hb).2 n
  by_cases h1 : n ∈ a <;> by_cases h2 : n ∈ b <;> simp [this, h1, h2]
theorem has_either {a b : List Int} (ha : pchk a = 0) (hb : pchk b = 0) (n : Int) : decide (n ∈ eitherL a b) = (decide (n ∈ a) || decide (n ∈ b)) := by
  have := either_mem (pchk_zero.1 ha).2 (pchk_zero.1 hb).2 n
  by_cases h1 : n ∈ a <;> by_cases h2 : n ∈ b <;> simp [this, h1, h2]
theorem has_less {a b : List Int} (ha : pchk a = 0) (hb : pchk b = 0) (n : Int) : decide (n ∈ lessL a b) = (decide (n ∈ a) && !decide (n ∈ b)) := by
  have := less_mem (pchk_zero.1 ha).2 (pchk_zero.1 hb).2 n
  by_cases h1 : n ∈ a <;> by_cases h2 : n ∈ b <;> simp [this, h1, h2]
theorem ret_bool2 {a : Bool} {w w' : World} (h : a = true) : Ending.returned (.bool a) = .returned (.bool true) := by rw [h]
end Go.Proofs.Ytmgolnlkepiocaa

namespace Go.Proofs.Ytmgolnlkepiocaa
open Go.RowKit Go.Maps
set_option linter.unusedVariables false

theorem read_bad (A : Option Addr) (l : List UInt8) (c : Nat) (a : Int) (w : World) (ha : a < 0 ∨ (l.length : Int) < a) :
    Calls Try.prog 70 #[.slice A l.length c, .int .i64 a] w (PoTold w [] 0 2) := by
  have HT := Lib.hid (getuint_bad A l c a w ha)
  clear ha
  go_enter Try.func70, Try.ntmps70
  go_wp2
  go_step3
  go_wp2_with (first | (go_at_call 95; refine HT.out.mono ?_; rintro e w2 ⟨rfl, rfl⟩))
  (try rw [Exit.noGoto_ret]); go_ret3
  exact ⟨Below.refl _ _, .inl ⟨by decide, rfl⟩⟩
theorem po_read_no {l : List UInt8} {a n nx e : Nat} (h : GU l a n nx e) (he : e ≠ 0) (A : Option Addr) (c : Nat) (w : World) (hA : Bys w A l) (hlc : l.length ≤ c) (hl : l.length ≤ 140737488355328) (ha : a ≤ l.length) :
    Calls Try.prog 70 #[.slice A l.length c, .int .i64 a] w (PoTold w [] 0 e) := by
  have HT := Lib.hid (getuint_prog A l c a n nx e w hA hlc hl ha h)
  have HE := Lib.hid he
  have i1 : ((e : Int) != 0) = true := bne_iff_ne.2 (by omega)
  have i2 : ((e : Int) == 0) = false := beq_eq_false_iff_ne.2 (by omega)
  clear h he hA
  go_enter Try.func70, Try.ntmps70
  go_wp2
  go_step3
  go_wp2_with (first | (go_at_call 95; refine HT.out.mono ?_; rintro e w2 ⟨rfl, hb2⟩))
  (try rw [Exit.noGoto_ret]); go_ret3
  exact ⟨hb2, .inl ⟨HE.out, rfl⟩⟩
theorem po_read_big {l : List UInt8} {a n nx : Nat} (h : GU l a n nx 0) (hn : 1024 < n) (A : Option Addr) (c : Nat) (w : World) (hA : Bys w A l) (hlc : l.length ≤ c) (hl : l.length ≤ 140737488355328) (ha : a ≤ l.length) :
    Calls Try.prog 70 #[.slice A l.length c, .int .i64 a] w (PoTold w [] 0 3) := by
  have HT := Lib.hid (getuint_prog A l c a n nx 0 w hA hlc hl ha h)
  have i1 : decide ((1024 : Int) < (n : Int)) = true := by simp; omega
  clear h hA
  go_enter Try.func70, Try.ntmps70
  go_wp2
  go_step3
  go_wp2_with (first | (go_at_call 95; refine HT.out.mono ?_; rintro e w2 ⟨rfl, hb2⟩))
  (try rw [Exit.noGoto_ret]); go_ret3
  exact ⟨hb2, .inl ⟨by decide, rfl⟩⟩
/-- What stands behind the loop. -/
def ReTold (w : World) (LS : List Int) (P E : Nat) (e' : Ending) (w' : World) : Prop :=
  Below w.heap.size w w' ∧ ((E ≠ 0 ∧ e' = .returned (.tuple #[.slice none 0 0, .int .i64 0, .int .i64 E])) ∨ (E = 0 ∧ ∃ v, e' = .returned (.tuple #[v, .int .i64 P, .int .i64 0]) ∧ OwnZ w' w.heap.size v LS))
set_option maxRecDepth 100000 in
set_option maxHeartbeats 4000000 in
theorem po_read_told {l : List UInt8} {a n nx : Nat} {LS : List Int} {P E : Nat} (h : GU l a n nx 0) (hn : n ≤ 1024) (hr : PR l n true 0 nx LS P E) (A : Option Addr) (c : Nat) (w : World) (hA : Bys w A l) (hlc : l.length ≤ c) (hl : l.length ≤ 140737488355328) (ha : a ≤ l.length) :
    Calls Try.prog 70 #[.slice A l.length c, .int .i64 a] w (ReTold w LS P E) := by
  have HT := Lib.hid (getuint_prog A l c a n nx 0 w hA hlc hl ha h)
  have i1 : decide ((1024 : Int) < (n : Int)) = false := by simp; omega
  have HA := Lib.hid hA
  have HRL := Lib.hid hr
  have HNX := Lib.hid (gu_behind h).2.1
  clear h hA hr
  go_enter Try.func70, Try.ntmps70
  go_wp2
  go_step3
  go_wp2_with (first | (go_at_call 95; refine HT.out.mono ?_; rintro e w2 ⟨rfl, hb2⟩; have HB2 := Lib.hid hb2; clear hb2))
  go_step3
  go_wp2_with fail
  go_loopw [26, 1, 9, 10, 8] (fun i u v y z wr => ∃ (k : Nat) (ac rest : List Int) (last at_ : Nat), k ≤ n ∧ i = .int .i64 (k : Int) ∧ u = .int .i64 (at_ : Int) ∧ y = .int .i64 (last : Int) ∧ z = .int .i64 0 ∧ OwnZ wr w.heap.size v ac ∧ PR l (n - k) (decide (k = 0)) last at_ rest P E ∧ (E = 0 → ac ++ rest = LS) ∧ ac.length ≤ k ∧ at_ ≤ l.length ∧ last ≤ 1099511627776 ∧ Below w.heap.size w wr) (fun i _ _ _ _ _ => n - (intOf i).toNat)
  case atStart => exact ⟨0, [], LS, 0, nx, Nat.zero_le _, rfl, rfl, rfl, rfl, ownz_nil _ _, HRL.out, fun _ => rfl, Nat.le_refl _, HNX.out, by omega, HB2.out⟩
  case round =>
    obtain ⟨k, ac, rest, last, at_, hk, rfl, rfl, rfl, rfl, ho, hrl, hcat, hacl, hat, hla, hbr⟩ := hrel
    have hsz := hbr.size
    by_cases hlt : k < n
    · have i2 : (k : Int) < (n : Int) := by omega
      have HO := Lib.hid ho
      have HBR := Lib.hid hbr
      have hA1 := HA.out.below hbr
      obtain ⟨m, hm⟩ : ∃ m, n - k = m + 1 := ⟨n - k - 1, by omega⟩
      rw [hm] at hrl
      clear ho hbr
      generalize hf0 : decide (k = 0) = f at hrl
      cases hrl with
      | bad _ _ _ _ d nx2 e h he =>
        have HC := Lib.hid (getuint_prog A l c at_ d nx2 E _ hA1 hlc hl hat h)
        have j1 : ((E : Int) != 0) = true := bne_iff_ne.2 (by omega)
        have j2 : ((E : Int) == 0) = false := beq_eq_false_iff_ne.2 (by omega)
        have HE := Lib.hid he
        clear h he hA1 hcat hf0
        go_wp2_with (first | (go_at_call 95; refine HC.out.mono ?_; rintro e w3 ⟨rfl, hb3⟩; have HB3 := Lib.hid (HBR.out.trans (hb3.mono HBR.out.size)); clear hb3))
        (try rw [Exit.noGoto_ret]); go_ret3
        exact ⟨HB3.out, .inl ⟨HE.out, rfl⟩⟩
      | wrong _ _ _ _ d nx2 h hw =>
        have HC := Lib.hid (getuint_prog A l c at_ d nx2 0 _ hA1 hlc hl hat h)
        have hq : IntKind.i64.wrap (1099511627776 - (last : Int)) = ((1099511627776 - last : Nat) : Int) := by rw [IntWalk.i64_in _ (by omega)]; omega
        have hdl := (gu_behind h).2.2
        clear h hA1 hcat
        by_cases hw1 : 1099511627776 < last + d
        · have j3 : ((1099511627776 - last : Nat) : Int) < (d : Int) := by omega
          have j4 : decide (((1099511627776 - last : Nat) : Int) < (d : Int)) = true := decide_eq_true j3
          clear hw hf0
          generalize 1099511627776 - last = q at *
          go_wp2_with (first | (go_at_call 95; refine HC.out.mono ?_; rintro e w3 ⟨rfl, hb3⟩; have HB3 := Lib.hid (HBR.out.trans (hb3.mono HBR.out.size)); clear hb3))
          (try rw [Exit.noGoto_ret]); go_ret3
          exact ⟨HB3.out, .inl ⟨by decide, rfl⟩⟩
        · obtain ⟨hf, hd⟩ : f = false ∧ d = 0 := by rcases hw with h | h; exact absurd h hw1; exact h
          subst hd
          rw [hf] at hf0
          have hk0 : 0 < k := by have := of_decide_eq_false hf0; omega
          have j3 : ¬ ((1099511627776 - last : Nat) : Int) < ((0 : Nat) : Int) := by omega
          have j4 : decide (((1099511627776 - last : Nat) : Int) < ((0 : Nat) : Int)) = false := decide_eq_false j3
          have j5 : (0 : Int) < (k : Int) := by omega
          have j6 : decide ((0 : Int) < (k : Int)) = true := decide_eq_true j5
          clear hw hf0 hf
          generalize 1099511627776 - last = q at *
          go_wp2_with (first | (go_at_call 95; refine HC.out.mono ?_; rintro e w3 ⟨rfl, hb3⟩; have HB3 := Lib.hid (HBR.out.trans (hb3.mono HBR.out.size)); clear hb3))
          (try rw [Exit.noGoto_ret]); go_ret3
          exact ⟨HB3.out, .inl ⟨by decide, rfl⟩⟩
      | more _ _ _ _ d nx2 ls _ _ h hd hf r =>
        have HC := Lib.hid (getuint_prog A l c at_ d nx2 0 _ hA1 hlc hl hat h)
        have HN2 := Lib.hid (gu_behind h).2.1
        have hq : IntKind.i64.wrap (1099511627776 - (last : Int)) = ((1099511627776 - last : Nat) : Int) := by rw [IntWalk.i64_in _ (by omega)]; omega
        have hs : IntKind.i64.wrap ((last : Int) + (d : Int)) = ((last + d : Nat) : Int) := by rw [IntWalk.i64_in _ (by omega)]; omega
        have j3 : ¬ ((1099511627776 - last : Nat) : Int) < (d : Int) := by omega
        have j4 : decide (((1099511627776 - last : Nat) : Int) < (d : Int)) = false := decide_eq_false j3
        have HCAT := Lib.hid hcat
        have HRR := Lib.hid r
        have HAC := Lib.hid hacl
        have HD := Lib.hid hd
        obtain ⟨sm, hsm⟩ : ∃ sm, last + d = sm := ⟨_, rfl⟩
        rw [hsm] at hs HRR HD HCAT
        have HFK := Lib.hid (show decide (k + 1 = 0) = false by simp)
        by_cases hd0 : d = 0
        · have hk0 : k = 0 := by
            rcases hf with h | h
            · rw [h] at hf0; exact of_decide_eq_true hf0
            · exact absurd hd0 h
          have k1 : ((d : Int) == 0) = true := by rw [hd0]; rfl
          have k2 : decide ((0 : Int) < (k : Int)) = false := by rw [hk0]; rfl
          have k3 : ¬ (0 : Int) < (k : Int) := by rw [hk0]; decide
          clear h hA1 hcat r hf hf0 hsm hd0 hk0 hd
          generalize 1099511627776 - last = q at *
          go_wp2_with (first
            | (go_at_call 95; refine HC.out.mono ?_; rintro e w3 ⟨rfl, hb3⟩; have HB3 := Lib.hid (HBR.out.trans (hb3.mono HBR.out.size)); have HO3 := Lib.hid (ownz_below HO.out hb3); clear hb3)
            | (at_builtin; refine app_zs rfl (.tmp 53) (.tmp 55) rfl w.heap.size _ ac rfl (ownz_below HO3.out (below_one _ _)) _ [(sm : Int)] 1 rfl (zs_cell (Row.new _ _ _)) (by have := HAC.out; simp only [List.length_cons, List.length_nil]; omega) (Nat.le_trans HB3.out.size (by simp)) ?_; intro v5 w5 hown5 hb5 _; have HO5 := Lib.hid hown5; have HB5 := Lib.hid ((HB3.out.alloc HB3.out.size _).trans hb5); clear hown5 hb5))
          go_roundw
          case rel => exact ⟨k + 1, ac ++ [(sm : Int)], ls, sm, nx2, by omega, by go_num, rfl, rfl, rfl, HO5.out, by rw [show n - (k + 1) = m from by omega, HFK.out]; exact HRR.out, fun h => by rw [← HCAT.out h]; simp, by have := HAC.out; rw [List.length_append]; simp only [List.length_cons, List.length_nil]; omega, HN2.out, HD.out, HB5.out⟩
          case measure => simp [intOf]; omega
        · have k1 : ((d : Int) == 0) = false := beq_eq_false_iff_ne.2 (by omega)
          clear h hA1 hcat r hf hf0 hsm hd0 hd
          generalize 1099511627776 - last = q at *
          go_wp2_with (first
            | (go_at_call 95; refine HC.out.mono ?_; rintro e w3 ⟨rfl, hb3⟩; have HB3 := Lib.hid (HBR.out.trans (hb3.mono HBR.out.size)); have HO3 := Lib.hid (ownz_below HO.out hb3); clear hb3)
            | (at_builtin; refine app_zs rfl (.tmp 53) (.tmp 55) rfl w.heap.size _ ac rfl (ownz_below HO3.out (below_one _ _)) _ [(sm : Int)] 1 rfl (zs_cell (Row.new _ _ _)) (by have := HAC.out; simp only [List.length_cons, List.length_nil]; omega) (Nat.le_trans HB3.out.size (by simp)) ?_; intro v5 w5 hown5 hb5 _; have HO5 := Lib.hid hown5; have HB5 := Lib.hid ((HB3.out.alloc HB3.out.size _).trans hb5); clear hown5 hb5))
          go_roundw
          case rel => exact ⟨k + 1, ac ++ [(sm : Int)], ls, sm, nx2, by omega, by go_num, rfl, rfl, rfl, HO5.out, by rw [show n - (k + 1) = m from by omega, HFK.out]; exact HRR.out, fun h => by rw [← HCAT.out h]; simp, by have := HAC.out; rw [List.length_append]; simp only [List.length_cons, List.length_nil]; omega, HN2.out, HD.out, HB5.out⟩
          case measure => simp [intOf]; omega
    · obtain rfl : k = n := by omega
      rw [Nat.sub_self] at hrl
      cases hrl with
      | done _ _ _ =>
        have hLS : ac = LS := by have := hcat rfl; simpa using this
        subst hLS
        clear hcat
        go_wp2_with fail
        (try rw [Exit.noGoto_ret]); go_ret3
        exact ⟨hbr, .inr ⟨rfl, _, rfl, ho⟩⟩
theorem read_prog {l : List UInt8} {a : Int} {ls : List Int} {p e : Nat} (h : PY l a ls p e) (A : Option Addr) (c : Nat) (w : World) (hA : Bys w A l) (hlc : l.length ≤ c) (hl : l.length ≤ 140737488355328) :
    Calls Try.prog 70 #[.slice A l.length c, .int .i64 a] w (PoTold w ls p e) := by
  rcases h with ⟨h, rfl, rfl, rfl⟩ | ⟨k, rfl, hk, hp⟩
  · exact read_bad A l c a w h
  · cases hp with
    | no n nx e h he => exact po_read_no h he A c w hA hlc hl hk
    | big n nx h hn => exact po_read_big h hn A c w hA hlc hl hk
    | bad n nx ls' p' e h hn r he =>
      refine (po_read_told h hn r A c w hA hlc hl hk).mono ?_
      rintro e' w' ⟨hb, ⟨_, rfl⟩ | ⟨h0, _⟩⟩
      · exact ⟨hb, .inl ⟨he, rfl⟩⟩
      · exact absurd h0 he
    | ok n nx ls' p' h hn r =>
      refine (po_read_told h hn r A c w hA hlc hl hk).mono ?_
      rintro e' w' ⟨hb, ⟨h0, _⟩ | ⟨_, v, rfl, hv⟩⟩
      · exact absurd rfl h0
      · exact ⟨hb, .inr ⟨rfl, v, rfl, hv⟩⟩
end Go.Proofs.Ytmgolnlkepiocaa
