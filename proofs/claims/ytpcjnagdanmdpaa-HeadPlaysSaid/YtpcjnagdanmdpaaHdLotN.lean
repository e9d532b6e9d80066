/- In one text, written by lotify.py: Ints, PoInts, PoMath, PoCheck. -/
import Derived.Test.YtpcjnagdanmdpaaHdLotM
import Derived.BigQuiet
import Derived.Deep.DeepCutAuto
import Derived.Deep.RegionLaw
import Derived.Deep.RegionHeld3
namespace Go.Proofs.Ytpcjnagdanmdpaa
open Go.ChangeShapes Go.WideShapes Go.ChangeAt Go.RowKit Go.Joins
set_option linter.unusedVariables false
/-- The numbers l stand from the address A on. -/
def Ints (w : World) (A : Option Addr) (l : List Int) : Prop :=
  l = [] ∨ ∃ b o, A = some ⟨b, o, none⟩ ∧ b < w.heap.size ∧ ∀ i, i < l.length → w.cell? ⟨b, o + i, none⟩ = some (.int .i64 (l.getD i 0))
section
variable {H : Type} {enc : TypeId × Value → H} {W : World} {base : Nat} {sp : Nat → Bool} {held : Bool}
theorem open_i64s {fuel : Nat} {v : Value} {x : DataW H × List MemPlace} (hf : DataW.trod enc Try.prog W base sp held fuel 28 [v] = some x) :
    ∃ (A : Option Addr) (l : List Int) (c : Nat), v = .slice A l.length c ∧ Ints W A l ∧ l.length ≤ c ∧ c ≤ maxLen ∧
      ((x.1 = .nil ∧ l = []) ∨ ∃ elems spare, x.1 = .slice elems spare ∧ elems.length = l.length) := by
  rcases open_ints Try.underlying28 Try.underlying3 (by kernel_rfl) hf with ⟨hcs, hx⟩ | ⟨a, len, cap, zs, hcs, _, hl, hm, hz, hx, hcell, hwz⟩
  · simp only [List.cons.injEq, and_true] at hcs
    subst hcs
    exact ⟨none, [], 0, rfl, .inl rfl, Nat.le_refl _, by simp [maxLen], .inl ⟨by rw [hx], rfl⟩⟩
  · simp only [List.cons.injEq, and_true] at hcs
    subst hcs
    have hlz : len ≤ zs.length := by rw [hz]; split <;> omega
    have hll : (zs.take len).length = len := by simp; omega
    refine ⟨some a, zs.take len, cap, by rw [hll], ?_, by rw [hll]; exact hl, hm, .inr ⟨_, _, by rw [hx], by simp [lits]⟩⟩
    rcases Nat.eq_zero_or_pos len with h0 | h0
    · exact .inl (List.eq_nil_of_length_eq_zero (by rw [hll]; exact h0))
    · obtain ⟨b, off, spot⟩ := a
      have hc := hcell 0 (by omega)
      have hspot : spot = none := by simpa [Addr.add] using World.cell?_spot hc
      subst hspot
      have hc0 : W.cell? ⟨b, off, none⟩ = some (.int .i64 (zs.getD 0 0)) := by simpa [Addr.add] using hc
      refine .inr ⟨b, off, rfl, cell_lt hc0, fun i hi => ?_⟩
      rw [hll] at hi
      have hci := hcell i (by omega)
      rw [add_at] at hci
      rw [hci]
      congr 2
      rw [getD_in zs 0 (by omega), getD_in (zs.take len) 0 (by rw [hll]; exact hi), List.getElem_take]
end
end Go.Proofs.Ytpcjnagdanmdpaa

namespace Go.Proofs.Ytpcjnagdanmdpaa
open Go.ChangeShapes Go.WideShapes Go.ChangeAt Go.RowKit Go.Joins Go.Maps
set_option linter.unusedVariables false
def intE (n : Int) : List Value := [.int .i64 n]
theorem intE_len (n : Int) : (intE n).length = 1 := rfl
def Zi (w : World) (A : Option Addr) (l : List Int) : Prop := At w A (l.flatMap intE)
theorem Zi.below {w w' : World} {A : Option Addr} {l : List Int} (h : Zi w A l) (hb : Below w.heap.size w w') : Zi w' A l := At.below h hb
theorem Zi.alloc {w : World} {A : Option Addr} {l : List Int} (h : Zi w A l) (o : Obj) : Zi (w.alloc o) A l := h.below (below_one w o)
theorem Zi.nil (w : World) (A : Option Addr) : Zi w A [] := .inl rfl
theorem Zi.at_ {w : World} {A : Option Addr} {l : List Int} (h : Zi w A l) {i : Nat} (hi : i < l.length) :
    ∃ b o, A = some ⟨b, o, none⟩ ∧ b < w.heap.size ∧ w.cell? ⟨b, o + i, none⟩ = some (.int .i64 (l.getD i 0)) := by
  have hlen := flat_len intE 1 intE_len l
  rcases h with h | ⟨b, o, rfl, hb, hc⟩
  · rw [h] at hlen; simp at hlen; omega
  · refine ⟨b, o, rfl, hb, ?_⟩
    have := hc (i * 1 + 0) _ (flat_get intE 1 intE_len l i _ 0 (getD_some l 0 hi) (by omega))
    rw [Nat.mul_one] at this
    exact this
theorem Zi.cell {w : World} {b o : Nat} {l : List Int} (h : Zi w (some ⟨b, o, none⟩) l) {i : Nat} (hi : i < l.length) : w.cell? ⟨b, o + i, none⟩ = some (.int .i64 (l.getD i 0)) := by
  obtain ⟨b', o', e, _, h2⟩ := h.at_ hi
  injection e with e
  injection e with e1 e2 _
  subst e1 e2
  exact h2
theorem zs_of {w : World} {A : Option Addr} {l : List Int} (h : Ints w A l) : Zi w A l := by
  rcases h with rfl | ⟨b, o, rfl, hb, hc⟩
  · exact .inl rfl
  · refine .inr ⟨b, o, rfl, hb, fun j u hj => ?_⟩
    have hlen := flat_len intE 1 intE_len l
    have hlt : j < l.length := by
      rcases Nat.lt_or_ge j (l.flatMap intE).length with h2 | h2
      · omega
      · rw [List.getElem?_eq_none h2] at hj; cases hj
    have e := flat_get intE 1 intE_len l j _ 0 (getD_some l 0 hlt) (by omega)
    rw [Nat.mul_one, Nat.add_zero, hj] at e
    rw [hc j hlt]
    exact e.symm
def OwnZ (w : World) (base : Nat) (v : Value) (l : List Int) : Prop := w.ownsRow base 3 1 v l.length (l.flatMap intE)
section
variable {w w' : World} {base : Nat} {v : Value} {l : List Int}
theorem ownz_lower {base' : Nat} (h : OwnZ w base v l) (hb : base' ≤ base) : OwnZ w base' v l := rows_lower h hb
theorem ownz_slice (h : OwnZ w base v l) : ∃ P c, v = .slice P l.length c ∧ l.length ≤ c ∧ Zi w P l ∧ ∀ ad, P = some ad → base ≤ ad.block := rows_slice h
theorem ownz_empty {g : Nat} (h : Row w g 3 #[]) (hb : base ≤ g) : OwnZ w base (.slice (some ⟨g, 0, none⟩) 0 0) [] :=
  ⟨by simp, .inr ⟨g, 0, #[], rfl, hb, h, Nat.le_refl _, by simp [maxLen], by simp, by simp⟩⟩
end
theorem zint_info : (Try.prog.info? 3).map (fun i => (i.zero, i.size, i.bytes)) = some (some (.int .i64 0), 1, 8) := by kernel_rfl
theorem int_one (l : List Int) : ∀ u ∈ l.flatMap intE, u.oneCell' = true := by
  intro u hu
  simp only [List.mem_flatMap, intE, List.mem_cons, List.not_mem_nil, or_false] at hu
  obtain ⟨x, _, rfl⟩ := hu
  rfl
theorem app_zs {w : World} {ops : Array Oper} {rest : List Oper} {o : Oper} {a : Act} {Q : Exit → Act → World → Prop} (hgd : o.guard = none) (s y : Operand)
    (ho : o.op = .call { callee := .builtin .append, args := #[s, y], argTypes := #[28, 28] })
    (base : Nat) (v : Value) (x : List Int) (hs : a.eval s = v) (hown : OwnZ w base v x) (A : Option Addr) (l : List Int) (c : Nat) (hy : a.eval y = .slice A l.length c) (hA : Zi w A l) (hn : (x.length + l.length) * 8 ≤ 140737488355328) (hbase : base ≤ w.heap.size)
    (h : ∀ v' w', OwnZ w' base v' (x ++ l) → Below base w w' → w.grownBy w' v.ownBlock → wpList Try.prog ops Q rest (a.put o.dst v') w') : wpList Try.prog ops Q (o :: rest) a w := by
  obtain ⟨i0, hi, hz0, hz1, hz2⟩ := info_parts zint_info
  refine wpList_app_at hgd s y 28 ho base 3 i0 _ 1 8 Try.underlying28 hi hz0 hz1 hz2 rfl (by omega) v x.length (x.flatMap intE) hs hown A l.length c (l.flatMap intE) hy (flat_len intE 1 intE_len l) hA (int_one l)
    (by simp only [maxLen]; omega) hn hbase ?_
  intro v' w' h1 h2 h3
  refine h v' w' ?_ h2 h3
  unfold OwnZ
  rw [List.flatMap_append, List.length_append]
  exact h1
section
variable {H : Type} {enc : TypeId × Value → H} {W : World} {base : Nat} {sp : Nat → Bool} {held : Bool}
theorem open_zs {fuel : Nat} {v : Value} {x : DataW H × List MemPlace} (hf : DataW.trod enc Try.prog W base sp held fuel 28 [v] = some x) :
    ∃ (A : Option Addr) (l : List Int) (c : Nat), v = .slice A l.length c ∧ Zi W A l ∧ l.length ≤ c ∧ c ≤ maxLen ∧
      ((x.1 = .nil ∧ l = []) ∨ ∃ elems spare, x.1 = .slice elems spare ∧ elems.length = l.length) := by
  obtain ⟨A, l, c, h1, h2, h3, h4, h5⟩ := open_i64s hf
  exact ⟨A, l, c, h1, zs_of h2, h3, h4, h5⟩
theorem reach_zs {ts : List TypeId} {ds : List (DataW H)} (hsz : (DataW.weightsEach Try.prog ts ds).all (· ≤ reachBytes) = true) {j : Nat} {d : DataW H} {l : List Int} (ht : ts[j]? = some 28) (hd : ds[j]? = some d)
    (h : (d = .nil ∧ l = []) ∨ ∃ elems spare, d = .slice elems spare ∧ elems.length = l.length) : l.length ≤ 17592186043904 := by
  rcases h with ⟨_, rfl⟩ | ⟨el, spr, rfl, hel⟩
  · simp
  · have := sized_slice hsz ht hd Try.underlying28
    have hb : Try.prog.bytesOf 3 = 8 := by kernel_rfl
    rw [hb] at this
    have hr : reachBytes = 140737488351232 := rfl
    rw [hr] at this
    omega
end
end Go.Proofs.Ytpcjnagdanmdpaa

namespace Go.Proofs.Ytpcjnagdanmdpaa
set_option linter.unusedVariables false
/-- What is told of numbers that stand behind a number: 0, or the error of the first one that is wrong. -/
def pchkF : Int → List Int → Int
  | _, [] => 0
  | last, n :: r => if n < 0 ∨ 1099511627776 < n then 2 else if n ≤ last then 13 else pchkF n r
def pchk (l : List Int) : Int := if 1024 < l.length then 3 else pchkF (-1) l
/-- Numbers that rise above a number, and not above the highest one. -/
def Up : Int → List Int → Prop
  | _, [] => True
  | last, n :: r => last < n ∧ n ≤ 1099511627776 ∧ Up n r
theorem pchkF_zero (l : List Int) : ∀ p : Int, -1 ≤ p → (pchkF p l = 0 ↔ Up p l) := by
  induction l with
  | nil => intro p _; simp [pchkF, Up]
  | cons n r ih =>
    intro p hp
    rw [pchkF, Up]
    by_cases h1 : n < 0 ∨ 1099511627776 < n
    · rw [if_pos h1]
      exact ⟨fun h => absurd h (by decide), fun h => by omega⟩
    · rw [if_neg h1]
      by_cases h2 : n ≤ p
      · rw [if_pos h2]
        exact ⟨fun h => absurd h (by decide), fun h => by omega⟩
      · rw [if_neg h2, ih n (by omega)]
        exact ⟨fun h => ⟨by omega, by omega, h⟩, fun h => h.2.2⟩
theorem pchk_zero {l : List Int} : pchk l = 0 ↔ l.length ≤ 1024 ∧ Up (-1) l := by
  unfold pchk
  by_cases h : 1024 < l.length
  · rw [if_pos h]
    exact ⟨fun h => absurd h (by decide), fun h => by omega⟩
  · rw [if_neg h, pchkF_zero l (-1) (by omega)]
    exact ⟨fun k => ⟨by omega, k⟩, fun k => k.2⟩
/-- The number ahead of a place. -/
def ahead (l : List Int) (k : Nat) : Int := if k = 0 then -1 else l.getD (k - 1) 0
theorem ahead_succ (l : List Int) (k : Nat) : ahead l (k + 1) = l.getD k 0 := by simp [ahead]
theorem drop_cons (l : List Int) {k : Nat} (h : k < l.length) : l.drop k = l.getD k 0 :: l.drop (k + 1) := by
  rw [List.drop_eq_getElem_cons h, getD_in l 0 h]
theorem pchk_end (l : List Int) : pchkF (ahead l l.length) (l.drop l.length) = 0 := by simp [pchkF]
theorem pchk_arg (l : List Int) {k : Nat} (h : k < l.length) (hn : l.getD k 0 < 0 ∨ 1099511627776 < l.getD k 0) : pchkF (ahead l k) (l.drop k) = 2 := by
  rw [drop_cons l h, pchkF, if_pos hn]
theorem pchk_order (l : List Int) {k : Nat} (h : k < l.length) (hn : ¬ (l.getD k 0 < 0 ∨ 1099511627776 < l.getD k 0)) (hk : k ≠ 0) (ho : l.getD k 0 ≤ l.getD (k - 1) 0) : pchkF (ahead l k) (l.drop k) = 13 := by
  rw [drop_cons l h, pchkF, if_neg hn, ahead, if_neg hk, if_pos ho]
theorem pchk_next (l : List Int) {k : Nat} (h : k < l.length) (hn : ¬ (l.getD k 0 < 0 ∨ 1099511627776 < l.getD k 0)) (ho : k = 0 ∨ l.getD (k - 1) 0 < l.getD k 0) : pchkF (ahead l k) (l.drop k) = pchkF (ahead l (k + 1)) (l.drop (k + 1)) := by
  rw [drop_cons l h, pchkF, if_neg hn, ahead_succ, if_neg]
  unfold ahead
  split
  · omega
  · rcases ho with h0 | h0 <;> omega
end Go.Proofs.Ytpcjnagdanmdpaa

namespace Go.Proofs.Ytpcjnagdanmdpaa
open Go.RowKit Go.Maps
set_option linter.unusedVariables false
theorem po_ret_int {a b : Int} (h : a = b) : Ending.returned (.int .i64 a) = .returned (.int .i64 b) := by rw [h]
theorem po_check_prog (A : Option Addr) (l : List Int) (c : Nat) (w : World) (hA : Zi w A l) (hl : l.length ≤ 281474976710656) :
    Calls Try.prog 74 #[.slice A l.length c] w fun e w' => e = .returned (.int .i64 (pchk l)) ∧ w = w' := by
  have HA := Lib.hid hA
  clear hA
  by_cases hb : 1024 < l.length
  · have i1 : decide ((1024 : Int) < (l.length : Int)) = true := by simp; omega
    have HE := Lib.hid (show pchk l = 3 by unfold pchk; rw [if_pos hb])
    clear hb
    go_enter Try.func74, Try.ntmps74
    go_wp2_with fail
    go_ret
    exact ⟨po_ret_int HE.out.symm, rfl⟩
  · have i1 : decide ((1024 : Int) < (l.length : Int)) = false := by simp; omega
    have HE := Lib.hid (show pchkF (ahead l 0) (l.drop 0) = pchk l by unfold pchk; rw [if_neg hb]; rfl)
    clear hb
    go_enter Try.func74, Try.ntmps74
    go_wp2_with fail
    go_loop [10] (fun i => ∃ k : Nat, k ≤ l.length ∧ i = .int .i64 (k : Int) ∧ pchkF (ahead l k) (l.drop k) = pchk l) (fun i => l.length - (intOf i).toNat)
    case atStart => exact ⟨0, Nat.zero_le _, rfl, HE.out⟩
    case round =>
      obtain ⟨k, hk, rfl, he⟩ := hrel
      by_cases hlt : k < l.length
      · obtain ⟨b, o, rfl, hbl, g0⟩ := HA.out.at_ hlt
        have i2 : (k : Int) < (l.length : Int) := by omega
        by_cases h1 : l.getD k 0 < 0 ∨ 1099511627776 < l.getD k 0
        · have HR := Lib.hid ((pchk_arg l hlt h1).symm.trans he)
          generalize l.getD k 0 = n at *
          by_cases h0 : n < 0
          · have j1 : decide (n < (0 : Int)) = true := decide_eq_true h0
            clear he h1 h0
            go_wp2_with fail
            go_ret
            exact ⟨po_ret_int HR.out, rfl⟩
          · have j1 : decide (n < (0 : Int)) = false := decide_eq_false h0
            have j2 : decide ((1099511627776 : Int) < n) = true := decide_eq_true (by omega)
            clear he h1 h0
            go_wp2_with fail
            go_ret
            exact ⟨po_ret_int HR.out, rfl⟩
        · have j1 : decide (l.getD k 0 < (0 : Int)) = false := decide_eq_false (by omega)
          have j2 : decide ((1099511627776 : Int) < l.getD k 0) = false := decide_eq_false (by omega)
          by_cases hk0 : k = 0
          · have HN := Lib.hid ((pchk_next l hlt h1 (.inl hk0)).symm.trans he)
            subst hk0
            have g1 : w.cell? ⟨b, o, none⟩ = some (.int .i64 (l.getD 0 0)) := g0
            have i3 : (0 : Int) < (l.length : Int) := i2
            clear he h1 g0 i2
            generalize l.getD 0 0 = n at *
            go_wp2_with fail
            exact ⟨⟨1, by omega, by go_num, HN.out⟩, by simp [intOf]; omega⟩
          · have g1 := HA.out.cell (i := k - 1) (by omega)
            have i3 : (1 : Int) ≤ (k : Int) := by omega
            have i4 : decide ((0 : Int) < (k : Int)) = true := decide_eq_true (by omega)
            by_cases ho : l.getD k 0 ≤ l.getD (k - 1) 0
            · have HR := Lib.hid ((pchk_order l hlt h1 hk0 ho).symm.trans he)
              have j3 : decide (l.getD k 0 ≤ l.getD (k - 1) 0) = true := decide_eq_true ho
              clear he h1 ho
              generalize l.getD k 0 = n at *
              generalize l.getD (k - 1) 0 = m at *
              go_wp2_with fail
              go_ret
              exact ⟨po_ret_int HR.out, rfl⟩
            · have HN := Lib.hid ((pchk_next l hlt h1 (.inr (by omega))).symm.trans he)
              have j3 : decide (l.getD k 0 ≤ l.getD (k - 1) 0) = false := decide_eq_false ho
              clear he h1 ho
              generalize l.getD k 0 = n at *
              generalize l.getD (k - 1) 0 = m at *
              go_wp2_with fail
              exact ⟨⟨k + 1, by omega, by go_num, HN.out⟩, by simp [intOf]; omega⟩
      · obtain rfl : k = l.length := by omega
        have HR := Lib.hid ((pchk_end l).symm.trans he)
        clear he
        go_wp2_with fail
        go_ret
        exact ⟨po_ret_int HR.out, rfl⟩
theorem check_ref (A : Option Addr) (l : List Int) (c : Nat) (w : World) (hA : Zi w A l) (hl : l.length ≤ 281474976710656) :
    Calls Try.prog 57 #[.slice A l.length c] w fun e w' => e = .returned (.int .i64 (pchk l)) ∧ Below w.heap.size w w' := by
  have HA := Lib.hid hA
  clear hA
  by_cases hb : 1024 < l.length
  · have i1 : decide ((1024 : Int) < (l.length : Int)) = true := by simp; omega
    have HE := Lib.hid (show pchk l = 3 by unfold pchk; rw [if_pos hb])
    clear hb
    go_enter Try.func57, Try.ntmps57
    go_wp2_with fail
    go_ret
    exact ⟨po_ret_int HE.out.symm, Below.refl _ _⟩
  · have i1 : decide ((1024 : Int) < (l.length : Int)) = false := by simp; omega
    have HE := Lib.hid (show pchkF (ahead l 0) (l.drop 0) = pchk l by unfold pchk; rw [if_neg hb]; rfl)
    clear hb
    go_enter Try.func57, Try.ntmps57
    go_wp2_with fail
    go_loopw [3] (fun i wr => ∃ k : Nat, k ≤ l.length ∧ i = .int .i64 (k : Int) ∧ pchkF (ahead l k) (l.drop k) = pchk l ∧ Below w.heap.size w wr) (fun i _ => l.length - (intOf i).toNat)
    case atStart => exact ⟨0, Nat.zero_le _, rfl, HE.out, Below.refl _ _⟩
    case round =>
      obtain ⟨k, hk, rfl, he, hbr⟩ := hrel
      have HBR := Lib.hid hbr
      by_cases hlt : k < l.length
      · obtain ⟨b, o, rfl, hbl, g00⟩ := HA.out.at_ hlt
        have g0 := (hbr.cell (p := ⟨b, o + k, none⟩) hbl).trans g00
        have i2 : (k : Int) < (l.length : Int) := by omega
        clear g00
        by_cases h1 : l.getD k 0 < 0 ∨ 1099511627776 < l.getD k 0
        · have HR := Lib.hid ((pchk_arg l hlt h1).symm.trans he)
          generalize l.getD k 0 = n at *
          by_cases h0 : n < 0
          · have j1 : decide (n < (0 : Int)) = true := decide_eq_true h0
            clear he h1 h0 hbr
            go_wp2_with fail
            go_ret
            exact ⟨po_ret_int HR.out, HBR.out⟩
          · have j1 : decide (n < (0 : Int)) = false := decide_eq_false h0
            have j2 : decide ((1099511627776 : Int) < n) = true := decide_eq_true (by omega)
            clear he h1 h0 hbr
            go_wp2_with fail
            go_ret
            exact ⟨po_ret_int HR.out, HBR.out⟩
        · have j1 : decide (l.getD k 0 < (0 : Int)) = false := decide_eq_false (by omega)
          have j2 : decide ((1099511627776 : Int) < l.getD k 0) = false := decide_eq_false (by omega)
          by_cases hk0 : k = 0
          · have HN := Lib.hid ((pchk_next l hlt h1 (.inl hk0)).symm.trans he)
            have i4 : decide ((0 : Int) < (k : Int)) = false := decide_eq_false (by omega)
            have i5 : ¬ 0 < k := by omega
            clear he h1 hbr hk0
            generalize l.getD k 0 = n at *
            go_upto_region 8 with fail
            go_quiet (fail)
            go_wp2_with fail
            go_roundw
            case rel => exact ⟨k + 1, by omega, by go_num, HN.out, below_drewN' HBR.out _⟩
            case measure => simp [intOf]; omega
          · have g1 := (hbr.cell (p := ⟨b, o + (k - 1), none⟩) hbl).trans (HA.out.cell (i := k - 1) (by omega))
            have i3 : (1 : Int) ≤ (k : Int) := by omega
            have i4 : decide ((0 : Int) < (k : Int)) = true := decide_eq_true (by omega)
            have i5 : 0 < k := by omega
            by_cases ho : l.getD k 0 ≤ l.getD (k - 1) 0
            · have HR := Lib.hid ((pchk_order l hlt h1 hk0 ho).symm.trans he)
              have j3 : decide (l.getD k 0 ≤ l.getD (k - 1) 0) = true := decide_eq_true ho
              clear he h1 ho hbr hk0
              generalize l.getD k 0 = n at *
              generalize l.getD (k - 1) 0 = m at *
              go_upto_region 8 with fail
              go_quiet (fail)
              go_wp2_with fail
              go_ret
              exact ⟨po_ret_int HR.out, below_drewN' HBR.out _⟩
            · have HN := Lib.hid ((pchk_next l hlt h1 (.inr (by omega))).symm.trans he)
              have j3 : decide (l.getD k 0 ≤ l.getD (k - 1) 0) = false := decide_eq_false ho
              clear he h1 ho hbr hk0
              generalize l.getD k 0 = n at *
              generalize l.getD (k - 1) 0 = m at *
              go_upto_region 8 with fail
              go_quiet (fail)
              go_wp2_with fail
              go_roundw
              case rel => exact ⟨k + 1, by omega, by go_num, HN.out, below_drewN' HBR.out _⟩
              case measure => simp [intOf]; omega
      · obtain rfl : k = l.length := by omega
        have HR := Lib.hid ((pchk_end l).symm.trans he)
        clear he hbr
        go_wp2_with fail
        go_ret
        exact ⟨po_ret_int HR.out, HBR.out⟩
end Go.Proofs.Ytpcjnagdanmdpaa
