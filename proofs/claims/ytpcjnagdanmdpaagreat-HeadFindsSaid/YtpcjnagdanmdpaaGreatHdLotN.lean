/- In one text, written by lotify.py: PoMath, PoCheck, PoOps. -/
import Derived.Test.YtpcjnagdanmdpaaGreatHdLotM
namespace Go.Proofs.YtpcjnagdanmdpaaGreat
set_option linter.unusedVariables false
/-- What is told of numbers that stand behind a number: 0, or the error of the first one that is wrong. -/
def pchkF : Int → List Int → Int
  | _, [] => 0
  | last, n :: r => if n < 0 ∨ 1099511627776 < n then 2 else if n ≤ last then 13 else pchkF n r
def pchk (l : List Int) : Int := if 1024 < l.length then 3 else pchkF (-1) l
/-- Numbers that rise above a number, and not above the highest one. -/
def Up : Int → List Int → Prop
  | _, [] => True
  | last, n :: r => last < n ∧ n ≤ 1099511627776 ∧ Up n r
theorem pchkF_zero (l : List Int) : ∀ p : Int, -1 ≤ p → (pchkF p l = 0 ↔ Up p l) := by
  induction l with
  | nil => intro p _; simp [pchkF, Up]
  | cons n r ih =>
    intro p hp
    rw [pchkF, Up]
    by_cases h1 : n < 0 ∨ 1099511627776 < n
    · rw [if_pos h1]
      exact ⟨fun h => absurd h (by decide), fun h => by omega⟩
    · rw [if_neg h1]
      by_cases h2 : n ≤ p
      · rw [if_pos h2]
        exact ⟨fun h => absurd h (by decide), fun h => by omega⟩
      · rw [if_neg h2, ih n (by omega)]
        exact ⟨fun h => ⟨by omega, by omega, h⟩, fun h => h.2.2⟩
theorem pchk_zero {l : List Int} : pchk l = 0 ↔ l.length ≤ 1024 ∧ Up (-1) l := by
  unfold pchk
  by_cases h : 1024 < l.length
  · rw [if_pos h]
    exact ⟨fun h => absurd h (by decide), fun h => by omega⟩
  · rw [if_neg h, pchkF_zero l (-1) (by omega)]
    exact ⟨fun k => ⟨by omega, k⟩, fun k => k.2⟩
/-- The number ahead of a place. -/
def ahead (l : List Int) (k : Nat) : Int := if k = 0 then -1 else l.getD (k - 1) 0
theorem ahead_succ (l : List Int) (k : Nat) : ahead l (k + 1) = l.getD k 0 := by simp [ahead]
theorem drop_cons (l : List Int) {k : Nat} (h : k < l.length) : l.drop k = l.getD k 0 :: l.drop (k + 1) := by
  rw [List.drop_eq_getElem_cons h, getD_in l 0 h]
theorem pchk_end (l : List Int) : pchkF (ahead l l.length) (l.drop l.length) = 0 := by simp [pchkF]
theorem pchk_arg (l : List Int) {k : Nat} (h : k < l.length) (hn : l.getD k 0 < 0 ∨ 1099511627776 < l.getD k 0) : pchkF (ahead l k) (l.drop k) = 2 := by
  rw [drop_cons l h, pchkF, if_pos hn]
theorem pchk_order (l : List Int) {k : Nat} (h : k < l.length) (hn : ¬ (l.getD k 0 < 0 ∨ 1099511627776 < l.getD k 0)) (hk : k ≠ 0) (ho : l.getD k 0 ≤ l.getD (k - 1) 0) : pchkF (ahead l k) (l.drop k) = 13 := by
  rw [drop_cons l h, pchkF, if_neg hn, ahead, if_neg hk, if_pos ho]
theorem pchk_next (l : List Int) {k : Nat} (h : k < l.length) (hn : ¬ (l.getD k 0 < 0 ∨ 1099511627776 < l.getD k 0)) (ho : k = 0 ∨ l.getD (k - 1) 0 < l.getD k 0) : pchkF (ahead l k) (l.drop k) = pchkF (ahead l (k + 1)) (l.drop (k + 1)) := by
  rw [drop_cons l h, pchkF, if_neg hn, ahead_succ, if_neg]
  unfold ahead
  split
  · omega
  · rcases ho with h0 | h0 <;> omega
end Go.Proofs.YtpcjnagdanmdpaaGreat

namespace Go.Proofs.YtpcjnagdanmdpaaGreat
open Go.RowKit Go.Maps
set_option linter.unusedVariables false
theorem po_ret_int {a b : Int} (h : a = b) : Ending.returned (.int .i64 a) = .returned (.int .i64 b) := by rw [h]
theorem po_check_prog (A : Option Addr) (l : List Int) (c : Nat) (w : World) (hA : Zi w A l) (hl : l.length ≤ 281474976710656) :
    Calls Tryz.prog 80 #[.slice A l.length c] w fun e w' => e = .returned (.int .i64 (pchk l)) ∧ w = w' := by
  have HA := Lib.hid hA
  clear hA
  by_cases hb : 1024 < l.length
  · have i1 : decide ((1024 : Int) < (l.length : Int)) = true := by simp; omega
    have HE := Lib.hid (show pchk l = 3 by unfold pchk; rw [if_pos hb])
    clear hb
    go_enter Tryz.func80, Tryz.ntmps80
    go_wp2_with fail
    go_ret
    exact ⟨po_ret_int HE.out.symm, rfl⟩
  · have i1 : decide ((1024 : Int) < (l.length : Int)) = false := by simp; omega
    have HE := Lib.hid (show pchkF (ahead l 0) (l.drop 0) = pchk l by unfold pchk; rw [if_neg hb]; rfl)
    clear hb
    go_enter Tryz.func80, Tryz.ntmps80
    go_wp2_with fail
    go_loop [10] (fun i => ∃ k : Nat, k ≤ l.length ∧ i = .int .i64 (k : Int) ∧ pchkF (ahead l k) (l.drop k) = pchk l) (fun i => l.length - (intOf i).toNat)
    case atStart => exact ⟨0, Nat.zero_le _, rfl, HE.out⟩
    case round =>
      obtain ⟨k, hk, rfl, he⟩ := hrel
      by_cases hlt : k < l.length
      · obtain ⟨b, o, rfl, hbl, g0⟩ := HA.out.at_ hlt
        have i2 : (k : Int) < (l.length : Int) := by omega
        by_cases h1 : l.getD k 0 < 0 ∨ 1099511627776 < l.getD k 0
        · have HR := Lib.hid ((pchk_arg l hlt h1).symm.trans he)
          generalize l.getD k 0 = n at *
          by_cases h0 : n < 0
          · have j1 : decide (n < (0 : Int)) = true := decide_eq_true h0
            clear he h1 h0
            go_wp2_with fail
            go_ret
            exact ⟨po_ret_int HR.out, rfl⟩
          · have j1 : decide (n < (0 : Int)) = false := decide_eq_false h0
            have j2 : decide ((1099511627776 : Int) < n) = true := decide_eq_true (by omega)
            clear he h1 h0
            go_wp2_with fail
            go_ret
            exact ⟨po_ret_int HR.out, rfl⟩
        · have j1 : decide (l.getD k 0 < (0 : Int)) = false := decide_eq_false (by omega)
          have j2 : decide ((1099511627776 : Int) < l.getD k 0) = false := decide_eq_false (by omega)
          by_cases hk0 : k = 0
          · have HN := Lib.hid ((pchk_next l hlt h1 (.inl hk0)).symm.trans he)
            subst hk0
            have g1 : w.cell? ⟨b, o, none⟩ = some (.int .i64 (l.getD 0 0)) := g0
            have i3 : (0 : Int) < (l.length : Int) := i2
            clear he h1 g0 i2
            generalize l.getD 0 0 = n at *
            go_wp2_with fail
            exact ⟨⟨1, by omega, by go_num, HN.out⟩, by simp [intOf]; omega⟩
          · have g1 := HA.out.cell (i := k - 1) (by omega)
            have i3 : (1 : Int) ≤ (k : Int) := by omega
            have i4 : decide ((0 : Int) < (k : Int)) = true := decide_eq_true (by omega)
            by_cases ho : l.getD k 0 ≤ l.getD (k - 1) 0
            · have HR := Lib.hid ((pchk_order l hlt h1 hk0 ho).symm.trans he)
              have j3 : decide (l.getD k 0 ≤ l.getD (k - 1) 0) = true := decide_eq_true ho
              clear he h1 ho
              generalize l.getD k 0 = n at *
              generalize l.getD (k - 1) 0 = m at *
              go_wp2_with fail
              go_ret
              exact ⟨po_ret_int HR.out, rfl⟩
            · have HN := Lib.hid ((pchk_next l hlt h1 (.inr (by omega))).symm.trans he)
              have j3 : decide (l.getD k 0 ≤ l.getD (k - 1) 0) = false := decide_eq_false ho
              clear he h1 ho
              generalize l.getD k 0 = n at *
              generalize l.getD (k - 1) 0 = m at *
              go_wp2_with fail
              exact ⟨⟨k + 1, by omega, by go_num, HN.out⟩, by simp [intOf]; omega⟩
      · obtain rfl : k = l.length := by omega
        have HR := Lib.hid ((pchk_end l).symm.trans he)
        clear he
        go_wp2_with fail
        go_ret
        exact ⟨po_ret_int HR.out, rfl⟩
theorem check_ref (A : Option Addr) (l : List Int) (c : Nat) (w : World) (hA : Zi w A l) (hl : l.length ≤ 281474976710656) :
    Calls Tryz.prog 60 #[.slice A l.length c] w fun e w' => e = .returned (.int .i64 (pchk l)) ∧ Below w.heap.size w w' := by
  have HA := Lib.hid hA
  clear hA
  by_cases hb : 1024 < l.length
  · have i1 : decide ((1024 : Int) < (l.length : Int)) = true := by simp; omega
    have HE := Lib.hid (show pchk l = 3 by unfold pchk; rw [if_pos hb])
    clear hb
    go_enter Tryz.func60, Tryz.ntmps60
    go_wp2_with fail
    go_ret
    exact ⟨po_ret_int HE.out.symm, Below.refl _ _⟩
  · have i1 : decide ((1024 : Int) < (l.length : Int)) = false := by simp; omega
    have HE := Lib.hid (show pchkF (ahead l 0) (l.drop 0) = pchk l by unfold pchk; rw [if_neg hb]; rfl)
    clear hb
    go_enter Tryz.func60, Tryz.ntmps60
    go_wp2_with fail
    go_loopw [3] (fun i wr => ∃ k : Nat, k ≤ l.length ∧ i = .int .i64 (k : Int) ∧ pchkF (ahead l k) (l.drop k) = pchk l ∧ Below w.heap.size w wr) (fun i _ => l.length - (intOf i).toNat)
    case atStart => exact ⟨0, Nat.zero_le _, rfl, HE.out, Below.refl _ _⟩
    case round =>
      obtain ⟨k, hk, rfl, he, hbr⟩ := hrel
      have HBR := Lib.hid hbr
      by_cases hlt : k < l.length
      · obtain ⟨b, o, rfl, hbl, g00⟩ := HA.out.at_ hlt
        have g0 := (hbr.cell (p := ⟨b, o + k, none⟩) hbl).trans g00
        have i2 : (k : Int) < (l.length : Int) := by omega
        clear g00
        by_cases h1 : l.getD k 0 < 0 ∨ 1099511627776 < l.getD k 0
        · have HR := Lib.hid ((pchk_arg l hlt h1).symm.trans he)
          generalize l.getD k 0 = n at *
          by_cases h0 : n < 0
          · have j1 : decide (n < (0 : Int)) = true := decide_eq_true h0
            clear he h1 h0 hbr
            go_wp2_with fail
            go_ret
            exact ⟨po_ret_int HR.out, HBR.out⟩
          · have j1 : decide (n < (0 : Int)) = false := decide_eq_false h0
            have j2 : decide ((1099511627776 : Int) < n) = true := decide_eq_true (by omega)
            clear he h1 h0 hbr
            go_wp2_with fail
            go_ret
            exact ⟨po_ret_int HR.out, HBR.out⟩
        · have j1 : decide (l.getD k 0 < (0 : Int)) = false := decide_eq_false (by omega)
          have j2 : decide ((1099511627776 : Int) < l.getD k 0) = false := decide_eq_false (by omega)
          by_cases hk0 : k = 0
          · have HN := Lib.hid ((pchk_next l hlt h1 (.inl hk0)).symm.trans he)
            have i4 : decide ((0 : Int) < (k : Int)) = false := decide_eq_false (by omega)
            have i5 : ¬ 0 < k := by omega
            clear he h1 hbr hk0
            generalize l.getD k 0 = n at *
            go_upto_region 8 with fail
            go_quiet (fail)
            go_wp2_with fail
            go_roundw
            case rel => exact ⟨k + 1, by omega, by go_num, HN.out, below_drewN' HBR.out _⟩
            case measure => simp [intOf]; omega
          · have g1 := (hbr.cell (p := ⟨b, o + (k - 1), none⟩) hbl).trans (HA.out.cell (i := k - 1) (by omega))
            have i3 : (1 : Int) ≤ (k : Int) := by omega
            have i4 : decide ((0 : Int) < (k : Int)) = true := decide_eq_true (by omega)
            have i5 : 0 < k := by omega
            by_cases ho : l.getD k 0 ≤ l.getD (k - 1) 0
            · have HR := Lib.hid ((pchk_order l hlt h1 hk0 ho).symm.trans he)
              have j3 : decide (l.getD k 0 ≤ l.getD (k - 1) 0) = true := decide_eq_true ho
              clear he h1 ho hbr hk0
              generalize l.getD k 0 = n at *
              generalize l.getD (k - 1) 0 = m at *
              go_upto_region 8 with fail
              go_quiet (fail)
              go_wp2_with fail
              go_ret
              exact ⟨po_ret_int HR.out, below_drewN' HBR.out _⟩
            · have HN := Lib.hid ((pchk_next l hlt h1 (.inr (by omega))).symm.trans he)
              have j3 : decide (l.getD k 0 ≤ l.getD (k - 1) 0) = false := decide_eq_false ho
              clear he h1 ho hbr hk0
              generalize l.getD k 0 = n at *
              generalize l.getD (k - 1) 0 = m at *
              go_upto_region 8 with fail
              go_quiet (fail)
              go_wp2_with fail
              go_roundw
              case rel => exact ⟨k + 1, by omega, by go_num, HN.out, below_drewN' HBR.out _⟩
              case measure => simp [intOf]; omega
      · obtain rfl : k = l.length := by omega
        have HR := Lib.hid ((pchk_end l).symm.trans he)
        clear he hbr
        go_wp2_with fail
        go_ret
        exact ⟨po_ret_int HR.out, HBR.out⟩
theorem ext_getD {a b : List Int} (hl : a.length = b.length) (h : ∀ j, j < a.length → a.getD j 0 = b.getD j 0) : a = b := by
  refine List.ext_getElem hl fun i h1 h2 => ?_
  have := h i h1
  rwa [getD_in a 0 h1, getD_in b 0 h2] at this
theorem po_ret_bool {a b : Bool} (h : a = b) : Ending.returned (.bool a) = .returned (.bool b) := by rw [h]
set_option maxHeartbeats 1000000 in
theorem po_same_ref (A B : Option Addr) (a b : List Int) (c d : Nat) (w : World) (hA : Zi w A a) (hB : Zi w B b) (hl : a.length ≤ 281474976710656) :
    Calls Tryz.prog 10 #[.slice A a.length c, .slice B b.length d] w fun e w' => e = .returned (.bool (decide (a = b))) ∧ Below w.heap.size w w' := by
  have HA := Lib.hid hA
  have HB := Lib.hid hB
  clear hA hB
  by_cases hlen : a.length = b.length
  · have i1 : ((a.length : Int) != (b.length : Int)) = false := by rw [hlen]; simp
    have i0 : ((a.length : Int) == (b.length : Int)) = true := by rw [hlen]; simp
    have HL := Lib.hid hlen
    rw [← hlen] at i1 i0 ⊢
    clear hlen
    go_enter Tryz.func10, Tryz.ntmps10
    go_wp2_with fail
    go_loopw [5] (fun i wr => ∃ k : Nat, k ≤ a.length ∧ i = .int .i64 (k : Int) ∧ (∀ j, j < k → a.getD j 0 = b.getD j 0) ∧ Below w.heap.size w wr) (fun i _ => a.length - (intOf i).toNat)
    case atStart => exact ⟨0, Nat.zero_le _, rfl, fun j hj => absurd hj (Nat.not_lt_zero j), Below.refl _ _⟩
    case round =>
      obtain ⟨k, hk, rfl, hs, hbr⟩ := hrel
      have HBR := Lib.hid hbr
      have HS := Lib.hid hs
      by_cases hlt : k < a.length
      · obtain ⟨b1, o1, rfl, hb1, g0⟩ := HA.out.at_ hlt
        obtain ⟨b2, o2, rfl, hb2, g1⟩ := HB.out.at_ (i := k) (by have := HL.out; omega)
        have c0 := (hbr.cell (p := ⟨b1, o1 + k, none⟩) hb1).trans g0
        have c1 := (hbr.cell (p := ⟨b2, o2 + k, none⟩) hb2).trans g1
        have i2 : (k : Int) < (a.length : Int) := by omega
        clear g0 g1 hs hbr
        by_cases he : a.getD k 0 = b.getD k 0
        · have HN := Lib.hid (show ∀ j, j < k + 1 → a.getD j 0 = b.getD j 0 from fun j hj => by
            rcases Nat.lt_or_ge j k with h | h
            · exact HS.out j h
            · rw [show j = k from by omega]; exact he)
          rw [← he] at c1
          clear he
          generalize a.getD k 0 = n at *
          have j1 : (n != n) = false := by simp
          go_upto_region 6 with fail
          go_quiet (fail)
          go_wp2_with fail
          go_roundw
          case rel => exact ⟨k + 1, by omega, by go_num, HN.out, below_drewN' HBR.out _⟩
          case measure => simp [intOf]; omega
        · have HR := Lib.hid (show decide (a = b) = false by
            rw [decide_eq_false_iff_not]; rintro rfl; exact he rfl)
          have j1 : (a.getD k 0 != b.getD k 0) = true := bne_iff_ne.2 he
          have j2 : (a.getD k 0 == b.getD k 0) = false := beq_eq_false_iff_ne.2 he
          clear he
          generalize a.getD k 0 = n at *
          generalize b.getD k 0 = m at *
          go_upto_region 6 with fail
          go_quiet (fail)
          go_wp2_with fail
          go_ret
          exact ⟨po_ret_bool HR.out.symm, below_drewN' HBR.out _⟩
      · have HR := Lib.hid (show decide (a = b) = true from decide_eq_true (ext_getD HL.out (fun j hj => hs j (by omega))))
        clear hs hbr
        go_wp2_with fail
        go_ret
        exact ⟨po_ret_bool HR.out.symm, HBR.out⟩
  · have i1 : ((a.length : Int) != (b.length : Int)) = true := bne_iff_ne.2 (by omega)
    have i0 : ((a.length : Int) == (b.length : Int)) = false := beq_eq_false_iff_ne.2 (by omega)
    have HR := Lib.hid (show decide (a = b) = false by rw [decide_eq_false_iff_not]; rintro rfl; exact hlen rfl)
    clear hlen
    go_enter Tryz.func10, Tryz.ntmps10
    go_wp2_with fail
    go_ret
    exact ⟨po_ret_bool HR.out.symm, Below.refl _ _⟩
theorem same_yes (A B : Option Addr) (a : List Int) (c d : Nat) (w : World) (hA : Zi w A a) (hB : Zi w B a) (hl : a.length ≤ 281474976710656) :
    Calls Tryz.prog 10 #[.slice A a.length c, .slice B a.length d] w fun e w' => e = .returned (.bool true) ∧ Below w.heap.size w w' := by
  refine (po_same_ref A B a a c d w hA hB hl).mono ?_
  rintro e w' ⟨rfl, h⟩
  exact ⟨po_ret_bool (decide_eq_true rfl), h⟩
end Go.Proofs.YtpcjnagdanmdpaaGreat
