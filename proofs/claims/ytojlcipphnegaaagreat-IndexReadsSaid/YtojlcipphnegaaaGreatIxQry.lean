/- What an index tells: Len, Labels, Names, Values, its texts; of no index. -/
import Derived.Test.YtojlcipphnegaaaGreatIxGathN
import Derived.Test.YtojlcipphnegaaaGreatIxGathV
import Derived.Test.YtojlcipphnegaaaGreatIxGathT
namespace Go.Proofs.YtojlcipphnegaaaGreat
open Go.RowKit Go.Maps
set_option linter.unusedVariables false
set_option maxRecDepth 100000

/-- Texts in a row of its own. -/
def TxsTold (w : World) (ts : List ByteArray) (e : Ending) (w' : World) : Prop := ∃ v, e = .returned v ∧ OwnTx w' w.heap.size v ts ∧ Below w.heap.size w w'
theorem names_prog (X : Nat) (ss : List (List Lbl)) (base : Nat) (w : World) (hI : IdxAt w base X ss) (hr : ixChk ss = 0) :
    Calls Tryz.prog 27 #[.pointer (some ⟨X, 0, none⟩)] w (TxsTold w (ixNames ss)) := by
  have HG := Lib.hid (gath_names X ss base w hI hr (pickn_prog w))
  clear hI
  go_enter Tryz.func27, Tryz.ntmps27
  go_wp2_with (first | (go_at_call 47; refine HG.out.mono ?_; rintro e w2 ⟨v, us, rfl, ho, hu, hm, _, hb⟩; have HO := Lib.hid ho; have HU := Lib.hid hu; have HM := Lib.hid hm; have HB := Lib.hid hb; clear ho hu hm hb))
  go_ret
  have e : us = ixNames ss := setF_of cmpB_cmp HU.out fun s => (HM.out s).trans (pick_names ss s)
  exact ⟨v, rfl, by rw [← e]; exact HO.out, HB.out⟩
theorem texts_prog (X : Nat) (ss : List (List Lbl)) (base : Nat) (w : World) (hI : IdxAt w base X ss) (hr : ixChk ss = 0) :
    Calls Tryz.prog 52 #[.pointer (some ⟨X, 0, none⟩)] w (TxsTold w (ixTexts ss)) := by
  have HG := Lib.hid (gath_texts X ss base w hI hr (pickt_prog w))
  clear hI
  go_enter Tryz.func52, Tryz.ntmps52
  go_wp2_with (first | (go_at_call 47; refine HG.out.mono ?_; rintro e w2 ⟨v, us, rfl, ho, hu, hm, _, hb⟩; have HO := Lib.hid ho; have HU := Lib.hid hu; have HM := Lib.hid hm; have HB := Lib.hid hb; clear ho hu hm hb))
  go_ret
  have e : us = ixTexts ss := setF_of cmpB_cmp HU.out fun s => (HM.out s).trans (pick_texts ss s)
  exact ⟨v, rfl, by rw [← e]; exact HO.out, HB.out⟩
theorem values_prog (X : Nat) (ss : List (List Lbl)) (base : Nat) (name : ByteArray) (w : World) (hI : IdxAt w base X ss) (hr : ixChk ss = 0) :
    Calls Tryz.prog 22 #[.pointer (some ⟨X, 0, none⟩), .string name] w (TxsTold w (ixValues ss name)) := by
  have hB1 := below_one w (.cells #[.string name] 9)
  have HG := Lib.hid (gath_values X ss base name w.heap.size (w.alloc (.cells #[.string name] 9)) (hI.below hB1) hr (pickv_prog _ _ _ (Row.new w 9 #[.string name])))
  have HB1 := Lib.hid hB1
  have HRR := Lib.hid (ixChk_right hr).2.2
  clear hI hB1
  go_enter Tryz.func22, Tryz.ntmps22
  go_wp2_with (first | (go_at_call 47; refine HG.out.mono ?_; rintro e w2 ⟨v, us, rfl, ho, hu, hm, _, hb⟩; have HO := Lib.hid ho; have HU := Lib.hid hu; have HM := Lib.hid hm; have HB := Lib.hid hb; clear ho hu hm hb))
  go_ret
  have e : us = ixValues ss name := setF_of cmpB_cmp HU.out fun s => (HM.out s).trans (pick_values HRR.out name s)
  exact ⟨v, rfl, by rw [← e]; exact rows_lower HO.out HB1.out.size, HB1.out.trans (HB.out.mono HB1.out.size)⟩
/-! ### of no index -/
theorem gath_nil (f : Value) (w : World) : Calls Tryz.prog 47 #[.pointer none, f] w fun e w' => e = .returned (.slice none 0 0) ∧ w' = w := by
  go_enter Tryz.func47, Tryz.ntmps47
  go_wp2_with fail
  go_ret
  exact ⟨rfl, rfl⟩
theorem names_nil (w : World) : Calls Tryz.prog 27 #[.pointer none] w (TxsTold w []) := by
  go_enter Tryz.func27, Tryz.ntmps27
  go_wp2_with (first | (go_at_call 47; refine (gath_nil _ _).mono ?_; rintro e w2 ⟨rfl, rfl⟩))
  go_ret
  exact ⟨_, rfl, owntx_nil _ _, Below.refl _ _⟩
theorem values_nil (name : ByteArray) (w : World) : Calls Tryz.prog 22 #[.pointer none, .string name] w (TxsTold w []) := by
  have hB1 := below_one w (.cells #[.string name] 9)
  go_enter Tryz.func22, Tryz.ntmps22
  go_wp2_with (first | (go_at_call 47; refine (gath_nil _ _).mono ?_; rintro e w2 ⟨rfl, rfl⟩))
  go_ret
  exact ⟨_, rfl, owntx_nil _ _, hB1⟩
theorem len_nil (w : World) : Calls Tryz.prog 26 #[.pointer none] w fun e w' => e = .returned (.int .i64 0) ∧ w' = w := by
  go_enter Tryz.func26, Tryz.ntmps26
  go_wp2_with fail
  go_ret
  exact ⟨rfl, rfl⟩
theorem labels_nil (id : Int) (w : World) : Calls Tryz.prog 15 #[.pointer none, .int .i64 id] w fun e w' => e = .returned (.tuple #[.slice none 0 0, .int .i64 1]) ∧ w' = w := by
  go_enter Tryz.func15, Tryz.ntmps15
  go_wp2_with fail
  go_ret2
  exact ⟨rfl, rfl⟩
theorem find_nil (M : Value) (w : World) : Calls Tryz.prog 17 #[.pointer none, M] w fun e w' => e = .returned (.tuple #[.slice none 0 0, .int .i64 1]) ∧ w' = w := by
  go_enter Tryz.func17, Tryz.ntmps17
  go_wp2_with fail
  go_ret2
  exact ⟨rfl, rfl⟩
theorem bytes_nil (w : World) : Calls Tryz.prog 25 #[.pointer none] w fun e w' => e = .returned (.slice none 0 0) ∧ w' = w := by
  go_enter Tryz.func25, Tryz.ntmps25
  go_wp2_with fail
  go_ret
  exact ⟨rfl, rfl⟩
/-! ### how many; a set -/
theorem len_prog (X : Nat) (ss : List (List Lbl)) (base : Nat) (w : World) (hI : IdxAt w base X ss) :
    Calls Tryz.prog 26 #[.pointer (some ⟨X, 0, none⟩)] w fun e w' => e = .returned (.int .i64 (ss.length : Int)) ∧ w' = w := by
  obtain ⟨_, v, M, _, hX, hO, _⟩ := hI
  obtain ⟨P, c, rfl, _, _, _⟩ := ownsets_slice hO
  have x0 := hX.cell 0
  clear hX hO
  go_enter Tryz.func26, Tryz.ntmps26
  go_wp2_with fail
  go_ret
  exact ⟨rfl, rfl⟩
theorem labels_yes (X : Nat) (ss : List (List Lbl)) (base : Nat) (w : World) (hI : IdxAt w base X ss) (hr : ixChk ss = 0) (id : Nat) (hid : id < ss.length) :
    Calls Tryz.prog 15 #[.pointer (some ⟨X, 0, none⟩), .int .i64 (id : Int)] w fun e w' => ∃ v, e = .returned (.tuple #[v, .int .i64 0]) ∧ OwnL w' w.heap.size v (ss.getD id []) ∧ Below w.heap.size w w' := by
  have h8 := (lbChk_ok.1 ((ixChk_right hr).2.2 _ (ss_at hid))).1
  obtain ⟨_, v, M, _, hX, hO, _⟩ := hI
  obtain ⟨P, c, rfl, _, hS, _⟩ := ownsets_slice hO
  obtain ⟨b1, o1, A1, c1, rfl, hb1, g0, hL1, _⟩ := hS.at_ hid
  have x0 := hX.cell 0
  have HC := Lib.hid (ixclone_prog A1 (ss.getD id []) c1 w hL1 (by omega))
  have i1 : decide ((id : Int) < 0) = false := decide_eq_false (by omega)
  have i2 : (id : Int) < (ss.length : Int) := by omega
  have i3 : decide ((ss.length : Int) ≤ (id : Int)) = false := decide_eq_false (by omega)
  have i4 : decide ((id : Int) ≥ (ss.length : Int)) = false := decide_eq_false (by omega)
  generalize ss.getD id [] = l at *
  clear hX hO hS hL1
  go_enter Tryz.func15, Tryz.ntmps15
  go_wp2_with (first | (go_at_call 29; refine HC.out.mono ?_; rintro e w2 ⟨v2, rfl, ho2, hb2⟩; have HO2 := Lib.hid ho2; have HB2 := Lib.hid hb2; clear ho2 hb2))
  go_ret2
  exact ⟨_, rfl, HO2.out, HB2.out⟩
theorem labels_no (X : Nat) (ss : List (List Lbl)) (base : Nat) (w : World) (hI : IdxAt w base X ss) (id : Int) (hid : id < 0 ∨ (ss.length : Int) ≤ id) :
    Calls Tryz.prog 15 #[.pointer (some ⟨X, 0, none⟩), .int .i64 id] w fun e w' => e = .returned (.tuple #[.slice none 0 0, .int .i64 9]) ∧ w' = w := by
  obtain ⟨_, v, M, _, hX, hO, _⟩ := hI
  obtain ⟨P, c, rfl, _, _, _⟩ := ownsets_slice hO
  have x0 := hX.cell 0
  clear hX hO
  by_cases h1 : id < 0
  · have i1 : decide (id < 0) = true := decide_eq_true h1
    clear hid
    go_enter Tryz.func15, Tryz.ntmps15
    go_wp2_with fail
    go_ret2
    exact ⟨rfl, rfl⟩
  · have i1 : decide (id < 0) = false := decide_eq_false h1
    have h2 : (ss.length : Int) ≤ id := hid.resolve_left h1
    have i3 : decide ((ss.length : Int) ≤ id) = true := decide_eq_true h2
    clear hid
    go_enter Tryz.func15, Tryz.ntmps15
    go_wp2_with fail
    go_ret2
    exact ⟨rfl, rfl⟩
end Go.Proofs.YtojlcipphnegaaaGreat
