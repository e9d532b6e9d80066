/- Labels by their names: found, kept and dropped, as the program and as the document's own answer do it. -/
import Derived.Test.YtgiclapgilppgaaDoorLbNms
namespace Go.Proofs.YtgiclapgilppgaaDoor
open Go.RowKit Go.Maps
set_option linter.unusedVariables false

theorem take_filter (l : List Lbl) (st : Lbl → Bool) {k : Nat} (h : k < l.length) : (l.take (k + 1)).filter st = (l.take k).filter st ++ (if st (nmOf l k, vlOf l k) = true then [(nmOf l k, vlOf l k)] else []) := by
  rw [List.take_succ_eq_append_getElem h, List.filter_append]
  congr 1
  have e : l[k] = (nmOf l k, vlOf l k) := by
    unfold nmOf vlOf
    rw [List.getD_eq_getElem?_getD, List.getElem?_eq_getElem h]
    rfl
  rw [e, List.filter_cons, List.filter_nil]
theorem take_filter_len (l : List Lbl) (st : Lbl → Bool) (k : Nat) : ((l.take k).filter st).length ≤ k := by
  have h1 := List.length_filter_le st (l.take k)
  rw [List.length_take] at h1
  omega
def getF (l : List Lbl) (name : ByteArray) : Nat → Nat → ByteArray
  | 0, _ => ⟨#[]⟩
  | n + 1, k => if nmOf l k = name then vlOf l k else getF l name n (k + 1)
theorem ret_str {a b : ByteArray} (h : a = b) : Ending.returned (.string a) = .returned (.string b) := by rw [h]
theorem get_prog (A : Option Addr) (l : List Lbl) (c : Nat) (name : ByteArray) (w : World) (hA : Lbls w A l) (hl : l.length ≤ 100000000000000) :
    Calls Tryd.prog 17 #[.slice A l.length c, .string name] w fun e w' => e = .returned (.string (getF l name l.length 0)) ∧ Below w.heap.size w w' := by
  have HA := Lib.hid hA
  clear hA
  go_enter Tryd.func17, Tryd.ntmps17
  go_wp2_with fail
  go_loopw [9] (fun i wr => ∃ k : Nat, k ≤ l.length ∧ i = .int .i64 (k : Int) ∧ getF l name (l.length - k) k = getF l name l.length 0 ∧ Below w.heap.size w wr) (fun i _ => l.length - (intOf i).toNat)
  case atStart => exact ⟨0, Nat.zero_le _, rfl, rfl, Below.refl _ _⟩
  case round =>
    obtain ⟨k, hk, rfl, he, hbr⟩ := hrel
    have hsz := hbr.size
    by_cases hlt : k < l.length
    · obtain ⟨b, o, rfl, hb, g0, g1⟩ := HA.out.at_ hlt
      have c0 := (hbr.cell (p := ⟨b, o + k * 2, none⟩) hb).trans g0
      have c1 := (hbr.cell (p := ⟨b, o + k * 2 + 1, none⟩) hb).trans g1
      have i2 : (k : Int) < (l.length : Int) := by omega
      rw [show l.length - k = (l.length - (k + 1)) + 1 from by omega, getF] at he
      have hq := eqB (nmOf l k) name
      have HW1 := Lib.hid (hbr.alloc hsz (.cells #[.string (nmOf l k), .string (vlOf l k)] 58))
      clear g0 g1 hbr
      by_cases h : nmOf l k = name
      · rw [if_pos h] at he
        rw [decide_eq_true h] at hq
        have HE := Lib.hid he
        clear he h
        go_wp2_with fail
        go_ret
        exact ⟨ret_str HE.out, HW1.out⟩
      · rw [if_neg h] at he
        rw [decide_eq_false h] at hq
        have HE := Lib.hid he
        clear he h
        go_wp2_with fail
        go_roundw
        case rel => exact ⟨k + 1, by omega, by go_num, HE.out, HW1.out⟩
        case measure => simp [intOf]; omega
    · obtain rfl : k = l.length := by omega
      rw [Nat.sub_self, getF] at he
      have HE := Lib.hid he
      clear he
      go_wp2_with fail
      go_ret
      exact ⟨ret_str HE.out, hbr⟩
theorem get_ref (A : Option Addr) (l : List Lbl) (c : Nat) (name : ByteArray) (w : World) (hA : Lbls w A l) (hl : l.length ≤ 100000000000000) :
    Calls Tryd.prog 18 #[.slice A l.length c, .string name] w fun e w' => e = .returned (.string (getF l name l.length 0)) ∧ w = w' := by
  have HA := Lib.hid hA
  clear hA
  go_enter Tryd.func18, Tryd.ntmps18
  go_wp2_with fail
  go_loop [5] (fun i => ∃ k : Nat, k ≤ l.length ∧ i = .int .i64 (k : Int) ∧ getF l name (l.length - k) k = getF l name l.length 0) (fun i => l.length - (intOf i).toNat)
  case atStart => exact ⟨0, Nat.zero_le _, rfl, rfl⟩
  case round =>
    obtain ⟨k, hk, rfl, he⟩ := hrel
    by_cases hlt : k < l.length
    · obtain ⟨b, o, rfl, hb, g0, g1⟩ := HA.out.at_ hlt
      have i2 : (k : Int) < (l.length : Int) := by omega
      rw [show l.length - k = (l.length - (k + 1)) + 1 from by omega, getF] at he
      have hq := eqB (nmOf l k) name
      by_cases h : nmOf l k = name
      · rw [if_pos h] at he
        rw [decide_eq_true h] at hq
        have HE := Lib.hid he
        clear he h
        go_wp2_with fail
        go_ret
        exact ⟨ret_str HE.out, rfl⟩
      · rw [if_neg h] at he
        rw [decide_eq_false h] at hq
        have HE := Lib.hid he
        clear he h
        go_wp2_with fail
        exact ⟨⟨k + 1, by omega, by go_num, HE.out⟩, by simp [intOf]; omega⟩
    · obtain rfl : k = l.length := by omega
      rw [Nat.sub_self, getF] at he
      have HE := Lib.hid he
      clear he
      go_wp2_with fail
      go_ret
      exact ⟨ret_str HE.out, rfl⟩
/-- Those of l that the closure lets stay, in a row of their own. -/
theorem chosen_keep (X : Nat) (A : Option Addr) (l : List Lbl) (c : Nat) (w : World) (hA : Lbls w A l) (hl : l.length * 32 ≤ 140737488351232) (st : Lbl → Bool)
    (hst : ∀ (W : World) (x : Lbl), Below w.heap.size w W → Calls Tryd.prog 38 #[.agg #[.string x.1, .string x.2], .pointer (some ⟨X, 0, none⟩)] W fun e w' => e = .returned (.bool (st x)) ∧ Below W.heap.size W w') :
    Calls Tryd.prog 37 #[.slice A l.length c, .func (.func 38) #[] #[.pointer (some ⟨X, 0, none⟩)]] w fun e w' => ∃ v, e = .returned v ∧ OwnL w' w.heap.size v (l.filter st) ∧ Below w.heap.size w w' := by
  have HA := Lib.hid hA
  have HS := Lib.hid hst
  have HL := Lib.hid hl
  clear hA hst hl
  have hl2 : l.length ≤ 4398046511000 := by have := HL.out; omega
  go_enter Tryd.func37, Tryd.ntmps37
  go_wp2_with fail
  go_loopw [10, 5] (fun i u wr => ∃ k : Nat, k ≤ l.length ∧ i = .int .i64 (k : Int) ∧ OwnL wr w.heap.size u ((l.take k).filter st) ∧ Below w.heap.size w wr) (fun i _ _ => l.length - (intOf i).toNat)
  case atStart => exact ⟨0, Nat.zero_le _, rfl, ownl_nil _ _, Below.refl _ _⟩
  case round =>
    obtain ⟨k, hk, rfl, ho, hbr⟩ := hrel
    have hsz := hbr.size
    by_cases hlt : k < l.length
    · obtain ⟨b, o, rfl, hb, g0, g1⟩ := HA.out.at_ hlt
      have c0 := (hbr.cell (p := ⟨b, o + k * 2, none⟩) hb).trans g0
      have c1 := (hbr.cell (p := ⟨b, o + k * 2 + 1, none⟩) hb).trans g1
      have i2 : (k : Int) < (l.length : Int) := by omega
      have HT := Lib.hid (take_filter l st hlt)
      have HTL := Lib.hid (take_filter_len l st k)
      have hW1 := hbr.alloc hsz (.cells #[.string (nmOf l k), .string (vlOf l k)] 58)
      have R0 : Row (wr.alloc (.cells #[.string (nmOf l k), .string (vlOf l k)] 58)) wr.heap.size 58 #[.string (nmOf l k), .string (vlOf l k)] := Row.new wr _ _
      have HR0 := Lib.hid R0
      have HO1 := Lib.hid (ownl_below ho (below_one wr (.cells #[.string (nmOf l k), .string (vlOf l k)] 58)))
      have HW1 := Lib.hid hW1
      have HC := Lib.hid (HS.out _ (nmOf l k, vlOf l k) hW1)
      clear R0 hW1 ho hbr g0 g1
      cases hs : st (nmOf l k, vlOf l k)
      · rw [hs] at HC HT
        clear hs
        go_wp2_with (first
          | (go_at_call 38; refine HC.out.mono ?_; rintro e w2 ⟨rfl, hb2⟩; have HB2 := Lib.hid (HW1.out.trans (hb2.mono HW1.out.size)); have HO2 := Lib.hid (ownl_below HO1.out hb2); clear hb2))
        go_roundw
        case rel => exact ⟨k + 1, by omega, by go_num, by rw [HT.out]; simpa using HO2.out, HB2.out⟩
        case measure => simp [intOf]; omega
      · rw [hs] at HC HT
        clear hs
        go_wp2_with (first
          | (go_at_call 38; refine HC.out.mono ?_; rintro e w2 ⟨rfl, hb2⟩; have HB2 := Lib.hid (HW1.out.trans (hb2.mono HW1.out.size)); have HO2 := Lib.hid (ownl_below HO1.out hb2); have HR2 := Lib.hid (HR0.out.below hb2 (by simp)); have r0 := HR2.out.cell 0; have r1 := HR2.out.cell 1; clear hb2)
          | (at_builtin; refine app_lbls rfl (.tmp 17) (.tmp 19) rfl w.heap.size _ _ rfl (ownl_below HO2.out (below_one _ _)) _ [(nmOf l k, vlOf l k)] 1 rfl (lbls_cell (Row.new _ _ _)) (by have := HTL.out; have := HL.out; simp only [List.length_cons, List.length_nil]; omega) (Nat.le_trans HB2.out.size (by simp)) ?_; intro v3 w3 hown3 hb3 _; have HO3 := Lib.hid hown3; have HB3 := Lib.hid ((HB2.out.alloc HB2.out.size _).trans hb3); clear hown3 hb3))
        go_roundw
        case rel => exact ⟨k + 1, by omega, by go_num, by rw [HT.out]; simpa using HO3.out, HB3.out⟩
        case measure => simp [intOf]; omega
    · obtain rfl : k = l.length := by omega
      rw [List.take_of_length_le (Nat.le_refl _)] at ho
      go_wp2_with fail
      go_ret
      exact ⟨_, rfl, ho, hbr⟩
/-- Those of l that the closure lets stay, in a row of their own. -/
theorem chosen_drop (X : Nat) (A : Option Addr) (l : List Lbl) (c : Nat) (w : World) (hA : Lbls w A l) (hl : l.length * 32 ≤ 140737488351232) (st : Lbl → Bool)
    (hst : ∀ (W : World) (x : Lbl), Below w.heap.size w W → Calls Tryd.prog 41 #[.agg #[.string x.1, .string x.2], .pointer (some ⟨X, 0, none⟩)] W fun e w' => e = .returned (.bool (st x)) ∧ Below W.heap.size W w') :
    Calls Tryd.prog 37 #[.slice A l.length c, .func (.func 41) #[] #[.pointer (some ⟨X, 0, none⟩)]] w fun e w' => ∃ v, e = .returned v ∧ OwnL w' w.heap.size v (l.filter st) ∧ Below w.heap.size w w' := by
  have HA := Lib.hid hA
  have HS := Lib.hid hst
  have HL := Lib.hid hl
  clear hA hst hl
  have hl2 : l.length ≤ 4398046511000 := by have := HL.out; omega
  go_enter Tryd.func37, Tryd.ntmps37
  go_wp2_with fail
  go_loopw [10, 5] (fun i u wr => ∃ k : Nat, k ≤ l.length ∧ i = .int .i64 (k : Int) ∧ OwnL wr w.heap.size u ((l.take k).filter st) ∧ Below w.heap.size w wr) (fun i _ _ => l.length - (intOf i).toNat)
  case atStart => exact ⟨0, Nat.zero_le _, rfl, ownl_nil _ _, Below.refl _ _⟩
  case round =>
    obtain ⟨k, hk, rfl, ho, hbr⟩ := hrel
    have hsz := hbr.size
    by_cases hlt : k < l.length
    · obtain ⟨b, o, rfl, hb, g0, g1⟩ := HA.out.at_ hlt
      have c0 := (hbr.cell (p := ⟨b, o + k * 2, none⟩) hb).trans g0
      have c1 := (hbr.cell (p := ⟨b, o + k * 2 + 1, none⟩) hb).trans g1
      have i2 : (k : Int) < (l.length : Int) := by omega
      have HT := Lib.hid (take_filter l st hlt)
      have HTL := Lib.hid (take_filter_len l st k)
      have hW1 := hbr.alloc hsz (.cells #[.string (nmOf l k), .string (vlOf l k)] 58)
      have R0 : Row (wr.alloc (.cells #[.string (nmOf l k), .string (vlOf l k)] 58)) wr.heap.size 58 #[.string (nmOf l k), .string (vlOf l k)] := Row.new wr _ _
      have HR0 := Lib.hid R0
      have HO1 := Lib.hid (ownl_below ho (below_one wr (.cells #[.string (nmOf l k), .string (vlOf l k)] 58)))
      have HW1 := Lib.hid hW1
      have HC := Lib.hid (HS.out _ (nmOf l k, vlOf l k) hW1)
      clear R0 hW1 ho hbr g0 g1
      cases hs : st (nmOf l k, vlOf l k)
      · rw [hs] at HC HT
        clear hs
        go_wp2_with (first
          | (go_at_call 41; refine HC.out.mono ?_; rintro e w2 ⟨rfl, hb2⟩; have HB2 := Lib.hid (HW1.out.trans (hb2.mono HW1.out.size)); have HO2 := Lib.hid (ownl_below HO1.out hb2); clear hb2))
        go_roundw
        case rel => exact ⟨k + 1, by omega, by go_num, by rw [HT.out]; simpa using HO2.out, HB2.out⟩
        case measure => simp [intOf]; omega
      · rw [hs] at HC HT
        clear hs
        go_wp2_with (first
          | (go_at_call 41; refine HC.out.mono ?_; rintro e w2 ⟨rfl, hb2⟩; have HB2 := Lib.hid (HW1.out.trans (hb2.mono HW1.out.size)); have HO2 := Lib.hid (ownl_below HO1.out hb2); have HR2 := Lib.hid (HR0.out.below hb2 (by simp)); have r0 := HR2.out.cell 0; have r1 := HR2.out.cell 1; clear hb2)
          | (at_builtin; refine app_lbls rfl (.tmp 17) (.tmp 19) rfl w.heap.size _ _ rfl (ownl_below HO2.out (below_one _ _)) _ [(nmOf l k, vlOf l k)] 1 rfl (lbls_cell (Row.new _ _ _)) (by have := HTL.out; have := HL.out; simp only [List.length_cons, List.length_nil]; omega) (Nat.le_trans HB2.out.size (by simp)) ?_; intro v3 w3 hown3 hb3 _; have HO3 := Lib.hid hown3; have HB3 := Lib.hid ((HB2.out.alloc HB2.out.size _).trans hb3); clear hown3 hb3))
        go_roundw
        case rel => exact ⟨k + 1, by omega, by go_num, by rw [HT.out]; simpa using HO3.out, HB3.out⟩
        case measure => simp [intOf]; omega
    · obtain rfl : k = l.length := by omega
      rw [List.take_of_length_le (Nat.le_refl _)] at ho
      go_wp2_with fail
      go_ret
      exact ⟨_, rfl, ho, hbr⟩
theorem keep_prog (A V : Option Addr) (l : List Lbl) (c : Nat) (ns : List ByteArray) (nc : Nat) (w : World) (hA : Lbls w A l) (hV : Nms w V ns) (hl : l.length * 32 ≤ 140737488351232) (hn : ns.length ≤ 100000000000000) :
    Calls Tryd.prog 20 #[.slice A l.length c, .slice V ns.length nc] w fun e w' => ∃ v, e = .returned v ∧ OwnL w' w.heap.size v (l.filter fun x => hasB ns x.1) ∧ Below w.heap.size w w' := by
  have hB0 := below_one w (.cells #[.slice V ns.length nc] 29)
  have HX := Row.new w 29 #[.slice V ns.length nc]
  have HC := Lib.hid (chosen_keep w.heap.size A l c _ (hA.below hB0) hl (fun x => hasB ns x.1) (fun W x h => keep_fn w.heap.size V ns nc x W (HX.below h (by simp)) ((hV.below hB0).below h) hn))
  have HB0 := Lib.hid hB0
  clear hA hV hB0 HX
  go_enter Tryd.func20, Tryd.ntmps20
  go_wp2_with (first | (go_at_call 37; refine HC.out.mono ?_; rintro e w1 ⟨v, rfl, hv, hb⟩; have HV := Lib.hid (ownl_lower (base' := w.heap.size) hv (by simp)); have HB := Lib.hid (HB0.out.trans (hb.mono (by simp))); clear hv hb))
  go_ret
  exact ⟨_, rfl, HV.out, HB.out⟩
theorem drop_prog (A V : Option Addr) (l : List Lbl) (c : Nat) (ns : List ByteArray) (nc : Nat) (w : World) (hA : Lbls w A l) (hV : Nms w V ns) (hl : l.length * 32 ≤ 140737488351232) (hn : ns.length ≤ 100000000000000) :
    Calls Tryd.prog 22 #[.slice A l.length c, .slice V ns.length nc] w fun e w' => ∃ v, e = .returned v ∧ OwnL w' w.heap.size v (l.filter fun x => !hasB ns x.1) ∧ Below w.heap.size w w' := by
  have hB0 := below_one w (.cells #[.slice V ns.length nc] 29)
  have HX := Row.new w 29 #[.slice V ns.length nc]
  have HC := Lib.hid (chosen_drop w.heap.size A l c _ (hA.below hB0) hl (fun x => !hasB ns x.1) (fun W x h => drop_fn w.heap.size V ns nc x W (HX.below h (by simp)) ((hV.below hB0).below h) hn))
  have HB0 := Lib.hid hB0
  clear hA hV hB0 HX
  go_enter Tryd.func22, Tryd.ntmps22
  go_wp2_with (first | (go_at_call 37; refine HC.out.mono ?_; rintro e w1 ⟨v, rfl, hv, hb⟩; have HV := Lib.hid (ownl_lower (base' := w.heap.size) hv (by simp)); have HB := Lib.hid (HB0.out.trans (hb.mono (by simp))); clear hv hb))
  go_ret
  exact ⟨_, rfl, HV.out, HB.out⟩
end Go.Proofs.YtgiclapgilppgaaDoor
