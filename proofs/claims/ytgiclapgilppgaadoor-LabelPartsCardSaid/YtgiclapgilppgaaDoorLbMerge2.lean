/- Two rows of labels merged, where they are the parts of a right set: as the program does it. -/
import Derived.Test.YtgiclapgilppgaaDoorLbMerge
import Derived.Deep.RegionHeld3
import Derived.Deep.RegionLaw
namespace Go.Proofs.YtgiclapgilppgaaDoor
open Go.RowKit Go.Maps
set_option linter.unusedVariables false

theorem sameKey_str (a b : List UInt8) : (Lit.string a).sameKey (.string b) = decide (a = b) := by
  show (a == b) = _
  by_cases h : a = b <;> simp [h]
theorem set_store {w : World} {b : Nat} {T : List ByteArray} (h : SetN w b T) (s : ByteArray) (hs : s.size ≤ maxLen) (hn : T.length ≤ 900) :
    ∃ w', (Instr.mapUpdate 83 (.map (some b)) (.string s) (.agg #[])).run Tryd.prog w = .ok () w' ∧ SetN w' b (T ++ [s]) ∧ w.mapTurned w' b := by
  obtain ⟨n, D, h1, hn1, h3⟩ := h
  obtain ⟨w', hr, h4, h5⟩ := h1.store keyed Tryd.underlying83 (by simp only [maxLen]; omega) (key_str hs) unitElem_mk
  refine ⟨w', hr, ⟨n + 1, _, h4, by rw [List.length_append, List.length_singleton]; omega, fun s' hs' => ?_⟩, h5⟩
  unfold hasB at hs' h3
  rw [List.any_append, Bool.or_eq_false_iff] at hs'
  have hne : ¬ s = s' := by simpa using hs'.2
  rw [Go.Maps.has_put_other (k' := .string s'.data.toList) (k := .string s.data.toList)]
  · exact h3 s' hs'.1
  · intro e
    injection e with e
    exact hne (strL_inj e.symm)
theorem stays_fn (X b : Nat) (T : List ByteArray) (x : Lbl) (w : World) (hX : Row w X 83 #[.map (some b)]) (hb : b < w.heap.size) (hT : SetN w b T) (hx : hasB T x.1 = false) (hs : x.1.size ≤ maxLen) :
    Calls Tryd.prog 59 #[.agg #[.string x.1, .string x.2], .pointer (some ⟨X, 0, none⟩)] w fun e w' => e = .returned (.bool true) ∧ Below w.heap.size w w' := by
  have hX1 := (hX.alloc (.cells #[.string x.1, .string x.2] 58)).cell 0
  have hT1 : SetN (w.alloc (.cells #[.string x.1, .string x.2] 58)) b T := hT.below (heap_alloc_old w _ hb)
  have hl := set_look hT1 x.1 hs hx
  have HB := Lib.hid (below_one w (.cells #[.string x.1, .string x.2] 58))
  have hz : ∀ W : World, (zeroValue 84).run Tryd.prog W = .ok (.agg #[]) W := unit_zero
  clear hX hT hT1
  go_enter Tryd.func59, Tryd.ntmps59
  go_wp2_with fail
  go_ret
  exact ⟨rfl, HB.out.alloc HB.out.size _⟩
/-- Those of l that the closure lets stay, in a row of their own. -/
theorem chosen_merge (X : Nat) (A : Option Addr) (l : List Lbl) (c : Nat) (w : World) (hA : Lbls w A l) (hl : l.length * 32 ≤ 140737488351232) (st : Lbl → Bool)
    (hst : ∀ (W : World) (x : Lbl), x ∈ l → Below w.heap.size w W → Calls Tryd.prog 59 #[.agg #[.string x.1, .string x.2], .pointer (some ⟨X, 0, none⟩)] W fun e w' => e = .returned (.bool (st x)) ∧ Below W.heap.size W w') :
    Calls Tryd.prog 37 #[.slice A l.length c, .func (.func 59) #[] #[.pointer (some ⟨X, 0, none⟩)]] w fun e w' => ∃ v, e = .returned v ∧ OwnL w' w.heap.size v (l.filter st) ∧ Below w.heap.size w w' := by
  have HA := Lib.hid hA
  have HS := Lib.hid hst
  have HL := Lib.hid hl
  clear hA hst hl
  have hl2 : l.length ≤ 4398046511000 := by have := HL.out; omega
  go_enter Tryd.func37, Tryd.ntmps37
  go_wp2_with fail
  go_loopw [10, 5] (fun i u wr => ∃ k : Nat, k ≤ l.length ∧ i = .int .i64 (k : Int) ∧ OwnL wr w.heap.size u ((l.take k).filter st) ∧ Below w.heap.size w wr) (fun i _ _ => l.length - (intOf i).toNat)
  case atStart => exact ⟨0, Nat.zero_le _, rfl, ownl_nil _ _, Below.refl _ _⟩
  case round =>
    obtain ⟨k, hk, rfl, ho, hbr⟩ := hrel
    have hsz := hbr.size
    by_cases hlt : k < l.length
    · obtain ⟨b, o, rfl, hb, g0, g1⟩ := HA.out.at_ hlt
      have c0 := (hbr.cell (p := ⟨b, o + k * 2, none⟩) hb).trans g0
      have c1 := (hbr.cell (p := ⟨b, o + k * 2 + 1, none⟩) hb).trans g1
      have i2 : (k : Int) < (l.length : Int) := by omega
      have HT := Lib.hid (take_filter l st hlt)
      have HTL := Lib.hid (take_filter_len l st k)
      have hW1 := hbr.alloc hsz (.cells #[.string (nmOf l k), .string (vlOf l k)] 58)
      have R0 : Row (wr.alloc (.cells #[.string (nmOf l k), .string (vlOf l k)] 58)) wr.heap.size 58 #[.string (nmOf l k), .string (vlOf l k)] := Row.new wr _ _
      have HR0 := Lib.hid R0
      have HO1 := Lib.hid (ownl_below ho (below_one wr (.cells #[.string (nmOf l k), .string (vlOf l k)] 58)))
      have HW1 := Lib.hid hW1
      have HC := Lib.hid (HS.out _ (nmOf l k, vlOf l k) (lbl_mem l hlt) hW1)
      clear R0 hW1 ho hbr g0 g1
      cases hs : st (nmOf l k, vlOf l k)
      · rw [hs] at HC HT
        clear hs
        go_wp2_with (first
          | (go_at_call 59; refine HC.out.mono ?_; rintro e w2 ⟨rfl, hb2⟩; have HB2 := Lib.hid (HW1.out.trans (hb2.mono HW1.out.size)); have HO2 := Lib.hid (ownl_below HO1.out hb2); clear hb2))
        go_roundw
        case rel => exact ⟨k + 1, by omega, by go_num, by rw [HT.out]; simpa using HO2.out, HB2.out⟩
        case measure => simp [intOf]; omega
      · rw [hs] at HC HT
        clear hs
        go_wp2_with (first
          | (go_at_call 59; refine HC.out.mono ?_; rintro e w2 ⟨rfl, hb2⟩; have HB2 := Lib.hid (HW1.out.trans (hb2.mono HW1.out.size)); have HO2 := Lib.hid (ownl_below HO1.out hb2); have HR2 := Lib.hid (HR0.out.below hb2 (by simp)); have r0 := HR2.out.cell 0; have r1 := HR2.out.cell 1; clear hb2)
          | (at_builtin; refine app_lbls rfl (.tmp 17) (.tmp 19) rfl w.heap.size _ _ rfl (ownl_below HO2.out (below_one _ _)) _ [(nmOf l k, vlOf l k)] 1 rfl (lbls_cell (Row.new _ _ _)) (by have := HTL.out; have := HL.out; simp only [List.length_cons, List.length_nil]; omega) (Nat.le_trans HB2.out.size (by simp)) ?_; intro v3 w3 hown3 hb3 _; have HO3 := Lib.hid hown3; have HB3 := Lib.hid ((HB2.out.alloc HB2.out.size _).trans hb3); clear hown3 hb3))
        go_roundw
        case rel => exact ⟨k + 1, by omega, by go_num, by rw [HT.out]; simpa using HO3.out, HB3.out⟩
        case measure => simp [intOf]; omega
    · obtain rfl : k = l.length := by omega
      rw [List.take_of_length_le (Nat.le_refl _)] at ho
      go_wp2_with fail
      go_ret
      exact ⟨_, rfl, ho, hbr⟩
end Go.Proofs.YtgiclapgilppgaaDoor
