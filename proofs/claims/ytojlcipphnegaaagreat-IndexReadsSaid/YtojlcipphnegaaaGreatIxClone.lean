/- The program's index: Clone of a set; whether sets may be an index's. -/
import Derived.Test.YtojlcipphnegaaaGreatIxRef4
import Derived.Test.YtojlcipphnegaaaGreatIxLotF
import Derived.Test.YtojlcipphnegaaaGreatIxLotM
import Derived.Lib.SmallJoins
namespace Go.Proofs.YtojlcipphnegaaaGreat
open Go.RowKit Go.Maps
set_option linter.unusedVariables false

theorem ix_eqnil {P : Program} (w : World) (t e : TypeId) (a : Option Addr) (l c : Nat) (h : P.underlying t = some (.slice e)) : (binOp .eql t (.slice a l c) (.slice none 0 0)).run P w = .ok (.bool a.isNone) w := by
  simp only [binOp]
  simp [run_equal_slice_nil w t e a l c h]
set_option maxRecDepth 100000 in
theorem ixclone_prog (A : Option Addr) (l : List Lbl) (c : Nat) (w : World) (hA : Lbls w A l) (hl : l.length * 32 ≤ 140737488355328) :
    Calls Tryz.prog 29 #[.slice A l.length c] w fun e w' => ∃ v, e = .returned v ∧ OwnL w' w.heap.size v l ∧ Below w.heap.size w w' := by
  have q := ix_eqnil (P := Tryz.prog) w 31 35 A l.length c Tryz.underlying31
  cases A with
  | none =>
    have h0 : l = [] := by
      rcases hA with h | ⟨b, o, e, _⟩
      · have := flat_len lblE 2 lblE_len l
        rw [h] at this
        simp at this
        exact List.eq_nil_of_length_eq_zero (by omega)
      · cases e
    subst h0
    clear hA q
    have q := ix_eqnil (P := Tryz.prog) w 31 35 none 0 c Tryz.underlying31
    go_enter Tryz.func29, Tryz.ntmps29
    go_wp2_with fail
    go_ret
    exact ⟨_, rfl, ownl_nil _ _, Below.refl _ _⟩
  | some ad =>
    have HO := Lib.hid (ownl_empty (Row.new w 35 #[]) (Nat.le_refl _))
    have HA1 := Lib.hid (hA.alloc (.cells #[] 35))
    have hW1 := below_one w (.cells #[] 35)
    clear hA
    go_enter Tryz.func29, Tryz.ntmps29
    go_wp2_with (at_builtin; refine app_lbls rfl (.tmp 5) (.tmp 6) rfl w.heap.size _ [] rfl HO.out (some ad) l c rfl HA1.out (by simpa using hl) hW1.size ?_; intro v3 w3 hF3 hb3 _; rw [List.nil_append] at hF3; have HF3 := Lib.hid hF3; obtain ⟨P3, c3, hv3, _, _, _⟩ := ownl_slice hF3; clear hF3; subst hv3)
    go_ret
    exact ⟨_, rfl, HF3.out, hW1.trans hb3⟩

set_option maxHeartbeats 1000000 in
theorem ixcheck_prog (V : Option Addr) (ss : List (List Lbl)) (c : Nat) (w : World) (hV : Sets w V ss) (hl : ss.length ≤ 100000000000000) (hll : ∀ i, (ss.getD i []).length ≤ 100000000000000) :
    Calls Tryz.prog 28 #[.slice V ss.length c] w fun e w' => e = .returned (.int .i64 (ixChk ss)) ∧ Below w.heap.size w w' := by
  by_cases hb : 256 < ss.length
  · have i1 : decide ((256 : Int) < (ss.length : Int)) = true := decide_eq_true (by omega)
    have HE := Lib.hid (show ixChk ss = 3 from if_pos hb)
    clear hb
    go_enter Tryz.func28, Tryz.ntmps28
    go_wp2_with fail
    go_ret
    exact ⟨ret_ix HE.out.symm, Below.refl _ _⟩
  · have i1 : decide ((256 : Int) < (ss.length : Int)) = false := decide_eq_false (by omega)
    rw [restC_zero hb]
    obtain ⟨E, hE⟩ : ∃ E, restC ss 0 = E := ⟨_, rfl⟩
    rw [hE]
    have HE := Lib.hid hE
    have HV := Lib.hid (fun (x : World) (h : Below w.heap.size w x) => hV.below h)
    have HLL := Lib.hid hll
    have H256 := Lib.hid hb
    clear hV hE hb hll
    go_enter Tryz.func28, Tryz.ntmps28
    go_wp2_with fail
    go_loopw [11] (fun i wr => ∃ j : Nat, j ≤ ss.length ∧ i = .int .i64 (j : Int) ∧ restC ss j = E ∧ Below w.heap.size w wr) (fun i _ => ss.length - (intOf i).toNat)
    case atStart => exact ⟨0, Nat.zero_le _, rfl, HE.out, Below.refl _ _⟩
    case round =>
      obtain ⟨j, hj, rfl, hr, hb⟩ := hrel
      have HB := Lib.hid hb
      have HR := Lib.hid hr
      by_cases hlt : j < ss.length
      · obtain ⟨b1, o1, A1, c1, rfl, hb1, g0, hL1, hlc1⟩ := (HV.out _ hb).at_ hlt
        have i2 : (j : Int) < (ss.length : Int) := by omega
        have HCK := Lib.hid (lbchk_prog A1 (ss.getD j []) c1 wr hL1 (HLL.out j))
        have HBAD := Lib.hid (fun h => restC_bad (ss := ss) (j := j) hlt h)
        have HNX := Lib.hid (fun h h2 => restC_next (ss := ss) (j := j) hlt h h2)
        clear hr hb hL1
        by_cases hz : lbChk (ss.getD j []) = 0
        · rw [hz] at HCK
          by_cases h0 : j = 0
          · subst h0
            have HR2 := Lib.hid (show restC ss 1 = E from by rw [← HNX.out hz (.inl rfl)]; exact HR.out)
            clear hz HBAD HNX
            generalize (ss.getD 0 []).length = nl at *
            rw [Nat.add_zero] at g0
            go_wp2_with (first | (go_at_call 56; refine HCK.out.mono ?_; rintro e w5 ⟨rfl, hb5⟩; have HB5 := Lib.hid (below_then HB.out hb5); clear hb5))
            go_roundw
            case rel => exact ⟨1, hlt, by go_num, HR2.out, HB5.out⟩
            case measure => simp [intOf]; omega
          · obtain ⟨m, hm⟩ : ∃ m, m + 1 = j := ⟨j - 1, by omega⟩
            have HORD := Lib.hid (fun h => restC_order (ss := ss) (m := m) (by omega) (by rw [hm]; exact hz) h)
            have HNX2 := Lib.hid (fun h => HNX.out hz (.inr h))
            rw [hm] at HORD
            rw [show j - 1 = m from by omega] at HNX2
            have o9 : IntKind.i64.wrap ((j : Int) - 1) = (m : Int) := by rw [show (j : Int) - 1 = (m : Int) from by omega]; exact IntWalk.i64_in _ (by have := H256.out; omega)
            have i5 : decide ((0 : Int) < (j : Int)) = true := decide_eq_true (by omega)
            have i6 : (m : Int) < (ss.length : Int) := by omega
            have i7 : 0 < j := by omega
            have i8 : (0 : Int) < (j : Int) := by omega
            have hmlt : m < ss.length := by omega
            have HCM := Lib.hid (fun (x : World) (A2 A3 : Option Addr) (c2 c3 : Nat) (h2 : Lbls x A2 (ss.getD m [])) (h3 : Lbls x A3 (ss.getD j [])) => compare_prog A2 A3 (ss.getD m []) (ss.getD j []) c2 c3 x h2 h3 (HLL.out m) (HLL.out j))
            have HVV := Lib.hid (fun (x : World) (h : Below w.heap.size w x) => (show ∃ A2 c2 A3 c3, x.cell? ⟨b1, o1 + m, none⟩ = some (.slice A2 (ss.getD m []).length c2) ∧ Lbls x A2 (ss.getD m []) ∧ x.cell? ⟨b1, o1 + j, none⟩ = some (.slice A3 (ss.getD j []).length c3) ∧ Lbls x A3 (ss.getD j []) from by
              obtain ⟨b2, o2, A2, c2, e2, hb2, g2, hL2, _⟩ := (HV.out _ h).at_ hmlt
              have e2' := Option.some.inj e2
              simp only [Addr.mk.injEq, and_true] at e2'
              obtain ⟨rfl, rfl⟩ := e2'
              obtain ⟨b3, o3, A3, c3, e3, hb3, g3, hL3, _⟩ := (HV.out _ h).at_ hlt
              have e3' := Option.some.inj e3
              simp only [Addr.mk.injEq, and_true] at e3'
              obtain ⟨rfl, rfl⟩ := e3'
              exact ⟨A2, c2, A3, c3, g2, hL2, g3, hL3⟩))
            have HG0 := Lib.hid (show (fun (x : World) => x.cell? ⟨b1, o1 + j, none⟩) wr = some (.slice A1 (ss.getD j []).length c1) from g0)
            clear hz HBAD HNX hm h0
            generalize hnl : (ss.getD j []).length = nl at *
            generalize hnm : (ss.getD m []).length = nm at *
            clear hnl hnm
            go_upto_region 9 with (first | (go_at_call 56; refine HCK.out.mono ?_; rintro e w5 ⟨rfl, hb5⟩; have HB5 := Lib.hid (below_then HB.out hb5); have HB9 := Lib.hid hb5; clear hb5))
            obtain ⟨A2, c2, A3, c3, g2, hL2, g3, hL3⟩ := HVV.out _ HB5.out
            have e3 : (Value.slice A3 nl c3) = .slice A1 nl c1 := Option.some.inj (g3.symm.trans ((HB9.out.cell (p := ⟨b1, o1 + j, none⟩) hb1).trans HG0.out))
            obtain ⟨rfl, _, rfl⟩ := Value.slice.inj e3
            have HCM2 := Lib.hid (HCM.out _ A2 A3 c2 c3 hL2 hL3)
            clear hL2 hL3 g0 e3 g3
            by_cases hc : 0 ≤ cmpLs (ss.getD m []) (ss.getD j [])
            · have HR2 := Lib.hid (show (13 : Int) = E from by rw [← HORD.out hc]; exact HR.out)
              have j1 : decide ((0 : Int) ≤ cmpLs (ss.getD m []) (ss.getD j [])) = true := decide_eq_true hc
              generalize cmpLs (ss.getD m []) (ss.getD j []) = E2 at *
              clear hc
              go_wp2_with (first | (go_at_call 57; refine HCM2.out.mono ?_; rintro e w6 ⟨rfl, hb6⟩; have HB6 := Lib.hid (HB5.out.trans (hb6.mono HB5.out.size)); clear hb6))
              go_ret
              exact ⟨ret_ix HR2.out, HB6.out⟩
            · have HR2 := Lib.hid (show restC ss (j + 1) = E from by rw [← HNX2.out (by omega)]; exact HR.out)
              have j1 : decide ((0 : Int) ≤ cmpLs (ss.getD m []) (ss.getD j [])) = false := decide_eq_false hc
              generalize cmpLs (ss.getD m []) (ss.getD j []) = E2 at *
              clear hc
              go_wp2_with (first | (go_at_call 57; refine HCM2.out.mono ?_; rintro e w6 ⟨rfl, hb6⟩; have HB6 := Lib.hid (HB5.out.trans (hb6.mono HB5.out.size)); clear hb6))
              go_roundw
              case rel => exact ⟨j + 1, hlt, by go_num, HR2.out, HB6.out⟩
              case measure => simp [intOf]; omega
        · have HR2 := Lib.hid (show lbChk (ss.getD j []) = E from by rw [← HBAD.out hz]; exact HR.out)
          have j1 : (lbChk (ss.getD j []) != 0) = true := bne_iff_ne.2 hz
          have j2 : (lbChk (ss.getD j []) == 0) = false := beq_eq_false_iff_ne.2 hz
          generalize lbChk (ss.getD j []) = E2 at *
          generalize (ss.getD j []).length = nl at *
          clear hz HBAD HNX
          go_wp2_with (first | (go_at_call 56; refine HCK.out.mono ?_; rintro e w5 ⟨rfl, hb5⟩; have HB5 := Lib.hid (below_then HB.out hb5); clear hb5))
          go_ret
          exact ⟨ret_ix HR2.out, HB5.out⟩
      · obtain rfl : j = ss.length := by omega
        have HR2 := Lib.hid (show (0 : Int) = E from by rw [← restC_end ss]; exact HR.out)
        clear hr hb
        go_wp2_with fail
        go_ret
        exact ⟨ret_ix HR2.out, HB.out⟩
end Go.Proofs.YtojlcipphnegaaaGreat
