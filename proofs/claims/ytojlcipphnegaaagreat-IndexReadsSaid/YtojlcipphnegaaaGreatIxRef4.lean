/- The document's own answer of layer 10: whether sets are an index (given what its parts tell). -/
import Derived.Test.YtojlcipphnegaaaGreatIxLotM
import Derived.Deep.QuietTactic
import Derived.BigQuiet
import Derived.Deep.RegionHeld3
import Derived.Deep.Cut
namespace Go.Proofs.YtojlcipphnegaaaGreat
open Go.RowKit Go.Maps
set_option linter.unusedVariables false

/-- What is left to tell from the j-th set on. -/
def restC (ss : List (List Lbl)) (j : Nat) : Int := if j = 0 then (match ss with
    | [] => 0
    | l :: r => if lbChk l ≠ 0 then lbChk l else ixChkF l r) else ixChkF (ss.getD (j - 1) []) (ss.drop j)
theorem restC_zero {ss : List (List Lbl)} (h : ¬ 256 < ss.length) : ixChk ss = restC ss 0 := by
  unfold ixChk restC
  rw [if_neg h, if_pos rfl]
  cases ss <;> rfl
theorem restC_end (ss : List (List Lbl)) : restC ss ss.length = 0 := by
  unfold restC
  split
  · rename_i h
    rw [List.eq_nil_of_length_eq_zero h]
  · rw [List.drop_length]
    rfl
theorem ix_drawn (B : Nat) (w : World) (n : Nat) : Below B w (w.drewN n) := below_drewN' (Below.refl _ _) n
theorem getD_ss {ss : List (List Lbl)} {j : Nat} (h : j < ss.length) : ss.getD j [] = ss[j] := by rw [List.getD_eq_getElem?_getD, List.getElem?_eq_getElem h]; rfl
theorem restC_bad {ss : List (List Lbl)} {j : Nat} (h : j < ss.length) (hb : lbChk (ss.getD j []) ≠ 0) : restC ss j = lbChk (ss.getD j []) := by
  rw [getD_ss h] at hb ⊢
  unfold restC
  split
  · rename_i h0
    subst h0
    cases ss with
    | nil => simp at h
    | cons l r => exact if_pos hb
  · rw [List.drop_eq_getElem_cons h, ixChkF]
    exact if_pos hb
theorem restC_order {ss : List (List Lbl)} {m : Nat} (h : m + 1 < ss.length) (hb : lbChk (ss.getD (m + 1) []) = 0) (ho : 0 ≤ cmpLs (ss.getD m []) (ss.getD (m + 1) [])) : restC ss (m + 1) = 13 := by
  rw [getD_ss h] at hb ho
  unfold restC
  rw [if_neg (by omega), List.drop_eq_getElem_cons h, ixChkF, if_neg (by omega), Nat.add_sub_cancel]
  exact if_pos ho
theorem restC_next {ss : List (List Lbl)} {j : Nat} (h : j < ss.length) (hb : lbChk (ss.getD j []) = 0) (ho : j = 0 ∨ ¬ 0 ≤ cmpLs (ss.getD (j - 1) []) (ss.getD j [])) : restC ss j = restC ss (j + 1) := by
  rw [getD_ss h] at hb ho
  have e : restC ss (j + 1) = ixChkF ss[j] (ss.drop (j + 1)) := by
    unfold restC
    rw [if_neg (by omega), Nat.add_sub_cancel, getD_ss h]
  rw [e]
  unfold restC
  split
  · rename_i h0
    subst h0
    cases ss with
    | nil => simp at h
    | cons l r =>
      have hb' : lbChk l = 0 := hb
      show (if lbChk l ≠ 0 then lbChk l else ixChkF l r) = _
      rw [if_neg (by omega)]
      rfl
  · rename_i h0
    rw [List.drop_eq_getElem_cons h, ixChkF, if_neg (by omega)]
    rcases ho with ho | ho
    · exact absurd ho h0
    · exact if_neg ho
set_option maxHeartbeats 1000000 in
theorem ixcheck_ref (V : Option Addr) (ss : List (List Lbl)) (c : Nat) (w : World) (hV : Sets w V ss) (hl : ss.length ≤ 100000000000000)
    (hC : ∀ x, Below w.heap.size w x → ∀ i, i < ss.length → ∀ A c', Lbls x A (ss.getD i []) → Calls Tryz.prog 30 #[.slice A (ss.getD i []).length c'] x fun e w' => e = .returned (.int .i64 (lbChk (ss.getD i []))) ∧ Below x.heap.size x w')
    (hM : ∀ x, Below w.heap.size w x → ∀ i, i + 1 < ss.length → ∀ A c' B d', Lbls x A (ss.getD i []) → Lbls x B (ss.getD (i + 1) []) → Calls Tryz.prog 31 #[.slice A (ss.getD i []).length c', .slice B (ss.getD (i + 1) []).length d'] x fun e w' => e = .returned (.int .i64 (cmpLs (ss.getD i []) (ss.getD (i + 1) []))) ∧ Below x.heap.size x w') :
    Calls Tryz.prog 12 #[.slice V ss.length c] w fun e w' => e = .returned (.int .i64 (ixChk ss)) ∧ Below w.heap.size w w' := by
  by_cases hb : 256 < ss.length
  · have i1 : decide ((256 : Int) < (ss.length : Int)) = true := decide_eq_true (by omega)
    have HE := Lib.hid (show ixChk ss = 3 from if_pos hb)
    clear hb
    go_enter Tryz.func12, Tryz.ntmps12
    go_wp2_with fail
    go_ret
    exact ⟨ret_ix HE.out.symm, Below.refl _ _⟩
  · have i1 : decide ((256 : Int) < (ss.length : Int)) = false := decide_eq_false (by omega)
    rw [restC_zero hb]
    obtain ⟨E, hE⟩ : ∃ E, restC ss 0 = E := ⟨_, rfl⟩
    rw [hE]
    have HE := Lib.hid hE
    have HV := Lib.hid (fun (x : World) (h : Below w.heap.size w x) => hV.below h)
    have HC := Lib.hid hC
    have HM := Lib.hid hM
    have H256 := Lib.hid hb
    clear hV hC hM hE hb
    go_enter Tryz.func12, Tryz.ntmps12
    go_wp2_with fail
    go_loopw [3] (fun i wr => ∃ j : Nat, j ≤ ss.length ∧ i = .int .i64 (j : Int) ∧ restC ss j = E ∧ Below w.heap.size w wr) (fun i _ => ss.length - (intOf i).toNat)
    case atStart => exact ⟨0, Nat.zero_le _, rfl, HE.out, Below.refl _ _⟩
    case round =>
      obtain ⟨j, hj, rfl, hr, hb⟩ := hrel
      have HB := Lib.hid hb
      have HR := Lib.hid hr
      by_cases hlt : j < ss.length
      · obtain ⟨b1, o1, A1, c1, rfl, hb1, g0, hL1, hlc1⟩ := (HV.out _ hb).at_ hlt
        have i2 : (j : Int) < (ss.length : Int) := by omega
        have HCK := Lib.hid (HC.out wr hb j hlt A1 c1 hL1)
        have HBAD := Lib.hid (fun h => restC_bad (ss := ss) (j := j) hlt h)
        have HNX := Lib.hid (fun h h2 => restC_next (ss := ss) (j := j) hlt h h2)
        clear hr hb hL1
        by_cases hz : lbChk (ss.getD j []) = 0
        · rw [hz] at HCK
          by_cases h0 : j = 0
          · subst h0
            have HR2 := Lib.hid (show restC ss 1 = E from by rw [← HNX.out hz (.inl rfl)]; exact HR.out)
            clear hz HBAD HNX
            generalize (ss.getD 0 []).length = nl at *
            rw [Nat.add_zero] at g0
            go_wp2_with (first | (go_at_call 30; refine HCK.out.mono ?_; rintro e w5 ⟨rfl, hb5⟩; have HB5 := Lib.hid (below_then HB.out hb5); clear hb5))
            go_quiet (fail)
            go_wp2
            go_roundw
            case rel => exact ⟨1, hlt, by go_num, HR2.out, HB5.out.trans (ix_drawn _ _ _)⟩
            case measure => simp [intOf]; omega
          · obtain ⟨m, hm⟩ : ∃ m, m + 1 = j := ⟨j - 1, by omega⟩
            have HORD := Lib.hid (fun h => restC_order (ss := ss) (m := m) (by omega) (by rw [hm]; exact hz) h)
            have HNX2 := Lib.hid (fun h => HNX.out hz (.inr h))
            have HMM := Lib.hid (fun x hx => HM.out x hx m (by omega))
            rw [hm] at HORD HMM
            rw [show j - 1 = m from by omega] at HNX2
            have o9 : IntKind.i64.wrap ((j : Int) - 1) = (m : Int) := by rw [show (j : Int) - 1 = (m : Int) from by omega]; exact IntWalk.i64_in _ (by have := H256.out; omega)
            have i5 : decide ((0 : Int) < (j : Int)) = true := decide_eq_true (by omega)
            have i6 : (m : Int) < (ss.length : Int) := by omega
            have i7 : 0 < j := by omega
            have i8 : (0 : Int) < (j : Int) := by omega
            have hmlt : m < ss.length := by omega
            clear hz HBAD HNX hm h0
            generalize hnl : (ss.getD j []).length = nl at *
            generalize hnm : (ss.getD m []).length = nm at *
            have HNL := Lib.hid hnl
            have HNM := Lib.hid hnm
            clear hnl hnm
            go_upto_region 9 with (first | (go_at_call 30; refine HCK.out.mono ?_; rintro e w5 ⟨rfl, hb5⟩; have HB5 := Lib.hid (below_then HB.out hb5); clear hb5))
            obtain ⟨b2, o2, A2, c2, e2, hb2, g2, hL2, hlc2⟩ := (HV.out _ HB5.out).at_ hmlt
            have e2' := Option.some.inj e2
            simp only [Addr.mk.injEq, and_true] at e2'
            obtain ⟨rfl, rfl⟩ := e2'
            obtain ⟨b3, o3, A3, c3, e3, hb3, g3, hL3, hlc3⟩ := (HV.out _ HB5.out).at_ hlt
            have e3' := Option.some.inj e3
            simp only [Addr.mk.injEq, and_true] at e3'
            obtain ⟨rfl, rfl⟩ := e3'
            rw [HNM.out] at g2
            rw [HNL.out] at g3
            have HCM := Lib.hid (HMM.out _ (HB5.out.trans (ix_drawn _ _ 1)) A2 c2 A3 c3 (hL2.below (ix_drawn _ _ 1)) (hL3.below (ix_drawn _ _ 1)))
            clear hL2 hL3 e2 e3 g0
            by_cases hc : 0 ≤ cmpLs (ss.getD m []) (ss.getD j [])
            · have HR2 := Lib.hid (show (13 : Int) = E from by rw [← HORD.out hc]; exact HR.out)
              have j1 : decide ((0 : Int) ≤ cmpLs (ss.getD m []) (ss.getD j [])) = true := decide_eq_true hc
              generalize cmpLs (ss.getD m []) (ss.getD j []) = E2 at *
              clear hc
              go_region_held3 (fun w' => w'.cell? ⟨b1, o1 + m, none⟩ = some (.slice A2 nm c2) ∧ w'.cell? ⟨b1, o1 + j, none⟩ = some (.slice A3 nl c3))
                (first | with_reducible assumption | go_keep)
                (first
                  | (go_at_call 31
                     refine HCM.out.mono ?_
                     rintro e w6 ⟨rfl, hb6⟩
                     have hb6' : Below w5.heap.size w5 w6 := (ix_drawn w5.heap.size w5 1).trans hb6
                     have k2 := (hb6'.cell (p := ⟨b1, o1 + m, none⟩) hb2).trans g2
                     have k3 := (hb6'.cell (p := ⟨b1, o1 + j, none⟩) hb3).trans g3
                     have HB6 := Lib.hid (HB5.out.trans (hb6'.mono HB5.out.size))
                     clear hb6 hb6'))
              all_goals
                go_wp2
                go_ret
                exact ⟨ret_ix HR2.out, HB6.out⟩
            · have HR2 := Lib.hid (show restC ss (j + 1) = E from by rw [← HNX2.out (by omega)]; exact HR.out)
              have j1 : decide ((0 : Int) ≤ cmpLs (ss.getD m []) (ss.getD j [])) = false := decide_eq_false hc
              generalize cmpLs (ss.getD m []) (ss.getD j []) = E2 at *
              clear hc
              go_region_held3 (fun w' => w'.cell? ⟨b1, o1 + m, none⟩ = some (.slice A2 nm c2) ∧ w'.cell? ⟨b1, o1 + j, none⟩ = some (.slice A3 nl c3))
                (first | with_reducible assumption | go_keep)
                (first
                  | (go_at_call 31
                     refine HCM.out.mono ?_
                     rintro e w6 ⟨rfl, hb6⟩
                     have hb6' : Below w5.heap.size w5 w6 := (ix_drawn w5.heap.size w5 1).trans hb6
                     have k2 := (hb6'.cell (p := ⟨b1, o1 + m, none⟩) hb2).trans g2
                     have k3 := (hb6'.cell (p := ⟨b1, o1 + j, none⟩) hb3).trans g3
                     have HB6 := Lib.hid (HB5.out.trans (hb6'.mono HB5.out.size))
                     clear hb6 hb6'))
              all_goals
                go_wp2
                go_roundw
                case rel => exact ⟨j + 1, hlt, by go_num, HR2.out, HB6.out⟩
                case measure => simp [intOf]; omega
        · have HR2 := Lib.hid (show lbChk (ss.getD j []) = E from by rw [← HBAD.out hz]; exact HR.out)
          have j1 : (lbChk (ss.getD j []) != 0) = true := bne_iff_ne.2 hz
          have j2 : (lbChk (ss.getD j []) == 0) = false := beq_eq_false_iff_ne.2 hz
          generalize lbChk (ss.getD j []) = E2 at *
          generalize (ss.getD j []).length = nl at *
          clear hz HBAD HNX
          go_wp2_with (first | (go_at_call 30; refine HCK.out.mono ?_; rintro e w5 ⟨rfl, hb5⟩; have HB5 := Lib.hid (below_then HB.out hb5); clear hb5))
          go_ret
          exact ⟨ret_ix HR2.out, HB5.out⟩
      · obtain rfl : j = ss.length := by omega
        have HR2 := Lib.hid (show (0 : Int) = E from by rw [← restC_end ss]; exact HR.out)
        clear hr hb
        go_wp2_with fail
        go_ret
        exact ⟨ret_ix HR2.out, HB.out⟩
end Go.Proofs.YtojlcipphnegaaaGreat
