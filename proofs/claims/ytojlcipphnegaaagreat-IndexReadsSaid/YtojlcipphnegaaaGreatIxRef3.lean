/- The document's own answer of layer 10: the value of a name, all values of a name; what matchers find (given what its parts tell). -/
import Derived.Test.YtojlcipphnegaaaGreatIxLotM
import Derived.Test.YtojlcipphnegaaaGreatIxLotG
import Derived.Test.YtojlcipphnegaaaGreatIxLotD
namespace Go.Proofs.YtojlcipphnegaaaGreat
open Go.RowKit Go.Maps
set_option linter.unusedVariables false

theorem empty_sz (s : ByteArray) : (s.toList == []) = decide (s.size = 0) := by
  rw [ByteArray.toList_eq, Bool.eq_iff_iff, beq_iff_eq, decide_eq_true_eq]
  have := strL_length s
  unfold strL at this
  constructor
  · intro e; rw [e] at this; simpa using this.symm
  · intro e; exact List.eq_nil_of_length_eq_zero (by omega)
theorem ret_val {a b : ByteArray} (h : a = b) : Ending.returned (.string a) = .returned (.string b) := by rw [h]
theorem getv_ref (A : Option Addr) (l : List Lbl) (c : Nat) (name : ByteArray) (w : World) (hA : Lbls w A l) (hl : l.length ≤ 100000000000000) :
    Calls Tryz.prog 23 #[.slice A l.length c, .string name] w fun e w' => e = .returned (.string (valOf l name)) ∧ w = w' := by
  have HA := Lib.hid hA
  clear hA
  go_enter Tryz.func23, Tryz.ntmps23
  go_wp2_with fail
  go_loop [5] (fun i => ∃ k : Nat, k ≤ l.length ∧ i = .int .i64 (k : Int) ∧ valOf (l.drop k) name = valOf l name) (fun i => l.length - (intOf i).toNat)
  case atStart => exact ⟨0, Nat.zero_le _, rfl, rfl⟩
  case round =>
    obtain ⟨k, hk, rfl, he⟩ := hrel
    by_cases hlt : k < l.length
    · obtain ⟨b, o, rfl, hb, g0, g1⟩ := HA.out.at_ hlt
      have i2 : (k : Int) < (l.length : Int) := by omega
      have hq := eqT (nmOf l k) name
      by_cases h : nmOf l k = name
      · have HE := Lib.hid ((valq_eq hlt h).symm.trans he)
        rw [decide_eq_true h] at hq
        clear he h
        go_wp2_with fail
        go_ret
        exact ⟨ret_val HE.out, rfl⟩
      · have HE := Lib.hid ((valq_ne hlt h).symm.trans he)
        rw [decide_eq_false h] at hq
        clear he h
        go_wp2_with fail
        exact ⟨⟨k + 1, by omega, by go_num, HE.out⟩, by simp [intOf]; omega⟩
    · obtain rfl : k = l.length := by omega
      rw [List.drop_length] at he
      have HE := Lib.hid he
      clear he
      go_wp2_with fail
      go_ret
      exact ⟨ret_val HE.out, rfl⟩
theorem values_ref (V : Option Addr) (ss : List (List Lbl)) (c : Nat) (name : ByteArray) (w : World) (hV : Sets w V ss) (h256 : ss.length ≤ 256) (h8 : ∀ l ∈ ss, l.length ≤ 8) :
    Calls Tryz.prog 36 #[.slice V ss.length c, .string name] w (TxTold w (ixValues ss name)) := by
  have HV := Lib.hid (fun (x : World) (h : Below w.heap.size w x) => hV.below h)
  have H8 := Lib.hid (getD_mem8 h8)
  have HST := Lib.hid (fun i (hi : i < ss.length) => values_step ss name hi)
  have HLN := Lib.hid (fun i => Nat.le_trans (values_len (ss.take i) name) (show (ss.take i).length ≤ 256 from by rw [List.length_take]; omega))
  have HEND := Lib.hid (show ixValues (ss.take ss.length) name = ixValues ss name from by rw [List.take_length])
  have HUP := Lib.hid (fun i => setF_up cmpB_cmp (gotOf (ss.take i) name))
  clear hV h8
  go_enter Tryz.func36, Tryz.ntmps36
  go_wp2_with fail
  go_loopw [5, 6] (fun u i wr => ∃ (j : Nat) (P : Option Addr) (cu : Nat), j ≤ ss.length ∧ i = .int .i64 (j : Int) ∧ u = .slice P (ixValues (ss.take j) name).length cu ∧ Tx wr P (ixValues (ss.take j) name) ∧ (ixValues (ss.take j) name).length ≤ cu ∧ Below w.heap.size w wr) (fun _ i _ => ss.length - (intOf i).toNat)
  case atStart => exact ⟨0, none, 0, Nat.zero_le _, rfl, rfl, Tx.nil _ _, Nat.le_refl _, Below.refl _ _⟩
  case round =>
    obtain ⟨j, P, cu, hj, rfl, rfl, hT, hcu, hb⟩ := hrel
    have HT := Lib.hid hT
    have HCU := Lib.hid hcu
    have HB := Lib.hid hb
    by_cases hlt : j < ss.length
    · obtain ⟨b1, o1, A1, c1, rfl, hb1, g0, hL1, hlc1⟩ := (HV.out _ hb).at_ hlt
      have i1 : (j : Int) < (ss.length : Int) := by omega
      have HG := Lib.hid (getv_ref A1 (ss.getD j []) c1 name wr hL1 (by have := H8.out j; omega))
      have HW := Lib.hid (fun s => with_ref P (ixValues (ss.take j) name) cu s wr hT hcu (HUP.out j) (by have := HLN.out j; omega))
      have HS := Lib.hid (HST.out j hlt)
      obtain ⟨L2, hL2⟩ : ∃ L, ixValues (ss.take (j + 1)) name = L := ⟨_, rfl⟩
      rw [hL2] at HS
      have HL2 := Lib.hid hL2
      clear hL2 hT hcu hb hL1
      have hem := empty_sz (valOf (ss.getD j []) name)
      generalize valOf (ss.getD j []) name = v at *
      generalize (ss.getD j []).length = nl at *
      generalize ixValues (ss.take j) name = L1 at *
      by_cases hv : v.size = 0
      · have HS2 := Lib.hid (show L2 = L1 from by rw [HS.out]; exact if_neg (fun h => h hv))
        have j1 : (v.toList == []) = true := by rw [hem]; exact decide_eq_true hv
        go_wp2_with (first | (go_at_call 23; refine HG.out.mono ?_; rintro e w5 ⟨rfl, rfl⟩))
        go_roundw
        case rel => exact ⟨j + 1, P, cu, hlt, by go_num, by rw [HL2.out, HS2.out], by rw [HL2.out, HS2.out]; exact HT.out, by rw [HL2.out, HS2.out]; exact HCU.out, HB.out⟩
        case measure => simp [intOf]; omega
      · have HS2 := Lib.hid (show L2 = withF cmpB L1 v from by rw [HS.out]; exact if_pos hv)
        have j1 : (v.toList == []) = false := by rw [hem]; exact decide_eq_false hv
        have HW2 := Lib.hid (HW.out v)
        rw [← HS2.out] at HW2
        go_wp2_with (first
          | (go_at_call 23; refine HG.out.mono ?_; rintro e w5 ⟨rfl, rfl⟩)
          | (go_at_call 64; refine HW2.out.mono ?_; rintro e w5 ⟨P5, c5, rfl, hT5, hc5, hb5⟩; have HT5 := Lib.hid hT5; have HC5 := Lib.hid hc5; have HB5 := Lib.hid (below_then HB.out hb5); clear hT5 hc5 hb5))
        go_roundw
        case rel => exact ⟨j + 1, P5, c5, hlt, by go_num, by rw [HL2.out], by rw [HL2.out]; exact HT5.out, by rw [HL2.out]; exact HC5.out, HB5.out⟩
        case measure => simp [intOf]; omega
    · obtain rfl : j = ss.length := by omega
      rw [HEND.out] at HT HCU ⊢
      clear hT hcu hb
      generalize ixValues ss name = L2 at *
      go_wp2_with fail
      go_ret
      exact ⟨P, cu, rfl, HT.out, HCU.out, HB.out⟩
/-- What matchers find. -/
theorem find_ref (V : Option Addr) (ss : List (List Lbl)) (c : Nat) (M : Option Addr) (ms : List Mt) (cm : Nat) (w : World) (hV : Sets w V ss) (h256 : ss.length ≤ 256)
    (hC : ∀ x, Below w.heap.size w x → Calls Tryz.prog 41 #[.slice M ms.length cm] x fun e w' => e = .returned (.int .i64 (mchkAll ms)) ∧ Below x.heap.size x w')
    (hF : ∀ x, Below w.heap.size w x → ∀ i, i < ss.length → ∀ A c', Lbls x A (ss.getD i []) → Calls Tryz.prog 42 #[.slice M ms.length cm, .slice A (ss.getD i []).length c'] x fun e w' => e = .returned (.bool (mall ms (ss.getD i []))) ∧ Below x.heap.size x w') :
    Calls Tryz.prog 18 #[.slice V ss.length c, .slice M ms.length cm] w fun e w' => ∃ v, e = .returned (.tuple #[v, .int .i64 (mchkAll ms)]) ∧ OwnZ w' w.heap.size v (if mchkAll ms = 0 then findL ss ms else []) ∧ Below w.heap.size w w' := by
  have HV := Lib.hid (fun (x : World) (h : Below w.heap.size w x) => hV.below h)
  have HF := Lib.hid hF
  have HCA := Lib.hid (hC w (Below.refl _ _))
  have HNX := Lib.hid (fun k => findK_next ss ms k)
  have HLN := Lib.hid (fun k => findK_len ss ms k)
  by_cases hz : mchkAll ms = 0
  · rw [hz] at HCA ⊢
    rw [if_pos rfl]
    clear hV hF hC hz
    go_enter Tryz.func18, Tryz.ntmps18
    go_wp2_with fail
    refine HCA.out.mono ?_
    rintro e w1 ⟨rfl, hb1⟩
    have HB1 := Lib.hid hb1
    clear hb1
    go_wp2_with fail
    go_loopw [7, 8] (fun u i wr => ∃ j : Nat, j ≤ ss.length ∧ i = .int .i64 (j : Int) ∧ OwnZ wr w.heap.size u (findK ss ms j) ∧ Below w.heap.size w wr) (fun _ i _ => ss.length - (intOf i).toNat)
    case atStart => exact ⟨0, Nat.zero_le _, rfl, ownz_nil _ _, HB1.out⟩
    case round =>
      obtain ⟨j, hj, rfl, ho, hb⟩ := hrel
      have HO := Lib.hid ho
      have HB := Lib.hid hb
      by_cases hlt : j < ss.length
      · obtain ⟨b1, o1, A1, c1, rfl, hb1, g0, hL1, hlc1⟩ := (HV.out _ hb).at_ hlt
        have i1 : (j : Int) < (ss.length : Int) := by omega
        have HA := Lib.hid (HF.out wr hb j hlt A1 c1 hL1)
        have HN := Lib.hid (HNX.out j)
        have HL := Lib.hid (HLN.out j)
        clear ho hb hL1
        generalize mall ms (ss.getD j []) = q at *
        generalize (ss.getD j []).length = nl at *
        cases q
        · have HN2 := Lib.hid (show findK ss ms (j + 1) = findK ss ms j from by rw [HN.out]; simp)
          go_wp2_with (first | (go_at_call 42; refine HA.out.mono ?_; rintro e w5 ⟨rfl, hb5⟩; have HB5 := Lib.hid (below_then HB.out hb5); have HO5 := Lib.hid (ownz_below HO.out hb5); clear hb5))
          go_roundw
          case rel => exact ⟨j + 1, hlt, by go_num, by rw [HN2.out]; exact HO5.out, HB5.out⟩
          case measure => simp [intOf]; omega
        · have HN2 := Lib.hid (show findK ss ms (j + 1) = findK ss ms j ++ [(j : Int)] from by rw [HN.out]; simp)
          go_wp2_with (first
            | (go_at_call 42; refine HA.out.mono ?_; rintro e w5 ⟨rfl, hb5⟩; have HB5 := Lib.hid (below_then HB.out hb5); have HO5 := Lib.hid (ownz_below HO.out hb5); clear hb5)
            | (at_builtin; refine app_zs rfl (.tmp 26) (.tmp 28) rfl w.heap.size _ _ rfl (ownz_below HO5.out (below_one _ _)) _ [(j : Int)] 1 rfl (zs_cell (Row.new _ _ _)) (by have := HL.out; rw [List.length_singleton]; omega) (Nat.le_trans HB5.out.size (by simp)) ?_; intro v3 w3 hown3 hb3 _; rw [← HN2.out] at hown3; have HO3 := Lib.hid hown3; have HB3 := Lib.hid ((HB5.out.alloc HB5.out.size _).trans hb3); clear hown3 hb3))
          go_roundw
          case rel => exact ⟨j + 1, hlt, by go_num, HO3.out, HB3.out⟩
          case measure => simp [intOf]; omega
      · obtain rfl : j = ss.length := by omega
        clear ho hb
        go_wp2_with fail
        go_ret2
        exact ⟨_, rfl, HO.out, HB.out⟩
  · rw [if_neg hz]
    have i1 : (mchkAll ms != 0) = true := bne_iff_ne.2 hz
    have i2 : (mchkAll ms == 0) = false := beq_eq_false_iff_ne.2 hz
    generalize mchkAll ms = E at *
    clear hV hF hC hz
    go_enter Tryz.func18, Tryz.ntmps18
    go_wp2_with fail
    refine HCA.out.mono ?_
    rintro e w1 ⟨rfl, hb1⟩
    go_wp2
    go_ret2
    exact ⟨_, rfl, ownz_nil _ _, hb1⟩
end Go.Proofs.YtojlcipphnegaaaGreat
