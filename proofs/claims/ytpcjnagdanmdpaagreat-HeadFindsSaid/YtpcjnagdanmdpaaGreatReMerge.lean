/- The document's own answer for patterns: two rising rows of places joined. -/
import Derived.Test.YtpcjnagdanmdpaaGreatHdLotRS
namespace Go.Proofs.YtpcjnagdanmdpaaGreat
open Go.RowKit Go.Maps
set_option linter.unusedVariables false
/-- A row of places is handed back, of which P holds. -/
def PlsTold (w : World) (P : List Nat → Prop) (e : Ending) (w' : World) : Prop := ∃ A out c, e = .returned (.slice A out.length c) ∧ out.length ≤ c ∧ Pls w' A out ∧ P out ∧ Below w.heap.size w w'
def MrgRel (w : World) (la lb : List Nat) (p q o : Value) (wr : World) : Prop :=
  ∃ (A B : Option Addr) (xa xb out : List Nat) (ca cb : Nat), p = .slice A xa.length ca ∧ xa.length ≤ ca ∧ Pls w A xa ∧ q = .slice B xb.length cb ∧ xb.length ≤ cb ∧ Pls w B xb ∧ xa.length ≤ 1001 ∧ xb.length ≤ 1001 ∧ OwnP wr w.heap.size o out ∧ out.length + xa.length + xb.length ≤ 2002 ∧ MInv la lb xa xb out ∧ Below w.heap.size w wr
def lenOf : Value → Nat
  | .slice _ n _ => n
  | _ => 0
theorem addN_len (out : List Nat) (n : Nat) : (addN out n).length ≤ out.length + 1 := by
  unfold addN
  split <;> simp
theorem addN_same {out : List Nat} {n : Nat} (h : out.getLast? = some n) : addN out n = out := by unfold addN; rw [if_pos h]
theorem addN_new {out : List Nat} {n : Nat} (h : out.getLast? ≠ some n) : addN out n = out ++ [n] := by unfold addN; rw [if_neg h]
theorem last_get (out : List Nat) (h : 0 < out.length) : out.getLast? = some (out.getD (out.length - 1) 0) := by
  rw [List.getLast?_eq_getElem?, List.getD_eq_getElem?_getD, List.getElem?_eq_getElem (by omega)]
  rfl
theorem below_drewN {B : Nat} {w wr : World} (h : Below B w wr) (q : Nat) : Below B w (wr.drewN q) := ⟨h.os, h.tape, h.output, h.size, h.block⟩
theorem ownp_drewN {w : World} {base : Nat} {v : Value} {l : List Nat} (h : OwnP w base v l) (q : Nat) : OwnP (w.drewN q) base v l := rows_move h fun _ _ => rfl
/-- The rest of a row behind its first place: where it is empty, its address does not matter. -/
theorem pls_rest {w : World} {b o n c : Nat} {ta : List Nat} (h : Pls w (some ⟨b, o + 1, none⟩) ta) (hc : (n :: ta).length ≤ c) : Pls w (if c = 1 then some ⟨b, o, none⟩ else some ⟨b, o + 1, none⟩) ta := by
  split
  · rename_i h1
    obtain rfl : ta = [] := List.eq_nil_of_length_eq_zero (by simp at hc; omega)
    exact Pls.nil _ _
  · exact h
set_option maxRecDepth 100000 in
set_option maxHeartbeats 8000000 in
theorem merge_ref (A B : Option Addr) (la lb : List Nat) (ca cb : Nat) (w : World) (hA : Pls w A la) (hB : Pls w B lb) (hca : la.length ≤ ca) (hcb : lb.length ≤ cb) (ra : Rise la) (rb : Rise lb) (ma : la.length ≤ 1001) (mb : lb.length ≤ 1001) :
    Calls Tryz.prog 121 #[.slice A la.length ca, .slice B lb.length cb] w (PlsTold w (Joins la lb)) := by
  have HA := Lib.hid hA
  have HB := Lib.hid hB
  have HI := Lib.hid (minv_start ra rb)
  clear hA hB ra rb
  go_enter Tryz.func121, Tryz.ntmps121
  go_wp2_with fail
  go_loopw [0, 1, 5] (fun p q o wr => MrgRel w la lb p q o wr) (fun p q _ _ => lenOf p + lenOf q)
  case atStart => exact ⟨A, B, la, lb, [], ca, cb, rfl, hca, HA.out, rfl, hcb, HB.out, ma, mb, ownp_nil _ _, by simp; omega, HI.out, Below.refl _ _⟩
  case round =>
    obtain ⟨A1, B1, xa, xb, out, c1, c2, rfl, h1, hA1, rfl, h2, hB1, m1, m2, ho, hlen, hinv, hbr⟩ := hrel
    obtain ⟨P, cc, rfl, hlc, hP, _⟩ := ownp_slice ho
    have hsz := hbr.size
    have HBD := Lib.hid (fun q => below_drewN hbr q)
    have HO := Lib.hid (fun q => ownp_drewN ho q)
    cases xa with
    | nil =>
      cases xb with
      | nil =>
        have HJ := Lib.hid (minv_end hinv)
        have HBr := Lib.hid hbr
        clear hinv hbr ho
        go_wp2_with fail
        go_ret
        exact ⟨P, out, cc, rfl, hlc, hP, HJ.out, HBr.out⟩
      | cons k tb =>
        obtain ⟨b, o, rfl, hb, g0, hB2⟩ := hB1.head
        have HI1 := Lib.hid (minv_b hinv (fun y hy => by cases hy))
        have HB2 := Lib.hid (pls_rest hB2 h2)
        have e0 : wr.cell? ⟨b, o, none⟩ = some (.int .i64 (k : Int)) := (hbr.cell (p := ⟨b, o, none⟩) hb).trans g0
        clear hinv hbr ho
        go_upto_region 4 with fail
        go_quiet (fail)
        go_upto_region 9 with fail
        have HLN := Lib.hid (show (addN out k).length + ([] : List Nat).length + (tb : List Nat).length ≤ 2002 by have := addN_len out k; simp at hlen ⊢; omega)
        have hon : out.length + 1 ≤ 2002 := by simp at hlen; omega
        by_cases hz : out.length = 0
        · have z0 : ((out.length : Int) == 0) = true := by rw [hz]; rfl
          have HNW := Lib.hid (addN_new (out := out) (n := k) (by rw [List.eq_nil_of_length_eq_zero hz]; simp))
          clear hz
          go_wp2_with (at_builtin; refine app_nats rfl (.tmp 55) (.tmp 57) rfl w.heap.size _ out rfl (ownp_below (HO.out _) (below_one _ _)) _ [k] 1 rfl (pls_cell (Row.new _ _ _)) (by rw [List.length_singleton]; omega) (Nat.le_trans hsz (by simp)) ?_; intro v1 w1 hown1 hb1 _; rw [← HNW.out] at hown1; have HO1 := Lib.hid hown1; have HX1 := Lib.hid (((HBD.out _).alloc hsz _).trans hb1); clear hown1 hb1)
          go_roundw
          case rel => exact ⟨A1, _, [], tb, addN out k, c1, _, rfl, by simp, Pls.nil _ _, rfl, by simp at h2; omega, HB2.out, by simp, by simp at m2; omega, HO1.out, HLN.out, HI1.out, HX1.out⟩
          case measure => simp [lenOf]
        · obtain ⟨b2, o2, rfl, hb2, g2⟩ := hP.at_ (i := out.length - 1) (by omega)
          have hlast := last_get out (by omega)
          have z0 : ((out.length : Int) == 0) = false := by rw [beq_eq_false_iff_ne]; omega
          have i1 : (1 : Int) ≤ (out.length : Int) := by omega
          generalize out.getD (out.length - 1) 0 = last at g2 hlast
          by_cases hl : last = k
          · obtain rfl := hl.symm
            have HNW := Lib.hid (addN_same hlast)
            clear hlast hz
            go_wp2_with fail
            go_roundw
            case rel => exact ⟨A1, _, [], tb, addN out k, c1, _, rfl, by simp, Pls.nil _ _, rfl, by simp at h2; omega, HB2.out, by simp, by simp at m2; omega, by rw [HNW.out]; exact HO.out _, HLN.out, HI1.out, HBD.out _⟩
            case measure => simp [lenOf]
          · have HNW := Lib.hid (addN_new (out := out) (n := k) (by rw [hlast]; intro e; exact hl (Option.some.inj e)))
            have y1 : ((last : Int) == (k : Int)) = false := by rw [beq_eq_false_iff_ne]; omega
            have y0 : ((last : Int) != (k : Int)) = true := by rw [bne, y1]; rfl
            clear hlast hz hl
            go_wp2_with (at_builtin; refine app_nats rfl (.tmp 55) (.tmp 57) rfl w.heap.size _ out rfl (ownp_below (HO.out _) (below_one _ _)) _ [k] 1 rfl (pls_cell (Row.new _ _ _)) (by rw [List.length_singleton]; omega) (Nat.le_trans hsz (by simp)) ?_; intro v1 w1 hown1 hb1 _; rw [← HNW.out] at hown1; have HO1 := Lib.hid hown1; have HX1 := Lib.hid (((HBD.out _).alloc hsz _).trans hb1); clear hown1 hb1)
            go_roundw
            case rel => exact ⟨A1, _, [], tb, addN out k, c1, _, rfl, by simp, Pls.nil _ _, rfl, by simp at h2; omega, HB2.out, by simp, by simp at m2; omega, HO1.out, HLN.out, HI1.out, HX1.out⟩
            case measure => simp [lenOf]
    | cons n ta =>
      cases xb with
      | nil =>
        obtain ⟨b, o, rfl, hb, g0, hA2⟩ := hA1.head
        have HI1 := Lib.hid (minv_a hinv (fun y hy => by cases hy))
        have HA2 := Lib.hid (pls_rest hA2 h1)
        have e0 : wr.cell? ⟨b, o, none⟩ = some (.int .i64 (n : Int)) := (hbr.cell (p := ⟨b, o, none⟩) hb).trans g0
        clear hinv hbr ho
        go_upto_region 4 with fail
        go_quiet (fail)
        go_upto_region 9 with fail
        have HLN := Lib.hid (show (addN out n).length + (ta : List Nat).length + ([] : List Nat).length ≤ 2002 by have := addN_len out n; simp at hlen ⊢; omega)
        have hon : out.length + 1 ≤ 2002 := by simp at hlen; omega
        by_cases hz : out.length = 0
        · have z0 : ((out.length : Int) == 0) = true := by rw [hz]; rfl
          have HNW := Lib.hid (addN_new (out := out) (n := n) (by rw [List.eq_nil_of_length_eq_zero hz]; simp))
          clear hz
          go_wp2_with (at_builtin; refine app_nats rfl (.tmp 55) (.tmp 57) rfl w.heap.size _ out rfl (ownp_below (HO.out _) (below_one _ _)) _ [n] 1 rfl (pls_cell (Row.new _ _ _)) (by rw [List.length_singleton]; omega) (Nat.le_trans hsz (by simp)) ?_; intro v1 w1 hown1 hb1 _; rw [← HNW.out] at hown1; have HO1 := Lib.hid hown1; have HX1 := Lib.hid (((HBD.out _).alloc hsz _).trans hb1); clear hown1 hb1)
          go_roundw
          case rel => exact ⟨_, B1, ta, [], addN out n, _, c2, rfl, by simp at h1; omega, HA2.out, rfl, by simp, Pls.nil _ _, by simp at m1; omega, by simp, HO1.out, HLN.out, HI1.out, HX1.out⟩
          case measure => simp [lenOf]
        · obtain ⟨b2, o2, rfl, hb2, g2⟩ := hP.at_ (i := out.length - 1) (by omega)
          have hlast := last_get out (by omega)
          have z0 : ((out.length : Int) == 0) = false := by rw [beq_eq_false_iff_ne]; omega
          have i1 : (1 : Int) ≤ (out.length : Int) := by omega
          generalize out.getD (out.length - 1) 0 = last at g2 hlast
          by_cases hl : last = n
          · obtain rfl := hl.symm
            have HNW := Lib.hid (addN_same hlast)
            clear hlast hz
            go_wp2_with fail
            go_roundw
            case rel => exact ⟨_, B1, ta, [], addN out n, _, c2, rfl, by simp at h1; omega, HA2.out, rfl, by simp, Pls.nil _ _, by simp at m1; omega, by simp, by rw [HNW.out]; exact HO.out _, HLN.out, HI1.out, HBD.out _⟩
            case measure => simp [lenOf]
          · have HNW := Lib.hid (addN_new (out := out) (n := n) (by rw [hlast]; intro e; exact hl (Option.some.inj e)))
            have y1 : ((last : Int) == (n : Int)) = false := by rw [beq_eq_false_iff_ne]; omega
            have y0 : ((last : Int) != (n : Int)) = true := by rw [bne, y1]; rfl
            clear hlast hz hl
            go_wp2_with (at_builtin; refine app_nats rfl (.tmp 55) (.tmp 57) rfl w.heap.size _ out rfl (ownp_below (HO.out _) (below_one _ _)) _ [n] 1 rfl (pls_cell (Row.new _ _ _)) (by rw [List.length_singleton]; omega) (Nat.le_trans hsz (by simp)) ?_; intro v1 w1 hown1 hb1 _; rw [← HNW.out] at hown1; have HO1 := Lib.hid hown1; have HX1 := Lib.hid (((HBD.out _).alloc hsz _).trans hb1); clear hown1 hb1)
            go_roundw
            case rel => exact ⟨_, B1, ta, [], addN out n, _, c2, rfl, by simp at h1; omega, HA2.out, rfl, by simp, Pls.nil _ _, by simp at m1; omega, by simp, HO1.out, HLN.out, HI1.out, HX1.out⟩
            case measure => simp [lenOf]
      | cons k tb =>
        obtain ⟨b, o, rfl, hb, g0, hA2⟩ := hA1.head
        obtain ⟨d, u, rfl, hd, k0, hB2⟩ := hB1.head
        have e0 : wr.cell? ⟨b, o, none⟩ = some (.int .i64 (n : Int)) := (hbr.cell (p := ⟨b, o, none⟩) hb).trans g0
        have e1 : wr.cell? ⟨d, u, none⟩ = some (.int .i64 (k : Int)) := (hbr.cell (p := ⟨d, u, none⟩) hd).trans k0
        by_cases hnk : n ≤ k
        · have HI1 := Lib.hid (minv_a hinv (fun y hy => by
            rcases List.mem_cons.1 hy with rfl | hy
            · exact hnk
            · have := (List.pairwise_cons.1 hinv.rb).1 y hy; omega))
          have HA2 := Lib.hid (pls_rest hA2 h1)
          have q1 : decide ((n : Int) ≤ (k : Int)) = true := decide_eq_true (by omega)
          have q2 : decide (n ≤ k) = true := decide_eq_true hnk
          clear hinv hbr ho
          go_upto_region 4 with fail
          go_quiet (fail)
          go_upto_region 9 with fail
          have HLN := Lib.hid (show (addN out n).length + (ta : List Nat).length + ((k :: tb) : List Nat).length ≤ 2002 by have := addN_len out n; simp at hlen ⊢; omega)
          have hon : out.length + 1 ≤ 2002 := by simp at hlen; omega
          by_cases hz : out.length = 0
          · have z0 : ((out.length : Int) == 0) = true := by rw [hz]; rfl
            have HNW := Lib.hid (addN_new (out := out) (n := n) (by rw [List.eq_nil_of_length_eq_zero hz]; simp))
            clear hz
            go_wp2_with (at_builtin; refine app_nats rfl (.tmp 55) (.tmp 57) rfl w.heap.size _ out rfl (ownp_below (HO.out _) (below_one _ _)) _ [n] 1 rfl (pls_cell (Row.new _ _ _)) (by rw [List.length_singleton]; omega) (Nat.le_trans hsz (by simp)) ?_; intro v1 w1 hown1 hb1 _; rw [← HNW.out] at hown1; have HO1 := Lib.hid hown1; have HX1 := Lib.hid (((HBD.out _).alloc hsz _).trans hb1); clear hown1 hb1)
            go_roundw
            case rel => exact ⟨_, _, ta, (k :: tb), addN out n, _, c2, rfl, by simp at h1; omega, HA2.out, rfl, by exact h2, hB1, by simp at m1; omega, by exact m2, HO1.out, HLN.out, HI1.out, HX1.out⟩
            case measure => simp [lenOf]
          · obtain ⟨b2, o2, rfl, hb2, g2⟩ := hP.at_ (i := out.length - 1) (by omega)
            have hlast := last_get out (by omega)
            have z0 : ((out.length : Int) == 0) = false := by rw [beq_eq_false_iff_ne]; omega
            have i1 : (1 : Int) ≤ (out.length : Int) := by omega
            generalize out.getD (out.length - 1) 0 = last at g2 hlast
            by_cases hl : last = n
            · obtain rfl := hl.symm
              have HNW := Lib.hid (addN_same hlast)
              clear hlast hz
              go_wp2_with fail
              go_roundw
              case rel => exact ⟨_, _, ta, (k :: tb), addN out n, _, c2, rfl, by simp at h1; omega, HA2.out, rfl, by exact h2, hB1, by simp at m1; omega, by exact m2, by rw [HNW.out]; exact HO.out _, HLN.out, HI1.out, HBD.out _⟩
              case measure => simp [lenOf]
            · have HNW := Lib.hid (addN_new (out := out) (n := n) (by rw [hlast]; intro e; exact hl (Option.some.inj e)))
              have y1 : ((last : Int) == (n : Int)) = false := by rw [beq_eq_false_iff_ne]; omega
              have y0 : ((last : Int) != (n : Int)) = true := by rw [bne, y1]; rfl
              clear hlast hz hl
              go_wp2_with (at_builtin; refine app_nats rfl (.tmp 55) (.tmp 57) rfl w.heap.size _ out rfl (ownp_below (HO.out _) (below_one _ _)) _ [n] 1 rfl (pls_cell (Row.new _ _ _)) (by rw [List.length_singleton]; omega) (Nat.le_trans hsz (by simp)) ?_; intro v1 w1 hown1 hb1 _; rw [← HNW.out] at hown1; have HO1 := Lib.hid hown1; have HX1 := Lib.hid (((HBD.out _).alloc hsz _).trans hb1); clear hown1 hb1)
              go_roundw
              case rel => exact ⟨_, _, ta, (k :: tb), addN out n, _, c2, rfl, by simp at h1; omega, HA2.out, rfl, by exact h2, hB1, by simp at m1; omega, by exact m2, HO1.out, HLN.out, HI1.out, HX1.out⟩
              case measure => simp [lenOf]
        · have HI1 := Lib.hid (minv_b hinv (fun y hy => by
            rcases List.mem_cons.1 hy with rfl | hy
            · omega
            · have := (List.pairwise_cons.1 hinv.ra).1 y hy; omega))
          have HB2 := Lib.hid (pls_rest hB2 h2)
          have q1 : decide ((n : Int) ≤ (k : Int)) = false := decide_eq_false (by omega)
          have q2 : decide (n ≤ k) = false := decide_eq_false hnk
          clear hinv hbr ho
          go_upto_region 4 with fail
          go_quiet (fail)
          go_upto_region 9 with fail
          have HLN := Lib.hid (show (addN out k).length + ((n :: ta) : List Nat).length + (tb : List Nat).length ≤ 2002 by have := addN_len out k; simp at hlen ⊢; omega)
          have hon : out.length + 1 ≤ 2002 := by simp at hlen; omega
          by_cases hz : out.length = 0
          · have z0 : ((out.length : Int) == 0) = true := by rw [hz]; rfl
            have HNW := Lib.hid (addN_new (out := out) (n := k) (by rw [List.eq_nil_of_length_eq_zero hz]; simp))
            clear hz
            go_wp2_with (at_builtin; refine app_nats rfl (.tmp 55) (.tmp 57) rfl w.heap.size _ out rfl (ownp_below (HO.out _) (below_one _ _)) _ [k] 1 rfl (pls_cell (Row.new _ _ _)) (by rw [List.length_singleton]; omega) (Nat.le_trans hsz (by simp)) ?_; intro v1 w1 hown1 hb1 _; rw [← HNW.out] at hown1; have HO1 := Lib.hid hown1; have HX1 := Lib.hid (((HBD.out _).alloc hsz _).trans hb1); clear hown1 hb1)
            go_roundw
            case rel => exact ⟨_, _, (n :: ta), tb, addN out k, c1, _, rfl, by exact h1, hA1, rfl, by simp at h2; omega, HB2.out, by exact m1, by simp at m2; omega, HO1.out, HLN.out, HI1.out, HX1.out⟩
            case measure => simp [lenOf]
          · obtain ⟨b2, o2, rfl, hb2, g2⟩ := hP.at_ (i := out.length - 1) (by omega)
            have hlast := last_get out (by omega)
            have z0 : ((out.length : Int) == 0) = false := by rw [beq_eq_false_iff_ne]; omega
            have i1 : (1 : Int) ≤ (out.length : Int) := by omega
            generalize out.getD (out.length - 1) 0 = last at g2 hlast
            by_cases hl : last = k
            · obtain rfl := hl.symm
              have HNW := Lib.hid (addN_same hlast)
              clear hlast hz
              go_wp2_with fail
              go_roundw
              case rel => exact ⟨_, _, (n :: ta), tb, addN out k, c1, _, rfl, by exact h1, hA1, rfl, by simp at h2; omega, HB2.out, by exact m1, by simp at m2; omega, by rw [HNW.out]; exact HO.out _, HLN.out, HI1.out, HBD.out _⟩
              case measure => simp [lenOf]
            · have HNW := Lib.hid (addN_new (out := out) (n := k) (by rw [hlast]; intro e; exact hl (Option.some.inj e)))
              have y1 : ((last : Int) == (k : Int)) = false := by rw [beq_eq_false_iff_ne]; omega
              have y0 : ((last : Int) != (k : Int)) = true := by rw [bne, y1]; rfl
              clear hlast hz hl
              go_wp2_with (at_builtin; refine app_nats rfl (.tmp 55) (.tmp 57) rfl w.heap.size _ out rfl (ownp_below (HO.out _) (below_one _ _)) _ [k] 1 rfl (pls_cell (Row.new _ _ _)) (by rw [List.length_singleton]; omega) (Nat.le_trans hsz (by simp)) ?_; intro v1 w1 hown1 hb1 _; rw [← HNW.out] at hown1; have HO1 := Lib.hid hown1; have HX1 := Lib.hid (((HBD.out _).alloc hsz _).trans hb1); clear hown1 hb1)
              go_roundw
              case rel => exact ⟨_, _, (n :: ta), tb, addN out k, c1, _, rfl, by exact h1, hA1, rfl, by simp at h2; omega, HB2.out, by exact m1, by simp at m2; omega, HO1.out, HLN.out, HI1.out, HX1.out⟩
              case measure => simp [lenOf]
end Go.Proofs.YtpcjnagdanmdpaaGreat
