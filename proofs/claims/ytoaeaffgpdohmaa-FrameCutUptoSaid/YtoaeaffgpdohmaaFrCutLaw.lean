/- Frames one behind the other, cut off anywhere: a walk of the law. -/
import Derived.Test.YtoaeaffgpdohmaaFrLent
import Derived.Test.YtoaeaffgpdohmaaFrPut
import Derived.Test.YtoaeaffgpdohmaaFrAll
import Derived.Test.YtoaeaffgpdohmaaFrameMath5
import Derived.Deep.DeepCutAuto
namespace Go.Proofs.Ytoaeaffgpdohmaa
open Go.RowKit
set_option linter.unusedVariables false

/-- Rows of bytes that came in. -/
def Bks (w : World) (V : Option Addr) (ls : List (List UInt8)) (A : Nat → Option Addr) (C : Nat → Nat) : Prop :=
  ls = [] ∨ ∃ b o, V = some ⟨b, o, none⟩ ∧ b < w.heap.size ∧ ∀ i, i < ls.length → w.cell? ⟨b, o + i, none⟩ = some (.slice (A i) (ls.getD i []).length (C i)) ∧ Bys w (A i) (ls.getD i [])

/-- The value v is a row of whole numbers of the call's own, from block base on. -/
def OwnI (w : World) (base : Nat) (v : Value) (zs : List Value) : Prop := w.ownsRow base 3 1 v zs.length zs
theorem ownI_nil (w : World) (base : Nat) : OwnI w base (.slice none 0 0) [] := ⟨rfl, .inl ⟨rfl, rfl⟩⟩
theorem ownI_below {w w' : World} {base : Nat} {v : Value} {zs : List Value} (h : OwnI w base v zs) (hb : Below w.heap.size w w') : OwnI w' base v zs := by
  refine ⟨h.1, ?_⟩
  rcases h.2 with h2 | ⟨g, cap, cur, hv, hg, hh, r⟩
  · exact .inl h2
  · exact .inr ⟨g, cap, cur, hv, hg, (hb.block g (Row.lt (cs := cur) hh)).trans hh, r⟩
theorem ownI_form {w : World} {base : Nat} {v : Value} {zs : List Value} (h : OwnI w base v zs) (hn : 0 < zs.length) : ∃ g cap, v = .slice (some ⟨g, 0, none⟩) zs.length cap ∧ g < w.heap.size ∧ ∀ i, i < zs.length → w.cell? ⟨g, i, none⟩ = some (zs.getD i undef) := by
  rcases h.2 with ⟨rfl, h0⟩ | ⟨g, cap, cur, rfl, hg, hh, hnc, hcm, hcs, htk⟩
  · omega
  · have hrow : Row w g 3 cur := hh
    refine ⟨g, cap, rfl, hrow.lt, fun i hi => ?_⟩
    rw [hrow.cell i]
    have e : cur.toList[i]? = zs[i]? := by rw [← htk, List.getElem?_take, if_pos (by omega)]
    rw [← Array.getElem?_toList, e, List.getElem?_eq_getElem hi]
    congr 1
    rw [List.getD_eq_getElem?_getD, List.getElem?_eq_getElem hi]
    rfl
theorem ownI_slice {w : World} {base : Nat} {v : Value} {zs : List Value} (h : OwnI w base v zs) : ∃ B d, v = .slice B zs.length d := by
  rcases h.2 with ⟨rfl, h0⟩ | ⟨g, cap, cur, rfl, hg, _⟩
  · exact ⟨none, 0, by rw [h0]⟩
  · exact ⟨some ⟨g, 0, none⟩, cap, rfl⟩
theorem int_info : (Try.prog.info? 3).map (fun i => (i.zero, i.size, i.bytes)) = some (some (.int .i64 0), 1, 8) := by kernel_rfl
theorem app_int {w0 : World} {ops : Array Oper} {rest : List Oper} {o : Oper} {a : Act} {Q : Exit → Act → World → Prop} (hgd : o.guard = none) (s y : Operand)
    (ho : o.op = .call { callee := .builtin .append, args := #[s, y], argTypes := #[59, 59] })
    (base : Nat) (v : Value) (zs : List Value) (z : Int) (hs : a.eval s = v) (hF : OwnI w0 base v zs)
    (hy : a.eval y = .slice (some ⟨w0.heap.size, 0, none⟩) 1 1) (hn : zs.length ≤ 4000000) (hbase : base ≤ w0.heap.size)
    (h : ∀ v' w', OwnI w' base v' (zs ++ [.int .i64 z]) → Below base w0 w' → w0.grownBy w' v.ownBlock → wpList Try.prog ops Q rest (a.put o.dst v') w') :
    wpList Try.prog ops Q (o :: rest) a (w0.alloc (.cells #[.int .i64 z] 3)) := by
  obtain ⟨i0, hi, hz0, hz1, hz2⟩ := info_parts int_info
  have hA := below_one w0 (.cells #[.int .i64 z] 3)
  have hF1 := ownI_below hF hA
  refine wpList_append_own_at _ hgd s y 59 ho base 3 i0 _ 1 8 Try.underlying59 hi hz0 hz1 hz2 rfl (by omega) v zs.length zs hs hF1 _ 1 1 [.int .i64 z] hy rfl (cell_one_new w0 _ _) (by intro u hu; simp at hu; subst hu; rfl)
    (by simp only [maxLen]; omega) (by omega) (Nat.le_trans hbase hA.size) ?_
  intro v' w' h1 h2 _ _
  refine h v' w' (by unfold OwnI; rw [List.length_append]; exact h1) (Below.grown (hA.mono hbase) h2 (Nat.le_trans hbase hA.size) (fun k hk => (World.ownsRow.lt hF1 _ hk).1)) ?_
  exact ⟨h2.os.trans hA.os, h2.tape.trans hA.tape, h2.output.trans hA.output, Nat.le_trans hA.size h2.size, fun k hk hne => (h2.block k (Nat.lt_of_lt_of_le hk hA.size) hne).trans (hA.block k hk)⟩
theorem ownI_apart {w : World} {base base' : Nat} {a v : Value} {x : List UInt8} {zs : List Value} (h : Own w base' a x) (hv : OwnI w base v zs) : ∀ k, a.ownBlock = some k → some k ≠ v.ownBlock := by
  intro k hk e
  rcases h.2 with ⟨rfl, _⟩ | ⟨g, cap, cur, rfl, _, hh, _⟩
  · cases hk
  · rcases hv.2 with ⟨rfl, _⟩ | ⟨g', cap', cur', rfl, _, hh', _⟩
    · cases e
    · simp only [Value.ownBlock, Option.some.injEq] at hk e
      subst hk
      subst e
      rw [hh] at hh'
      injection hh' with hh'
      injection hh' with _ h2 _
      exact absurd h2 (by decide)

/-- Where the first frames end. -/
def ends (ls : List (List UInt8)) (i : Nat) : List Value := (List.range i).map fun j => .int .i64 (off ls (j + 1) : Nat)
theorem ends_length (ls : List (List UInt8)) (i : Nat) : (ends ls i).length = i := by simp [ends]
theorem ends_succ (ls : List (List UInt8)) (i : Nat) : ends ls (i + 1) = ends ls i ++ [.int .i64 (off ls (i + 1) : Nat)] := by simp [ends, List.range_succ]
theorem ends_get (ls : List (List UInt8)) (i j : Nat) (h : j < i) : (ends ls i).getD j undef = .int .i64 (off ls (j + 1) : Nat) := by
  simp [ends, List.getD_eq_getElem?_getD, h]

theorem same_cut (x : ByteArray) : (x.toList != x.toList) = false := by simp

set_option maxHeartbeats 4000000 in
theorem cut_go (V : Option Addr) (ls : List (List UInt8)) (A : Nat → Option Addr) (C : Nat → Nat) (c : Nat) (cut : Int) (k W J : Nat) (w : World) (hV : Bks w V ls A C) (hn : ls.length ≤ c) (hJ : J ≤ ls.length) (hs : total ls ls.length + ls.length ≤ 1048576)
    (hj1 : ∀ i, i < J → (ls.getD i []).length ≤ 65535) (hj2 : J < ls.length → 65535 < (ls.getD J []).length)
    (hr : wrap64 ((IntKind.u64.wrap cut).tmod ((off ls ls.length : Int) + 1)) = (k : Int)) (hk : k ≤ off ls ls.length)
    (hW : W ≤ ls.length) (hWk : off ls W ≤ k) (hWj : ∀ j, j < W → off ls (j + 1) ≤ k) (hWs : W < ls.length → k < off ls (W + 1)) :
    Calls Try.prog 10 #[.slice V ls.length c, .int .i64 cut] w fun e w' => e = .returned (.bool true) ∧ Below w.heap.size w w' := by
  have ho := off_total ls ls.length
  have hmono : ∀ i, i ≤ ls.length → off ls i ≤ 7000000 := fun i hi => by have := off_mono ls hi; omega
  have HM := Lib.hid hmono
  have HJ1 := Lib.hid hj1
  have HJ2 := Lib.hid hj2
  have HR := Lib.hid hr
  have HWj := Lib.hid hWj
  have HWs := Lib.hid hWs
  clear hmono hj1 hj2 hr hWj hWs ho
  go_enter Try.func10, Try.ntmps10
  go_wp2
  go_loopw [5, 6, 7] (fun v5 v6 i wr => ∃ j : Nat, j ≤ J ∧ i = .int .i64 j ∧ Own wr w.heap.size v5 (cat ls j) ∧ OwnI wr w.heap.size v6 (ends ls j) ∧ Below w.heap.size w wr) (fun _ _ i _ => ls.length - (intOf i).toNat)
  case atStart => exact ⟨0, Nat.zero_le _, rfl, own_nil _ _, ownI_nil _ _, Below.refl _ _⟩
  case round =>
    obtain ⟨j, hj, rfl, hO, hI, hbr⟩ := hrel
    have HO := Lib.hid hO
    have HI := Lib.hid hI
    have hsr := hbr.size
    have hcl := cat_length ls j
    have hcb := HM.out j (by omega)
    by_cases hlt : j < ls.length
    · obtain ⟨b, o, rfl, hb, hc⟩ := hV.resolve_left (by intro e; rw [e] at hlt; simp at hlt)
      have hc0 := (hbr.cell (p := ⟨b, o + j, none⟩) hb).trans (hc j hlt).1
      have hBj := (hc j hlt).2.below hbr
      by_cases hjj : j = J
      · subst hjj
        have d0 : decide ((65535 : Int) < ((ls.getD j []).length : Int)) = true := by have := HJ2.out hlt; simp only [decide_eq_true_eq]; omega
        clear hO hI hc hBj
        generalize (ls.getD j []).length = nj at *
        go_wp2_with fail
        refine (lives_true wr).mono ?_
        rintro e w2 ⟨rfl, hb2⟩
        go_wp2
        go_ret
        exact ⟨rfl, below_then hbr hb2⟩
      · have hlj := HJ1.out j (by omega)
        have d0 : decide ((65535 : Int) < ((ls.getD j []).length : Int)) = false := by simp only [decide_eq_false_iff_not]; omega
        obtain ⟨B5, d5, rfl, hB5, _⟩ := own_slice' hO
        obtain ⟨B6, d6, hv6⟩ := ownI_slice hI
        rw [ends_length] at hv6
        subst hv6
        have HP := Lib.hid (put_prog B5 (cat ls j) d5 (A j) (ls.getD j []) (C j) wr hB5 hBj (by omega) hlj)
        have hcn := cat_length ls (j + 1)
        have HE := Lib.hid (ends_succ ls j)
        have HC := Lib.hid (show cat ls j ++ frameL (ls.getD j []) = cat ls (j + 1) from rfl)
        rw [HC.out] at HP
        rw [hcl] at HP ⊢
        generalize (ls.getD j []).length = nj at *
        generalize hCC : cat ls (j + 1) = Y at *
        have HCC := Lib.hid hCC
        have hob := HM.out (j + 1) (by omega)
        clear hO hI hc hBj hcl hCC hB5
        go_wp2_with fail
        refine HP.out.mono ?_
        rintro e w2 ⟨v2, rfl, hown2, hb2⟩
        obtain ⟨B2, d2, rfl, hB2, _⟩ := own_slice' hown2
        rw [hcn] at hown2 ⊢
        have HO2 := Lib.hid hown2
        have hI2 := ownI_below HI.out hb2
        have hs2 := hb2.size
        have hbw2 : Below w.heap.size w w2 := below_then hbr hb2
        have HL2 := Lib.hid (ends_length ls j)
        have HL3 := Lib.hid (ends_length ls (j + 1))
        have HCN := Lib.hid hcn
        clear hown2 hB2 hcn
        generalize off ls (j + 1) = oj at *
        go_wp2_with (at_builtin; refine app_int rfl (.tmp 41) (.tmp 44) rfl w.heap.size _ (ends ls j) _ rfl hI2 rfl (by rw [HL2.out]; omega) (Nat.le_trans hsr hs2) ?_; intro v3 w3 hI3 hb3 hg3; rw [← HE.out] at hI3; obtain ⟨B3, d3, hv3⟩ := ownI_slice hI3; rw [HL3.out] at hv3; subst hv3; have HI3 := Lib.hid hI3; have HG3 := Lib.hid hg3; clear hI3 hg3)
        go_roundw
        case rel =>
          refine ⟨j + 1, by omega, by go_num, ?_, HI3.out, hbw2.trans hb3⟩
          rw [HCC.out]
          exact own_grown (own_lower HO2.out hsr) HG3.out (fun m hm => ownI_apart HO2.out hI2 m hm)
        case measure => simp [intOf]; omega
    · obtain rfl : j = ls.length := by omega
      obtain rfl : J = ls.length := by omega
      obtain ⟨B5, d5, rfl, hB5, _, hd5, _⟩ := own_cap hO
      obtain ⟨B6, d6, hv6⟩ := ownI_slice hI
      rw [ends_length] at hv6
      subst hv6
      rw [hcl] at hd5 HO ⊢
      have hAF := cuts_all ls ls.length k W hW rfl hWk hk HWs.out (fun i hi => HJ1.out i hi) W 0 (by omega) (by omega)
      rw [Nat.sub_zero, List.drop_zero] at hAF
      have htl : ((cat ls ls.length).take k).length = k := by rw [List.length_take, hcl]; omega
      have HAF := Lib.hid hAF
      have HB5 := Lib.hid (hB5.front k)
      have HTL := Lib.hid htl
      have hI0 : ∀ q, q < ls.length → ∃ g, B6 = some ⟨g, 0, none⟩ ∧ wr.cell? ⟨g, q, none⟩ = some (.int .i64 (off ls (q + 1) : Nat)) := by
        intro q hq
        obtain ⟨g, cg, e1, _, hc⟩ := ownI_form hI (by rw [ends_length]; omega)
        simp only [Value.slice.injEq] at e1
        refine ⟨g, e1.1, ?_⟩
        have := hc q (by rw [ends_length]; exact hq)
        rwa [ends_get ls _ q hq] at this
      have HI0 := Lib.hid hI0
      clear hO hI hB5 hAF htl hI0 hlt hcl
      have HA0 := all_prog B5 ((cat ls ls.length).take k) d5 (ls.take W) (off ls W) wr HB5.out (by rw [HTL.out]; omega) (by rw [HTL.out]; omega) HAF.out
      rw [HTL.out] at HA0
      have HA := Lib.hid HA0
      have hlw : (ls.take W).length = W := by rw [List.length_take]; omega
      have HLW := Lib.hid hlw
      have hk5 : (k : Int) ≤ (d5 : Int) := by omega
      have hk0 : (0 : Int) ≤ (k : Int) := by omega
      clear HA0 hlw
      go_upto_region 14 with fail
      rw [HR.out]
      go_wp2_with fail
      go_loop [11, 12] (fun a e => ∃ j : Nat, j ≤ W ∧ a = .int .i64 j ∧ e = .int .i64 (off ls j : Nat)) (fun a _ => W - (intOf a).toNat)
      case atStart => exact ⟨0, Nat.zero_le _, rfl, rfl⟩
      case round =>
        obtain ⟨j, hjW, rfl, rfl⟩ := hrel
        by_cases hlt : j < W
        · obtain ⟨g, rfl, hx⟩ := HI0.out j (by omega)
          have hle := HWj.out j hlt
          have q1 : decide ((j : Int) < (ls.length : Int)) = true := by simp; omega
          have q2 : decide (((off ls (j + 1) : Nat) : Int) ≤ (k : Int)) = true := by simp; omega
          have hi1 : (j : Int) < (ls.length : Int) := by omega
          clear HA HAF HB5 HTL
          generalize hoj : off ls (j + 1) = oj at *
          have HOJ := Lib.hid hoj
          clear hoj
          generalize off ls j = oi at *
          go_wp2
          go_round
          case rel => exact ⟨j + 1, by omega, by go_num, by rw [HOJ.out]⟩
          case measure => simp [intOf]; omega
        · have hjW2 : W = j := by omega
          subst hjW2
          go_upto_region 15 with fail
          go_cut [65] (fun s65 wx => s65 = .bool false ∧ wr = wx)
          case first =>
            rcases Nat.lt_or_ge W ls.length with h | h
            · obtain ⟨g, rfl, hx⟩ := HI0.out W h
              have hgt : ¬ off ls (W + 1) ≤ k := by have := HWs.out h; omega
              have q1 : decide ((W : Int) < (ls.length : Int)) = true := by simp; omega
              have q2 : decide (((off ls (W + 1) : Nat) : Int) ≤ (k : Int)) = false := by simp; omega
              have hi1 : (W : Int) < (ls.length : Int) := by omega
              generalize off ls (W + 1) = oj at *
              generalize off ls W = oi at *
              go_wp2_with fail
              all_goals go_meet
              all_goals exact ⟨rfl, rfl⟩
            · have q1 : decide ((W : Int) < (ls.length : Int)) = false := by simp; omega
              have hq : ¬ W < ls.length := by omega
              generalize off ls W = oi at *
              go_wp2_with fail
              all_goals go_meet
              all_goals exact ⟨rfl, rfl⟩
          case rest =>
            obtain ⟨rfl, rfl⟩ := hcut
            have hoW := HM.out W hW
            clear HAF HTL
            go_wp2_with fail
            refine HA.out.mono ?_
            rintro e w2 ⟨v2, vs2, rfl, hF2, hb2⟩
            obtain ⟨Bg, dg, hv2, _⟩ := ownV_slice hF2.row
            rw [hF2.len, HLW.out] at hv2
            subst hv2
            have HF2 := Lib.hid hF2
            have hbw2 := below_then hbr hb2
            have HA := True.intro
            clear hF2
            generalize off ls W = oW at *
            go_wp2_with fail
            go_loopw [15] (fun i w3 => ∃ j : Nat, j ≤ W ∧ i = .int .i64 j ∧ ∃ q, w3 = w2.drewN q) (fun i _ => W - (intOf i).toNat)
            case atStart => exact ⟨0, Nat.zero_le _, rfl, 0, rfl⟩
            case round =>
              obtain ⟨j, hjW, rfl, q, rfl⟩ := hrel
              by_cases hlt : j < W
              · have hjx : j < (ls.take W).length := by rw [HLW.out]; exact hlt
                have hjn : j < ls.length := by omega
                have l2 := HF2.out.len
                obtain ⟨g1, c1, f1, _, _, _, hc1⟩ := ownV_form HF2.out.row (by omega)
                have x1 := hc1 j (by omega)
                obtain ⟨b, o, rfl, hb, hc⟩ := hV.resolve_left (by intro e; rw [e] at hjn; simp at hjn)
                have x2 := (hbw2.cell (p := ⟨b, o + j, none⟩) hb).trans (hc j hjn).1
                have hb2' := (hc j hjn).2.below hbw2
                have eg : (ls.take W).getD j [] = ls.getD j [] := by rw [getD_in _ [] hjx, getD_in _ [] hjn, List.getElem_take]
                obtain ⟨C1, t1, r1, hb1, _⟩ := own_slice' (HF2.out.each j hjx)
                rw [eg] at r1 hb1
                rw [r1] at x1
                have z1 : ∀ m, (convert 22 9 (.slice C1 (ls.getD j []).length t1)).run Try.prog (w2.drewN m) = .ok (.string (txt (ls.getD j []))) (w2.drewN m) := fun m => conv_bys _ _ _ _ hb1
                have z2 : ∀ m, (convert 22 9 (.slice (A j) (ls.getD j []).length (C j))).run Try.prog (w2.drewN m) = .ok (.string (txt (ls.getD j []))) (w2.drewN m) := fun m => conv_bys _ _ _ _ hb2'
                have q0 := same_cut (txt (ls.getD j []))
                simp only [Value.slice.injEq] at f1
                obtain ⟨rfl, f9, rfl⟩ := f1
                have hi1 : (j : Int) < (W : Int) := by omega
                have hi2 : (j : Int) < (ls.length : Int) := by omega
                clear hc1 hb1 hb2' r1 l2 hjx f9 eg hc HA
                generalize txt (ls.getD j []) = T at *
                generalize (ls.getD j []).length = ln at *
                go_wp2_with fail
                go_quiet (fail)
                go_wp2
                go_roundw
                case rel => exact ⟨j + 1, by omega, by go_num, _, rfl⟩
                case measure => simp [intOf]; omega
              · go_wp2_with fail
                refine (lives_true _).mono ?_
                rintro e w4 ⟨rfl, hb4⟩
                go_wp2
                go_ret
                exact ⟨rfl, below_then (below_drewN' hbw2 _) hb4⟩

theorem frameCut_walk (w : World) (V : Option Addr) (ls : List (List UInt8)) (A : Nat → Option Addr) (C : Nat → Nat) (c : Nat) (hV : Bks w V ls A C) (hs : total ls ls.length + ls.length ≤ 1048576) (hlc : ls.length ≤ c)
    (cut : Int) (bc : -9223372036854775808 ≤ cut ∧ cut ≤ 9223372036854775807) :
    Calls Try.prog 10 #[.slice V ls.length c, .int .i64 cut] w fun e w' => e = .returned (.bool true) ∧ Below w.heap.size w w' := by
  obtain ⟨J, hJ, hj1, hj2⟩ := first_long ls ls.length
  have ho := off_total ls ls.length
  have hu : 0 ≤ IntKind.u64.wrap cut := by
    have : IntKind.u64.wrap cut = cut % 18446744073709551616 := by first | rfl | simp [IntKind.wrap]
    omega
  have h1 := Int.emod_lt_of_pos (IntKind.u64.wrap cut) (show (0 : Int) < (off ls ls.length : Int) + 1 by omega)
  have h0 := Int.emod_nonneg (IntKind.u64.wrap cut) (show ((off ls ls.length : Int) + 1) ≠ 0 by omega)
  have e1 : (IntKind.u64.wrap cut).tmod ((off ls ls.length : Int) + 1) = IntKind.u64.wrap cut % ((off ls ls.length : Int) + 1) := Int.tmod_eq_emod_of_nonneg hu
  obtain ⟨W, hW, hWk, hWj, hWs⟩ := whole_some ls (IntKind.u64.wrap cut % ((off ls ls.length : Int) + 1)).toNat ls.length
  refine cut_go V ls A C c cut _ W J w hV hlc hJ hs hj1 hj2 ?_ (by omega) hW hWk hWj hWs
  rw [e1]
  generalize IntKind.u64.wrap cut % ((off ls ls.length : Int) + 1) = m at *
  rw [IntWalk.wrap64_in m (by omega)]
  omega
end Go.Proofs.Ytoaeaffgpdohmaa
