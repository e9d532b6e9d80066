/- What is deleted is not told again, all else is: HeadGone's walk. -/
import Derived.Test.YtpcjnagdanmdpaaHdLotC
import Derived.Test.YtpcjnagdanmdpaaHdSel2
import Derived.Test.YtpcjnagdanmdpaaWaOpen
namespace Go.Proofs.Ytpcjnagdanmdpaa
open Go.RowKit Go.Maps
open Ch
set_option linter.unusedVariables false
set_option linter.unusedSimpArgs false
set_option maxRecDepth 100000
section
variable {E : Nat → Prop} {w w' w1 w2 : World} {X : Nat} {h h' : List Ser} {B : Nat}
theorem HdAfter.smps (ha : HdAfter E w X h w w') {P : Option Addr} {l : List Smp} (hs : Smps w P l) (hp : ∀ ad, P = some ad → ad.block < w.heap.size → E ad.block) : Smps w' P l := by
  refine at_move hs ha.2.size ?_
  by_cases h0 : l.flatMap smpE = []
  · exact .inl h0
  · exact .inr fun ad e => ha.2.block _ (at_block hs h0 ad e) fun hk => hk.1 (hp ad e hk.2)
theorem HdAt.get (hi : HdAt E w X h) : ∃ p, HeadIn w X p h (cntS h : Int) := by
  obtain ⟨p, hin, _⟩ := hi
  exact ⟨p, hin⟩
end
/-- The record that takes out. -/
def delR (id lo hi : Int) : RecV := ⟨3, [], [], [id], lo, hi⟩
theorem delR_chk {h : List Ser} (hk : HeadOk h) {id lo hi : Int} (h0 : 0 ≤ lo) (h1 : hi ≤ 1099511627776) (h2 : lo ≤ hi) (i0 : 0 ≤ id) (i1 : id < (h.length : Int)) : recChk (delR id lo hi) = 0 := by
  have := hk.few
  refine recChk_zero.2 (.inr (.inr ⟨rfl, rfl, rfl, delChk_zero.2 ⟨pchk_zero.2 ⟨by simp [delR], ?_⟩, by simp [delR], h0, h1, h2⟩⟩))
  exact ⟨by omega, by omega, trivial⟩
theorem delR_do {h : List Ser} (hk : HeadOk h) {id lo hi : Int} (h0 : 0 ≤ lo) (h1 : hi ≤ 1099511627776) (h2 : lo ≤ hi) (i0 : 0 ≤ id) (i1 : id < (h.length : Int)) : doH h (delR id lo hi) = (cutH h lo hi id, 0) := by
  have hc := delR_chk hk h0 h1 h2 i0 i1
  unfold doH
  rw [if_neg (by simpa using hc), if_neg (show ¬ (delR id lo hi).kind = 1 by show ¬ (3 : Int) = 1; decide), if_neg (show ¬ (delR id lo hi).kind = 2 by show ¬ (3 : Int) = 2; decide)]
  have e : idsH h.length lo hi h [id] = (cutH h lo hi id, 0) := by
    unfold idsH
    rw [if_neg (by omega)]
    rfl
  show (if (idsH h.length lo hi h [id]).2 = 0 then idsH h.length lo hi h [id] else _) = _
  rw [e, if_pos rfl]
theorem cutH_get {h : List Ser} {i : Nat} (hl : i < h.length) (lo hi : Int) : (cutH h lo hi (i : Int)).getD i ser0 = ((h.getD i ser0).1, (h.getD i ser0).2.filter (outB lo hi)) := by
  have : ∀ s : Ser, (h.set i s).getD i ser0 = s := fun s => by simp [List.getD_eq_getElem?_getD, hl]
  exact this _
theorem cutH_twice {h : List Ser} {i : Nat} (hl : i < h.length) (lo hi : Int) : cutH (cutH h lo hi (i : Int)) lo hi (i : Int) = cutH h lo hi (i : Int) := by
  have e := cutH_get hl lo hi
  have e2 : cutH (cutH h lo hi (i : Int)) lo hi (i : Int) = (cutH h lo hi (i : Int)).set i (((cutH h lo hi (i : Int)).getD i ser0).1, ((cutH h lo hi (i : Int)).getD i ser0).2.filter (outB lo hi)) := rfl
  rw [e2, e]
  simp only [List.filter_filter, Bool.and_self]
  show (h.set i _).set i _ = h.set i _
  rw [List.set_set]
  rfl
theorem in_all {l : List Smp} (hg : Ch.Good l) : l.filter (inB 0 1099511627776) = l := by
  rw [List.filter_eq_self]
  intro x hx
  obtain ⟨i, hi, rfl⟩ := List.getElem_of_mem hx
  have := Ch.mayB_iff.1 (hg i hi).1
  rw [List.getD_eq_getElem?_getD, List.getElem?_eq_getElem hi, Option.getD_some] at this
  unfold inB
  rw [decide_eq_true this.1, decide_eq_true this.2.1]
  rfl
theorem out_in {l : List Smp} (lo hi : Int) : (l.filter (outB lo hi)).filter (inB lo hi) = [] := by
  rw [List.filter_filter, List.filter_eq_nil_iff]
  intro x _
  rw [hdrop_keep]
  cases outB lo hi x <;> simp
theorem good_bounds {l : List Smp} (hg : Ch.Good l) : ∀ s ∈ l, 0 ≤ s.1 ∧ s.1 ≤ 1099511627776 := by
  intro x hx
  obtain ⟨i, hi, rfl⟩ := List.getElem_of_mem hx
  have := Ch.mayB_iff.1 (hg i hi).1
  rw [List.getD_eq_getElem?_getD, List.getElem?_eq_getElem hi] at this
  exact ⟨this.1, this.2.1⟩
theorem parts_out {l : List Smp} (hg : Ch.Good l) {lo hi : Int} (h : lo ≤ hi) : l.filter (inB 0 (lo - 1)) ++ l.filter (inB (hi + 1) 1099511627776) = l.filter (outB lo hi) := out_parts h l (good_lt hg) (good_bounds hg)
/-- append of samples to an own row, at a built-in whose guard holds. -/
theorem hdapp_smpsG {w : World} {ops : Array Oper} {rest : List Oper} {o : Oper} {a : Act} {Q : Exit → Act → World → Prop} (hw : Region.wanted o (yielded ops a.tmps) = true) (s y : Operand)
    (ho : o.op = .call { callee := .builtin .append, args := #[s, y], argTypes := #[45, 45] })
    (base : Nat) (v : Value) (x : List Smp) (hs : a.eval s = v) (hown : OwnS w base v x) (A : Option Addr) (l : List Smp) (c : Nat) (hy : a.eval y = .slice A l.length c) (hA : Smps w A l) (hn : (x.length + l.length) * 16 ≤ 140737488355328) (hbase : base ≤ w.heap.size)
    (h : ∀ v' w', OwnS w' base v' (x ++ l) → Below base w w' → w.grownBy w' v.ownBlock → wpList Try.prog ops Q rest (a.put o.dst v') w') : wpList Try.prog ops Q (o :: rest) a w := by
  obtain ⟨i0, hi, hz0, hz1, hz2⟩ := info_parts sample_info
  refine BigFrame.wpList_want hw fun K hK => wp_app_at s y 45 ho base 63 i0 _ 2 16 Try.underlying45 hi hz0 hz1 hz2 rfl (by omega) v x.length (x.flatMap smpE) hs hown A l.length c (l.flatMap smpE) hy (flat_len smpE 2 smpE_len l) hA (smp_one l)
    (by simp only [maxLen]; omega) hn hbase ?_
  intro v' w' h1 h2 h3
  refine hK _ _ (h v' w' ?_ h2 h3)
  unfold OwnS
  rw [List.flatMap_append, List.length_append]
  exact h1
set_option maxHeartbeats 4000000 in
theorem headGone_walk (w : World) (A : Option Addr) (ps : List Pl) (ca : Nat) (hA : Recs w A ps) (hf : ∀ p ∈ ps, RecFit p.1) (hr : ps.length * 96 ≤ 140737488351232) (hca : ps.length ≤ ca)
    (id : Int) (bi : -9223372036854775808 ≤ id ∧ id ≤ 9223372036854775807) (lo : Int) (bl : -9223372036854775808 ≤ lo ∧ lo ≤ 9223372036854775807) (hi : Int) (bh : -9223372036854775808 ≤ hi ∧ hi ≤ 9223372036854775807) :
    Calls Try.prog 5 #[.slice A ps.length ca, .int .i64 id, .int .i64 lo, .int .i64 hi] w fun e w' => e = .returned (.bool true) ∧ Below w.heap.size w w' := by
  have HNEW := Lib.hid (hdnew_beside (E := fun k => k < w.heap.size) (w := w) fun k hk => hk)
  have q := fun (w : World) (X : Nat) => hd_eqnil w X
  have HA := Lib.hid hA
  have HF := Lib.hid hf
  obtain ⟨n, hn⟩ : ∃ n, ps.length = n := ⟨_, rfl⟩
  have HN := Lib.hid hn
  rw [hn] at hr hca ⊢
  clear hA hf hn
  go_enter Try.func5, Try.ntmps5
  go_wp2_with fail
  refine HNEW.out.mono ?_
  rintro e w2 ⟨rfl, hd2, hb2⟩
  obtain ⟨X, hX⟩ : ∃ X, w.heap.size + 1 = X := ⟨_, rfl⟩
  rw [hX] at hd2 ⊢
  have HD2 := Lib.hid hd2
  have HB2 := Lib.hid hb2
  clear hd2 hb2 hX HNEW
  go_wp2_with fail
  go_loopw [10] (fun a wr => ∃ (j : Nat) (h : List Ser), j ≤ n ∧ j ≤ 60 ∧ a = .int .i64 (j : Int) ∧ HeadOk h ∧ HdAt (fun k => k < w.heap.size) wr X h ∧ Below w.heap.size w wr) (fun a _ => n - (intOf a).toNat)
  case atStart => exact ⟨0, [], Nat.zero_le _, Nat.zero_le _, rfl, headOk_nil, HD2.out, HB2.out⟩
  case round =>
    obtain ⟨j, h, hj, hj60, rfl, hk, hd, hbr⟩ := hrel
    have HK := Lib.hid hk
    have HD := Lib.hid hd
    have HBR := Lib.hid hbr
    by_cases hlt : j < n ∧ j < 60
    · obtain ⟨hl1, hl2⟩ := hlt
      have i1 : decide ((j : Int) < (n : Int)) = true := decide_eq_true (by omega)
      have i2 : decide ((j : Int) < 60) = true := decide_eq_true (by omega)
      have i3 : (j : Int) < (n : Int) := by omega
      obtain ⟨b, o, rfl, hb, hall⟩ := HA.out.all (by rw [HN.out]; omega)
      obtain ⟨hin, hcell⟩ := hall j (by rw [HN.out]; exact hl1)
      have hmem : ps.getD j pl0 ∈ ps := List.mem_of_getElem? (getD_some ps pl0 (by rw [HN.out]; exact hl1))
      have hfit := HF.out _ hmem
      have HDO := Lib.hid (hddo_at hd (fun k hk => Nat.lt_of_lt_of_le hk hbr.size) hk (Below.refl _ _) (hin.below hbr) hfit (recBy_below (C := wr.heap.size) hin (Nat.le_refl _)))
      have HOK := Lib.hid (doH_ok (r := (ps.getD j pl0).1) hk)
      generalize doH h (ps.getD j pl0).1 = R at *
      have HHL := Lib.hid (And.intro hl1 hl2)
      obtain ⟨⟨kd, la, ro, ids, l0, h0⟩, ⟨A1, c1, A2, c2, A3, c3⟩⟩ := ps.getD j pl0
      have g0 := (hbr.cell (p := ⟨b, o + j * 6 + 0, none⟩) hb).trans (hcell 0 _ rfl)
      have g1 := (hbr.cell (p := ⟨b, o + j * 6 + 1, none⟩) hb).trans (hcell 1 _ rfl)
      have g2 := (hbr.cell (p := ⟨b, o + j * 6 + 2, none⟩) hb).trans (hcell 2 _ rfl)
      have g3 := (hbr.cell (p := ⟨b, o + j * 6 + 3, none⟩) hb).trans (hcell 3 _ rfl)
      have g4 := (hbr.cell (p := ⟨b, o + j * 6 + 4, none⟩) hb).trans (hcell 4 _ rfl)
      have g5 := (hbr.cell (p := ⟨b, o + j * 6 + 5, none⟩) hb).trans (hcell 5 _ rfl)
      rw [Nat.add_zero] at g0
      simp only [recC] at HDO
      clear hin hcell hmem hfit hk hd hbr hall
      go_wp2_with fail
      refine HDO.out.mono ?_
      rintro e w4 ⟨rfl, ha⟩
      have HA4 := Lib.hid ha
      clear ha
      go_wp2_with fail
      go_roundw
      case rel => exact ⟨j + 1, R.1, HHL.out.1, HHL.out.2, by go_num, HOK.out, HA4.out.1, HA4.out.below (fun k hk => hk) HBR.out HBR.out.size⟩
      case measure => simp [intOf]; omega
    · obtain ⟨p, hin⟩ := hd.get
      have HLEN := Lib.hid (hdlen_prog hin)
      have HCNT := Lib.hid (hdcount_prog hin)
      have HHD := Lib.hid hd
      have HWR := Lib.hid hbr.size
      clear hin hd hbr
      have hx : (decide ((j : Int) < (n : Int)) = true ∧ decide ((j : Int) < 60) = false ∧ ¬ (j : Int) < 60 ∧ (j : Int) < (n : Int)) ∨ (decide ((j : Int) < (n : Int)) = false ∧ ¬ (j : Int) < (n : Int)) := by
        by_cases h1 : j < n
        · exact .inl ⟨decide_eq_true (by omega), decide_eq_false (by omega), by omega, by omega⟩
        · exact .inr ⟨decide_eq_false (by omega), by omega⟩
      clear hlt hj hj60 hr hca
      rcases hx with ⟨i1, i2, i3, i4⟩ | ⟨i1, i2⟩
      all_goals
        by_cases q1 : lo < 0
        · have d1 : decide (lo < 0) = true := decide_eq_true q1
          go_wp2_with (first
            | (go_at_call 15; refine HLEN.out.mono ?_; rintro e w6 ⟨rfl, rfl⟩)
            | (go_at_call 14; refine (hdlives_true _).mono ?_; rintro e w6 ⟨rfl, hb6⟩; have HB6 := Lib.hid (below_then HBR.out hb6); clear hb6))
          go_ret
          exact ⟨rfl, HB6.out⟩
        have d1 : decide (lo < 0) = false := decide_eq_false q1
        by_cases q2 : 1099511627776 < hi
        · have d2 : decide (1099511627776 < hi) = true := decide_eq_true q2
          go_wp2_with (first
            | (go_at_call 15; refine HLEN.out.mono ?_; rintro e w6 ⟨rfl, rfl⟩)
            | (go_at_call 14; refine (hdlives_true _).mono ?_; rintro e w6 ⟨rfl, hb6⟩; have HB6 := Lib.hid (below_then HBR.out hb6); clear hb6))
          go_ret
          exact ⟨rfl, HB6.out⟩
        have d2 : decide (1099511627776 < hi) = false := decide_eq_false q2
        by_cases q3 : hi < lo
        · have d3 : decide (hi < lo) = true := decide_eq_true q3
          go_wp2_with (first
            | (go_at_call 15; refine HLEN.out.mono ?_; rintro e w6 ⟨rfl, rfl⟩)
            | (go_at_call 14; refine (hdlives_true _).mono ?_; rintro e w6 ⟨rfl, hb6⟩; have HB6 := Lib.hid (below_then HBR.out hb6); clear hb6))
          go_ret
          exact ⟨rfl, HB6.out⟩
        have d3 : decide (hi < lo) = false := decide_eq_false q3
        by_cases q4 : id < 0
        · have d4 : decide (id < 0) = true := decide_eq_true q4
          go_wp2_with (first
            | (go_at_call 15; refine HLEN.out.mono ?_; rintro e w6 ⟨rfl, rfl⟩)
            | (go_at_call 14; refine (hdlives_true _).mono ?_; rintro e w6 ⟨rfl, hb6⟩; have HB6 := Lib.hid (below_then HBR.out hb6); clear hb6))
          go_ret
          exact ⟨rfl, HB6.out⟩
        have d4 : decide (id < 0) = false := decide_eq_false q4
        by_cases q5 : (h.length : Int) ≤ id
        · have d5 : decide ((h.length : Int) ≤ id) = true := decide_eq_true q5
          go_wp2_with (first
            | (go_at_call 15; refine HLEN.out.mono ?_; rintro e w6 ⟨rfl, rfl⟩)
            | (go_at_call 14; refine (hdlives_true _).mono ?_; rintro e w6 ⟨rfl, hb6⟩; have HB6 := Lib.hid (below_then HBR.out hb6); clear hb6))
          go_ret
          exact ⟨rfl, HB6.out⟩
        have d5 : decide ((h.length : Int) ≤ id) = false := decide_eq_false q5
        obtain ⟨i, hiid⟩ : ∃ i : Nat, id = (i : Int) := ⟨id.toNat, by omega⟩
        subst hiid
        have hil : i < h.length := by omega
        have w1 : IntKind.i64.wrap (lo - 1) = lo - 1 := IntWalk.i64_in _ (by omega)
        have w2' : IntKind.i64.wrap (hi + 1) = hi + 1 := IntWalk.i64_in _ (by omega)
        have hgood := (HK.out.right _ (ser_at hil)).2
        have HPARTS := Lib.hid (parts_out hgood (lo := lo) (hi := hi) (by omega))
        have hlen := (hdlens HK.out hil).1
        have hd1 := delR_do HK.out (id := (i : Int)) (lo := lo) (hi := hi) (by omega) (by omega) (by omega) (by omega) (by omega)
        have hf1 : RecFit (delR (i : Int) lo hi) := right_fit (delR_chk HK.out (by omega) (by omega) (by omega) (by omega) (by omega))
        have hk2 := doH_ok (r := delR (i : Int) lo hi) HK.out
        rw [hd1] at hk2
        have hlen2 := cutH_len h lo hi (i : Int)
        have hd2 := delR_do hk2 (id := (i : Int)) (lo := lo) (hi := hi) (by omega) (by omega) (by omega) (by omega) (by rw [hlen2]; omega)
        rw [cutH_twice hil] at hd2
        have hget := cutH_get hil lo hi
        have HS := Lib.hid (fun (x : World) (hx : Below wr.heap.size wr x) (a b : Int) => by
          obtain ⟨px, hinx⟩ := (HHD.out.below hx).get
          exact hdselect_yes hinx HK.out i hil a b)
        obtain ⟨l, hll⟩ : ∃ l, (h.getD i ser0).2 = l := ⟨_, rfl⟩
        rw [hll] at HPARTS HS hlen
        rw [hll] at hget
        have HD1 := Lib.hid hd1
        have HF1 := Lib.hid hf1
        have HK2 := Lib.hid hk2
        have HD2' := Lib.hid hd2
        have HGET := Lib.hid hget
        have HGD2 := Lib.hid (show Ch.Good (l.filter (outB lo hi)) by rw [← hll]; exact good_filter hgood _)
        have HIL2 := Lib.hid (show i < (cutH h lo hi (i : Int)).length by rw [hlen2]; exact hil)
        obtain ⟨h2, hh2⟩ : ∃ h2, cutH h lo hi (i : Int) = h2 := ⟨_, rfl⟩
        rw [hh2] at HD1 HK2 HD2' HGET HIL2
        clear hgood hd1 hf1 hk2 hlen2 hd2 hget hll hh2
        go_wp2_with (go_at_call 15; refine HLEN.out.mono ?_; rintro e w6 ⟨rfl, rfl⟩)
        refine (HS.out _ (Below.refl _ _) 0 (lo - 1)).mono ?_
        rintro e x1 ⟨v1, rfl, ho1, hb1⟩
        obtain ⟨P1, c1, hv1, hc1, hs1, hp1⟩ := owns_slice ho1
        subst hv1
        have HB1 := Lib.hid hb1
        have HS1 := Lib.hid hs1
        have HP1 := Lib.hid hp1
        clear ho1 hb1 hs1 hp1
        go_wp2_with fail
        refine (HS.out _ HB1.out (hi + 1) 1099511627776).mono ?_
        rintro e x2 ⟨v2, rfl, ho2, hb2⟩
        obtain ⟨P2, c2, hv2, hc2, hs2, hp2⟩ := owns_slice ho2
        subst hv2
        have HB2 := Lib.hid (below_then HB1.out hb2)
        have HS12 := Lib.hid (HS1.out.below hb2)
        have HS2 := Lib.hid hs2
        have HP2 := Lib.hid (fun ad e => Nat.le_trans HB1.out.size (hp2 ad e))
        have hb4 : Below x2.heap.size x2 ((x2.alloc (.cells #[.int .i64 (i : Int)] 3)).alloc (.cells #[.int .i64 3, .slice none 0 0, .slice none 0 0, .slice (some ⟨x2.heap.size, 0, none⟩) 1 1, .int .i64 lo, .int .i64 hi] 30)) := ((Below.refl x2.heap.size x2).alloc (Nat.le_refl _) _).alloc (by simp) _
        have hz4 : Zi ((x2.alloc (.cells #[.int .i64 (i : Int)] 3)).alloc (.cells #[.int .i64 3, .slice none 0 0, .slice none 0 0, .slice (some ⟨x2.heap.size, 0, none⟩) 1 1, .int .i64 lo, .int .i64 hi] 30)) (some ⟨x2.heap.size, 0, none⟩) [(i : Int)] := At.alloc (show At _ _ [Value.int .i64 (i : Int)] from At.row (Row.new x2 3 #[.int .i64 (i : Int)])) _
        have hr4 : Row ((x2.alloc (.cells #[.int .i64 (i : Int)] 3)).alloc (.cells #[.int .i64 3, .slice none 0 0, .slice none 0 0, .slice (some ⟨x2.heap.size, 0, none⟩) 1 1, .int .i64 lo, .int .i64 hi] 30)) (x2.heap.size + 1) 30 #[.int .i64 3, .slice none 0 0, .slice none 0 0, .slice (some ⟨x2.heap.size, 0, none⟩) 1 1, .int .i64 lo, .int .i64 hi] := by
          have := Row.new (x2.alloc (.cells #[.int .i64 (i : Int)] 3)) 30 #[.int .i64 3, .slice none 0 0, .slice none 0 0, .slice (some ⟨x2.heap.size, 0, none⟩) 1 1, .int .i64 lo, .int .i64 hi]
          rwa [show (x2.alloc (.cells #[.int .i64 (i : Int)] 3)).heap.size = x2.heap.size + 1 by simp] at this
        have HZ4 := Lib.hid hz4
        have HR4 := Lib.hid hr4
        have HS14 := Lib.hid (HS12.out.below hb4)
        have HS24 := Lib.hid (HS2.out.below hb4)
        have HB4 := Lib.hid (below_then HB2.out hb4)
        obtain ⟨x4, hx4⟩ : ∃ x4, ((x2.alloc (.cells #[.int .i64 (i : Int)] 3)).alloc (.cells #[.int .i64 3, .slice none 0 0, .slice none 0 0, .slice (some ⟨x2.heap.size, 0, none⟩) 1 1, .int .i64 lo, .int .i64 hi] 30)) = x4 := ⟨_, rfl⟩
        rw [hx4] at HZ4 HR4 HS14 HS24 HB4
        obtain ⟨E', hE'⟩ : ∃ E' : Nat → Prop, E' = fun k => k < w.heap.size ∨ (w6.heap.size ≤ k ∧ k < x4.heap.size) := ⟨_, rfl⟩
        have HE1 := Lib.hid (show ∀ k, E' k → k < x4.heap.size from fun k hk => by
          rw [hE'] at hk
          have h1 := HWR.out
          have h2 := HB4.out.size
          rcases hk with h3 | h3
          · exact Nat.lt_of_lt_of_le h3 (Nat.le_trans h1 h2)
          · exact h3.2)
        have HE2 := Lib.hid (show ∀ k, w6.heap.size ≤ k → k < x4.heap.size → E' k from fun k h1 h2 => by rw [hE']; exact .inr ⟨h1, h2⟩)
        have HE3 := Lib.hid (show ∀ k, k < w.heap.size → E' k from fun k h1 => by rw [hE']; exact .inl h1)
        have hmore : HdAt E' x4 X h := HHD.out.more HB4.out fun k hk => by
          rw [hE'] at hk
          exact hk.imp id fun h => h.1
        have hx24 : x2.heap.size + 1 < x4.heap.size := HR4.out.lt
        have HBY := Lib.hid (show ∀ B, RecBy E' B (delR (i : Int) lo hi) ⟨none, 0, none, 0, some ⟨x2.heap.size, 0, none⟩, 1⟩ from fun B => ⟨fun _ ad e => (by cases e), fun _ ad e => (by injection e with e; subst e; exact .inl (HE2.out _ HB2.out.size (Nat.lt_trans (Nat.lt_succ_self _) hx24)))⟩)
        have HDO1 := Lib.hid (hddo_at hmore HE1.out HK.out (Below.refl _ _) (R := delR (i : Int) lo hi) (m := ⟨none, 0, none, 0, some ⟨x2.heap.size, 0, none⟩, 1⟩) ⟨Lbls.nil _ _, Wrows.nil _ _, HZ4.out, Nat.le_refl _, Nat.le_refl _, Nat.le_refl _⟩ HF1.out (HBY.out _))
        rw [HD1.out] at HDO1
        clear hE' hmore
        obtain ⟨y0, y1, y2, y3, y4, y5⟩ := rec_cells HR4.out rfl
        unfold recC delR at HDO1
        clear ho2 hb2 hs2 hp2 hb4 hz4 hr4
        go_wp2_with fail
        refine HDO1.out.mono ?_
        rintro e x5 ⟨rfl, ha5⟩
        clear y0 y1 y2 y3 y4 y5 hx4
        have hx2s := HB2.out.size
        have hr5 := ha5.row HR4.out (HE2.out _ (by omega) HR4.out.lt)
        have HR5 := Lib.hid hr5
        have HZ5 := Lib.hid (show Zi x5 (some ⟨x2.heap.size, 0, none⟩) [(i : Int)] from at_move HZ4.out ha5.2.size (.inr fun ad e => by injection e with e; subst e; exact ha5.2.block _ (at_block HZ4.out (by simp [intE]) _ rfl) (fun hk => hk.1 (HE2.out _ hx2s hk.2))))
        have HS15 := Lib.hid (ha5.smps HS14.out fun ad e h1 => HE2.out _ (HP1.out ad e) h1)
        have HS25 := Lib.hid (ha5.smps HS24.out fun ad e h1 => HE2.out _ (HP2.out ad e) h1)
        have HD5 := Lib.hid ha5.1
        have HBW5 := Lib.hid (ha5.below (fun k hk => HE3.out k hk) (HBR.out.trans (HB4.out.mono HWR.out)) (Nat.le_trans HWR.out HB4.out.size))
        have HE5 := Lib.hid (show ∀ k, E' k → k < x5.heap.size from fun k hk => Nat.lt_of_lt_of_le (HE1.out k hk) ha5.2.size)
        have HSEL := Lib.hid (fun (x : World) (hx : Below x5.heap.size x5 x) (a b : Int) => by
          obtain ⟨px, hinx⟩ := (HD5.out.below hx).get
          exact hdselect_yes hinx HK2.out i HIL2.out a b)
        rw [HGET.out] at HSEL
        obtain ⟨l2, hl2⟩ : ∃ l2, l.filter (outB lo hi) = l2 := ⟨_, rfl⟩
        have HIN := Lib.hid (show l2.filter (inB 0 1099511627776) = l2 by rw [← hl2]; exact in_all HGD2.out)
        have HOUT := Lib.hid (show l2.filter (inB lo hi) = [] by rw [← hl2]; exact out_in lo hi)
        have hl2n : l2.length ≤ l.length := by rw [← hl2]; exact List.length_filter_le _ _
        rw [hl2] at HPARTS HSEL
        clear ha5 hr5 hl2
        go_wp2_with fail
        have h6 := HSEL.out _ (Below.refl _ _) 0 1099511627776
        simp only [HIN.out] at h6
        refine h6.mono ?_
        clear h6
        rintro e x6 ⟨v6, rfl, ho6, hb6⟩
        obtain ⟨P6, c6, hv6, hc6, hs6, hp6⟩ := owns_slice ho6
        subst hv6
        have HS6 := Lib.hid hs6
        have HB6 := Lib.hid hb6
        have HS16 := Lib.hid (HS15.out.below hb6)
        have HS26 := Lib.hid (HS25.out.below hb6)
        clear ho6 hb6 hs6 hp6
        go_wp2_with fail
        have h7 := HSEL.out _ HB6.out lo hi
        simp only [HOUT.out] at h7
        refine h7.mono ?_
        clear h7
        rintro e x7 ⟨v7, rfl, ho7, hb7⟩
        obtain ⟨P7, c7, hv7, hc7, hs7, hp7⟩ := owns_slice ho7
        subst hv7
        have HB7 := Lib.hid (below_then HB6.out hb7)
        have HS67 := Lib.hid (HS6.out.below hb7)
        have HS17 := Lib.hid (HS16.out.below hb7)
        have HS27 := Lib.hid (HS26.out.below hb7)
        clear ho7 hb7 hs7 hp7
        obtain ⟨p7, hin7⟩ := (HD5.out.below HB7.out).get
        have HC7 := Lib.hid (show Calls Try.prog 16 #[.pointer (some ⟨X, 0, none⟩)] x7 (fun e w' => e = .returned (.int .i64 (cntS h2 : Int)) ∧ Below x7.heap.size x7 w') from (hdcount_prog hin7).mono fun e w' ⟨h1, h3⟩ => ⟨h1, by rw [h3]; exact Below.refl _ _⟩)
        have HL1 := Lib.hid (show (l.filter (inB 0 (lo - 1))).length ≤ l.length from List.length_filter_le _ _)
        have HL2 := Lib.hid (show (l.filter (inB (hi + 1) 1099511627776)).length ≤ l.length from List.length_filter_le _ _)
        have HLN := Lib.hid hlen
        have HLN2 := Lib.hid hl2n
        clear hin7 hlen hl2n
        go_wp2_with fail
        refine HC7.out.mono ?_
        rintro e z0 ⟨rfl, hbz⟩
        have HBZ := Lib.hid (below_then HB7.out hbz)
        have hb8 := below_one z0 (.cells #[] 63)
        have HO8 := Lib.hid (owns_empty (base := z0.heap.size) (Row.new z0 63 #[]) (Nat.le_refl _))
        have HB8 := Lib.hid hb8
        have HS1Z := Lib.hid (HS17.out.below hbz)
        have HS2Z := Lib.hid (HS27.out.below hbz)
        have HS6Z := Lib.hid (HS67.out.below hbz)
        have HS18 := Lib.hid (HS1Z.out.below hb8)
        obtain ⟨C, hC⟩ : ∃ C : Int, (cntS h2 : Int) = C := ⟨_, rfl⟩
        have HCC := Lib.hid hC
        obtain ⟨l1, hl1⟩ : ∃ l1, l.filter (inB 0 (lo - 1)) = l1 := ⟨_, rfl⟩
        obtain ⟨l3, hl3⟩ : ∃ l3, l.filter (inB (hi + 1) 1099511627776) = l3 := ⟨_, rfl⟩
        rw [hl1] at HPARTS HS18 HS1Z HL1 ⊢
        rw [hl3] at HPARTS HS2Z HL2 ⊢
        rw [hC]
        clear hbz hb8 hC hl1 hl3
        go_wp2_with (first
          | (at_builtin; first
              | (refine hdapp_smpsG (by first | rfl | kernel_rfl) (.tmp 126) (.tmp 127) rfl z0.heap.size _ l1 rfl HO9.out P2 l3 c2 rfl HS29.out (by have := HL1.out; have := HL2.out; have := HLN.out; omega) HB9.out.size ?_
                 intro v10 w10 ho10 hb10 _
                 rw [HPARTS.out] at ho10
                 obtain ⟨P10, c10, hv10, hc10, hs10, _⟩ := owns_slice ho10
                 subst hv10
                 have HS10 := Lib.hid hs10
                 have HB10 := Lib.hid (HB9.out.trans hb10)
                 have HS610 := Lib.hid (HS6Z.out.below HB10.out)
                 clear ho10 hb10 hs10 hc10)
              | (refine hdapp_smpsG (by first | rfl | kernel_rfl) (.tmp 124) (.tmp 125) rfl z0.heap.size _ [] rfl HO8.out P1 l1 c1 rfl HS18.out (by have := HL1.out; have := HLN.out; simp only [List.length_nil]; omega) HB8.out.size ?_
                 intro v9 w9 ho9 hb9 _
                 rw [List.nil_append] at ho9
                 obtain ⟨P9, c9, hv9, hc9, hs9, _⟩ := owns_slice ho9
                 subst hv9
                 have HO9 := Lib.hid ho9
                 have HB9 := Lib.hid (HB8.out.trans hb9)
                 have HS29 := Lib.hid (HS2Z.out.below HB9.out)
                 clear ho9 hb9 hs9 hc9))
          | (go_at_call 20; refine (same_smps P6 P10 l2 c6 c10 _ HS610.out HS10.out (by have := HLN.out; have := HLN2.out; omega)).mono ?_; rintro e w11 ⟨rfl, hb11⟩; have HB11 := Lib.hid (below_then HBZ.out (below_then HB10.out hb11)); obtain ⟨y0, y1, y2, y3, y4, y5⟩ := rec_cells (HR5.out.below HB11.out HR5.out.lt) rfl; have HDO2 := Lib.hid (hddo_at HD5.out HE5.out HK2.out HB11.out (R := delR (i : Int) lo hi) (m := ⟨none, 0, none, 0, some ⟨x2.heap.size, 0, none⟩, 1⟩) ⟨Lbls.nil _ _, Wrows.nil _ _, HZ5.out.below HB11.out, Nat.le_refl _, Nat.le_refl _, Nat.le_refl _⟩ HF1.out (HBY.out _)); rw [HD2'.out] at HDO2; unfold recC delR at HDO2; clear hb11)
          | (go_at_call 8; refine HDO2.out.mono ?_; rintro e w12 ⟨rfl, ha12⟩; obtain ⟨p12, hin12⟩ := ha12.1.get; have HC12 := Lib.hid (hdcount_prog hin12); rw [HCC.out] at HC12; have HBW12 := Lib.hid (ha12.below (fun k hk => HE3.out k hk) (HBW5.out.trans (HB11.out.mono HBW5.out.size)) (Nat.le_trans HBW5.out.size HB11.out.size)); clear ha12 hin12)
          | (go_at_call 16; refine HC12.out.mono ?_; rintro e w13 ⟨rfl, rfl⟩)
          | (go_at_call 14; refine (hdlives_true _).mono ?_; rintro e w14 ⟨rfl, hb14⟩; have HB14 := Lib.hid (below_then HBW12.out hb14); clear hb14))
        go_ret
        exact ⟨rfl, HB14.out⟩
end Go.Proofs.Ytpcjnagdanmdpaa
