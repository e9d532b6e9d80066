/- An index out of whatever bytes: a walk of the law. -/
import Derived.Test.YtojlcipphnegaaaGreatIxRf
import Derived.Test.YtojlcipphnegaaaGreatIxTold
namespace Go.Proofs.YtojlcipphnegaaaGreat
open Go.RowKit Go.Maps
set_option linter.unusedVariables false
set_option maxRecDepth 100000
theorem rf_right (A : Option Addr) (ss : List (List Lbl)) (c : Nat) (hr : ixChk ss = 0) (hbc : (ixBytes ss).length ≤ c) (w : World) (hA : Bys w A (ixBytes ss)) :
    Calls Tryz.prog 21 #[.slice A (ixBytes ss).length c] w fun e w' => Below w.heap.size w w' ∧ ∃ v, e = .returned (.tuple #[v, .bool true]) ∧ OwnSets w' w.heap.size v ss := by
  have h := ix_back (gu_right (ixBytes ss)) (xo_right (ixBytes ss)) hr rfl
  have hl := bytes_len hr
  refine (refof_prog A (ixBytes ss) c hbc (by omega) (some ss) w hA h).mono ?_
  rintro e w' ⟨hb, ⟨h, _⟩ | ⟨ss', v, h0, h1, h2, h3, h4⟩⟩
  · exact absurd ⟨hr, rfl⟩ (h ss rfl)
  · obtain rfl := Option.some.inj h0
    exact ⟨hb, v, h3, h4⟩
theorem rf_wrong (A : Option Addr) (b : List UInt8) (c : Nat) (hbc : b.length ≤ c) (hbl : b.length ≤ 140737488355328) (hno : ¬ ∃ ss, ixChk ss = 0 ∧ ixBytes ss = b) (w : World) (hA : Bys w A b) :
    Calls Tryz.prog 21 #[.slice A b.length c] w fun e w' => e = .returned (.tuple #[.slice none 0 0, .bool false]) ∧ Below w.heap.size w w' := by
  obtain ⟨o, h⟩ := ixO_total (P := fun a => a ≤ b.length) (gu_all b) (xo_all b) (Nat.zero_le _)
  refine (refof_prog A b c hbc hbl o w hA h).mono ?_
  rintro e w' ⟨hb, ⟨_, h⟩ | ⟨ss', v, h0, h1, h2, h3, h4⟩⟩
  · exact ⟨h, hb⟩
  · exact absurd ⟨ss', h1, h2⟩ hno
theorem of_wrong (A : Option Addr) (b : List UInt8) (c : Nat) (hbc : b.length ≤ c) (hbl : b.length ≤ 140737488355328) (hno : ¬ ∃ ss, ixChk ss = 0 ∧ ixBytes ss = b) (w : World) (hA : Bys w A b) :
    Calls Tryz.prog 20 #[.slice A b.length c] w fun e w' => e = .returned (.tuple #[.pointer none, .int .i64 5]) ∧ Below w.heap.size w w' := by
  refine (of_any A b c hbc hbl w hA).mono ?_
  rintro e w' ⟨hb, h | ⟨ss', X, B, h1, h2, _⟩⟩
  · exact ⟨h, hb⟩
  · exact absurd ⟨ss', h1, h2⟩ hno
theorem idx_kept {w w' : World} {base X : Nat} {ss : List (List Lbl)} (h : IdxAt w base X ss) (hk : ∀ k, base ≤ k → w'.heap[k]? = w.heap[k]?) : IdxAt w' base X ss := by
  obtain ⟨h1, v, b, h2, h3, ⟨ps, p1, p2, p3⟩, es, clock, q1, q2, q3, q4, q5, q6⟩ := h
  refine ⟨h1, v, b, h2, (hk X h1).trans h3, ⟨ps, p1, rows_move p2 fun k e => hk k (World.ownsRow.lt p2 k e).1, fun p hp => ?_⟩, es, clock, (hk b h2).trans q1, q2, q3, fun x hx => ?_, q5, q6⟩
  · obtain ⟨⟨_, m2⟩, m3⟩ := p3 p hp
    have m4 : OwnL w' base (slE p) p.2.2 := rows_move m3 fun k e => hk k (World.ownsRow.lt m3 k e).1
    obtain ⟨P, c', e, _, m5, _⟩ := ownl_slice m4
    obtain ⟨rfl, _, rfl⟩ := Value.slice.inj e
    exact ⟨⟨m5, m2⟩, m4⟩
  · obtain ⟨p, k1, k2, k3, k4⟩ := q4 x hx
    exact ⟨p, k1, k2, k3, rows_move k4 fun k e => hk k (World.ownsRow.lt k4 k e).1⟩
theorem ownsets_kept {w w' : World} {base : Nat} {v : Value} {ss : List (List Lbl)} (h : OwnSets w base v ss) (hk : ∀ k, base ≤ k → w'.heap[k]? = w.heap[k]?) : OwnSets w' base v ss := by
  obtain ⟨ps, p1, p2, p3⟩ := h
  refine ⟨ps, p1, rows_move p2 fun k e => hk k (World.ownsRow.lt p2 k e).1, fun p hp => ?_⟩
  obtain ⟨⟨_, m2⟩, m3⟩ := p3 p hp
  have m4 : OwnL w' base (slE p) p.2.2 := rows_move m3 fun k e => hk k (World.ownsRow.lt m3 k e).1
  obtain ⟨P, c', e, _, m5, _⟩ := ownl_slice m4
  obtain ⟨rfl, _, rfl⟩ := Value.slice.inj e
  exact ⟨⟨m5, m2⟩, m4⟩
/-- Bytes that may be written, in a block from base on and below T. -/
def Bw (w : World) (base T : Nat) (P : Option Addr) (n : Nat) : Prop := n = 0 ∨ ∃ g cs, P = some ⟨g, 0, none⟩ ∧ base ≤ g ∧ g < T ∧ Row w g 5 cs ∧ n ≤ cs.size
theorem bw_of {w : World} {base : Nat} {v : Value} {x : List UInt8} (h : Own w base v x) : ∃ P d, v = .slice P x.length d ∧ x.length ≤ d ∧ Bys w P x ∧ Bw w base w.heap.size P x.length := by
  obtain ⟨P, d, e, hP, _⟩ := own_slice' h
  obtain ⟨P', d', e', hd, _⟩ := rows_slice h
  obtain ⟨rfl, _, rfl⟩ := Value.slice.inj (e.symm.trans e')
  refine ⟨P, d, e, hd, hP, ?_⟩
  subst e
  rcases h.2 with ⟨_, h0⟩ | ⟨g, cap, cur, hv, hg, hh, hnc, hcm, hcs, htk⟩
  · exact .inl h0
  · injection hv with e1 _ _
    refine .inr ⟨g, cur, e1, hg, Row.lt (cs := cur) hh, hh, ?_⟩
    have := congrArg List.length htk
    rw [List.length_take, Array.length_toList] at this
    simp [bcells] at this
    omega
theorem bw_below {w w' : World} {base T : Nat} {P : Option Addr} {n : Nat} (h : Bw w base T P n) (hb : Below w.heap.size w w') : Bw w' base T P n := by
  rcases h with h | ⟨g, cs, e, h1, h2, h3, h4⟩
  · exact .inl h
  · exact .inr ⟨g, cs, e, h1, h2, h3.below hb h3.lt, h4⟩
set_option maxHeartbeats 8000000 in
theorem indexReads_walk (w : World) (B : Option Addr) (b : List UInt8) (cb : Nat) (hB : Bys w B b) (hbr : b.length ≤ 140737488351232) (hbc : b.length ≤ cb)
    (id : Int) (hid : -9223372036854775808 ≤ id ∧ id ≤ 9223372036854775807) (name : ByteArray) (hs : name.size ≤ reachBytes) :
    Calls Tryz.prog 5 #[.slice B b.length cb, .int .i64 id, .string name] w fun e w' => e = .returned (.bool true) ∧ Below w.heap.size w w' := by
  have HLV := Lib.hid (fun x => ixLives_true x)
  have HBB := Lib.hid (fun x (h : Below w.heap.size w x) => (show Bys x B b from hB.below h))
  have HLN := Lib.hid hbr
  have HBC := Lib.hid hbc
  obtain ⟨i0, hi, hz0, hz1, hz2⟩ := info_parts u8_info
  have HE := Lib.hid (own_empty (Row.new w 5 #[]) (Nat.le_refl _))
  by_cases hex : ∃ ss, ixChk ss = 0 ∧ ixBytes ss = b
  · obtain ⟨ss, hz, hq⟩ := hex
    have HOF := Lib.hid (fun P d x (hd : (ixBytes ss).length ≤ d) (h : Bys x P (ixBytes ss)) => of_right P ss d hz hd x h)
    have HRF := Lib.hid (fun P d x (hd : (ixBytes ss).length ≤ d) (h : Bys x P (ixBytes ss)) => rf_right P ss d hz hd x h)
    have HTD := Lib.hid (fun X bs V cs x (h : IdxAt x bs X ss) (hV : Sets x V ss) => told_prog X ss bs V cs id hid name x h hz hV)
    rw [hq] at HOF HRF
    clear hz hq hbr hbc hid hs hB
    obtain ⟨nb, hnb⟩ : ∃ nb, b.length = nb := ⟨_, rfl⟩
    rw [hnb] at HOF HRF HLN HBC ⊢
    have HNB := Lib.hid hnb
    clear hnb
    have hlim : nb ≤ 140737488351232 := HLN.out
    go_enter Tryz.func5, Tryz.ntmps5
    go_wp2_with (first
      | (at_builtin; refine wpList_app _ rfl (.tmp 13) (.tmp 14) 46 rfl w.heap.size i0 Tryz.underlying46 hi hz0 hz1 hz2 _ [] rfl HE.out B b cb (by rw [HNB.out]; rfl) (HBB.out _ ((Below.refl _ w).alloc (Nat.le_refl _) _)) (by rw [HNB.out]; simp only [List.length_nil]; omega) (by simp) ?_; intro v1 w1 hown1 hg1 _; rw [List.nil_append] at hown1; have hb1 : Below w.heap.size w w1 := ((Below.refl _ w).alloc (Nat.le_refl _) _).trans (Below.grown (Below.refl _ _) hg1 (by simp) (fun q hq => (World.ownsRow.lt HE.out q hq).1)); obtain ⟨P1, d1, hv1, hd1, hP1, hW1⟩ := bw_of hown1; rw [HNB.out] at hv1 hd1 hW1; subst hv1; have HD1 := Lib.hid hd1; have HP1 := Lib.hid hP1; have HW1 := Lib.hid hW1; have HB1 := Lib.hid hb1; clear hown1 hg1 hb1 hd1 hP1 hW1))
    refine (HOF.out _ _ _ HD1.out HP1.out).mono ?_
    rintro e w2 ⟨hb2, X, B0, rfl, hB0, hI2⟩
    have HI2 := Lib.hid hI2
    have HW2 := Lib.hid (bw_below HW1.out hb2)
    have HS2 := Lib.hid hb2.size
    have HB2 := Lib.hid (below_then HB1.out hb2)
    have HB0 := Lib.hid hB0
    clear hb2 hI2 hB0
    go_wp2_with fail
    refine (HRF.out _ _ _ HBC.out (HBB.out _ HB2.out)).mono ?_
    rintro e w3 ⟨hb3, v3, rfl, hO3⟩
    obtain ⟨P3, d3, hv3, hd3, hS3, _⟩ := ownsets_slice hO3
    subst hv3
    have HI3 := Lib.hid (HI2.out.below hb3)
    have HO3 := Lib.hid hO3
    have HW3 := Lib.hid (bw_below HW2.out hb3)
    have HB3 := Lib.hid (below_then HB2.out hb3)
    clear hb3 hO3 hd3 hS3 HOF HRF HBB HE hi hz0 hz1 hz2
    go_wp2_with fail
    go_loopw [12] (fun i wx => ∃ j : Nat, j ≤ nb ∧ i = .int .i64 (j : Int) ∧ Bw wx w.heap.size w1.heap.size P1 nb ∧ Below w.heap.size w wx ∧ ∀ k, w1.heap.size ≤ k → wx.heap[k]? = w3.heap[k]?) (fun i _ => nb - (intOf i).toNat)
    case atStart => exact ⟨0, Nat.zero_le _, rfl, HW3.out, HB3.out, fun k _ => rfl⟩
    case round =>
      obtain ⟨j, hj, rfl, hW, hb, hk⟩ := hrel
      by_cases hlt : j < nb
      · rcases hW with h0 | ⟨g, cs, rfl, hg, hgT, hr, hn⟩
        · omega
        · have f0 := hr.frozen j
          have c0 : wr.cell? ⟨g, j, none⟩ = some cs[j] := (hr.cell j).trans (Array.getElem?_eq_getElem (by omega))
          have i1 : (j : Int) < (nb : Int) := by omega
          have HW4 := Lib.hid (show Bw (wr.setCell ⟨g, j, none⟩ (.int .u8 0)) w.heap.size w1.heap.size (some ⟨g, 0, none⟩) nb from .inr ⟨g, _, rfl, hg, hgT, hr.setAt j (.int .u8 0), by simpa using hn⟩)
          have HB4 := Lib.hid (Below.setCell hb (p := ⟨g, j, none⟩) hg (.int .u8 0))
          have HK4 := Lib.hid (fun q (hq : w1.heap.size ≤ q) => (Below.heap_setCell wr ⟨g, j, none⟩ (.int .u8 0) q (by show q ≠ g; omega)).trans (hk q hq))
          clear hr hb hk hg
          go_wp2_with fail
          go_roundw
          case rel => exact ⟨j + 1, hlt, by go_num, HW4.out, HB4.out, HK4.out⟩
          case measure => simp [intOf]; omega
      · have HI4 := Lib.hid (idx_kept HI3.out fun k h => hk k (Nat.le_trans HB0.out h))
        obtain ⟨P', d', e', _, hS, _⟩ := ownsets_slice (ownsets_kept HO3.out fun k h => hk k (Nat.le_trans HS2.out h))
        obtain ⟨rfl, _, rfl⟩ := Value.slice.inj e'
        have HTX := Lib.hid (HTD.out _ _ _ d3 _ HI4.out hS)
        have HB4 := Lib.hid hb
        clear hW hb hk hS e' HTD
        generalize ss.length = ns at *
        go_wp2_with fail
        refine HTX.out.mono ?_
        rintro e w5 ⟨rfl, hb5⟩
        have HB5 := Lib.hid (below_then HB4.out hb5)
        clear hb5
        go_wp2_with fail
        refine (HLV.out _).mono ?_
        rintro e w6 ⟨rfl, hb6⟩
        have HB6 := Lib.hid (below_then HB5.out hb6)
        clear hb6
        go_wp2
        go_ret
        exact both_ret HB6.out
  · have HOF := Lib.hid (fun P d x (hd : b.length ≤ d) (h : Bys x P b) => of_wrong P b d hd (by omega) hex x h)
    have HRF := Lib.hid (fun P d x (hd : b.length ≤ d) (h : Bys x P b) => rf_wrong P b d hd (by omega) hex x h)
    clear hex hbr hbc hid hs hB
    obtain ⟨nb, hnb⟩ : ∃ nb, b.length = nb := ⟨_, rfl⟩
    rw [hnb] at HOF HRF HLN HBC ⊢
    have HNB := Lib.hid hnb
    clear hnb
    have hlim : nb ≤ 140737488351232 := HLN.out
    go_enter Tryz.func5, Tryz.ntmps5
    go_wp2_with (first
      | (at_builtin; refine wpList_app _ rfl (.tmp 13) (.tmp 14) 46 rfl w.heap.size i0 Tryz.underlying46 hi hz0 hz1 hz2 _ [] rfl HE.out B b cb (by rw [HNB.out]; rfl) (HBB.out _ ((Below.refl _ w).alloc (Nat.le_refl _) _)) (by rw [HNB.out]; simp only [List.length_nil]; omega) (by simp) ?_; intro v1 w1 hown1 hg1 _; rw [List.nil_append] at hown1; have hb1 : Below w.heap.size w w1 := ((Below.refl _ w).alloc (Nat.le_refl _) _).trans (Below.grown (Below.refl _ _) hg1 (by simp) (fun q hq => (World.ownsRow.lt HE.out q hq).1)); obtain ⟨P1, d1, hv1, hd1, hP1, hW1⟩ := bw_of hown1; rw [HNB.out] at hv1 hd1 hW1; subst hv1; have HD1 := Lib.hid hd1; have HP1 := Lib.hid hP1; have HW1 := Lib.hid hW1; have HB1 := Lib.hid hb1; clear hown1 hg1 hb1 hd1 hP1 hW1))
    refine (HOF.out _ _ _ HD1.out HP1.out).mono ?_
    rintro e w2 ⟨rfl, hb2⟩
    have HB2 := Lib.hid (below_then HB1.out hb2)
    clear hb2
    go_wp2_with fail
    refine (HRF.out _ _ _ HBC.out (HBB.out _ HB2.out)).mono ?_
    rintro e w3 ⟨rfl, hb3⟩
    have HB3 := Lib.hid (below_then HB2.out hb3)
    clear hb3
    go_wp2_with fail
    refine (HLV.out _).mono ?_
    rintro e w4 ⟨rfl, hb4⟩
    have HB4 := Lib.hid (below_then HB3.out hb4)
    clear hb4
    go_wp2
    go_ret
    exact both_ret HB4.out
end Go.Proofs.YtojlcipphnegaaaGreat
