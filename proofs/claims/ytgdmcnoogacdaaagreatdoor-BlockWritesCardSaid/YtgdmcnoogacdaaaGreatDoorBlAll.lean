/- A block's calls, of a block: how many, labels, all series. -/
import Derived.Test.YtgdmcnoogacdaaaGreatDoorBlLotY
import Derived.Test.YtgdmcnoogacdaaaGreatDoorBlLotIdx
namespace Go.Proofs.YtgdmcnoogacdaaaGreatDoor
open Go.RowKit Go.Maps
open Ch
set_option linter.unusedVariables false
set_option linter.unusedSimpArgs false
set_option maxRecDepth 100000
theorem bllen_yes {w : World} {base X : Nat} {S : List Ser} (h : BlkAt w base X S) : Calls Tryz.prog 26 #[.pointer (some ⟨X, 0, none⟩)] w fun e w' => e = .returned (.int .i64 (S.length : Int)) ∧ Below w.heap.size w w' := by
  have hf0 := fld0
  have HIN := Lib.hid (inside_prog h)
  have hl : (blSets S).length = S.length := by simp [blSets]
  clear h
  go_enter Tryz.func26, Tryz.ntmps26
  go_wp2_with fail
  refine HIN.out.mono ?_
  rintro e w2 ⟨I, B, P, c, rfl, hB, hI, hQ, hb2⟩
  have HLN := Lib.hid (len_prog I (blSets S) B w2 hI)
  rw [hl] at HLN
  have HB2 := Lib.hid hb2
  clear hI hQ hb2 hl
  go_wp2_with fail
  refine HLN.out.mono ?_
  rintro e w3 ⟨rfl, rfl⟩
  go_wp2_with fail
  go_ret
  exact ⟨rfl, HB2.out⟩
theorem bllabels_yes {w : World} {base X : Nat} {S : List Ser} (h : BlkAt w base X S) (hr : blChk S = 0) (id : Nat) (hid : id < S.length) : Calls Tryz.prog 24 #[.pointer (some ⟨X, 0, none⟩), .int .i64 (id : Int)] w fun e w' => ∃ v, e = .returned (.tuple #[v, .int .i64 0]) ∧ OwnL w' w.heap.size v ((blSets S).getD id []) ∧ Below w.heap.size w w' := by
  have hf0 := fld0
  have HIN := Lib.hid (inside_prog h)
  have hl : id < (blSets S).length := by simp [blSets]; exact hid
  have HR := Lib.hid (blChk_zero.1 hr).2.2.1
  clear h hr
  go_enter Tryz.func24, Tryz.ntmps24
  go_wp2_with fail
  refine HIN.out.mono ?_
  rintro e w2 ⟨I, B, P, c, rfl, hB, hI, hQ, hb2⟩
  have HLN := Lib.hid (labels_yes I (blSets S) B w2 hI HR.out id hl)
  have HB2 := Lib.hid hb2
  clear hI hQ hb2 hl
  go_wp2_with fail
  refine HLN.out.mono ?_
  rintro e w3 ⟨v, rfl, ho, hb3⟩
  have HO := Lib.hid (ownl_lower ho HB2.out.size)
  have HB3 := Lib.hid (below_then HB2.out hb3)
  clear ho hb3
  go_wp2_with fail
  go_ret2
  exact ⟨_, rfl, HO.out, HB3.out⟩
/-- An own row of series, each with own rows of labels and samples. -/
def OwnSers (w : World) (base : Nat) (v : Value) (S : List Ser) : Prop :=
  ∃ ps : List SPl, ps.map (·.1) = S ∧ w.ownsRow base 65 2 v ps.length (ps.flatMap spE) ∧ ∀ x ∈ ps, OwnL w base (lsV x) x.1.1 ∧ OwnS w base (ssV x) x.1.2
theorem ownsers_nil (w : World) (base : Nat) : OwnSers w base (.slice none 0 0) [] := ⟨[], rfl, ⟨rfl, .inl ⟨rfl, rfl⟩⟩, fun q hq => by cases hq⟩
theorem ownsers_below {w w' : World} {base : Nat} {v : Value} {S : List Ser} (h : OwnSers w base v S) (hb : Below w.heap.size w w') : OwnSers w' base v S := by
  obtain ⟨ps, h1, h2, h3⟩ := h
  exact ⟨ps, h1, rows_below h2 hb, fun x hx => ⟨ownl_below (h3 x hx).1 hb, owns_below (h3 x hx).2 hb⟩⟩
theorem ownsers_lower {w : World} {base base' : Nat} {v : Value} {S : List Ser} (h : OwnSers w base v S) (hb : base' ≤ base) : OwnSers w base' v S := by
  obtain ⟨ps, h1, h2, h3⟩ := h
  exact ⟨ps, h1, rows_lower h2 hb, fun x hx => ⟨ownl_lower (h3 x hx).1 hb, owns_lower (h3 x hx).2 hb⟩⟩
theorem ownsers_slice {w : World} {base : Nat} {v : Value} {S : List Ser} (h : OwnSers w base v S) : ∃ P c, v = .slice P S.length c ∧ S.length ≤ c ∧ Sers w P S := by
  obtain ⟨ps, rfl, h2, h3⟩ := h
  obtain ⟨P, c, h4, h5, h6, _⟩ := rows_slice h2
  refine ⟨P, c, by rw [List.length_map]; exact h4, by rw [List.length_map]; exact h5, ps, rfl, h6, fun x hx => ?_⟩
  obtain ⟨a1, a2⟩ := h3 x hx
  obtain ⟨B, d, e1, e2, e3, _⟩ := ownl_slice a1
  obtain ⟨B', d', e1', e2', e3', _⟩ := owns_slice a2
  unfold lsV at e1
  unfold ssV at e1'
  obtain ⟨rfl, -, rfl⟩ := Value.slice.inj e1
  obtain ⟨rfl, -, rfl⟩ := Value.slice.inj e1'
  exact ⟨e3, e3', e2, e2'⟩
theorem ser_info : (Tryz.prog.info? 65).map (fun i => (i.zero, i.size, i.bytes)) = some (some (.agg #[.slice none 0 0, .slice none 0 0]), 2, 48) := by kernel_rfl
/-- append of one more series to an own row, at a walk's built-in. -/
theorem app_ser {w0 : World} {ops : Array Oper} {rest : List Oper} {o : Oper} {a : Act} {Q : Exit → Act → World → Prop} (hgd : o.guard = none) (s y : Operand)
    (ho : o.op = .call { callee := .builtin .append, args := #[s, y], argTypes := #[22, 22] })
    (base : Nat) (v : Value) (S : List Ser) (hs : a.eval s = v) (hF : OwnSers w0 base v S) (q : SPl) (c : Nat) (hx1 : OwnL w0 base (lsV q) q.1.1) (hx2 : OwnS w0 base (ssV q) q.1.2)
    (hy : a.eval y = .slice (some ⟨w0.heap.size, 0, none⟩) 1 c) (hn : S.length ≤ 2000000000000) (hbase : base ≤ w0.heap.size)
    (h : ∀ v' w', OwnSers w' base v' (S ++ [q.1]) → Below base w0 w' → w0.grownBy w' v.ownBlock → wpList Tryz.prog ops Q rest (a.put o.dst v') w') :
    wpList Tryz.prog ops Q (o :: rest) a (w0.alloc (.cells (spE q).toArray 65)) := by
  obtain ⟨i0, hi, hz0, hz1, hz2⟩ := info_parts ser_info
  have hA := below_one w0 (.cells (spE q).toArray 65)
  obtain ⟨qs, rfl, h2, h3⟩ := ownsers_below hF hA
  have hx1' := ownl_below hx1 hA
  have hx2' := owns_below hx2 hA
  rw [List.length_map] at hn
  refine wpList_app_at hgd s y 22 ho base 65 i0 _ 2 48 Tryz.underlying22 hi hz0 hz1 hz2 rfl (by omega) v qs.length (qs.flatMap spE) hs h2 (some ⟨w0.heap.size, 0, none⟩) 1 c (spE q) hy (by rw [spE_len]) (At.row (Row.new w0 _ _)) ?_
    (by simp only [maxLen]; omega) (by omega) (Nat.le_trans hbase hA.size) ?_
  · intro u hu
    simp only [spE, List.mem_cons, List.not_mem_nil, or_false] at hu
    rcases hu with rfl | rfl <;> rfl
  intro v' w' k1 k2 k3
  have hkeep : ∀ {e size n : Nat} {u : Value} {xs : List Value}, World.ownsRow (w0.alloc (.cells (spE q).toArray 65)) base e size u n xs → e ≠ 65 → w'.ownsRow base e size u n xs := fun {e size n u xs} hu he => by
    refine rows_move hu fun k hk => ?_
    rcases hu.2 with ⟨e1, _⟩ | ⟨g, cap, cur, e1, _, hh, _⟩
    · rw [e1] at hk; cases hk
    · rw [e1] at hk
      simp only [Value.ownBlock, Option.some.injEq] at hk
      subst hk
      exact k3.block g (Row.lt hh) fun e => rows_ne (show Row _ g _ _ from hh) h2 he e.symm
  refine h v' w' ⟨qs ++ [q], by simp, by rw [List.length_append, List.flatMap_append, List.flatMap_cons, List.flatMap_nil, List.append_nil]; exact k1, fun r hr => ?_⟩ ((hA.mono hbase).trans k2) (below_grown hA k3)
  rcases List.mem_append.1 hr with hr | hr
  · exact ⟨hkeep (h3 r hr).1 (by decide), hkeep (h3 r hr).2 (by decide)⟩
  · obtain rfl := List.mem_singleton.1 hr
    exact ⟨hkeep hx1' (by decide), hkeep hx2' (by decide)⟩
theorem keep_good {l : List Smp} (h : Ch.Good l) : l.filter (keepB 0 1099511627776) = l := by
  refine filter_none fun i hi => ?_
  have := good_at h hi
  unfold tOf at this
  unfold keepB
  rw [decide_eq_true this.1, decide_eq_true this.2.1]
  rfl
theorem ser_take (S : List Ser) {j : Nat} (h : j < S.length) : S.take (j + 1) = S.take j ++ [((blSets S).getD j [], (S.getD j ser0).2)] := by
  have e1 : (blSets S).getD j [] = S[j].1 := by simp [blSets, List.getD_eq_getElem?_getD, h]
  have e2 : (S.getD j ser0).2 = S[j].2 := by simp [List.getD_eq_getElem?_getD, h]
  rw [List.take_add_one, List.getElem?_eq_getElem h, e1, e2]
  rfl
set_option maxHeartbeats 4000000 in
theorem blall_yes {w : World} {base X : Nat} {S : List Ser} (h : BlkAt w base X S) (hr : blChk S = 0) : Calls Tryz.prog 20 #[.pointer (some ⟨X, 0, none⟩)] w fun e w' => ∃ v, e = .returned v ∧ OwnSers w' w.heap.size v S ∧ Below w.heap.size w w' := by
  have HLN := Lib.hid (bllen_yes h)
  have h256 := (blChk_zero.1 hr).1
  have HLB := Lib.hid (fun x (hx : Below w.heap.size w x) j hj => bllabels_yes (h.below hx) hr j hj)
  have HSL := Lib.hid (fun x (hx : Below w.heap.size w x) j (hj : j < S.length) => by
    have h1 := blselect_yes (h.below hx) hr j hj 0 1099511627776
    rw [keep_good (bl_at hr hj).1] at h1
    exact h1)
  have HST := Lib.hid (fun j (hj : j < S.length) => ser_take S hj)
  obtain ⟨n, hn⟩ : ∃ n, S.length = n := ⟨_, rfl⟩
  have HN := Lib.hid hn
  rw [hn] at HLN HLB HSL HST h256
  clear h hr hn
  go_enter Tryz.func20, Tryz.ntmps20
  go_wp2_with fail
  refine HLN.out.mono ?_
  rintro e w2 ⟨rfl, hb2⟩
  have HB2 := Lib.hid hb2
  clear hb2
  go_wp2_with fail
  go_loopw [3, 11] (fun l i wr => ∃ j : Nat, j ≤ n ∧ i = .int .i64 (j : Int) ∧ OwnSers wr w.heap.size l (S.take j) ∧ Below w.heap.size w wr) (fun _ i _ => n - (intOf i).toNat)
  case atStart => exact ⟨0, Nat.zero_le _, rfl, ownsers_nil _ _, HB2.out⟩
  case round =>
    obtain ⟨j, hj, rfl, hO, hbr⟩ := hrel
    by_cases hlt : j < n
    · have i1 : decide ((j : Int) < (n : Int)) = true := decide_eq_true (by omega)
      have i2 : (j : Int) < (n : Int) := by omega
      have HO := Lib.hid hO
      have HB := Lib.hid hbr
      have HL1 := Lib.hid (HLB.out wr hbr j hlt)
      have HS1 := Lib.hid (fun x hx => HSL.out x hx j hlt)
      have HTK := Lib.hid (HST.out j hlt)
      have HJ := Lib.hid (show j + 1 ≤ n from hlt)
      have HTL := Lib.hid (show (S.take j).length ≤ 256 by rw [List.length_take]; omega)
      obtain ⟨ls, hls⟩ : ∃ ls, (blSets S).getD j [] = ls := ⟨_, rfl⟩
      obtain ⟨ss, hss⟩ : ∃ ss, (S.getD j ser0).2 = ss := ⟨_, rfl⟩
      have hss' : (S.getD j ([], [])).2 = ss := hss
      rw [hls] at HL1 HTK
      rw [hss] at HTK
      rw [hss'] at HS1
      clear hO hbr hls hss hss'
      go_wp2_with fail
      refine HL1.out.mono ?_
      rintro e w3 ⟨v3, rfl, ho3, hb3⟩
      obtain ⟨P3, c3, hv3, _⟩ := ownl_slice ho3
      have HO3 := Lib.hid (ownsers_below HO.out hb3)
      have HL3 := Lib.hid (ownl_lower ho3 HB.out.size)
      have HB3 := Lib.hid (below_then HB.out hb3)
      subst hv3
      clear ho3 hb3
      go_wp2_with fail
      refine (HS1.out _ HB3.out).mono ?_
      rintro e w4 ⟨v4, rfl, ho4, hb4⟩
      obtain ⟨P4, c4, hv4, _⟩ := owns_slice ho4
      have HO4 := Lib.hid (ownsers_below HO3.out hb4)
      have HL4 := Lib.hid (ownl_below HL3.out hb4)
      have HS4 := Lib.hid (owns_lower ho4 HB3.out.size)
      have HB4 := Lib.hid (below_then HB3.out hb4)
      subst hv4
      clear ho4 hb4
      have HV4 := Lib.hid (show OwnL w4 w.heap.size (lsV ((ls, ss), ⟨P3, c3, P4, c4⟩)) ls ∧ OwnS w4 w.heap.size (ssV ((ls, ss), ⟨P3, c3, P4, c4⟩)) ss from ⟨HL4.out, HS4.out⟩)
      go_wp2_with (at_builtin; refine app_ser rfl (.tmp 26) (.tmp 30) rfl w.heap.size _ (S.take j) rfl HO4.out ((ls, ss), ⟨P3, c3, P4, c4⟩) 1 HV4.out.1 HV4.out.2 rfl (by have := HTL.out; omega) HB4.out.size ?_; intro v5 w5 ho5 hb5 hg5; have HO5 := Lib.hid (show OwnSers w5 w.heap.size v5 (S.take (j + 1)) by rw [HTK.out]; exact ho5); have HB5 := Lib.hid (HB4.out.trans hb5); clear ho5 hb5 hg5)
      go_roundw
      case rel => exact ⟨j + 1, HJ.out, by go_num, HO5.out, HB5.out⟩
      case measure => simp [intOf]; omega
    · have hjn : j = S.length := by rw [HN.out]; omega
      rw [hjn, List.take_length] at hO
      have i1 : decide ((j : Int) < (n : Int)) = false := decide_eq_false (by omega)
      have i2 : ¬ (j : Int) < (n : Int) := by omega
      have HO := Lib.hid hO
      have HB := Lib.hid hbr
      clear hO hbr hjn
      go_wp2_with fail
      go_ret
      exact ⟨_, rfl, HO.out, HB.out⟩
end Go.Proofs.YtgdmcnoogacdaaaGreatDoor
