/- Series in rows of the law's own. -/
import Derived.Test.YtgdmcnoogacdaaaGreatDoorBlAll
import Derived.Test.YtgdmcnoogacdaaaGreatDoorIxHeld
namespace Go.Proofs.YtgdmcnoogacdaaaGreatDoor
open Go.RowKit Go.Maps
open Ch
set_option linter.unusedVariables false
set_option linter.unusedSimpArgs false
set_option maxRecDepth 100000
theorem rows_far {w w' : World} {base e size n base2 e2 size2 n2 : Nat} {v v2 : Value} {xs xs2 : List Value} (h : w.ownsRow base e size v n xs) (hg : w.grownBy w' v2.ownBlock) (h2 : w.ownsRow base2 e2 size2 v2 n2 xs2) (he : e ≠ e2) : w'.ownsRow base e size v n xs := by
  refine rows_move h fun k hk => ?_
  rcases h.2 with ⟨e1, _⟩ | ⟨g, cap, cur, e1, _, hh, _⟩
  · rw [e1] at hk; cases hk
  · rw [e1] at hk
    simp only [Value.ownBlock, Option.some.injEq] at hk
    subst hk
    exact hg.block g (Row.lt hh) fun e' => rows_ne (show Row _ g _ _ from hh) h2 he e'.symm
theorem step_app_lb {w : World} {ops : Array Oper} {o : Oper} {a : Act} {K : Act → World → Prop} {Q : Exit → Act → World → Prop} {E : Prop} (hgd : o.guard = none) (s y : Operand)
    (ho : o.op = .call { callee := .builtin .append, args := #[s, y], argTypes := #[56, 56] })
    (base : Nat) (v : Value) (x : List Lbl) (hs : a.eval s = v) (hown : OwnL w base v x) (A : Option Addr) (l : List Lbl) (c : Nat) (hy : a.eval y = .slice A l.length c) (hA : Lbls w A l) (hn : (x.length + l.length) * 32 ≤ 140737488355328) (hbase : base ≤ w.heap.size)
    (h : ∀ v' w', OwnL w' base v' (x ++ l) → Below base w w' → w.grownBy w' v.ownBlock → K (a.put o.dst v') w') : if Region.wanted o (yielded ops a.tmps) = true then Oper.wp Tryz.prog o a w K Q else E := by
  obtain ⟨i0, hi, hz0, hz1, hz2⟩ := info_parts label_info
  refine step_app_at hgd s y 56 ho base 118 i0 _ 2 32 Tryz.underlying56 hi hz0 hz1 hz2 rfl (by omega) v x.length (x.flatMap lblE) hs hown A l.length c (l.flatMap lblE) hy (flat_len lblE 2 lblE_len l) hA (lbl_one l)
    (by simp only [maxLen]; omega) hn hbase ?_
  intro v' w' h1 h2 h3
  refine h v' w' ?_ h2 h3
  unfold OwnL
  rw [List.flatMap_append, List.length_append]
  exact h1
theorem step_app_smB {w : World} {ops : Array Oper} {o : Oper} {a : Act} {K : Act → World → Prop} {Q : Exit → Act → World → Prop} {E : Prop} (hgd : o.guard = none) (s y : Operand)
    (ho : o.op = .call { callee := .builtin .append, args := #[s, y], argTypes := #[49, 49] })
    (base : Nat) (v : Value) (x : List Smp) (hs : a.eval s = v) (hown : OwnS w base v x) (A : Option Addr) (l : List Smp) (c : Nat) (hy : a.eval y = .slice A l.length c) (hA : Smps w A l) (hn : (x.length + l.length) * 16 ≤ 140737488355328) (hbase : base ≤ w.heap.size)
    (h : ∀ v' w', OwnS w' base v' (x ++ l) → Below base w w' → w.grownBy w' v.ownBlock → K (a.put o.dst v') w') : if Region.wanted o (yielded ops a.tmps) = true then Oper.wp Tryz.prog o a w K Q else E := by
  obtain ⟨i0, hi, hz0, hz1, hz2⟩ := info_parts sample_info
  refine step_app_at hgd s y 49 ho base 83 i0 _ 2 16 Tryz.underlying49 hi hz0 hz1 hz2 rfl (by omega) v x.length (x.flatMap smpE) hs hown A l.length c (l.flatMap smpE) hy (flat_len smpE 2 smpE_len l) hA (smp_one l)
    (by simp only [maxLen]; omega) hn hbase ?_
  intro v' w' h1 h2 h3
  refine h v' w' ?_ h2 h3
  unfold OwnS
  rw [List.flatMap_append, List.length_append]
  exact h1
theorem step_app_sr {w0 : World} {ops : Array Oper} {o : Oper} {a : Act} {K : Act → World → Prop} {Q0 : Exit → Act → World → Prop} {E : Prop} (hgd : o.guard = none) (s y : Operand)
    (ho : o.op = .call { callee := .builtin .append, args := #[s, y], argTypes := #[22, 22] })
    (base : Nat) (v : Value) (S : List Ser) (hs : a.eval s = v) (hF : OwnSers w0 base v S) (ls : List Lbl) (ss : List Smp) (P1 P2 : Option Addr) (d1 d2 l1 l2 : Nat) (e1 : ls.length = l1) (e2 : ss.length = l2) (c : Nat) (hx1 : OwnL w0 base (.slice P1 ls.length d1) ls) (hx2 : OwnS w0 base (.slice P2 ss.length d2) ss)
    (hy : a.eval y = .slice (some ⟨w0.heap.size, 0, none⟩) 1 c) (hn : (S.length + 1) * 48 ≤ 140737488355328) (hbase : base ≤ w0.heap.size)
    (h : ∀ v' w', OwnSers w' base v' (S ++ [(ls, ss)]) → Below base w0 w' → K (a.put o.dst v') w') :
    if Region.wanted o (yielded ops a.tmps) = true then Oper.wp Tryz.prog o a (w0.alloc (.cells #[.slice P1 l1 d1, .slice P2 l2 d2] 65)) K Q0 else E := by
  subst e1 e2
  obtain ⟨i0, hi, hz0, hz1, hz2⟩ := info_parts ser_info
  have hA := below_one w0 (.cells (spE ((ls, ss), ⟨P1, d1, P2, d2⟩)).toArray 65)
  obtain ⟨qs, rfl, h2, h3⟩ := ownsers_below hF hA
  have hx1' := ownl_below hx1 hA
  have hx2' := owns_below hx2 hA
  rw [List.length_map] at hn
  refine step_app_at hgd s y 22 ho base 65 i0 _ 2 48 Tryz.underlying22 hi hz0 hz1 hz2 rfl (by omega) v qs.length (qs.flatMap spE) hs h2 (some ⟨w0.heap.size, 0, none⟩) 1 c (spE ((ls, ss), ⟨P1, d1, P2, d2⟩)) hy (by rw [spE_len]) (At.row (Row.new w0 _ _)) ?_
    (by simp only [maxLen]; omega) (by omega) (Nat.le_trans hbase hA.size) ?_
  · intro u hu
    simp only [spE, List.mem_cons, List.not_mem_nil, or_false] at hu
    rcases hu with rfl | rfl <;> rfl
  intro v' w' k1 k2 k3
  refine h v' w' ⟨qs ++ [((ls, ss), ⟨P1, d1, P2, d2⟩)], by simp, by rw [List.length_append, List.flatMap_append, List.flatMap_cons, List.flatMap_nil, List.append_nil]; exact k1, fun r hr => ?_⟩ ((hA.mono hbase).trans k2)
  rcases List.mem_append.1 hr with hr | hr
  · exact ⟨rows_far (h3 r hr).1 k3 h2 (by decide), rows_far (h3 r hr).2 k3 h2 (by decide)⟩
  · obtain rfl := List.mem_singleton.1 hr
    exact ⟨rows_far hx1' k3 h2 (by decide), rows_far hx2' k3 h2 (by decide)⟩
set_option maxHeartbeats 8000000 in
theorem own12_prog (A : Option Addr) (S : List Ser) (c : Nat) (w : World) (hA : Sers w A S) (hf : ∀ s ∈ S, SerFit s) (hl : S.length * 48 ≤ 140737488351232) :
    Calls Tryz.prog 10 #[.slice A S.length c] w fun e w' => ∃ v, e = .returned v ∧ OwnSers w' w.heap.size v S ∧ Below w.heap.size w w' := by
  have HA := Lib.hid hA
  have HF := Lib.hid hf
  have HST := Lib.hid (fun j (hj : j < S.length) => ser_take S hj)
  obtain ⟨n, hn⟩ : ∃ n, S.length = n := ⟨_, rfl⟩
  have HN := Lib.hid hn
  rw [hn] at hl HST ⊢
  clear hA hf hn
  go_enter Tryz.func10, Tryz.ntmps10
  go_wp2_with fail
  go_loopw [3, 4] (fun v i wr => ∃ k : Nat, k ≤ n ∧ i = .int .i64 (k : Int) ∧ OwnSers wr w.heap.size v (S.take k) ∧ Below w.heap.size w wr) (fun _ i _ => n - (intOf i).toNat)
  case atStart => exact ⟨0, Nat.zero_le _, rfl, ownsers_nil _ _, Below.refl _ _⟩
  case round =>
    obtain ⟨k, hk, rfl, hO, hbr⟩ := hrel
    by_cases hlt : k < n
    · obtain ⟨b, o, rfl, hb, hat⟩ := HA.out.all (by rw [HN.out]; omega)
      obtain ⟨mm, hsa⟩ := hat k (by rw [HN.out]; exact hlt)
      have hs := HF.out _ (ser_at (S := S) (i := k) (by rw [HN.out]; exact hlt))
      have i1 : decide ((k : Int) < (n : Int)) = true := decide_eq_true (by omega)
      have i2 : (k : Int) < (n : Int) := by omega
      have i0 : 0 ≤ (k : Int) := by omega
      have HK := Lib.hid (show k + 1 ≤ n from hlt)
      have hD : Below w.heap.size w wr.drew := hbr.drew
      have HBD := Lib.hid hD
      have HAC := Lib.hid (show OwnSers wr.drew w.heap.size _ (S.take k) from ownsers_below hO (below_drewN' (Below.refl _ _) 1))
      have HZ0 := Lib.hid (Below.refl wr.drew.heap.size wr.drew)
      have HSA := Lib.hid (show ∀ x, Below w.heap.size w x → x.cell? ⟨b, o + k * 2, none⟩ = some (.slice mm.la (S.getD k ser0).1.length mm.lc) ∧ x.cell? ⟨b, o + k * 2 + 1, none⟩ = some (.slice mm.sa (S.getD k ser0).2.length mm.sc) ∧ SerIn x (S.getD k ser0, mm) from fun x hx => hsa.below hx hb)
      have hst : S.take (k + 1) = S.take k ++ [((S.getD k ser0).1, (S.getD k ser0).2)] := by
        rw [HST.out k hlt]
        have : (blSets S).getD k [] = (S.getD k ser0).1 := by simp [blSets, List.getD_eq_getElem?_getD, show k < S.length by rw [HN.out]; exact hlt]
        rw [this]
      have hll := hs.ll
      have hsl := hs.sl
      have HLX := Lib.hid (fun x (hx : Below w.heap.size w x) => (show Lbls x mm.la (S.getD k ser0).1 from (HSA.out x hx).2.2.labels))
      have HSX := Lib.hid (fun x (hx : Below w.heap.size w x) => (show Smps x mm.sa (S.getD k ser0).2 from (HSA.out x hx).2.2.samples))
      have HCE := Lib.hid (fun x (hx : Below w.heap.size w x) => And.intro (HSA.out x hx).1 (HSA.out x hx).2.1)
      have HTL := Lib.hid (show ((S.take k).length + 1) * 48 ≤ 140737488355328 by rw [List.length_take]; omega)
      clear hat hsa hs HSA hbr hD hO
      generalize (S.getD k ser0).1 = ls at *
      generalize (S.getD k ser0).2 = ss at *
      have HTK := Lib.hid hst
      have HFT1 := Lib.hid (show (([] : List Lbl).length + ls.length) * 32 ≤ 140737488355328 by simp only [List.length_nil]; omega)
      have HFT2 := Lib.hid (show (([] : List Smp).length + ss.length) * 16 ≤ 140737488355328 by simp only [List.length_nil]; omega)
      obtain ⟨l1, hl1⟩ : ∃ l1, ls.length = l1 := ⟨_, rfl⟩
      obtain ⟨l2, hl2⟩ : ∃ l2, ss.length = l2 := ⟨_, rfl⟩
      have HL1E := Lib.hid hl1
      have HL2E := Lib.hid hl2
      have HL1V := Lib.hid (show Value.slice mm.la l1 mm.lc = Value.slice mm.la ls.length mm.lc by rw [hl1])
      have HL2V := Lib.hid (show Value.slice mm.sa l2 mm.sc = Value.slice mm.sa ss.length mm.sc by rw [hl2])
      rw [hl1, hl2] at HCE
      clear hl1 hl2 hst hll hsl
      go_upto_region 5 with fail
      refine wp_region_held_drew (S := fun w' => w'.cell? ⟨b, o + k * 2, none⟩ = some (.slice mm.la l1 mm.lc) ∧ w'.cell? ⟨b, o + k * 2 + 1, none⟩ = some (.slice mm.sa l2 mm.sc)) (by kernel_rfl) ?_ (fun hHeld => ?_)
      · exact HCE.out _ HBD.out
      refine wpAnyH_take (i := 0) (oi := { dst := some 11, op := Go.Op.move (Go.Operand.tmp 3), type := 22, pos := "law.go:35", after := #[], guard := none }) (v := ?_) rfl (by kernel_rfl) (by kernel_rfl) (by kernel_rfl) (fun _ _ _ h => h) (Or.inl ⟨by rfl, ?_⟩) (by assumption) ?_
      rotate_left 1
      · (intro w hSw; (try dsimp only at hSw); go_simp; try with_reducible rfl)
      try simp only [Act.put, List.setIfInBounds_toArray, List.set_cons_zero, List.set_cons_succ]
      refine wpAnyH_take (i := 2) (oi := { dst := some 13, op := Go.Op.move (Go.Operand.tmp 0), type := 22, pos := "law.go:35", after := #[], guard := none }) (v := ?_) rfl (by kernel_rfl) (by kernel_rfl) (by kernel_rfl) (fun _ _ _ h => h) (Or.inl ⟨by rfl, ?_⟩) (by assumption) ?_
      rotate_left 1
      · (intro w hSw; (try dsimp only at hSw); go_simp; try with_reducible rfl)
      try simp only [Act.put, List.setIfInBounds_toArray, List.set_cons_zero, List.set_cons_succ]
      refine wpAnyH_take (i := 3) (oi := { dst := some 14, op := Go.Op.move (Go.Operand.tmp 4), type := 3, pos := "law.go:35", after := #[], guard := none }) (v := ?_) rfl (by kernel_rfl) (by kernel_rfl) (by kernel_rfl) (fun _ _ _ h => h) (Or.inl ⟨by rfl, ?_⟩) (by assumption) ?_
      rotate_left 1
      · (intro w hSw; (try dsimp only at hSw); go_simp; try with_reducible rfl)
      try simp only [Act.put, List.setIfInBounds_toArray, List.set_cons_zero, List.set_cons_succ]
      refine wpAnyH_take (i := 4) (oi := { dst := some 15, op := Go.Op.indexAddr 22 (Go.Operand.tmp 13) (Go.Operand.tmp 14), type := 0, pos := "law.go:35", after := #[{ on := 2, ground := Go.Ground.data }, { on := 3, ground := Go.Ground.data }], guard := none }) (v := ?_) rfl (by kernel_rfl) (by kernel_rfl) (by kernel_rfl) (fun _ _ _ h => h) (Or.inl ⟨by rfl, ?_⟩) (by assumption) ?_
      rotate_left 1
      · (intro w hSw; (try dsimp only at hSw); go_simp; try with_reducible rfl)
      try simp only [Act.put, List.setIfInBounds_toArray, List.set_cons_zero, List.set_cons_succ]
      refine wpAnyH_take (i := 5) (oi := { dst := some 16, op := Go.Op.fieldAddr 65 (Go.Operand.tmp 15) 0, type := 0, pos := "law.go:35", after := #[{ on := 4, ground := Go.Ground.data }], guard := none }) (v := ?_) rfl (by kernel_rfl) (by kernel_rfl) (by kernel_rfl) (fun _ _ _ h => h) (Or.inl ⟨by rfl, ?_⟩) (by assumption) ?_
      rotate_left 1
      · (intro w hSw; (try dsimp only at hSw); go_simp; try with_reducible rfl)
      try simp only [Act.put, List.setIfInBounds_toArray, List.set_cons_zero, List.set_cons_succ]
      refine wpAnyH_take (i := 6) (oi := { dst := some 17, op := Go.Op.load 56 (Go.Operand.tmp 16), type := 56, pos := "law.go:35", after := #[{ on := 5, ground := Go.Ground.data }], guard := none }) (v := ?_) rfl (by kernel_rfl) (by kernel_rfl) (by kernel_rfl) (fun _ _ _ h => h) (Or.inl ⟨by rfl, ?_⟩) (by assumption) ?_
      rotate_left 1
      · (intro w hSw; (try dsimp only at hSw); go_simp; try with_reducible rfl)
      try simp only [Act.put, List.setIfInBounds_toArray, List.set_cons_zero, List.set_cons_succ]
      refine wpAnyH_take (i := 9) (oi := { dst := some 20, op := Go.Op.move (Go.Operand.tmp 0), type := 22, pos := "law.go:35", after := #[], guard := none }) (v := ?_) rfl (by kernel_rfl) (by kernel_rfl) (by kernel_rfl) (fun _ _ _ h => h) (Or.inl ⟨by rfl, ?_⟩) (by assumption) ?_
      rotate_left 1
      · (intro w hSw; (try dsimp only at hSw); go_simp; try with_reducible rfl)
      try simp only [Act.put, List.setIfInBounds_toArray, List.set_cons_zero, List.set_cons_succ]
      refine wpAnyH_take (i := 10) (oi := { dst := some 21, op := Go.Op.move (Go.Operand.tmp 4), type := 3, pos := "law.go:35", after := #[], guard := none }) (v := ?_) rfl (by kernel_rfl) (by kernel_rfl) (by kernel_rfl) (fun _ _ _ h => h) (Or.inl ⟨by rfl, ?_⟩) (by assumption) ?_
      rotate_left 1
      · (intro w hSw; (try dsimp only at hSw); go_simp; try with_reducible rfl)
      try simp only [Act.put, List.setIfInBounds_toArray, List.set_cons_zero, List.set_cons_succ]
      refine wpAnyH_take (i := 11) (oi := { dst := some 22, op := Go.Op.indexAddr 22 (Go.Operand.tmp 20) (Go.Operand.tmp 21), type := 0, pos := "law.go:35", after := #[{ on := 9, ground := Go.Ground.data }, { on := 10, ground := Go.Ground.data }], guard := none }) (v := ?_) rfl (by kernel_rfl) (by kernel_rfl) (by kernel_rfl) (fun _ _ _ h => h) (Or.inl ⟨by rfl, ?_⟩) (by assumption) ?_
      rotate_left 1
      · (intro w hSw; (try dsimp only at hSw); go_simp; try with_reducible rfl)
      try simp only [Act.put, List.setIfInBounds_toArray, List.set_cons_zero, List.set_cons_succ]
      refine wpAnyH_take (i := 12) (oi := { dst := some 23, op := Go.Op.fieldAddr 65 (Go.Operand.tmp 22) 1, type := 0, pos := "law.go:35", after := #[{ on := 11, ground := Go.Ground.data }], guard := none }) (v := ?_) rfl (by kernel_rfl) (by kernel_rfl) (by kernel_rfl) (fun _ _ _ h => h) (Or.inl ⟨by rfl, ?_⟩) (by assumption) ?_
      rotate_left 1
      · (intro w hSw; (try dsimp only at hSw); go_simp; try with_reducible rfl)
      try simp only [Act.put, List.setIfInBounds_toArray, List.set_cons_zero, List.set_cons_succ]
      refine wpAnyH_take (i := 13) (oi := { dst := some 24, op := Go.Op.load 49 (Go.Operand.tmp 23), type := 49, pos := "law.go:35", after := #[{ on := 12, ground := Go.Ground.data }], guard := none }) (v := ?_) rfl (by kernel_rfl) (by kernel_rfl) (by kernel_rfl) (fun _ _ _ h => h) (Or.inl ⟨by rfl, ?_⟩) (by assumption) ?_
      rotate_left 1
      · (intro w hSw; (try dsimp only at hSw); go_simp; try with_reducible rfl)
      try simp only [Act.put, List.setIfInBounds_toArray, List.set_cons_zero, List.set_cons_succ]
      refine wpAnyH_ready (rs := [1, 8]) (by kernel_rfl) (by simp) ?_
      refine AllReadyH.cons (o := { dst := some 12, op := Go.Op.buildSlice 56 0 #[], type := 56, pos := "law.go:35", after := #[], guard := none }) rfl (fun K hK => ?_) (AllReadyH.cons (o := { dst := some 19, op := Go.Op.buildSlice 49 0 #[], type := 49, pos := "law.go:35", after := #[], guard := none }) rfl (fun K hK => ?_) AllReadyH.nil)
      · go_simp
        have HZ1 := Lib.hid (HZ0.out.alloc HZ0.out.size (.cells #[] 118))
        have HF1_1 := Lib.hid (ownl_empty (base := wr.drew.heap.size) (Row.new (wr.drew) 118 #[]) HZ0.out.size)
        refine hK.out _ _ ?_ (fun hHeld => ?_)
        · exact HCE.out _ (HBD.out.trans (HZ1.out.mono HBD.out.size))
        clear hK K
        try simp only [Act.put, List.setIfInBounds_toArray, List.set_cons_zero, List.set_cons_succ]
        refine wpAnyH_ready (rs := [7, 8]) (by kernel_rfl) (by simp) ?_
        refine AllReadyH.cons (o := { dst := some 18, op := Go.Op.call { callee := Go.Callee.builtin Go.Builtin.append, args := #[Go.Operand.tmp 12, Go.Operand.tmp 17], argTypes := #[56, 56] }, type := 56, pos := "law.go:35", after := #[{ on := 1, ground := Go.Ground.data }, { on := 6, ground := Go.Ground.data }], guard := none }) rfl (fun K hK => ?_) (AllReadyH.cons (o := { dst := some 19, op := Go.Op.buildSlice 49 0 #[], type := 49, pos := "law.go:35", after := #[], guard := none }) rfl (fun K hK => ?_) AllReadyH.nil)
        · refine step_app_lb rfl (.tmp 12) (.tmp 17) rfl wr.drew.heap.size _ [] rfl HF1_1.out mm.la ls mm.lc HL1V.out (HLX.out _ (HBD.out.trans (HZ1.out.mono HBD.out.size))) HFT1.out HZ1.out.size ?_
          intro v7 w7 ho7 hb7 hg7
          rw [List.nil_append] at ho7
          have HZ2 := Lib.hid (HZ1.out.trans hb7)
          obtain ⟨P7, c7, hv7, _⟩ := ownl_slice ho7
          rw [HL1E.out] at hv7
          subst hv7
          have HF7_2 := Lib.hid ho7
          clear ho7 hb7 hg7
          refine hK.out _ _ ?_ (fun hHeld => ?_)
          · exact HCE.out _ (HBD.out.trans (HZ2.out.mono HBD.out.size))
          clear hK K
          try simp only [Act.put, List.setIfInBounds_toArray, List.set_cons_zero, List.set_cons_succ]
          refine wpAnyH_ready (rs := [8]) (by kernel_rfl) (by simp) ?_
          refine AllReadyH.cons (o := { dst := some 19, op := Go.Op.buildSlice 49 0 #[], type := 49, pos := "law.go:35", after := #[], guard := none }) rfl (fun K hK => ?_) AllReadyH.nil
          go_simp
          have HZ3 := Lib.hid (HZ2.out.alloc HZ2.out.size (.cells #[] 83))
          have HF7_3 := Lib.hid (ownl_below HF7_2.out (below_one _ (.cells #[] 83)))
          have HF8_3 := Lib.hid (owns_empty (base := wr.drew.heap.size) (Row.new (w7) 83 #[]) HZ2.out.size)
          refine hK.out _ _ ?_ (fun hHeld => ?_)
          · exact HCE.out _ (HBD.out.trans (HZ3.out.mono HBD.out.size))
          clear hK K
          try simp only [Act.put, List.setIfInBounds_toArray, List.set_cons_zero, List.set_cons_succ]
          refine wpAnyH_ready (rs := [14]) (by kernel_rfl) (by simp) ?_
          refine AllReadyH.cons (o := { dst := some 25, op := Go.Op.call { callee := Go.Callee.builtin Go.Builtin.append, args := #[Go.Operand.tmp 19, Go.Operand.tmp 24], argTypes := #[49, 49] }, type := 49, pos := "law.go:35", after := #[{ on := 8, ground := Go.Ground.data }, { on := 13, ground := Go.Ground.data }, { on := 7, ground := Go.Ground.chain }], guard := none }) rfl (fun K hK => ?_) AllReadyH.nil
          refine step_app_smB rfl (.tmp 19) (.tmp 24) rfl wr.drew.heap.size _ [] rfl HF8_3.out mm.sa ss mm.sc HL2V.out (HSX.out _ (HBD.out.trans (HZ3.out.mono HBD.out.size))) HFT2.out HZ3.out.size ?_
          intro v14 w14 ho14 hb14 hg14
          rw [List.nil_append] at ho14
          have HZ4 := Lib.hid (HZ3.out.trans hb14)
          have HF7_4 := Lib.hid (show OwnL w14 wr.drew.heap.size _ ls from rows_far HF7_3.out hg14 HF8_3.out (by decide))
          obtain ⟨P14, c14, hv14, _⟩ := owns_slice ho14
          rw [HL2E.out] at hv14
          subst hv14
          have HF14 := Lib.hid ho14
          clear ho14 hb14 hg14
          refine hK.out _ _ ?_ (fun hHeld => ?_)
          · exact HCE.out _ (HBD.out.trans (HZ4.out.mono HBD.out.size))
          clear hK K
          try simp only [Act.put, List.setIfInBounds_toArray, List.set_cons_zero, List.set_cons_succ]
          have HAX := Lib.hid (ownsers_below HAC.out HZ4.out)
          have HBE := Lib.hid (HBD.out.trans (HZ4.out.mono HBD.out.size))
          have HV := Lib.hid (show OwnL w14 w.heap.size (.slice P7 ls.length c7) ls ∧ OwnS w14 w.heap.size (.slice P14 ss.length c14) ss from ⟨by rw [HL1E.out]; exact ownl_lower HF7_4.out HBD.out.size, by rw [HL2E.out]; exact owns_lower HF14.out HBD.out.size⟩)
          refine wpAnyH_take (i := 15) (oi := { dst := some 26, op := Go.Op.build 65 #[(0, Go.Operand.tmp 18), (1, Go.Operand.tmp 25)], type := 65, pos := "law.go:35", after := #[{ on := 7, ground := Go.Ground.data }, { on := 14, ground := Go.Ground.data }], guard := none }) (v := ?_) rfl (by kernel_rfl) (by kernel_rfl) (by kernel_rfl) (fun _ _ _ h => h) (Or.inl ⟨by rfl, ?_⟩) (by assumption) ?_
          rotate_left 1
          · (intro w hSw; (try dsimp only at hSw); go_simp; try with_reducible rfl)
          try simp only [Act.put, List.setIfInBounds_toArray, List.set_cons_zero, List.set_cons_succ]
          refine wpAnyH_ready (rs := [16]) (by kernel_rfl) (by simp) ?_
          refine AllReadyH.cons (o := { dst := some 27, op := Go.Op.buildSlice 22 1 #[(0, Go.Operand.tmp 26)], type := 22, pos := "law.go:35", after := #[{ on := 15, ground := Go.Ground.data }], guard := none }) rfl (fun K hK => ?_) AllReadyH.nil
          go_simp
          refine hK.out _ _ ?_ (fun hHeld => ?_)
          · exact HCE.out _ (HBE.out.alloc HBE.out.size _)
          clear hK K
          try simp only [Act.put, List.setIfInBounds_toArray, List.set_cons_zero, List.set_cons_succ]
          refine wpAnyH_ready (rs := [17]) (by kernel_rfl) (by simp) ?_
          refine AllReadyH.cons (o := { dst := some 28, op := Go.Op.call { callee := Go.Callee.builtin Go.Builtin.append, args := #[Go.Operand.tmp 11, Go.Operand.tmp 27], argTypes := #[22, 22] }, type := 22, pos := "law.go:35", after := #[{ on := 0, ground := Go.Ground.data }, { on := 16, ground := Go.Ground.data }, { on := 14, ground := Go.Ground.chain }], guard := none }) rfl (fun K hK => ?_) AllReadyH.nil
          refine step_app_sr rfl (.tmp 11) (.tmp 27) rfl w.heap.size _ (S.take k) rfl HAX.out ls ss P7 P14 c7 c14 l1 l2 HL1E.out HL2E.out 1 HV.out.1 HV.out.2 rfl HTL.out HBE.out.size ?_
          intro v17 w17 ho17 hb17
          have HO17 := Lib.hid (show OwnSers w17 w.heap.size v17 (S.take (k + 1)) by rw [HTK.out]; exact ho17)
          have HB17 := Lib.hid (HBE.out.trans hb17)
          refine hK.out _ _ ?_ (fun hHeld => ?_)
          · exact HCE.out _ HB17.out
          clear hK K ho17 hb17
          try simp only [Act.put, List.setIfInBounds_toArray, List.set_cons_zero, List.set_cons_succ]
          refine wpAnyH_take (i := 18) (oi := { dst := some 3, op := Go.Op.assign (Go.Operand.tmp 28), type := 22, pos := "law.go:35", after := #[{ on := 17, ground := Go.Ground.data }, { on := 17, ground := Go.Ground.chain }, { on := 0, ground := Go.Ground.phase }, { on := 1, ground := Go.Ground.phase }, { on := 2, ground := Go.Ground.phase }, { on := 3, ground := Go.Ground.phase }, { on := 4, ground := Go.Ground.phase }, { on := 5, ground := Go.Ground.phase }, { on := 6, ground := Go.Ground.phase }, { on := 7, ground := Go.Ground.phase }, { on := 8, ground := Go.Ground.phase }, { on := 9, ground := Go.Ground.phase }, { on := 10, ground := Go.Ground.phase }, { on := 11, ground := Go.Ground.phase }, { on := 12, ground := Go.Ground.phase }, { on := 13, ground := Go.Ground.phase }, { on := 14, ground := Go.Ground.phase }, { on := 15, ground := Go.Ground.phase }, { on := 16, ground := Go.Ground.phase }, { on := 17, ground := Go.Ground.phase }], guard := none }) (v := ?_) rfl (by kernel_rfl) (by kernel_rfl) (by kernel_rfl) (fun _ _ _ h => h) (Or.inl ⟨by rfl, ?_⟩) (by assumption) ?_
          rotate_left 1
          · (intro w hSw; (try dsimp only at hSw); go_simp; try with_reducible rfl)
          try simp only [Act.put, List.setIfInBounds_toArray, List.set_cons_zero, List.set_cons_succ]
          refine wpAnyH_done (by kernel_rfl) ?_ _
          go_wp2_with fail
          go_roundw
          case rel => exact ⟨k + 1, HK.out, by go_num, HO17.out, HB17.out⟩
          case measure => simp [intOf]; omega
        · go_simp
          have HZ5 := Lib.hid (HZ1.out.alloc HZ1.out.size (.cells #[] 83))
          have HF1_5 := Lib.hid (ownl_below HF1_1.out (below_one _ (.cells #[] 83)))
          have HF8_5 := Lib.hid (owns_empty (base := wr.drew.heap.size) (Row.new ((wr.drew).alloc (.cells #[] 118)) 83 #[]) HZ1.out.size)
          rw [show ((wr.drew).alloc (.cells #[] 118)).heap.size = wr.heap.size + 1 from by simp] at HF8_5
          refine hK.out _ _ ?_ (fun hHeld => ?_)
          · exact HCE.out _ (HBD.out.trans (HZ5.out.mono HBD.out.size))
          clear hK K
          try simp only [Act.put, List.setIfInBounds_toArray, List.set_cons_zero, List.set_cons_succ]
          refine wpAnyH_ready (rs := [7]) (by kernel_rfl) (by simp) ?_
          refine AllReadyH.cons (o := { dst := some 18, op := Go.Op.call { callee := Go.Callee.builtin Go.Builtin.append, args := #[Go.Operand.tmp 12, Go.Operand.tmp 17], argTypes := #[56, 56] }, type := 56, pos := "law.go:35", after := #[{ on := 1, ground := Go.Ground.data }, { on := 6, ground := Go.Ground.data }], guard := none }) rfl (fun K hK => ?_) AllReadyH.nil
          refine step_app_lb rfl (.tmp 12) (.tmp 17) rfl wr.drew.heap.size _ [] rfl HF1_5.out mm.la ls mm.lc HL1V.out (HLX.out _ (HBD.out.trans (HZ5.out.mono HBD.out.size))) HFT1.out HZ5.out.size ?_
          intro v7 w7 ho7 hb7 hg7
          rw [List.nil_append] at ho7
          have HZ6 := Lib.hid (HZ5.out.trans hb7)
          have HF8_6 := Lib.hid (show OwnS w7 wr.drew.heap.size _ [] from rows_far HF8_5.out hg7 HF1_5.out (by decide))
          obtain ⟨P7, c7, hv7, _⟩ := ownl_slice ho7
          rw [HL1E.out] at hv7
          subst hv7
          have HF7_6 := Lib.hid ho7
          clear ho7 hb7 hg7
          refine hK.out _ _ ?_ (fun hHeld => ?_)
          · exact HCE.out _ (HBD.out.trans (HZ6.out.mono HBD.out.size))
          clear hK K
          try simp only [Act.put, List.setIfInBounds_toArray, List.set_cons_zero, List.set_cons_succ]
          refine wpAnyH_ready (rs := [14]) (by kernel_rfl) (by simp) ?_
          refine AllReadyH.cons (o := { dst := some 25, op := Go.Op.call { callee := Go.Callee.builtin Go.Builtin.append, args := #[Go.Operand.tmp 19, Go.Operand.tmp 24], argTypes := #[49, 49] }, type := 49, pos := "law.go:35", after := #[{ on := 8, ground := Go.Ground.data }, { on := 13, ground := Go.Ground.data }, { on := 7, ground := Go.Ground.chain }], guard := none }) rfl (fun K hK => ?_) AllReadyH.nil
          refine step_app_smB rfl (.tmp 19) (.tmp 24) rfl wr.drew.heap.size _ [] rfl HF8_6.out mm.sa ss mm.sc HL2V.out (HSX.out _ (HBD.out.trans (HZ6.out.mono HBD.out.size))) HFT2.out HZ6.out.size ?_
          intro v14 w14 ho14 hb14 hg14
          rw [List.nil_append] at ho14
          have HZ7 := Lib.hid (HZ6.out.trans hb14)
          have HF7_7 := Lib.hid (show OwnL w14 wr.drew.heap.size _ ls from rows_far HF7_6.out hg14 HF8_6.out (by decide))
          obtain ⟨P14, c14, hv14, _⟩ := owns_slice ho14
          rw [HL2E.out] at hv14
          subst hv14
          have HF14 := Lib.hid ho14
          clear ho14 hb14 hg14
          refine hK.out _ _ ?_ (fun hHeld => ?_)
          · exact HCE.out _ (HBD.out.trans (HZ7.out.mono HBD.out.size))
          clear hK K
          try simp only [Act.put, List.setIfInBounds_toArray, List.set_cons_zero, List.set_cons_succ]
          have HAX := Lib.hid (ownsers_below HAC.out HZ7.out)
          have HBE := Lib.hid (HBD.out.trans (HZ7.out.mono HBD.out.size))
          have HV := Lib.hid (show OwnL w14 w.heap.size (.slice P7 ls.length c7) ls ∧ OwnS w14 w.heap.size (.slice P14 ss.length c14) ss from ⟨by rw [HL1E.out]; exact ownl_lower HF7_7.out HBD.out.size, by rw [HL2E.out]; exact owns_lower HF14.out HBD.out.size⟩)
          refine wpAnyH_take (i := 15) (oi := { dst := some 26, op := Go.Op.build 65 #[(0, Go.Operand.tmp 18), (1, Go.Operand.tmp 25)], type := 65, pos := "law.go:35", after := #[{ on := 7, ground := Go.Ground.data }, { on := 14, ground := Go.Ground.data }], guard := none }) (v := ?_) rfl (by kernel_rfl) (by kernel_rfl) (by kernel_rfl) (fun _ _ _ h => h) (Or.inl ⟨by rfl, ?_⟩) (by assumption) ?_
          rotate_left 1
          · (intro w hSw; (try dsimp only at hSw); go_simp; try with_reducible rfl)
          try simp only [Act.put, List.setIfInBounds_toArray, List.set_cons_zero, List.set_cons_succ]
          refine wpAnyH_ready (rs := [16]) (by kernel_rfl) (by simp) ?_
          refine AllReadyH.cons (o := { dst := some 27, op := Go.Op.buildSlice 22 1 #[(0, Go.Operand.tmp 26)], type := 22, pos := "law.go:35", after := #[{ on := 15, ground := Go.Ground.data }], guard := none }) rfl (fun K hK => ?_) AllReadyH.nil
          go_simp
          refine hK.out _ _ ?_ (fun hHeld => ?_)
          · exact HCE.out _ (HBE.out.alloc HBE.out.size _)
          clear hK K
          try simp only [Act.put, List.setIfInBounds_toArray, List.set_cons_zero, List.set_cons_succ]
          refine wpAnyH_ready (rs := [17]) (by kernel_rfl) (by simp) ?_
          refine AllReadyH.cons (o := { dst := some 28, op := Go.Op.call { callee := Go.Callee.builtin Go.Builtin.append, args := #[Go.Operand.tmp 11, Go.Operand.tmp 27], argTypes := #[22, 22] }, type := 22, pos := "law.go:35", after := #[{ on := 0, ground := Go.Ground.data }, { on := 16, ground := Go.Ground.data }, { on := 14, ground := Go.Ground.chain }], guard := none }) rfl (fun K hK => ?_) AllReadyH.nil
          refine step_app_sr rfl (.tmp 11) (.tmp 27) rfl w.heap.size _ (S.take k) rfl HAX.out ls ss P7 P14 c7 c14 l1 l2 HL1E.out HL2E.out 1 HV.out.1 HV.out.2 rfl HTL.out HBE.out.size ?_
          intro v17 w17 ho17 hb17
          have HO17 := Lib.hid (show OwnSers w17 w.heap.size v17 (S.take (k + 1)) by rw [HTK.out]; exact ho17)
          have HB17 := Lib.hid (HBE.out.trans hb17)
          refine hK.out _ _ ?_ (fun hHeld => ?_)
          · exact HCE.out _ HB17.out
          clear hK K ho17 hb17
          try simp only [Act.put, List.setIfInBounds_toArray, List.set_cons_zero, List.set_cons_succ]
          refine wpAnyH_take (i := 18) (oi := { dst := some 3, op := Go.Op.assign (Go.Operand.tmp 28), type := 22, pos := "law.go:35", after := #[{ on := 17, ground := Go.Ground.data }, { on := 17, ground := Go.Ground.chain }, { on := 0, ground := Go.Ground.phase }, { on := 1, ground := Go.Ground.phase }, { on := 2, ground := Go.Ground.phase }, { on := 3, ground := Go.Ground.phase }, { on := 4, ground := Go.Ground.phase }, { on := 5, ground := Go.Ground.phase }, { on := 6, ground := Go.Ground.phase }, { on := 7, ground := Go.Ground.phase }, { on := 8, ground := Go.Ground.phase }, { on := 9, ground := Go.Ground.phase }, { on := 10, ground := Go.Ground.phase }, { on := 11, ground := Go.Ground.phase }, { on := 12, ground := Go.Ground.phase }, { on := 13, ground := Go.Ground.phase }, { on := 14, ground := Go.Ground.phase }, { on := 15, ground := Go.Ground.phase }, { on := 16, ground := Go.Ground.phase }, { on := 17, ground := Go.Ground.phase }], guard := none }) (v := ?_) rfl (by kernel_rfl) (by kernel_rfl) (by kernel_rfl) (fun _ _ _ h => h) (Or.inl ⟨by rfl, ?_⟩) (by assumption) ?_
          rotate_left 1
          · (intro w hSw; (try dsimp only at hSw); go_simp; try with_reducible rfl)
          try simp only [Act.put, List.setIfInBounds_toArray, List.set_cons_zero, List.set_cons_succ]
          refine wpAnyH_done (by kernel_rfl) ?_ _
          go_wp2_with fail
          go_roundw
          case rel => exact ⟨k + 1, HK.out, by go_num, HO17.out, HB17.out⟩
          case measure => simp [intOf]; omega
      · go_simp
        have HZ8 := Lib.hid (HZ0.out.alloc HZ0.out.size (.cells #[] 83))
        have HF8_8 := Lib.hid (owns_empty (base := wr.drew.heap.size) (Row.new (wr.drew) 83 #[]) HZ0.out.size)
        refine hK.out _ _ ?_ (fun hHeld => ?_)
        · exact HCE.out _ (HBD.out.trans (HZ8.out.mono HBD.out.size))
        clear hK K
        try simp only [Act.put, List.setIfInBounds_toArray, List.set_cons_zero, List.set_cons_succ]
        refine wpAnyH_ready (rs := [1]) (by kernel_rfl) (by simp) ?_
        refine AllReadyH.cons (o := { dst := some 12, op := Go.Op.buildSlice 56 0 #[], type := 56, pos := "law.go:35", after := #[], guard := none }) rfl (fun K hK => ?_) AllReadyH.nil
        go_simp
        have HZ9 := Lib.hid (HZ8.out.alloc HZ8.out.size (.cells #[] 118))
        have HF8_9 := Lib.hid (owns_below HF8_8.out (below_one _ (.cells #[] 118)))
        have HF1_9 := Lib.hid (ownl_empty (base := wr.drew.heap.size) (Row.new ((wr.drew).alloc (.cells #[] 83)) 118 #[]) HZ8.out.size)
        rw [show ((wr.drew).alloc (.cells #[] 83)).heap.size = wr.heap.size + 1 from by simp] at HF1_9
        refine hK.out _ _ ?_ (fun hHeld => ?_)
        · exact HCE.out _ (HBD.out.trans (HZ9.out.mono HBD.out.size))
        clear hK K
        try simp only [Act.put, List.setIfInBounds_toArray, List.set_cons_zero, List.set_cons_succ]
        refine wpAnyH_ready (rs := [7]) (by kernel_rfl) (by simp) ?_
        refine AllReadyH.cons (o := { dst := some 18, op := Go.Op.call { callee := Go.Callee.builtin Go.Builtin.append, args := #[Go.Operand.tmp 12, Go.Operand.tmp 17], argTypes := #[56, 56] }, type := 56, pos := "law.go:35", after := #[{ on := 1, ground := Go.Ground.data }, { on := 6, ground := Go.Ground.data }], guard := none }) rfl (fun K hK => ?_) AllReadyH.nil
        refine step_app_lb rfl (.tmp 12) (.tmp 17) rfl wr.drew.heap.size _ [] rfl HF1_9.out mm.la ls mm.lc HL1V.out (HLX.out _ (HBD.out.trans (HZ9.out.mono HBD.out.size))) HFT1.out HZ9.out.size ?_
        intro v7 w7 ho7 hb7 hg7
        rw [List.nil_append] at ho7
        have HZ10 := Lib.hid (HZ9.out.trans hb7)
        have HF8_10 := Lib.hid (show OwnS w7 wr.drew.heap.size _ [] from rows_far HF8_9.out hg7 HF1_9.out (by decide))
        obtain ⟨P7, c7, hv7, _⟩ := ownl_slice ho7
        rw [HL1E.out] at hv7
        subst hv7
        have HF7_10 := Lib.hid ho7
        clear ho7 hb7 hg7
        refine hK.out _ _ ?_ (fun hHeld => ?_)
        · exact HCE.out _ (HBD.out.trans (HZ10.out.mono HBD.out.size))
        clear hK K
        try simp only [Act.put, List.setIfInBounds_toArray, List.set_cons_zero, List.set_cons_succ]
        refine wpAnyH_ready (rs := [14]) (by kernel_rfl) (by simp) ?_
        refine AllReadyH.cons (o := { dst := some 25, op := Go.Op.call { callee := Go.Callee.builtin Go.Builtin.append, args := #[Go.Operand.tmp 19, Go.Operand.tmp 24], argTypes := #[49, 49] }, type := 49, pos := "law.go:35", after := #[{ on := 8, ground := Go.Ground.data }, { on := 13, ground := Go.Ground.data }, { on := 7, ground := Go.Ground.chain }], guard := none }) rfl (fun K hK => ?_) AllReadyH.nil
        refine step_app_smB rfl (.tmp 19) (.tmp 24) rfl wr.drew.heap.size _ [] rfl HF8_10.out mm.sa ss mm.sc HL2V.out (HSX.out _ (HBD.out.trans (HZ10.out.mono HBD.out.size))) HFT2.out HZ10.out.size ?_
        intro v14 w14 ho14 hb14 hg14
        rw [List.nil_append] at ho14
        have HZ11 := Lib.hid (HZ10.out.trans hb14)
        have HF7_11 := Lib.hid (show OwnL w14 wr.drew.heap.size _ ls from rows_far HF7_10.out hg14 HF8_10.out (by decide))
        obtain ⟨P14, c14, hv14, _⟩ := owns_slice ho14
        rw [HL2E.out] at hv14
        subst hv14
        have HF14 := Lib.hid ho14
        clear ho14 hb14 hg14
        refine hK.out _ _ ?_ (fun hHeld => ?_)
        · exact HCE.out _ (HBD.out.trans (HZ11.out.mono HBD.out.size))
        clear hK K
        try simp only [Act.put, List.setIfInBounds_toArray, List.set_cons_zero, List.set_cons_succ]
        have HAX := Lib.hid (ownsers_below HAC.out HZ11.out)
        have HBE := Lib.hid (HBD.out.trans (HZ11.out.mono HBD.out.size))
        have HV := Lib.hid (show OwnL w14 w.heap.size (.slice P7 ls.length c7) ls ∧ OwnS w14 w.heap.size (.slice P14 ss.length c14) ss from ⟨by rw [HL1E.out]; exact ownl_lower HF7_11.out HBD.out.size, by rw [HL2E.out]; exact owns_lower HF14.out HBD.out.size⟩)
        refine wpAnyH_take (i := 15) (oi := { dst := some 26, op := Go.Op.build 65 #[(0, Go.Operand.tmp 18), (1, Go.Operand.tmp 25)], type := 65, pos := "law.go:35", after := #[{ on := 7, ground := Go.Ground.data }, { on := 14, ground := Go.Ground.data }], guard := none }) (v := ?_) rfl (by kernel_rfl) (by kernel_rfl) (by kernel_rfl) (fun _ _ _ h => h) (Or.inl ⟨by rfl, ?_⟩) (by assumption) ?_
        rotate_left 1
        · (intro w hSw; (try dsimp only at hSw); go_simp; try with_reducible rfl)
        try simp only [Act.put, List.setIfInBounds_toArray, List.set_cons_zero, List.set_cons_succ]
        refine wpAnyH_ready (rs := [16]) (by kernel_rfl) (by simp) ?_
        refine AllReadyH.cons (o := { dst := some 27, op := Go.Op.buildSlice 22 1 #[(0, Go.Operand.tmp 26)], type := 22, pos := "law.go:35", after := #[{ on := 15, ground := Go.Ground.data }], guard := none }) rfl (fun K hK => ?_) AllReadyH.nil
        go_simp
        refine hK.out _ _ ?_ (fun hHeld => ?_)
        · exact HCE.out _ (HBE.out.alloc HBE.out.size _)
        clear hK K
        try simp only [Act.put, List.setIfInBounds_toArray, List.set_cons_zero, List.set_cons_succ]
        refine wpAnyH_ready (rs := [17]) (by kernel_rfl) (by simp) ?_
        refine AllReadyH.cons (o := { dst := some 28, op := Go.Op.call { callee := Go.Callee.builtin Go.Builtin.append, args := #[Go.Operand.tmp 11, Go.Operand.tmp 27], argTypes := #[22, 22] }, type := 22, pos := "law.go:35", after := #[{ on := 0, ground := Go.Ground.data }, { on := 16, ground := Go.Ground.data }, { on := 14, ground := Go.Ground.chain }], guard := none }) rfl (fun K hK => ?_) AllReadyH.nil
        refine step_app_sr rfl (.tmp 11) (.tmp 27) rfl w.heap.size _ (S.take k) rfl HAX.out ls ss P7 P14 c7 c14 l1 l2 HL1E.out HL2E.out 1 HV.out.1 HV.out.2 rfl HTL.out HBE.out.size ?_
        intro v17 w17 ho17 hb17
        have HO17 := Lib.hid (show OwnSers w17 w.heap.size v17 (S.take (k + 1)) by rw [HTK.out]; exact ho17)
        have HB17 := Lib.hid (HBE.out.trans hb17)
        refine hK.out _ _ ?_ (fun hHeld => ?_)
        · exact HCE.out _ HB17.out
        clear hK K ho17 hb17
        try simp only [Act.put, List.setIfInBounds_toArray, List.set_cons_zero, List.set_cons_succ]
        refine wpAnyH_take (i := 18) (oi := { dst := some 3, op := Go.Op.assign (Go.Operand.tmp 28), type := 22, pos := "law.go:35", after := #[{ on := 17, ground := Go.Ground.data }, { on := 17, ground := Go.Ground.chain }, { on := 0, ground := Go.Ground.phase }, { on := 1, ground := Go.Ground.phase }, { on := 2, ground := Go.Ground.phase }, { on := 3, ground := Go.Ground.phase }, { on := 4, ground := Go.Ground.phase }, { on := 5, ground := Go.Ground.phase }, { on := 6, ground := Go.Ground.phase }, { on := 7, ground := Go.Ground.phase }, { on := 8, ground := Go.Ground.phase }, { on := 9, ground := Go.Ground.phase }, { on := 10, ground := Go.Ground.phase }, { on := 11, ground := Go.Ground.phase }, { on := 12, ground := Go.Ground.phase }, { on := 13, ground := Go.Ground.phase }, { on := 14, ground := Go.Ground.phase }, { on := 15, ground := Go.Ground.phase }, { on := 16, ground := Go.Ground.phase }, { on := 17, ground := Go.Ground.phase }], guard := none }) (v := ?_) rfl (by kernel_rfl) (by kernel_rfl) (by kernel_rfl) (fun _ _ _ h => h) (Or.inl ⟨by rfl, ?_⟩) (by assumption) ?_
        rotate_left 1
        · (intro w hSw; (try dsimp only at hSw); go_simp; try with_reducible rfl)
        try simp only [Act.put, List.setIfInBounds_toArray, List.set_cons_zero, List.set_cons_succ]
        refine wpAnyH_done (by kernel_rfl) ?_ _
        go_wp2_with fail
        go_roundw
        case rel => exact ⟨k + 1, HK.out, by go_num, HO17.out, HB17.out⟩
        case measure => simp [intOf]; omega
    · have hkn : k = S.length := by rw [HN.out]; omega
      rw [hkn, List.take_length] at hO
      have i1 : decide ((k : Int) < (n : Int)) = false := decide_eq_false (by omega)
      have i2 : ¬ (k : Int) < (n : Int) := by omega
      have HO := Lib.hid hO
      have HB := Lib.hid hbr
      clear hO hbr hkn
      go_wp2_with fail
      go_ret
      exact ⟨_, rfl, HO.out, HB.out⟩
end Go.Proofs.YtgdmcnoogacdaaaGreatDoor
