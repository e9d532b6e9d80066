/- An index's bytes there and back: a walk of the law. -/
import Derived.Test.YtojlcipphnegaaaGreatIxOf
import Derived.Test.YtojlcipphnegaaaGreatIxTold
import Derived.Test.YtojlcipphnegaaaGreatIxHeld
namespace Go.Proofs.YtojlcipphnegaaaGreat
open Go.RowKit Go.Maps
set_option linter.unusedVariables false
set_option linter.unusedSimpArgs false
set_option maxRecDepth 100000
set_option maxHeartbeats 4000000 in
/-- From where the bytes that were handed in are read, or are not, on. -/
theorem back_rest (w w2 : World) (V : Option Addr) (ss : List (List Lbl)) (cs : Nat) (hV : Sets w V ss) (hll : ∀ i, (ss.getD i []).length ≤ 100000000000000) (hR : ss.length * 24 ≤ 140737488351232) (name : ByteArray) (hb : Below w.heap.size w w2) :
    (ixChk ss ≠ 0 → Calls Tryz.prog 11 #[.slice V ss.length cs] w2 fun e w' => e = .returned (.tuple #[.pointer none, .int .i64 (ixChk ss)]) ∧ Below w2.heap.size w2 w') ∧
    (ixChk ss = 0 → Calls Tryz.prog 11 #[.slice V ss.length cs] w2 fun e w' => ∃ X, e = .returned (.tuple #[.pointer (some ⟨X, 0, none⟩), .int .i64 0]) ∧ IdxAt w' w2.heap.size X ss ∧ Below w2.heap.size w2 w') := by
  have h := new_prog V ss cs w2 (hV.below hb) (by omega) hll
  exact ⟨fun hz => h.mono fun e w' h => new_no hz h, fun hz => h.mono fun e w' h => new_yes hz h⟩
theorem own_full {w : World} {base : Nat} {v : Value} {x : List UInt8} (h : Own w base v x) : ∃ P d, v = .slice P x.length d ∧ x.length ≤ d ∧ Bys w P x := by
  obtain ⟨P, d, e, hP, _⟩ := own_slice' h
  obtain ⟨P', d', e', hd, _⟩ := rows_slice h
  have := e.symm.trans e'
  obtain ⟨rfl, _, rfl⟩ := Value.slice.inj this
  exact ⟨P, d, e, hd, hP⟩
set_option maxHeartbeats 8000000 in
theorem indexBack_walk (w : World) (V : Option Addr) (ss : List (List Lbl)) (cs : Nat) (hV : Sets w V ss) (hL : ∀ l ∈ ss, LFits l ∧ l.length * 32 ≤ 140737488351232) (hR : ss.length * 24 ≤ 140737488351232) (hC : ss.length ≤ cs)
    (B : Option Addr) (b : List UInt8) (cb : Nat) (hB : Bys w B b) (hbr : b.length ≤ 140737488351232) (hbc : b.length ≤ cb) (name : ByteArray) (hs : name.size ≤ reachBytes) :
    Calls Tryz.prog 8 #[.slice V ss.length cs, .slice B b.length cb, .string name] w fun e w' => e = .returned (.bool true) ∧ Below w.heap.size w w' := by
  have HLV := Lib.hid (fun x => ixLives_true x)
  have hll : ∀ i, (ss.getD i []).length ≤ 100000000000000 := by
    intro i
    rcases Nat.lt_or_ge i ss.length with h | h
    · have := (hL _ (ss_at h)).2
      omega
    · rw [List.getD_eq_getElem?_getD, List.getElem?_eq_none h]
      exact Nat.zero_le _
  have HOF := Lib.hid (of_any B b cb hbc (by omega) w hB)
  have HRS := Lib.hid (fun x (h : Below w.heap.size w x) => back_rest w x V ss cs hV hll hR name h)
  have HCB0 := Lib.hid (fun x (h : Below w.heap.size w x) => conv_bys x B b cb (hB.below h))
  have HTD := Lib.hid (fun X bs x (hr : ixChk ss = 0) (h : IdxAt x bs X ss) (hb : Below w.heap.size w x) => told_prog X ss bs V cs 0 (by decide) name x h hr (hV.below hb))
  have HY := Lib.hid (fun X bs x ss' (hr : ixChk ss' = 0) (h : IdxAt x bs X ss') => bytes_prog X ss' bs x h hr)
  have HRT := Lib.hid (fun A c x (hr : ixChk ss = 0) (hc : (ixBytes ss).length ≤ c) (h : Bys x A (ixBytes ss)) => of_right A ss c hr hc x h)
  clear hV hL hR hC hB hbr hbc hs hll
  -- what follows behind the test of the bytes handed in
  have REST : True := trivial
  obtain ⟨nb, hnb⟩ : ∃ nb, b.length = nb := ⟨_, rfl⟩
  have HNB := Lib.hid hnb
  rw [hnb] at HOF HCB0 ⊢
  clear hnb REST
  go_enter Tryz.func8, Tryz.ntmps8
  go_wp2_with fail
  refine HOF.out.mono ?_
  rintro e w1 ⟨hb1, rfl | ⟨ss0, X, B0, hz0, hq0, rfl, hB0, hI0⟩⟩
  · have HB1 := Lib.hid hb1
    clear hb1
    go_upto_region 2 with fail
    refine wp_region_held_drew (S := fun w' => True) (by kernel_rfl) ?_ (fun hHeld => ?_)
    · exact trivial
    refine wpAnyH_take (i := 0) (oi := { dst := some 18, op := Go.Op.move (Go.Operand.tmp 8), type := 25, pos := "outright.go:55", after := #[], guard := none }) (v := ?_) rfl (by kernel_rfl) (by kernel_rfl) (by kernel_rfl) (fun _ _ _ h => h) (Or.inl ⟨by rfl, ?_⟩) (by assumption) ?_
    rotate_left 1
    · (intro w hSw; (try dsimp only at hSw); go_simp; try with_reducible rfl)
    try simp only [Act.put, List.setIfInBounds_toArray, List.set_cons_zero, List.set_cons_succ]
    refine wpAnyH_take (i := 1) (oi := { dst := some 19, op := Go.Op.binOp Go.BinOp.eql 25 (Go.Operand.tmp 18) (Go.Operand.const (Go.Value.int Go.IntKind.i64 0)) 25, type := 4, pos := "outright.go:55", after := #[{ on := 0, ground := Go.Ground.data }], guard := none }) (v := ?_) rfl (by kernel_rfl) (by kernel_rfl) (by kernel_rfl) (fun _ _ _ h => h) (Or.inl ⟨by rfl, ?_⟩) (by assumption) ?_
    rotate_left 1
    · (intro w hSw; (try dsimp only at hSw); go_simp; try with_reducible rfl)
    try simp only [Act.put, List.setIfInBounds_toArray, List.set_cons_zero, List.set_cons_succ]
    refine wpAnyH_take (i := 2) (oi := { dst := some 20, op := Go.Op.move (Go.Operand.tmp 19), type := 4, pos := "outright.go:55", after := #[{ on := 1, ground := Go.Ground.data }], guard := none }) (v := ?_) rfl (by kernel_rfl) (by kernel_rfl) (by kernel_rfl) (fun _ _ _ h => h) (Or.inl ⟨by rfl, ?_⟩) (by assumption) ?_
    rotate_left 1
    · (intro w hSw; (try dsimp only at hSw); go_simp; try with_reducible rfl)
    try simp only [Act.put, List.setIfInBounds_toArray, List.set_cons_zero, List.set_cons_succ]
    refine wpAnyH_take (i := 3) (oi := { dst := some 21, op := Go.Op.move (Go.Operand.tmp 7), type := 24, pos := "outright.go:55", after := #[{ on := 2, ground := Go.Ground.guard }], guard := some (2, true) }) (v := undef) rfl (by kernel_rfl) (by kernel_rfl) (by kernel_rfl) (fun _ _ _ h => h) (Or.inr ⟨by rfl, rfl⟩) (by assumption) ?_
    try simp only [Act.put, List.setIfInBounds_toArray, List.set_cons_zero, List.set_cons_succ]
    refine wpAnyH_take (i := 4) (oi := { dst := some 22, op := Go.Op.binOp Go.BinOp.eql 24 (Go.Operand.tmp 21) (Go.Operand.const (Go.Value.pointer none)) 24, type := 4, pos := "outright.go:55", after := #[{ on := 3, ground := Go.Ground.data }, { on := 2, ground := Go.Ground.guard }], guard := some (2, true) }) (v := undef) rfl (by kernel_rfl) (by kernel_rfl) (by kernel_rfl) (fun _ _ _ h => h) (Or.inr ⟨by rfl, rfl⟩) (by assumption) ?_
    try simp only [Act.put, List.setIfInBounds_toArray, List.set_cons_zero, List.set_cons_succ]
    refine wpAnyH_take (i := 5) (oi := { dst := some 23, op := Go.Op.move (Go.Operand.tmp 22), type := 4, pos := "outright.go:55", after := #[{ on := 4, ground := Go.Ground.data }, { on := 2, ground := Go.Ground.chain }, { on := 2, ground := Go.Ground.guard }], guard := some (2, true) }) (v := undef) rfl (by kernel_rfl) (by kernel_rfl) (by kernel_rfl) (fun _ _ _ h => h) (Or.inr ⟨by rfl, rfl⟩) (by assumption) ?_
    try simp only [Act.put, List.setIfInBounds_toArray, List.set_cons_zero, List.set_cons_succ]
    refine wpAnyH_take (i := 6) (oi := { dst := some 24, op := Go.Op.move (Go.Operand.tmp 7), type := 24, pos := "outright.go:55", after := #[{ on := 5, ground := Go.Ground.guard }], guard := some (5, false) }) (v := undef) rfl (by kernel_rfl) (by kernel_rfl) (by kernel_rfl) (fun _ _ _ h => h) (Or.inr ⟨by rfl, rfl⟩) (by assumption) ?_
    try simp only [Act.put, List.setIfInBounds_toArray, List.set_cons_zero, List.set_cons_succ]
    refine wpAnyH_take (i := 7) (oi := { dst := some 25, op := Go.Op.call { callee := Go.Callee.value (Go.Operand.func 25), args := #[Go.Operand.tmp 24], argTypes := #[24] }, type := 46, pos := "outright.go:55", after := #[{ on := 6, ground := Go.Ground.data }, { on := 5, ground := Go.Ground.chain }, { on := 5, ground := Go.Ground.guard }], guard := some (5, false) }) (v := undef) rfl (by kernel_rfl) (by kernel_rfl) (by kernel_rfl) (fun _ _ _ h => h) (Or.inr ⟨by rfl, rfl⟩) (by assumption) ?_
    try simp only [Act.put, List.setIfInBounds_toArray, List.set_cons_zero, List.set_cons_succ]
    refine wpAnyH_take (i := 8) (oi := { dst := some 26, op := Go.Op.convert 46 9 (Go.Operand.tmp 25), type := 9, pos := "outright.go:55", after := #[{ on := 7, ground := Go.Ground.data }, { on := 5, ground := Go.Ground.guard }], guard := some (5, false) }) (v := undef) rfl (by kernel_rfl) (by kernel_rfl) (by kernel_rfl) (fun _ _ _ h => h) (Or.inr ⟨by rfl, rfl⟩) (by assumption) ?_
    try simp only [Act.put, List.setIfInBounds_toArray, List.set_cons_zero, List.set_cons_succ]
    refine wpAnyH_take (i := 9) (oi := { dst := some 27, op := Go.Op.move (Go.Operand.tmp 1), type := 46, pos := "outright.go:55", after := #[{ on := 5, ground := Go.Ground.guard }], guard := some (5, false) }) (v := undef) rfl (by kernel_rfl) (by kernel_rfl) (by kernel_rfl) (fun _ _ _ h => h) (Or.inr ⟨by rfl, rfl⟩) (by assumption) ?_
    try simp only [Act.put, List.setIfInBounds_toArray, List.set_cons_zero, List.set_cons_succ]
    refine wpAnyH_take (i := 10) (oi := { dst := some 28, op := Go.Op.convert 46 9 (Go.Operand.tmp 27), type := 9, pos := "outright.go:55", after := #[{ on := 9, ground := Go.Ground.data }, { on := 5, ground := Go.Ground.guard }], guard := some (5, false) }) (v := undef) rfl (by kernel_rfl) (by kernel_rfl) (by kernel_rfl) (fun _ _ _ h => h) (Or.inr ⟨by rfl, rfl⟩) (by assumption) ?_
    try simp only [Act.put, List.setIfInBounds_toArray, List.set_cons_zero, List.set_cons_succ]
    refine wpAnyH_take (i := 11) (oi := { dst := some 29, op := Go.Op.binOp Go.BinOp.neq 9 (Go.Operand.tmp 26) (Go.Operand.tmp 28) 9, type := 4, pos := "outright.go:55", after := #[{ on := 8, ground := Go.Ground.data }, { on := 10, ground := Go.Ground.data }, { on := 5, ground := Go.Ground.guard }], guard := some (5, false) }) (v := undef) rfl (by kernel_rfl) (by kernel_rfl) (by kernel_rfl) (fun _ _ _ h => h) (Or.inr ⟨by rfl, rfl⟩) (by assumption) ?_
    try simp only [Act.put, List.setIfInBounds_toArray, List.set_cons_zero, List.set_cons_succ]
    refine wpAnyH_take (i := 12) (oi := { dst := some 30, op := Go.Op.pick (Go.Operand.tmp 23) (Go.Operand.const (Go.Value.bool true)) (Go.Operand.tmp 29), type := 4, pos := "outright.go:55", after := #[{ on := 5, ground := Go.Ground.data }, { on := 11, ground := Go.Ground.data }, { on := 2, ground := Go.Ground.guard }], guard := some (2, true) }) (v := undef) rfl (by kernel_rfl) (by kernel_rfl) (by kernel_rfl) (fun _ _ _ h => h) (Or.inr ⟨by rfl, rfl⟩) (by assumption) ?_
    try simp only [Act.put, List.setIfInBounds_toArray, List.set_cons_zero, List.set_cons_succ]
    refine wpAnyH_take (i := 13) (oi := { dst := some 31, op := Go.Op.pick (Go.Operand.tmp 20) (Go.Operand.tmp 30) (Go.Operand.const (Go.Value.bool false)), type := 4, pos := "outright.go:55", after := #[{ on := 2, ground := Go.Ground.data }, { on := 12, ground := Go.Ground.data }], guard := none }) (v := ?_) rfl (by kernel_rfl) (by kernel_rfl) (by kernel_rfl) (fun _ _ _ h => h) (Or.inl ⟨by rfl, ?_⟩) (by assumption) ?_
    rotate_left 1
    · (intro w hSw; (try dsimp only at hSw); go_simp; try with_reducible rfl)
    try simp only [Act.put, List.setIfInBounds_toArray, List.set_cons_zero, List.set_cons_succ]
    refine wpAnyH_done (by kernel_rfl) ?_ _
    have HBW := Lib.hid HB1.out.drew
    by_cases hz : ixChk ss = 0
    · have HN := Lib.hid ((HRS.out _ HBW.out).2 hz)
      have HZ := Lib.hid hz
      clear hz
      go_wp2_with fail
      refine HN.out.mono ?_
      rintro e w3 ⟨Y, rfl, hI3, hb3⟩
      have HI3 := Lib.hid hI3
      have HB3 := Lib.hid (below_then HBW.out hb3)
      clear hI3 hb3 HN
      go_wp2_with fail
      refine (HY.out _ _ _ _ HZ.out HI3.out).mono ?_
      rintro e w4 ⟨v4, rfl, ho4, hb4⟩
      obtain ⟨P4, d4, hv4, hd4, hP4⟩ := own_full ho4
      have hRT := HRT.out P4 d4 _ HZ.out hd4 hP4
      obtain ⟨n4, hn4⟩ : ∃ n4, (ixBytes ss).length = n4 := ⟨_, rfl⟩
      rw [hn4] at hv4 hRT
      subst hv4
      have HRX := Lib.hid hRT
      have HB4 := Lib.hid (below_then HB3.out hb4)
      clear ho4 hb4 hd4 hP4 hRT hn4
      go_wp2_with fail
      refine HRX.out.mono ?_
      rintro e w5 ⟨hb5, Z, B5, rfl, hB5, hI5⟩
      have HI5 := Lib.hid hI5
      have HB5 := Lib.hid (below_then HB4.out hb5)
      have HTX := Lib.hid (HTD.out _ _ _ HZ.out HI5.out HB5.out)
      clear hI5 hb5
      go_wp2_with fail
      refine HTX.out.mono ?_
      rintro e w6 ⟨rfl, hb6⟩
      have HB6 := Lib.hid (below_then HB5.out hb6)
      clear hb6
      go_wp2_with fail
      refine (HLV.out _).mono ?_
      rintro e w7 ⟨rfl, hb7⟩
      have HB7 := Lib.hid (below_then HB6.out hb7)
      clear hb7
      go_wp2
      go_ret
      exact both_ret HB7.out
    · have HN := Lib.hid ((HRS.out _ HBW.out).1 hz)
      have j1 : (ixChk ss != 0) = true := bne_iff_ne.2 hz
      clear hz HRS HTD HRT
      generalize ixChk ss = E at *
      go_wp2_with fail
      refine HN.out.mono ?_
      rintro e w3 ⟨rfl, hb3⟩
      have HB3 := Lib.hid (below_then HBW.out hb3)
      clear hb3
      go_wp2_with fail
      refine (HLV.out _).mono ?_
      rintro e w4 ⟨rfl, hb4⟩
      have HB4 := Lib.hid (below_then HB3.out hb4)
      clear hb4
      go_wp2
      go_ret
      exact both_ret HB4.out
  · subst hq0
    have HB1 := Lib.hid hb1
    have HI0 := Lib.hid (show IdxAt w1.drew B0 X ss0 from hI0.below (ix_drawn w1.heap.size w1 1))
    have HYD := Lib.hid (HY.out _ _ _ _ hz0 HI0.out)
    generalize ixBytes ss0 = b at *
    generalize hqT : txt b = T at *
    have HQT := Lib.hid hqT
    clear hqT hb1 hI0
    have HCB := Lib.hid (fun x (h : Below w.heap.size w x) => (show (convert 46 9 (.slice B nb cb)).run Tryz.prog x = .ok (.string T) x from HCB0.out x h))
    have q1 : (T.toList != T.toList) = false := by simp
    have q2 : (T.toList == T.toList) = true := by simp
    go_upto_region 2 with fail
    refine wp_region_held_drew (S := fun w' => (convert 46 9 (.slice B nb cb)).run Tryz.prog w' = .ok (.string T) w') (by kernel_rfl) ?_ (fun hHeld => ?_)
    · exact HCB.out _ HB1.out.drew
    refine wpAnyH_take (i := 0) (oi := { dst := some 18, op := Go.Op.move (Go.Operand.tmp 8), type := 25, pos := "outright.go:55", after := #[], guard := none }) (v := ?_) rfl (by kernel_rfl) (by kernel_rfl) (by kernel_rfl) (fun _ _ _ h => h) (Or.inl ⟨by rfl, ?_⟩) (by assumption) ?_
    rotate_left 1
    · (intro w hSw; (try dsimp only at hSw); go_simp; try with_reducible rfl)
    try simp only [Act.put, List.setIfInBounds_toArray, List.set_cons_zero, List.set_cons_succ]
    refine wpAnyH_take (i := 1) (oi := { dst := some 19, op := Go.Op.binOp Go.BinOp.eql 25 (Go.Operand.tmp 18) (Go.Operand.const (Go.Value.int Go.IntKind.i64 0)) 25, type := 4, pos := "outright.go:55", after := #[{ on := 0, ground := Go.Ground.data }], guard := none }) (v := ?_) rfl (by kernel_rfl) (by kernel_rfl) (by kernel_rfl) (fun _ _ _ h => h) (Or.inl ⟨by rfl, ?_⟩) (by assumption) ?_
    rotate_left 1
    · (intro w hSw; (try dsimp only at hSw); go_simp; try with_reducible rfl)
    try simp only [Act.put, List.setIfInBounds_toArray, List.set_cons_zero, List.set_cons_succ]
    refine wpAnyH_take (i := 2) (oi := { dst := some 20, op := Go.Op.move (Go.Operand.tmp 19), type := 4, pos := "outright.go:55", after := #[{ on := 1, ground := Go.Ground.data }], guard := none }) (v := ?_) rfl (by kernel_rfl) (by kernel_rfl) (by kernel_rfl) (fun _ _ _ h => h) (Or.inl ⟨by rfl, ?_⟩) (by assumption) ?_
    rotate_left 1
    · (intro w hSw; (try dsimp only at hSw); go_simp; try with_reducible rfl)
    try simp only [Act.put, List.setIfInBounds_toArray, List.set_cons_zero, List.set_cons_succ]
    refine wpAnyH_take (i := 3) (oi := { dst := some 21, op := Go.Op.move (Go.Operand.tmp 7), type := 24, pos := "outright.go:55", after := #[{ on := 2, ground := Go.Ground.guard }], guard := some (2, true) }) (v := ?_) rfl (by kernel_rfl) (by kernel_rfl) (by kernel_rfl) (fun _ _ _ h => h) (Or.inl ⟨by rfl, ?_⟩) (by assumption) ?_
    rotate_left 1
    · (intro w hSw; (try dsimp only at hSw); go_simp; try with_reducible rfl)
    try simp only [Act.put, List.setIfInBounds_toArray, List.set_cons_zero, List.set_cons_succ]
    refine wpAnyH_take (i := 4) (oi := { dst := some 22, op := Go.Op.binOp Go.BinOp.eql 24 (Go.Operand.tmp 21) (Go.Operand.const (Go.Value.pointer none)) 24, type := 4, pos := "outright.go:55", after := #[{ on := 3, ground := Go.Ground.data }, { on := 2, ground := Go.Ground.guard }], guard := some (2, true) }) (v := ?_) rfl (by kernel_rfl) (by kernel_rfl) (by kernel_rfl) (fun _ _ _ h => h) (Or.inl ⟨by rfl, ?_⟩) (by assumption) ?_
    rotate_left 1
    · (intro w hSw; (try dsimp only at hSw); go_simp; try with_reducible rfl)
    try simp only [Act.put, List.setIfInBounds_toArray, List.set_cons_zero, List.set_cons_succ]
    refine wpAnyH_take (i := 5) (oi := { dst := some 23, op := Go.Op.move (Go.Operand.tmp 22), type := 4, pos := "outright.go:55", after := #[{ on := 4, ground := Go.Ground.data }, { on := 2, ground := Go.Ground.chain }, { on := 2, ground := Go.Ground.guard }], guard := some (2, true) }) (v := ?_) rfl (by kernel_rfl) (by kernel_rfl) (by kernel_rfl) (fun _ _ _ h => h) (Or.inl ⟨by rfl, ?_⟩) (by assumption) ?_
    rotate_left 1
    · (intro w hSw; (try dsimp only at hSw); go_simp; try with_reducible rfl)
    try simp only [Act.put, List.setIfInBounds_toArray, List.set_cons_zero, List.set_cons_succ]
    refine wpAnyH_take (i := 6) (oi := { dst := some 24, op := Go.Op.move (Go.Operand.tmp 7), type := 24, pos := "outright.go:55", after := #[{ on := 5, ground := Go.Ground.guard }], guard := some (5, false) }) (v := ?_) rfl (by kernel_rfl) (by kernel_rfl) (by kernel_rfl) (fun _ _ _ h => h) (Or.inl ⟨by rfl, ?_⟩) (by assumption) ?_
    rotate_left 1
    · (intro w hSw; (try dsimp only at hSw); go_simp; try with_reducible rfl)
    try simp only [Act.put, List.setIfInBounds_toArray, List.set_cons_zero, List.set_cons_succ]
    refine wpAnyH_take (i := 9) (oi := { dst := some 27, op := Go.Op.move (Go.Operand.tmp 1), type := 46, pos := "outright.go:55", after := #[{ on := 5, ground := Go.Ground.guard }], guard := some (5, false) }) (v := ?_) rfl (by kernel_rfl) (by kernel_rfl) (by kernel_rfl) (fun _ _ _ h => h) (Or.inl ⟨by rfl, ?_⟩) (by assumption) ?_
    rotate_left 1
    · (intro w hSw; (try dsimp only at hSw); go_simp; try with_reducible rfl)
    try simp only [Act.put, List.setIfInBounds_toArray, List.set_cons_zero, List.set_cons_succ]
    refine wpAnyH_take (i := 10) (oi := { dst := some 28, op := Go.Op.convert 46 9 (Go.Operand.tmp 27), type := 9, pos := "outright.go:55", after := #[{ on := 9, ground := Go.Ground.data }, { on := 5, ground := Go.Ground.guard }], guard := some (5, false) }) (v := ?_) rfl (by kernel_rfl) (by kernel_rfl) (by kernel_rfl) (fun _ _ _ h => h) (Or.inl ⟨by rfl, ?_⟩) (by assumption) ?_
    rotate_left 1
    · (intro w hSw; (try dsimp only at hSw); go_simp; try with_reducible rfl)
    try simp only [Act.put, List.setIfInBounds_toArray, List.set_cons_zero, List.set_cons_succ]
    refine wpAnyH_ready (rs := [7]) (by kernel_rfl) (by simp) ?_
    refine AllReadyH.cons (o := { dst := some 25, op := Go.Op.call { callee := Go.Callee.value (Go.Operand.func 25), args := #[Go.Operand.tmp 24], argTypes := #[24] }, type := 46, pos := "outright.go:55", after := #[{ on := 6, ground := Go.Ground.data }, { on := 5, ground := Go.Ground.chain }, { on := 5, ground := Go.Ground.guard }], guard := some (5, false) }) rfl (fun K hK => ?_) AllReadyH.nil
    go_simp
    go_at_call 25
    refine HYD.out.mono ?_
    rintro e w2 ⟨v2, rfl, ho2, hb2⟩
    obtain ⟨P2, d2, hv2, hP2, _⟩ := own_slice' ho2
    rw [HNB.out] at hv2
    subst hv2
    have k1 : (convert 46 9 (.slice B nb cb)).run Tryz.prog w2 = .ok (.string T) w2 := HCB.out _ (below_then HB1.out.drew hb2)
    have k2 : (convert 46 9 (.slice P2 nb d2)).run Tryz.prog w2 = .ok (.string T) w2 := by rw [← HNB.out, ← HQT.out]; exact conv_bys w2 P2 b d2 hP2
    have HB2 := Lib.hid (below_then HB1.out.drew hb2)
    clear ho2 hb2 hP2
    refine hK.out _ _ ?_ (fun hHeld => ?_)
    · exact k1
    clear hK K
    refine wpAnyH_more (S' := fun w' => (convert 46 9 (.slice B nb cb)).run Tryz.prog w' = .ok (.string T) w' ∧ (convert 46 9 (.slice P2 nb d2)).run Tryz.prog w' = .ok (.string T) w') (fun _ h => h.1) _ _ _ _ ?_
    have hHeld2 := (show (fun w' : World => (convert 46 9 (.slice B nb cb)).run Tryz.prog w' = .ok (.string T) w' ∧ (convert 46 9 (.slice P2 nb d2)).run Tryz.prog w' = .ok (.string T) w') _ from ⟨k1, k2⟩)
    try simp only [Act.put, List.setIfInBounds_toArray, List.set_cons_zero, List.set_cons_succ]
    refine wpAnyH_take (i := 8) (oi := { dst := some 26, op := Go.Op.convert 46 9 (Go.Operand.tmp 25), type := 9, pos := "outright.go:55", after := #[{ on := 7, ground := Go.Ground.data }, { on := 5, ground := Go.Ground.guard }], guard := some (5, false) }) (v := ?_) rfl (by kernel_rfl) (by kernel_rfl) (by kernel_rfl) (fun _ _ _ h => h) (Or.inl ⟨by rfl, ?_⟩) (by assumption) ?_
    rotate_left 1
    · (intro w hSw; (try dsimp only at hSw); go_simp; try with_reducible rfl)
    try simp only [Act.put, List.setIfInBounds_toArray, List.set_cons_zero, List.set_cons_succ]
    refine wpAnyH_take (i := 11) (oi := { dst := some 29, op := Go.Op.binOp Go.BinOp.neq 9 (Go.Operand.tmp 26) (Go.Operand.tmp 28) 9, type := 4, pos := "outright.go:55", after := #[{ on := 8, ground := Go.Ground.data }, { on := 10, ground := Go.Ground.data }, { on := 5, ground := Go.Ground.guard }], guard := some (5, false) }) (v := ?_) rfl (by kernel_rfl) (by kernel_rfl) (by kernel_rfl) (fun _ _ _ h => h) (Or.inl ⟨by rfl, ?_⟩) (by assumption) ?_
    rotate_left 1
    · (intro w hSw; (try dsimp only at hSw); go_simp; try with_reducible rfl)
    try simp only [Act.put, List.setIfInBounds_toArray, List.set_cons_zero, List.set_cons_succ]
    refine wpAnyH_take (i := 12) (oi := { dst := some 30, op := Go.Op.pick (Go.Operand.tmp 23) (Go.Operand.const (Go.Value.bool true)) (Go.Operand.tmp 29), type := 4, pos := "outright.go:55", after := #[{ on := 5, ground := Go.Ground.data }, { on := 11, ground := Go.Ground.data }, { on := 2, ground := Go.Ground.guard }], guard := some (2, true) }) (v := ?_) rfl (by kernel_rfl) (by kernel_rfl) (by kernel_rfl) (fun _ _ _ h => h) (Or.inl ⟨by rfl, ?_⟩) (by assumption) ?_
    rotate_left 1
    · (intro w hSw; (try dsimp only at hSw); go_simp; try with_reducible rfl)
    try simp only [Act.put, List.setIfInBounds_toArray, List.set_cons_zero, List.set_cons_succ]
    refine wpAnyH_take (i := 13) (oi := { dst := some 31, op := Go.Op.pick (Go.Operand.tmp 20) (Go.Operand.tmp 30) (Go.Operand.const (Go.Value.bool false)), type := 4, pos := "outright.go:55", after := #[{ on := 2, ground := Go.Ground.data }, { on := 12, ground := Go.Ground.data }], guard := none }) (v := ?_) rfl (by kernel_rfl) (by kernel_rfl) (by kernel_rfl) (fun _ _ _ h => h) (Or.inl ⟨by rfl, ?_⟩) (by assumption) ?_
    rotate_left 1
    · (intro w hSw; (try dsimp only at hSw); go_simp; try with_reducible rfl)
    try simp only [Act.put, List.setIfInBounds_toArray, List.set_cons_zero, List.set_cons_succ]
    refine wpAnyH_done (by kernel_rfl) ?_ _
    clear HYD HCB HCB0
    have HBW := Lib.hid HB2.out
    by_cases hz : ixChk ss = 0
    · have HN := Lib.hid ((HRS.out _ HBW.out).2 hz)
      have HZ := Lib.hid hz
      clear hz
      go_wp2_with fail
      refine HN.out.mono ?_
      rintro e w3 ⟨Y, rfl, hI3, hb3⟩
      have HI3 := Lib.hid hI3
      have HB3 := Lib.hid (below_then HBW.out hb3)
      clear hI3 hb3 HN
      go_wp2_with fail
      refine (HY.out _ _ _ _ HZ.out HI3.out).mono ?_
      rintro e w4 ⟨v4, rfl, ho4, hb4⟩
      obtain ⟨P4, d4, hv4, hd4, hP4⟩ := own_full ho4
      have hRT := HRT.out P4 d4 _ HZ.out hd4 hP4
      obtain ⟨n4, hn4⟩ : ∃ n4, (ixBytes ss).length = n4 := ⟨_, rfl⟩
      rw [hn4] at hv4 hRT
      subst hv4
      have HRX := Lib.hid hRT
      have HB4 := Lib.hid (below_then HB3.out hb4)
      clear ho4 hb4 hd4 hP4 hRT hn4
      go_wp2_with fail
      refine HRX.out.mono ?_
      rintro e w5 ⟨hb5, Z, B5, rfl, hB5, hI5⟩
      have HI5 := Lib.hid hI5
      have HB5 := Lib.hid (below_then HB4.out hb5)
      have HTX := Lib.hid (HTD.out _ _ _ HZ.out HI5.out HB5.out)
      clear hI5 hb5
      go_wp2_with fail
      refine HTX.out.mono ?_
      rintro e w6 ⟨rfl, hb6⟩
      have HB6 := Lib.hid (below_then HB5.out hb6)
      clear hb6
      go_wp2_with fail
      refine (HLV.out _).mono ?_
      rintro e w7 ⟨rfl, hb7⟩
      have HB7 := Lib.hid (below_then HB6.out hb7)
      clear hb7
      go_wp2
      go_ret
      exact both_ret HB7.out
    · have HN := Lib.hid ((HRS.out _ HBW.out).1 hz)
      have j1 : (ixChk ss != 0) = true := bne_iff_ne.2 hz
      clear hz HRS HTD HRT
      generalize ixChk ss = E at *
      go_wp2_with fail
      refine HN.out.mono ?_
      rintro e w3 ⟨rfl, hb3⟩
      have HB3 := Lib.hid (below_then HBW.out hb3)
      clear hb3
      go_wp2_with fail
      refine (HLV.out _).mono ?_
      rintro e w4 ⟨rfl, hb4⟩
      have HB4 := Lib.hid (below_then HB3.out hb4)
      clear hb4
      go_wp2
      go_ret
      exact both_ret HB4.out
end Go.Proofs.YtojlcipphnegaaaGreat
