/- What an index tells beside what its own sets tell (the law's own check). -/
import Derived.Test.YtojlcipphnegaaaGreatIxQry
import Derived.Test.YtojlcipphnegaaaGreatIxBytes
import Derived.Test.YtojlcipphnegaaaGreatIxBytesRef
import Derived.Test.YtojlcipphnegaaaGreatIxRef3
import Derived.Test.YtojlcipphnegaaaGreatIxRef5
import Derived.Test.YtojlcipphnegaaaGreatIxHeld
import Derived.Test.YtojlcipphnegaaaGreatIxLotF
namespace Go.Proofs.YtojlcipphnegaaaGreat
open Go.RowKit Go.Maps
set_option linter.unusedVariables false
set_option linter.unusedSimpArgs false
set_option maxRecDepth 100000
theorem txs_slice {w w' : World} {ts : List ByteArray} {e : Ending} (h : TxsTold w ts e w') : ∃ P c, e = .returned (.slice P ts.length c) ∧ Tx w' P ts ∧ Below w.heap.size w w' := by
  obtain ⟨v, rfl, h1, h2⟩ := h
  obtain ⟨P, c, rfl, _⟩ := rows_slice h1
  exact ⟨P, c, rfl, owntx_tx h1, h2⟩
theorem st_yes (A B : Option Addr) (a : List ByteArray) (c d : Nat) (w : World) (hA : Tx w A a) (hB : Tx w B a) (hl : a.length ≤ 281474976710656) :
    Calls Tryz.prog 34 #[.slice A a.length c, .slice B a.length d] w fun e w' => e = .returned (.bool true) ∧ Below w.heap.size w w' := by
  refine (sametexts_ref A B a a c d w hA hB hl).mono ?_
  rintro e w' ⟨rfl, h⟩
  exact ⟨by rw [decide_eq_true rfl], h⟩
theorem ls_yes (A B : Option Addr) (l : List Lbl) (c d : Nat) (w : World) (hA : Lbls w A l) (hB : Lbls w B l) (hl : l.length ≤ 100000000000000) :
    Calls Tryz.prog 37 #[.slice A l.length c, .slice B l.length d] w fun e w' => e = .returned (.bool true) ∧ Below w.heap.size w w' := by
  refine (same_ref A B l l c d w hA hB hl hl).mono ?_
  rintro e w' ⟨rfl, h⟩
  exact ⟨by rw [decide_eq_true rfl], h⟩
theorem names_few {ss : List (List Lbl)} (h256 : ss.length ≤ 256) (h8 : ∀ l ∈ ss, l.length ≤ 8) : (ixNames ss).length ≤ 281474976710656 := by
  have h := flat8 (fun x : Lbl => x.1) ss h8
  have h2 := setF_len cmpB_cmp (namesOf ss)
  have h3 : (namesOf ss).length ≤ 8 * ss.length := h
  show (setF cmpB (namesOf ss)).length ≤ _
  omega
theorem values_few {ss : List (List Lbl)} (h256 : ss.length ≤ 256) (name : ByteArray) : (ixValues ss name).length ≤ 281474976710656 := by
  have h2 := setF_len cmpB_cmp (gotOf ss name)
  have h3 : (gotOf ss name).length ≤ ss.length := Nat.le_trans (List.length_filter_le _ _) (by rw [List.length_map]; exact Nat.le_refl _)
  show (setF cmpB (gotOf ss name)).length ≤ _
  omega
set_option maxHeartbeats 4000000 in
theorem told_prog (X : Nat) (ss : List (List Lbl)) (base : Nat) (V : Option Addr) (cs : Nat) (id : Int) (hid : -9223372036854775808 ≤ id ∧ id ≤ 9223372036854775807) (name : ByteArray) (w : World) (hI : IdxAt w base X ss) (hr : ixChk ss = 0) (hV : Sets w V ss) :
    Calls Tryz.prog 16 #[.pointer (some ⟨X, 0, none⟩), .slice V ss.length cs, .int .i64 id, .string name] w fun e w' => e = .returned (.bool true) ∧ Below w.heap.size w w' := by
  obtain ⟨h256, _, hrr⟩ := ixChk_right hr
  have h8 : ∀ l ∈ ss, l.length ≤ 8 := fun l hl => (lbChk_ok.1 (hrr l hl)).1
  have HLen := Lib.hid (fun x (h : Below w.heap.size w x) => len_prog X ss base x (hI.below h))
  have HBy := Lib.hid (fun x (h : Below w.heap.size w x) => bytes_prog X ss base x (hI.below h) hr)
  have HBr := Lib.hid (fun x (h : Below w.heap.size w x) => bytes_ref V ss cs x (hV.below h) hr)
  have HNm := Lib.hid (fun x (h : Below w.heap.size w x) => names_prog X ss base x (hI.below h) hr)
  have HNr := Lib.hid (fun x (h : Below w.heap.size w x) => names_ref V ss cs x (hV.below h) h256 h8)
  have HVl := Lib.hid (fun x (h : Below w.heap.size w x) => values_prog X ss base name x (hI.below h) hr)
  have HVr := Lib.hid (fun x (h : Below w.heap.size w x) => values_ref V ss cs name x (hV.below h) h256 h8)
  have HN1 := Lib.hid (names_few h256 h8)
  have HN2 := Lib.hid (values_few h256 name)
  have HLY := Lib.hid (fun x (h : Below w.heap.size w x) k (hk : k < ss.length) => labels_yes X ss base x (hI.below h) hr k hk)
  have HLN := Lib.hid (fun x (h : Below w.heap.size w x) (hk : id < 0 ∨ (ss.length : Int) ≤ id) => labels_no X ss base x (hI.below h) id hk)
  have HV := Lib.hid (fun x (h : Below w.heap.size w x) => hV.below h)
  have H8 := Lib.hid h8
  have HB0 := Lib.hid (Below.refl w.heap.size w).drew
  have q0 : ((ss.length : Int) != (ss.length : Int)) = false := by simp
  clear hI hr hV h256 hrr h8
  generalize ixBytes ss = bs at *
  generalize ixNames ss = ns at *
  generalize ixValues ss name = vs at *
  generalize hqT : txt bs = T at *
  have HQT := Lib.hid hqT
  clear hqT
  have q1 : (T.toList != T.toList) = false := by simp
  have q2 : (T.toList == T.toList) = true := by simp
  go_enter Tryz.func16, Tryz.ntmps16
  go_upto_region 1 with fail
  refine wp_region_held_drew (S := fun w' => True) (by kernel_rfl) ?_ (fun hHeld => ?_)
  · exact trivial
  refine wpAnyH_take (i := 0) (oi := { dst := some 11, op := Go.Op.move (Go.Operand.tmp 0), type := 24, pos := "law.go:48", after := #[], guard := none }) (v := ?_) rfl (by kernel_rfl) (by kernel_rfl) (by kernel_rfl) (fun _ _ _ h => h) (Or.inl ⟨by rfl, ?_⟩) (by assumption) ?_
  rotate_left 1
  · (intro w hSw; (try dsimp only at hSw); go_simp; try with_reducible rfl)
  try simp only [Act.put, List.setIfInBounds_toArray, List.set_cons_zero, List.set_cons_succ]
  refine wpAnyH_take (i := 2) (oi := { dst := some 13, op := Go.Op.move (Go.Operand.tmp 1), type := 22, pos := "law.go:48", after := #[], guard := none }) (v := ?_) rfl (by kernel_rfl) (by kernel_rfl) (by kernel_rfl) (fun _ _ _ h => h) (Or.inl ⟨by rfl, ?_⟩) (by assumption) ?_
  rotate_left 1
  · (intro w hSw; (try dsimp only at hSw); go_simp; try with_reducible rfl)
  try simp only [Act.put, List.setIfInBounds_toArray, List.set_cons_zero, List.set_cons_succ]
  refine wpAnyH_take (i := 3) (oi := { dst := some 14, op := Go.Op.call { callee := Go.Callee.builtin Go.Builtin.len, args := #[Go.Operand.tmp 13], argTypes := #[22] }, type := 3, pos := "law.go:48", after := #[{ on := 2, ground := Go.Ground.data }], guard := none }) (v := ?_) rfl (by kernel_rfl) (by kernel_rfl) (by kernel_rfl) (fun _ _ _ h => h) (Or.inl ⟨by rfl, ?_⟩) (by assumption) ?_
  rotate_left 1
  · (intro w hSw; (try dsimp only at hSw); go_simp; try with_reducible rfl)
  try simp only [Act.put, List.setIfInBounds_toArray, List.set_cons_zero, List.set_cons_succ]
  refine wpAnyH_ready (rs := [1]) (by kernel_rfl) (by simp) ?_
  refine AllReadyH.cons (o := { dst := some 12, op := Go.Op.call { callee := Go.Callee.value (Go.Operand.func 26), args := #[Go.Operand.tmp 11], argTypes := #[24] }, type := 3, pos := "law.go:48", after := #[{ on := 0, ground := Go.Ground.data }], guard := none }) rfl (fun K hK => ?_) AllReadyH.nil
  go_simp
  go_at_call 26
  refine (HLen.out _ HB0.out).mono ?_
  rintro e w1 ⟨rfl, rfl⟩
  refine hK.out _ _ ?_ (fun hHeld => ?_)
  · exact trivial
  clear hK K
  try simp only [Act.put, List.setIfInBounds_toArray, List.set_cons_zero, List.set_cons_succ]
  refine wpAnyH_take (i := 4) (oi := { dst := some 15, op := Go.Op.binOp Go.BinOp.neq 3 (Go.Operand.tmp 12) (Go.Operand.tmp 14) 3, type := 4, pos := "law.go:48", after := #[{ on := 1, ground := Go.Ground.data }, { on := 3, ground := Go.Ground.data }], guard := none }) (v := ?_) rfl (by kernel_rfl) (by kernel_rfl) (by kernel_rfl) (fun _ _ _ h => h) (Or.inl ⟨by rfl, ?_⟩) (by assumption) ?_
  rotate_left 1
  · (intro w hSw; (try dsimp only at hSw); go_simp; try with_reducible rfl)
  try simp only [Act.put, List.setIfInBounds_toArray, List.set_cons_zero, List.set_cons_succ]
  refine wpAnyH_take (i := 5) (oi := { dst := some 16, op := Go.Op.move (Go.Operand.tmp 15), type := 4, pos := "law.go:48", after := #[{ on := 4, ground := Go.Ground.data }, { on := 1, ground := Go.Ground.chain }], guard := none }) (v := ?_) rfl (by kernel_rfl) (by kernel_rfl) (by kernel_rfl) (fun _ _ _ h => h) (Or.inl ⟨by rfl, ?_⟩) (by assumption) ?_
  rotate_left 1
  · (intro w hSw; (try dsimp only at hSw); go_simp; try with_reducible rfl)
  try simp only [Act.put, List.setIfInBounds_toArray, List.set_cons_zero, List.set_cons_succ]
  refine wpAnyH_take (i := 6) (oi := { dst := some 17, op := Go.Op.move (Go.Operand.tmp 0), type := 24, pos := "law.go:48", after := #[{ on := 5, ground := Go.Ground.guard }], guard := some (5, false) }) (v := ?_) rfl (by kernel_rfl) (by kernel_rfl) (by kernel_rfl) (fun _ _ _ h => h) (Or.inl ⟨by rfl, ?_⟩) (by assumption) ?_
  rotate_left 1
  · (intro w hSw; (try dsimp only at hSw); go_simp; try with_reducible rfl)
  try simp only [Act.put, List.setIfInBounds_toArray, List.set_cons_zero, List.set_cons_succ]
  refine wpAnyH_take (i := 9) (oi := { dst := some 20, op := Go.Op.move (Go.Operand.tmp 1), type := 22, pos := "law.go:48", after := #[{ on := 5, ground := Go.Ground.guard }], guard := some (5, false) }) (v := ?_) rfl (by kernel_rfl) (by kernel_rfl) (by kernel_rfl) (fun _ _ _ h => h) (Or.inl ⟨by rfl, ?_⟩) (by assumption) ?_
  rotate_left 1
  · (intro w hSw; (try dsimp only at hSw); go_simp; try with_reducible rfl)
  try simp only [Act.put, List.setIfInBounds_toArray, List.set_cons_zero, List.set_cons_succ]
  refine wpAnyH_ready (rs := [7]) (by kernel_rfl) (by simp) ?_
  refine AllReadyH.cons (o := { dst := some 18, op := Go.Op.call { callee := Go.Callee.value (Go.Operand.func 25), args := #[Go.Operand.tmp 17], argTypes := #[24] }, type := 46, pos := "law.go:48", after := #[{ on := 6, ground := Go.Ground.data }, { on := 5, ground := Go.Ground.chain }, { on := 5, ground := Go.Ground.guard }], guard := some (5, false) }) rfl (fun K hK => ?_) AllReadyH.nil
  go_simp
  go_at_call 25
  refine (HBy.out _ HB0.out).mono ?_
  rintro e w2 ⟨v2, rfl, ho2, hb2⟩
  obtain ⟨P2, d2, hv2, hP2, _⟩ := own_slice' ho2
  subst hv2
  have k2 : (convert 46 9 (.slice P2 bs.length d2)).run Tryz.prog w2 = .ok (.string T) w2 := by rw [← HQT.out]; exact conv_bys w2 P2 bs d2 hP2
  have HP2 := Lib.hid hP2
  have HB2 := Lib.hid (below_then HB0.out hb2)
  clear ho2 hb2 hP2
  refine hK.out _ _ ?_ (fun hHeld => ?_)
  · exact trivial
  clear hK K
  refine wpAnyH_more (S' := fun w' => True ∧ (convert 46 9 (.slice P2 bs.length d2)).run Tryz.prog w' = .ok (.string T) w') (fun _ h => h.1) _ _ _ _ ?_
  have hHeld2 := (show (fun w' : World => True ∧ (convert 46 9 (.slice P2 bs.length d2)).run Tryz.prog w' = .ok (.string T) w') _ from ⟨trivial, k2⟩)
  try simp only [Act.put, List.setIfInBounds_toArray, List.set_cons_zero, List.set_cons_succ]
  refine wpAnyH_take (i := 8) (oi := { dst := some 19, op := Go.Op.convert 46 9 (Go.Operand.tmp 18), type := 9, pos := "law.go:48", after := #[{ on := 7, ground := Go.Ground.data }, { on := 5, ground := Go.Ground.guard }], guard := some (5, false) }) (v := ?_) rfl (by kernel_rfl) (by kernel_rfl) (by kernel_rfl) (fun _ _ _ h => h) (Or.inl ⟨by rfl, ?_⟩) (by assumption) ?_
  rotate_left 1
  · (intro w hSw; (try dsimp only at hSw); go_simp; try with_reducible rfl)
  try simp only [Act.put, List.setIfInBounds_toArray, List.set_cons_zero, List.set_cons_succ]
  refine wpAnyH_ready (rs := [10]) (by kernel_rfl) (by simp) ?_
  refine AllReadyH.cons (o := { dst := some 21, op := Go.Op.call { callee := Go.Callee.value (Go.Operand.func 33), args := #[Go.Operand.tmp 20], argTypes := #[22] }, type := 46, pos := "law.go:48", after := #[{ on := 9, ground := Go.Ground.data }, { on := 7, ground := Go.Ground.chain }, { on := 5, ground := Go.Ground.guard }], guard := some (5, false) }) rfl (fun K hK => ?_) AllReadyH.nil
  go_simp
  go_at_call 33
  refine (HBr.out _ HB2.out).mono ?_
  rintro e w3 ⟨v3, rfl, ho3, hb3⟩
  obtain ⟨P3, d3, hv3, hP3, _⟩ := own_slice' ho3
  subst hv3
  have k3 : (convert 46 9 (.slice P2 bs.length d2)).run Tryz.prog w3 = .ok (.string T) w3 := by rw [← HQT.out]; exact conv_bys w3 P2 bs d2 (HP2.out.below hb3)
  have k4 : (convert 46 9 (.slice P3 bs.length d3)).run Tryz.prog w3 = .ok (.string T) w3 := by rw [← HQT.out]; exact conv_bys w3 P3 bs d3 hP3
  have HB3 := Lib.hid (below_then HB2.out hb3)
  have HCV2 := Lib.hid (fun x (h : Below w3.heap.size w3 x) => (show (convert 46 9 (.slice P2 bs.length d2)).run Tryz.prog x = .ok (.string T) x by rw [← HQT.out]; exact conv_bys x P2 bs d2 ((HP2.out.below hb3).below h)))
  have HCV3 := Lib.hid (fun x (h : Below w3.heap.size w3 x) => (show (convert 46 9 (.slice P3 bs.length d3)).run Tryz.prog x = .ok (.string T) x by rw [← HQT.out]; exact conv_bys x P3 bs d3 (hP3.below h)))
  have HD3 := Lib.hid (Below.refl w3.heap.size w3)
  clear ho3 hb3 hP3 k2
  refine hK.out _ _ ?_ (fun hHeld => ?_)
  · exact ⟨trivial, k3⟩
  clear hK K
  refine wpAnyH_more (S' := fun w' => True ∧ (convert 46 9 (.slice P2 bs.length d2)).run Tryz.prog w' = .ok (.string T) w' ∧ (convert 46 9 (.slice P3 bs.length d3)).run Tryz.prog w' = .ok (.string T) w') (fun _ h => ⟨h.1, h.2.1⟩) _ _ _ _ ?_
  have hHeld2 := (show (fun w' : World => True ∧ (convert 46 9 (.slice P2 bs.length d2)).run Tryz.prog w' = .ok (.string T) w' ∧ (convert 46 9 (.slice P3 bs.length d3)).run Tryz.prog w' = .ok (.string T) w') _ from ⟨trivial, k3, k4⟩)
  try simp only [Act.put, List.setIfInBounds_toArray, List.set_cons_zero, List.set_cons_succ]
  refine wpAnyH_take (i := 11) (oi := { dst := some 22, op := Go.Op.convert 46 9 (Go.Operand.tmp 21), type := 9, pos := "law.go:48", after := #[{ on := 10, ground := Go.Ground.data }, { on := 5, ground := Go.Ground.guard }], guard := some (5, false) }) (v := ?_) rfl (by kernel_rfl) (by kernel_rfl) (by kernel_rfl) (fun _ _ _ h => h) (Or.inl ⟨by rfl, ?_⟩) (by assumption) ?_
  rotate_left 1
  · (intro w hSw; (try dsimp only at hSw); go_simp; try with_reducible rfl)
  try simp only [Act.put, List.setIfInBounds_toArray, List.set_cons_zero, List.set_cons_succ]
  refine wpAnyH_take (i := 12) (oi := { dst := some 23, op := Go.Op.binOp Go.BinOp.neq 9 (Go.Operand.tmp 19) (Go.Operand.tmp 22) 9, type := 4, pos := "law.go:48", after := #[{ on := 8, ground := Go.Ground.data }, { on := 11, ground := Go.Ground.data }, { on := 5, ground := Go.Ground.guard }], guard := some (5, false) }) (v := ?_) rfl (by kernel_rfl) (by kernel_rfl) (by kernel_rfl) (fun _ _ _ h => h) (Or.inl ⟨by rfl, ?_⟩) (by assumption) ?_
  rotate_left 1
  · (intro w hSw; (try dsimp only at hSw); go_simp; try with_reducible rfl)
  try simp only [Act.put, List.setIfInBounds_toArray, List.set_cons_zero, List.set_cons_succ]
  refine wpAnyH_take (i := 13) (oi := { dst := some 24, op := Go.Op.pick (Go.Operand.tmp 16) (Go.Operand.const (Go.Value.bool true)) (Go.Operand.tmp 23), type := 4, pos := "law.go:48", after := #[{ on := 5, ground := Go.Ground.data }, { on := 12, ground := Go.Ground.data }], guard := none }) (v := ?_) rfl (by kernel_rfl) (by kernel_rfl) (by kernel_rfl) (fun _ _ _ h => h) (Or.inl ⟨by rfl, ?_⟩) (by assumption) ?_
  rotate_left 1
  · (intro w hSw; (try dsimp only at hSw); go_simp; try with_reducible rfl)
  try simp only [Act.put, List.setIfInBounds_toArray, List.set_cons_zero, List.set_cons_succ]
  refine wpAnyH_take (i := 14) (oi := { dst := some 25, op := Go.Op.move (Go.Operand.tmp 24), type := 4, pos := "law.go:48", after := #[{ on := 13, ground := Go.Ground.data }, { on := 10, ground := Go.Ground.chain }], guard := none }) (v := ?_) rfl (by kernel_rfl) (by kernel_rfl) (by kernel_rfl) (fun _ _ _ h => h) (Or.inl ⟨by rfl, ?_⟩) (by assumption) ?_
  rotate_left 1
  · (intro w hSw; (try dsimp only at hSw); go_simp; try with_reducible rfl)
  try simp only [Act.put, List.setIfInBounds_toArray, List.set_cons_zero, List.set_cons_succ]
  refine wpAnyH_take (i := 15) (oi := { dst := some 26, op := Go.Op.move (Go.Operand.tmp 0), type := 24, pos := "law.go:48", after := #[{ on := 14, ground := Go.Ground.guard }], guard := some (14, false) }) (v := ?_) rfl (by kernel_rfl) (by kernel_rfl) (by kernel_rfl) (fun _ _ _ h => h) (Or.inl ⟨by rfl, ?_⟩) (by assumption) ?_
  rotate_left 1
  · (intro w hSw; (try dsimp only at hSw); go_simp; try with_reducible rfl)
  try simp only [Act.put, List.setIfInBounds_toArray, List.set_cons_zero, List.set_cons_succ]
  refine wpAnyH_take (i := 17) (oi := { dst := some 28, op := Go.Op.move (Go.Operand.tmp 1), type := 22, pos := "law.go:48", after := #[{ on := 14, ground := Go.Ground.guard }], guard := some (14, false) }) (v := ?_) rfl (by kernel_rfl) (by kernel_rfl) (by kernel_rfl) (fun _ _ _ h => h) (Or.inl ⟨by rfl, ?_⟩) (by assumption) ?_
  rotate_left 1
  · (intro w hSw; (try dsimp only at hSw); go_simp; try with_reducible rfl)
  try simp only [Act.put, List.setIfInBounds_toArray, List.set_cons_zero, List.set_cons_succ]
  refine wpAnyH_ready (rs := [16]) (by kernel_rfl) (by simp) ?_
  refine AllReadyH.cons (o := { dst := some 27, op := Go.Op.call { callee := Go.Callee.value (Go.Operand.func 27), args := #[Go.Operand.tmp 26], argTypes := #[24] }, type := 51, pos := "law.go:48", after := #[{ on := 15, ground := Go.Ground.data }, { on := 14, ground := Go.Ground.chain }, { on := 14, ground := Go.Ground.guard }], guard := some (14, false) }) rfl (fun K hK => ?_) AllReadyH.nil
  go_simp
  go_at_call 27
  refine (HNm.out _ HB3.out).mono ?_
  rintro e w4 h
  obtain ⟨P4, d4, rfl, hP4, hb⟩ := txs_slice h
  have HP4 := Lib.hid hP4
  have HB4 := Lib.hid (below_then HB3.out hb)
  have HD4 := Lib.hid (below_then HD3.out hb)
  have c1w4 := HCV2.out _ HD4.out
  have c2w4 := HCV3.out _ HD4.out
  refine hK.out _ _ ?_ (fun hHeld => ?_)
  · exact ⟨trivial, c1w4, c2w4⟩
  clear hK K
  try simp only [Act.put, List.setIfInBounds_toArray, List.set_cons_zero, List.set_cons_succ]
  refine wpAnyH_ready (rs := [18]) (by kernel_rfl) (by simp) ?_
  refine AllReadyH.cons (o := { dst := some 29, op := Go.Op.call { callee := Go.Callee.value (Go.Operand.func 35), args := #[Go.Operand.tmp 28], argTypes := #[22] }, type := 51, pos := "law.go:48", after := #[{ on := 17, ground := Go.Ground.data }, { on := 16, ground := Go.Ground.chain }, { on := 14, ground := Go.Ground.guard }], guard := some (14, false) }) rfl (fun K hK => ?_) AllReadyH.nil
  go_simp
  go_at_call 35
  refine (HNr.out _ HB4.out).mono ?_
  rintro e w5 h
  obtain ⟨P5, d5, rfl, hP5, _, hb⟩ := h
  have HP5 := Lib.hid hP5
  have HP45 := Lib.hid (HP4.out.below hb)
  have HB5 := Lib.hid (below_then HB4.out hb)
  have HD5 := Lib.hid (below_then HD4.out hb)
  have c1w5 := HCV2.out _ HD5.out
  have c2w5 := HCV3.out _ HD5.out
  refine hK.out _ _ ?_ (fun hHeld => ?_)
  · exact ⟨trivial, c1w5, c2w5⟩
  clear hK K
  try simp only [Act.put, List.setIfInBounds_toArray, List.set_cons_zero, List.set_cons_succ]
  refine wpAnyH_ready (rs := [19]) (by kernel_rfl) (by simp) ?_
  refine AllReadyH.cons (o := { dst := some 30, op := Go.Op.call { callee := Go.Callee.value (Go.Operand.func 34), args := #[Go.Operand.tmp 27, Go.Operand.tmp 29], argTypes := #[51, 51] }, type := 4, pos := "law.go:48", after := #[{ on := 16, ground := Go.Ground.data }, { on := 18, ground := Go.Ground.data }, { on := 18, ground := Go.Ground.chain }, { on := 14, ground := Go.Ground.guard }], guard := some (14, false) }) rfl (fun K hK => ?_) AllReadyH.nil
  go_simp
  go_at_call 34
  refine (st_yes _ _ _ d4 d5 _ HP45.out HP5.out HN1.out).mono ?_
  rintro e w6 ⟨rfl, hb⟩
  have HB6 := Lib.hid (below_then HB5.out hb)
  have HD6 := Lib.hid (below_then HD5.out hb)
  have c1w6 := HCV2.out _ HD6.out
  have c2w6 := HCV3.out _ HD6.out
  refine hK.out _ _ ?_ (fun hHeld => ?_)
  · exact ⟨trivial, c1w6, c2w6⟩
  clear hK K
  try simp only [Act.put, List.setIfInBounds_toArray, List.set_cons_zero, List.set_cons_succ]
  refine wpAnyH_take (i := 20) (oi := { dst := some 31, op := Go.Op.unOp Go.UnOp.not 4 (Go.Operand.tmp 30), type := 4, pos := "law.go:48", after := #[{ on := 19, ground := Go.Ground.data }, { on := 14, ground := Go.Ground.guard }], guard := some (14, false) }) (v := ?_) rfl (by kernel_rfl) (by kernel_rfl) (by kernel_rfl) (fun _ _ _ h => h) (Or.inl ⟨by rfl, ?_⟩) (by assumption) ?_
  rotate_left 1
  · (intro w hSw; (try dsimp only at hSw); go_simp; try with_reducible rfl)
  try simp only [Act.put, List.setIfInBounds_toArray, List.set_cons_zero, List.set_cons_succ]
  refine wpAnyH_take (i := 21) (oi := { dst := some 32, op := Go.Op.pick (Go.Operand.tmp 25) (Go.Operand.const (Go.Value.bool true)) (Go.Operand.tmp 31), type := 4, pos := "law.go:48", after := #[{ on := 14, ground := Go.Ground.data }, { on := 20, ground := Go.Ground.data }], guard := none }) (v := ?_) rfl (by kernel_rfl) (by kernel_rfl) (by kernel_rfl) (fun _ _ _ h => h) (Or.inl ⟨by rfl, ?_⟩) (by assumption) ?_
  rotate_left 1
  · (intro w hSw; (try dsimp only at hSw); go_simp; try with_reducible rfl)
  try simp only [Act.put, List.setIfInBounds_toArray, List.set_cons_zero, List.set_cons_succ]
  refine wpAnyH_take (i := 22) (oi := { dst := some 33, op := Go.Op.move (Go.Operand.tmp 32), type := 4, pos := "law.go:48", after := #[{ on := 21, ground := Go.Ground.data }, { on := 19, ground := Go.Ground.chain }], guard := none }) (v := ?_) rfl (by kernel_rfl) (by kernel_rfl) (by kernel_rfl) (fun _ _ _ h => h) (Or.inl ⟨by rfl, ?_⟩) (by assumption) ?_
  rotate_left 1
  · (intro w hSw; (try dsimp only at hSw); go_simp; try with_reducible rfl)
  try simp only [Act.put, List.setIfInBounds_toArray, List.set_cons_zero, List.set_cons_succ]
  refine wpAnyH_take (i := 23) (oi := { dst := some 34, op := Go.Op.move (Go.Operand.tmp 0), type := 24, pos := "law.go:48", after := #[{ on := 22, ground := Go.Ground.guard }], guard := some (22, false) }) (v := ?_) rfl (by kernel_rfl) (by kernel_rfl) (by kernel_rfl) (fun _ _ _ h => h) (Or.inl ⟨by rfl, ?_⟩) (by assumption) ?_
  rotate_left 1
  · (intro w hSw; (try dsimp only at hSw); go_simp; try with_reducible rfl)
  try simp only [Act.put, List.setIfInBounds_toArray, List.set_cons_zero, List.set_cons_succ]
  refine wpAnyH_take (i := 24) (oi := { dst := some 35, op := Go.Op.move (Go.Operand.tmp 3), type := 9, pos := "law.go:48", after := #[{ on := 22, ground := Go.Ground.guard }], guard := some (22, false) }) (v := ?_) rfl (by kernel_rfl) (by kernel_rfl) (by kernel_rfl) (fun _ _ _ h => h) (Or.inl ⟨by rfl, ?_⟩) (by assumption) ?_
  rotate_left 1
  · (intro w hSw; (try dsimp only at hSw); go_simp; try with_reducible rfl)
  try simp only [Act.put, List.setIfInBounds_toArray, List.set_cons_zero, List.set_cons_succ]
  refine wpAnyH_take (i := 26) (oi := { dst := some 37, op := Go.Op.move (Go.Operand.tmp 1), type := 22, pos := "law.go:48", after := #[{ on := 22, ground := Go.Ground.guard }], guard := some (22, false) }) (v := ?_) rfl (by kernel_rfl) (by kernel_rfl) (by kernel_rfl) (fun _ _ _ h => h) (Or.inl ⟨by rfl, ?_⟩) (by assumption) ?_
  rotate_left 1
  · (intro w hSw; (try dsimp only at hSw); go_simp; try with_reducible rfl)
  try simp only [Act.put, List.setIfInBounds_toArray, List.set_cons_zero, List.set_cons_succ]
  refine wpAnyH_take (i := 27) (oi := { dst := some 38, op := Go.Op.move (Go.Operand.tmp 3), type := 9, pos := "law.go:48", after := #[{ on := 22, ground := Go.Ground.guard }], guard := some (22, false) }) (v := ?_) rfl (by kernel_rfl) (by kernel_rfl) (by kernel_rfl) (fun _ _ _ h => h) (Or.inl ⟨by rfl, ?_⟩) (by assumption) ?_
  rotate_left 1
  · (intro w hSw; (try dsimp only at hSw); go_simp; try with_reducible rfl)
  try simp only [Act.put, List.setIfInBounds_toArray, List.set_cons_zero, List.set_cons_succ]
  refine wpAnyH_ready (rs := [25]) (by kernel_rfl) (by simp) ?_
  refine AllReadyH.cons (o := { dst := some 36, op := Go.Op.call { callee := Go.Callee.value (Go.Operand.func 22), args := #[Go.Operand.tmp 34, Go.Operand.tmp 35], argTypes := #[24, 9] }, type := 51, pos := "law.go:48", after := #[{ on := 23, ground := Go.Ground.data }, { on := 24, ground := Go.Ground.data }, { on := 22, ground := Go.Ground.chain }, { on := 22, ground := Go.Ground.guard }], guard := some (22, false) }) rfl (fun K hK => ?_) AllReadyH.nil
  go_simp
  go_at_call 22
  refine (HVl.out _ HB6.out).mono ?_
  rintro e w7 h
  obtain ⟨P7, d7, rfl, hP7, hb⟩ := txs_slice h
  have HP7 := Lib.hid hP7
  have HB7 := Lib.hid (below_then HB6.out hb)
  have HD7 := Lib.hid (below_then HD6.out hb)
  have c1w7 := HCV2.out _ HD7.out
  have c2w7 := HCV3.out _ HD7.out
  refine hK.out _ _ ?_ (fun hHeld => ?_)
  · exact ⟨trivial, c1w7, c2w7⟩
  clear hK K
  try simp only [Act.put, List.setIfInBounds_toArray, List.set_cons_zero, List.set_cons_succ]
  refine wpAnyH_ready (rs := [28]) (by kernel_rfl) (by simp) ?_
  refine AllReadyH.cons (o := { dst := some 39, op := Go.Op.call { callee := Go.Callee.value (Go.Operand.func 36), args := #[Go.Operand.tmp 37, Go.Operand.tmp 38], argTypes := #[22, 9] }, type := 51, pos := "law.go:48", after := #[{ on := 26, ground := Go.Ground.data }, { on := 27, ground := Go.Ground.data }, { on := 25, ground := Go.Ground.chain }, { on := 22, ground := Go.Ground.guard }], guard := some (22, false) }) rfl (fun K hK => ?_) AllReadyH.nil
  go_simp
  go_at_call 36
  refine (HVr.out _ HB7.out).mono ?_
  rintro e w8 h
  obtain ⟨P8, d8, rfl, hP8, _, hb⟩ := h
  have HP8 := Lib.hid hP8
  have HP78 := Lib.hid (HP7.out.below hb)
  have HB8 := Lib.hid (below_then HB7.out hb)
  have HD8 := Lib.hid (below_then HD7.out hb)
  have c1w8 := HCV2.out _ HD8.out
  have c2w8 := HCV3.out _ HD8.out
  refine hK.out _ _ ?_ (fun hHeld => ?_)
  · exact ⟨trivial, c1w8, c2w8⟩
  clear hK K
  try simp only [Act.put, List.setIfInBounds_toArray, List.set_cons_zero, List.set_cons_succ]
  refine wpAnyH_ready (rs := [29]) (by kernel_rfl) (by simp) ?_
  refine AllReadyH.cons (o := { dst := some 40, op := Go.Op.call { callee := Go.Callee.value (Go.Operand.func 34), args := #[Go.Operand.tmp 36, Go.Operand.tmp 39], argTypes := #[51, 51] }, type := 4, pos := "law.go:48", after := #[{ on := 25, ground := Go.Ground.data }, { on := 28, ground := Go.Ground.data }, { on := 28, ground := Go.Ground.chain }, { on := 22, ground := Go.Ground.guard }], guard := some (22, false) }) rfl (fun K hK => ?_) AllReadyH.nil
  go_simp
  go_at_call 34
  refine (st_yes _ _ _ d7 d8 _ HP78.out HP8.out HN2.out).mono ?_
  rintro e w9 ⟨rfl, hb⟩
  have HB9 := Lib.hid (below_then HB8.out hb)
  have HD9 := Lib.hid (below_then HD8.out hb)
  have c1w9 := HCV2.out _ HD9.out
  have c2w9 := HCV3.out _ HD9.out
  refine hK.out _ _ ?_ (fun hHeld => ?_)
  · exact ⟨trivial, c1w9, c2w9⟩
  clear hK K
  try simp only [Act.put, List.setIfInBounds_toArray, List.set_cons_zero, List.set_cons_succ]
  refine wpAnyH_take (i := 30) (oi := { dst := some 41, op := Go.Op.unOp Go.UnOp.not 4 (Go.Operand.tmp 40), type := 4, pos := "law.go:48", after := #[{ on := 29, ground := Go.Ground.data }, { on := 22, ground := Go.Ground.guard }], guard := some (22, false) }) (v := ?_) rfl (by kernel_rfl) (by kernel_rfl) (by kernel_rfl) (fun _ _ _ h => h) (Or.inl ⟨by rfl, ?_⟩) (by assumption) ?_
  rotate_left 1
  · (intro w hSw; (try dsimp only at hSw); go_simp; try with_reducible rfl)
  try simp only [Act.put, List.setIfInBounds_toArray, List.set_cons_zero, List.set_cons_succ]
  refine wpAnyH_take (i := 31) (oi := { dst := some 42, op := Go.Op.pick (Go.Operand.tmp 33) (Go.Operand.const (Go.Value.bool true)) (Go.Operand.tmp 41), type := 4, pos := "law.go:48", after := #[{ on := 22, ground := Go.Ground.data }, { on := 30, ground := Go.Ground.data }], guard := none }) (v := ?_) rfl (by kernel_rfl) (by kernel_rfl) (by kernel_rfl) (fun _ _ _ h => h) (Or.inl ⟨by rfl, ?_⟩) (by assumption) ?_
  rotate_left 1
  · (intro w hSw; (try dsimp only at hSw); go_simp; try with_reducible rfl)
  try simp only [Act.put, List.setIfInBounds_toArray, List.set_cons_zero, List.set_cons_succ]
  refine wpAnyH_done (by kernel_rfl) ?_ _
  clear HD3 HD4 HD5 HD6 HD7 HD8 HD9 HCV2 HCV3 HP2 HP4 HP5 HP45 HP7 HP8 HP78 HLen HBy HBr HNm HNr HVl HVr
  by_cases hk : id < 0 ∨ (ss.length : Int) ≤ id
  · have HLX := Lib.hid (HLN.out _ HB9.out hk)
    by_cases h1 : id < 0
    · have i1 : decide (id < 0) = true := decide_eq_true h1
      go_wp2_with fail
      refine HLX.out.mono ?_
      rintro e w' ⟨rfl, rfl⟩
      go_wp2
      go_ret
      exact ⟨rfl, HB9.out⟩
    · have i1 : decide (id < 0) = false := decide_eq_false h1
      have h2 := hk.resolve_left h1
      have i3 : decide ((ss.length : Int) ≤ id) = true := decide_eq_true h2
      have i4 : decide (id ≥ (ss.length : Int)) = true := decide_eq_true h2
      go_wp2_with fail
      refine HLX.out.mono ?_
      rintro e w' ⟨rfl, rfl⟩
      go_wp2
      go_ret
      exact ⟨rfl, HB9.out⟩
  · obtain ⟨k, rfl⟩ : ∃ k : Nat, id = (k : Int) := ⟨id.toNat, by omega⟩
    have hk2 : k < ss.length := by omega
    have i1 : decide ((k : Int) < 0) = false := decide_eq_false (by omega)
    have i3 : decide ((ss.length : Int) ≤ (k : Int)) = false := decide_eq_false (by omega)
    have i4 : decide ((k : Int) ≥ (ss.length : Int)) = false := decide_eq_false (by omega)
    have i5 : (k : Int) < (ss.length : Int) := by omega
    have HLX := Lib.hid (HLY.out _ HB9.out k hk2)
    have h8k := H8.out _ (ss_at hk2)
    have HSV := Lib.hid (fun x (h : Below w.heap.size w x) => (HV.out x h).at_ hk2)
    generalize ss.getD k [] = l at *
    clear hk
    go_wp2_with fail
    refine HLX.out.mono ?_
    rintro e w10 ⟨v10, rfl, ho, hb⟩
    obtain ⟨P10, d10, rfl, _, hL, _⟩ := ownl_slice ho
    have HB10 := Lib.hid (below_then HB9.out hb)
    obtain ⟨b1, o1, A1, c1, rfl, hb1, g0, hL1, _⟩ := HSV.out _ HB10.out
    have HL1 := Lib.hid hL1
    have HL := Lib.hid hL
    clear ho hb hL hL1
    go_wp2_with fail
    refine (ls_yes _ _ l d10 c1 _ HL.out HL1.out (by omega)).mono ?_
    rintro e w11 ⟨rfl, hb⟩
    have HB11 := Lib.hid (below_then HB10.out hb)
    clear hb
    go_wp2
    go_ret
    exact ⟨rfl, HB11.out⟩
end Go.Proofs.YtojlcipphnegaaaGreat
