/- The document's example of layer 12: what the laws of this layer ask beside their own. -/
import Derived.Test.YtgdmcnoogacdaaaGreatDoorBlLotY
import Derived.Test.YtgdmcnoogacdaaaGreatDoorBlRef
import Derived.Test.YtgdmcnoogacdaaaGreatDoorBlLotL
import Derived.Test.YtgdmcnoogacdaaaGreatDoorIxHeld
namespace Go.Proofs.YtgdmcnoogacdaaaGreatDoor
open Go.RowKit Go.Maps
open Ch
set_option linter.unusedVariables false
set_option maxRecDepth 100000
set_option linter.unusedSimpArgs false

def exBl : List Ser := [([(⟨#[97]⟩, ⟨#[120]⟩)], [(10, 5)])]
theorem exBl_right : blChk exBl = 0 := by decide +kernel
theorem exBl_len : (blL exBl).length = 24 := by decide +kernel
theorem exBl_sel : ((exBl.getD 0 ([], [])).2).filter (keepB 10 10) = [(10, 5)] := by decide +kernel
theorem exBl_fit : ∀ s ∈ exBl, SerFit s := by
  intro s hs
  simp only [exBl, List.mem_singleton] at hs
  subst hs
  refine ⟨fun i hi => ?_, by decide, fun i hi => ?_, by decide⟩
  · obtain rfl : i = 0 := by simp at hi; exact hi
    exact ⟨by decide, by decide⟩
  · obtain rfl : i = 0 := by simp at hi; exact hi
    show Fit (10, 5)
    unfold Fit
    decide
theorem bl_none : ∀ S, blChk S = 0 → blL S ≠ [] := by
  intro S h e
  have := bl_len h
  rw [e] at this
  simp at this
theorem blone_prog (w : World) : Calls Tryz.prog 41 #[] w fun e w' => ∃ g, e = .returned (.slice (some ⟨g, 0, none⟩) 1 1) ∧ Sers w' (some ⟨g, 0, none⟩) exBl ∧ Below w.heap.size w w' := by
  have r1 := Row.new w 118 #[.string ⟨#[97]⟩, .string ⟨#[120]⟩]
  have r2 := row_at w (.cells #[.string ⟨#[97]⟩, .string ⟨#[120]⟩] 118) #[.int .i64 10, .int .i64 5] 83
  have HR1 := Lib.hid (r1.alloc (.cells #[.int .i64 10, .int .i64 5] 83))
  have HR2 := Lib.hid r2
  clear r1 r2
  go_enter Tryz.func41, Tryz.ntmps41
  go_wp2_with fail
  go_ret
  have hb := below_one ((w.alloc (.cells #[.string ⟨#[97]⟩, .string ⟨#[120]⟩] 118)).alloc (.cells #[.int .i64 10, .int .i64 5] 83)) (.cells #[.slice (some ⟨w.heap.size, 0, none⟩) 1 1, .slice (some ⟨w.heap.size + 1, 0, none⟩) 1 1] 65)
  have hR := Row.new ((w.alloc (.cells #[.string ⟨#[97]⟩, .string ⟨#[120]⟩] 118)).alloc (.cells #[.int .i64 10, .int .i64 5] 83)) 65 #[.slice (some ⟨w.heap.size, 0, none⟩) 1 1, .slice (some ⟨w.heap.size + 1, 0, none⟩) 1 1]
  have hs : ((w.alloc (.cells #[.string ⟨#[97]⟩, .string ⟨#[120]⟩] 118)).alloc (.cells #[.int .i64 10, .int .i64 5] 83)).heap.size = w.heap.size + 2 := by simp
  rw [hs] at hR
  refine ⟨w.heap.size + 2, rfl, ⟨[(([(⟨#[97]⟩, ⟨#[120]⟩)], [(10, 5)]), ⟨some ⟨w.heap.size, 0, none⟩, 1, some ⟨w.heap.size + 1, 0, none⟩, 1⟩)], rfl, At.row hR, ?_⟩, ?_⟩
  · intro x hx
    obtain rfl := List.mem_singleton.1 hx
    exact ⟨At.row (HR1.out.below hb (by simp; omega)), At.row (HR2.out.below hb (by simp)), Nat.le_refl _, Nat.le_refl _⟩
  · exact (((Below.refl _ _).alloc (Nat.le_refl _) _).alloc (by simp) _).alloc (by simp; omega) _
theorem smp_eql (w : World) : (binOp .eql 83 (.agg #[.int .i64 10, .int .i64 5]) (.agg #[.int .i64 10, .int .i64 5])).run Tryz.prog w = .ok (.bool true) w := by kernel_rfl
set_option maxHeartbeats 4000000 in
/-- The document's example answers as it says, so a law that asks it is told true. -/
theorem blLives_true (w : World) (hD : Door w) : Calls Tryz.prog 16 #[] w fun e w' => e = .returned (.bool true) ∧ Below w.heap.size w w' := by
  have HT := Lib.hid (fun x : World => blone_prog x)
  have HW := Lib.hid (fun A (x : World) (h : Sers x A exBl) => write_prog A exBl 1 x h exBl_fit (by decide) (by decide))
  have HO := Lib.hid (fun A c (x : World) (hb : Bys x A (blL exBl)) (hc : (blL exBl).length ≤ c) (hd : Door x) => open_yes A (blL exBl) c hc (by rw [exBl_len]; decide) x hb hd exBl_right rfl)
  have HN := Lib.hid (fun (x : World) (hd : Door x) => open_no none [] 0 (Nat.le_refl _) (by decide) x (Bys.empty _ _) hd bl_none)
  have HSL := Lib.hid (fun X b (x : World) (h : BlkAt x b X exBl) => blselect_yes h exBl_right 0 (by decide) 10 10)
  have HR := Lib.hid (fun A (x : World) (h : Sers x A exBl) => bytes12_ref A exBl 1 x h exBl_right (by decide))
  have HL := Lib.hid exBl_len
  rw [exBl_sel] at HSL
  have HD := Lib.hid hD
  clear hD
  have he1 : exBl.length = 1 := rfl
  rw [he1] at HW HR
  generalize hbs : blL exBl = bs at *
  have HBS := Lib.hid hbs
  clear hbs
  go_enter Tryz.func16, Tryz.ntmps16
  go_wp2_with fail
  refine (HT.out _).mono ?_
  rintro e w1 ⟨g1, rfl, hS1, hb1⟩
  have HS1 := Lib.hid hS1
  have HB1 := Lib.hid hb1
  clear hS1 hb1
  go_wp2_with fail
  refine (HW.out _ _ HS1.out).mono ?_
  rintro e w2 ⟨hb2, ⟨h, _⟩ | ⟨_, v2, rfl, ho2⟩⟩
  · exact absurd exBl_right h
  rw [HBS.out] at ho2
  obtain ⟨P2, d2, hv2, hP2, _, hd2, _⟩ := own_cap ho2
  have HB2 := Lib.hid (below_then HB1.out hb2)
  have HP2 := Lib.hid hP2
  have HD2 := Lib.hid hd2
  subst hv2
  clear ho2 hP2 hb2 hd2
  go_wp2_with fail
  refine (HO.out _ _ _ HP2.out HD2.out (HD.out.below HB2.out)).mono ?_
  rintro e w3 ⟨hb3, X, rfl, hX⟩
  have HB3 := Lib.hid (below_then HB2.out hb3)
  have HP3 := Lib.hid (HP2.out.below hb3)
  have HX := Lib.hid hX
  clear hb3 hX
  go_wp2_with fail
  refine (HN.out _ (HD.out.below HB3.out)).mono ?_
  rintro e w4 ⟨hb4, rfl⟩
  have HB4 := Lib.hid (below_then HB3.out hb4)
  have HP4 := Lib.hid (HP3.out.below hb4)
  have HX4 := Lib.hid (HX.out.below hb4)
  clear hb4
  go_wp2_with fail
  refine (HSL.out _ _ _ HX4.out).mono ?_
  rintro e w5 ⟨v5, rfl, ho5, hb5⟩
  obtain ⟨P5, c5, hv5, _, hS5, _⟩ := owns_slice ho5
  obtain ⟨g, o, rfl, hg2, hcell⟩ := hS5.all (by decide)
  obtain ⟨x0, x1⟩ := hcell 0 (by decide)
  have HX0 := Lib.hid (show w5.cell? ⟨g, o, none⟩ = some (.int .i64 10) from x0)
  have HX1 := Lib.hid (show w5.cell? ⟨g, o + 1, none⟩ = some (.int .i64 5) from x1)
  have HB5 := Lib.hid (below_then HB4.out hb5)
  have HP5 := Lib.hid (HP4.out.below hb5)
  have HG := Lib.hid hg2
  change v5 = .slice (some ⟨g, o, none⟩) 1 c5 at hv5
  subst hv5
  clear ho5 hS5 hcell hb5 x0 x1 hg2
  go_upto_region 7 with fail
  have HX0D : Hid (w5.drew.cell? ⟨g, o, none⟩ = some (.int .i64 10)) := HX0
  have HX1D : Hid (w5.drew.cell? ⟨g, o + 1, none⟩ = some (.int .i64 5)) := HX1
  have HGD : Hid (g < w5.drew.heap.size) := HG
  have HP5D : Hid (Bys w5.drew P2 bs) := Lib.hid (HP5.out.below (ix_drawn w5.heap.size w5 1))
  have HB5D : Hid (Below w.heap.size w w5.drew) := Lib.hid HB5.out.drew
  generalize hqT : txt bs = T at *
  have HQT := Lib.hid hqT
  have k5 : (convert 24 9 (.slice P2 bs.length d2)).run Tryz.prog w5.drew = .ok (.string T) w5.drew := by rw [← hqT]; exact conv_bys w5.drew P2 bs d2 HP5D.out
  have sD := HX0D.out
  have tD := HX1D.out
  clear hqT
  have q1 : (T.toList == T.toList) = true := by simp
  have q2 : ((bs.length : Int) == 24) = true := by rw [HL.out]; rfl
  have hsq := smp_eql
  clear HW HO HN HSL HS1 HB1 HB2 HP2 HB3 HP3 HX HB4 HP4 HX4 HB5 HP5 HX0 HX1 HG
  refine wp_region_held_drew (S := fun w' => w'.cell? ⟨g, o, none⟩ = some (.int .i64 10) ∧ w'.cell? ⟨g, o + 1, none⟩ = some (.int .i64 5) ∧ (convert 24 9 (.slice P2 bs.length d2)).run Tryz.prog w' = .ok (.string T) w') (by kernel_rfl) ?_ (fun hHeld => ?_)
  · exact ⟨sD, tD, k5⟩
  refine wpAnyH_take (i := 0) (oi := { dst := some 42, op := Go.Op.move (Go.Operand.tmp 1), type := 24, pos := "law.go:28", after := #[], guard := none }) (v := ?_) rfl (by kernel_rfl) (by kernel_rfl) (by kernel_rfl) (fun _ _ _ h => h) (Or.inl ⟨by rfl, ?_⟩) (by assumption) ?_
  rotate_left 1
  · (intro w hSw; (try dsimp only at hSw); go_simp; try with_reducible rfl)
  try simp only [Act.put, List.setIfInBounds_toArray, List.set_cons_zero, List.set_cons_succ]
  refine wpAnyH_take (i := 1) (oi := { dst := some 43, op := Go.Op.convert 24 9 (Go.Operand.tmp 42), type := 9, pos := "law.go:28", after := #[{ on := 0, ground := Go.Ground.data }], guard := none }) (v := ?_) rfl (by kernel_rfl) (by kernel_rfl) (by kernel_rfl) (fun _ _ _ h => h) (Or.inl ⟨by rfl, ?_⟩) (by assumption) ?_
  rotate_left 1
  · (intro w hSw; (try dsimp only at hSw); go_simp; try with_reducible rfl)
  try simp only [Act.put, List.setIfInBounds_toArray, List.set_cons_zero, List.set_cons_succ]
  refine wpAnyH_ready (rs := [2]) (by kernel_rfl) (by simp) ?_
  refine AllReadyH.cons (o := { dst := some 44, op := Go.Op.call { callee := Go.Callee.value (Go.Operand.func 41), args := #[], argTypes := #[] }, type := 22, pos := "law.go:28", after := #[], guard := none }) rfl (fun K hK => ?_) AllReadyH.nil
  go_simp
  go_at_call 41
  refine (HT.out _).mono ?_
  rintro e w6 ⟨g6, rfl, hS6, hb6⟩
  have HS6 := Lib.hid hS6
  have HP6 := Lib.hid (HP5D.out.below hb6)
  have HB6 := Lib.hid (below_then HB5D.out hb6)
  have s6 : w6.cell? ⟨g, o, none⟩ = some (.int .i64 10) := (hb6.cell HGD.out).trans HX0D.out
  have t6 : w6.cell? ⟨g, o + 1, none⟩ = some (.int .i64 5) := (hb6.cell (p := ⟨g, o + 1, none⟩) HGD.out).trans HX1D.out
  have HX06 := Lib.hid s6
  have HX16 := Lib.hid t6
  have HG6 := Lib.hid (show g < w6.heap.size from Nat.lt_of_lt_of_le HGD.out hb6.size)
  have k6 : (convert 24 9 (.slice P2 bs.length d2)).run Tryz.prog w6 = .ok (.string T) w6 := by rw [← HQT.out]; exact conv_bys w6 P2 bs d2 HP6.out
  clear hS6 hb6
  refine hK.out _ _ ?_ (fun hHeld => ?_)
  · exact ⟨s6, t6, k6⟩
  clear hK K
  try simp only [Act.put, List.setIfInBounds_toArray, List.set_cons_zero, List.set_cons_succ]
  refine wpAnyH_ready (rs := [3]) (by kernel_rfl) (by simp) ?_
  refine AllReadyH.cons (o := { dst := some 45, op := Go.Op.call { callee := Go.Callee.value (Go.Operand.func 35), args := #[Go.Operand.tmp 44], argTypes := #[22] }, type := 24, pos := "law.go:28", after := #[{ on := 2, ground := Go.Ground.data }, { on := 2, ground := Go.Ground.chain }], guard := none }) rfl (fun K hK => ?_) AllReadyH.nil
  go_simp
  go_at_call 35
  refine (HR.out _ _ HS6.out).mono ?_
  rintro e w7 ⟨v7, rfl, ho7, hb7⟩
  obtain ⟨P7, d7, hv7, hP7, _⟩ := own_slice' ho7
  subst hv7
  have s7 : w7.cell? ⟨g, o, none⟩ = some (.int .i64 10) := (hb7.cell HG6.out).trans HX06.out
  have t7 : w7.cell? ⟨g, o + 1, none⟩ = some (.int .i64 5) := (hb7.cell (p := ⟨g, o + 1, none⟩) HG6.out).trans HX16.out
  have k7 : (convert 24 9 (.slice P2 bs.length d2)).run Tryz.prog w7 = .ok (.string T) w7 := by rw [← HQT.out]; exact conv_bys w7 P2 bs d2 (HP6.out.below hb7)
  have k8 : (convert 24 9 (.slice P7 bs.length d7)).run Tryz.prog w7 = .ok (.string T) w7 := by rw [← HQT.out]; exact conv_bys w7 P7 bs d7 hP7
  have HB7 := Lib.hid (below_then HB6.out hb7)
  clear ho7 hb7 hP7
  refine hK.out _ _ ?_ (fun hHeld => ?_)
  · exact ⟨s7, t7, k7⟩
  clear hK K
  refine wpAnyH_more (S' := fun w' => w'.cell? ⟨g, o, none⟩ = some (.int .i64 10) ∧ w'.cell? ⟨g, o + 1, none⟩ = some (.int .i64 5) ∧ (convert 24 9 (.slice P2 bs.length d2)).run Tryz.prog w' = .ok (.string T) w' ∧ (convert 24 9 (.slice P7 bs.length d7)).run Tryz.prog w' = .ok (.string T) w') (fun _ h => ⟨h.1, h.2.1, h.2.2.1⟩) _ _ _ _ ?_
  have hHeld2 := (show (fun w' : World => w'.cell? ⟨g, o, none⟩ = some (.int .i64 10) ∧ w'.cell? ⟨g, o + 1, none⟩ = some (.int .i64 5) ∧ (convert 24 9 (.slice P2 bs.length d2)).run Tryz.prog w' = .ok (.string T) w' ∧ (convert 24 9 (.slice P7 bs.length d7)).run Tryz.prog w' = .ok (.string T) w') _ from ⟨s7, t7, k7, k8⟩)
  try simp only [Act.put, List.setIfInBounds_toArray, List.set_cons_zero, List.set_cons_succ]
  refine wpAnyH_take (i := 4) (oi := { dst := some 46, op := Go.Op.convert 24 9 (Go.Operand.tmp 45), type := 9, pos := "law.go:28", after := #[{ on := 3, ground := Go.Ground.data }], guard := none }) (v := ?_) rfl (by kernel_rfl) (by kernel_rfl) (by kernel_rfl) (fun _ _ _ h => h) (Or.inl ⟨by rfl, ?_⟩) (by assumption) ?_
  rotate_left 1
  · (intro w hSw; (try dsimp only at hSw); go_simp; try with_reducible rfl)
  try simp only [Act.put, List.setIfInBounds_toArray, List.set_cons_zero, List.set_cons_succ]
  refine wpAnyH_take (i := 5) (oi := { dst := some 47, op := Go.Op.binOp Go.BinOp.eql 9 (Go.Operand.tmp 43) (Go.Operand.tmp 46) 9, type := 4, pos := "law.go:28", after := #[{ on := 1, ground := Go.Ground.data }, { on := 4, ground := Go.Ground.data }], guard := none }) (v := ?_) rfl (by kernel_rfl) (by kernel_rfl) (by kernel_rfl) (fun _ _ _ h => h) (Or.inl ⟨by rfl, ?_⟩) (by assumption) ?_
  rotate_left 1
  · (intro w hSw; (try dsimp only at hSw); go_simp; try with_reducible rfl)
  try simp only [Act.put, List.setIfInBounds_toArray, List.set_cons_zero, List.set_cons_succ]
  refine wpAnyH_take (i := 6) (oi := { dst := some 48, op := Go.Op.move (Go.Operand.tmp 47), type := 4, pos := "law.go:28", after := #[{ on := 5, ground := Go.Ground.data }, { on := 3, ground := Go.Ground.chain }], guard := none }) (v := ?_) rfl (by kernel_rfl) (by kernel_rfl) (by kernel_rfl) (fun _ _ _ h => h) (Or.inl ⟨by rfl, ?_⟩) (by assumption) ?_
  rotate_left 1
  · (intro w hSw; (try dsimp only at hSw); go_simp; try with_reducible rfl)
  try simp only [Act.put, List.setIfInBounds_toArray, List.set_cons_zero, List.set_cons_succ]
  refine wpAnyH_take (i := 7) (oi := { dst := some 49, op := Go.Op.move (Go.Operand.tmp 1), type := 24, pos := "law.go:28", after := #[{ on := 6, ground := Go.Ground.guard }], guard := some (6, true) }) (v := ?_) rfl (by kernel_rfl) (by kernel_rfl) (by kernel_rfl) (fun _ _ _ h => h) (Or.inl ⟨by rfl, ?_⟩) (by assumption) ?_
  rotate_left 1
  · (intro w hSw; (try dsimp only at hSw); go_simp; try with_reducible rfl)
  try simp only [Act.put, List.setIfInBounds_toArray, List.set_cons_zero, List.set_cons_succ]
  refine wpAnyH_take (i := 8) (oi := { dst := some 50, op := Go.Op.call { callee := Go.Callee.builtin Go.Builtin.len, args := #[Go.Operand.tmp 49], argTypes := #[24] }, type := 3, pos := "law.go:28", after := #[{ on := 7, ground := Go.Ground.data }, { on := 6, ground := Go.Ground.guard }], guard := some (6, true) }) (v := ?_) rfl (by kernel_rfl) (by kernel_rfl) (by kernel_rfl) (fun _ _ _ h => h) (Or.inl ⟨by rfl, ?_⟩) (by assumption) ?_
  rotate_left 1
  · (intro w hSw; (try dsimp only at hSw); go_simp; try with_reducible rfl)
  try simp only [Act.put, List.setIfInBounds_toArray, List.set_cons_zero, List.set_cons_succ]
  refine wpAnyH_take (i := 9) (oi := { dst := some 51, op := Go.Op.binOp Go.BinOp.eql 3 (Go.Operand.tmp 50) (Go.Operand.const (Go.Value.int Go.IntKind.i64 24)) 3, type := 4, pos := "law.go:28", after := #[{ on := 8, ground := Go.Ground.data }, { on := 6, ground := Go.Ground.guard }], guard := some (6, true) }) (v := ?_) rfl (by kernel_rfl) (by kernel_rfl) (by kernel_rfl) (fun _ _ _ h => h) (Or.inl ⟨by rfl, ?_⟩) (by assumption) ?_
  rotate_left 1
  · (intro w hSw; (try dsimp only at hSw); go_simp; try with_reducible rfl)
  try simp only [Act.put, List.setIfInBounds_toArray, List.set_cons_zero, List.set_cons_succ]
  refine wpAnyH_take (i := 10) (oi := { dst := some 52, op := Go.Op.pick (Go.Operand.tmp 48) (Go.Operand.tmp 51) (Go.Operand.const (Go.Value.bool false)), type := 4, pos := "law.go:28", after := #[{ on := 6, ground := Go.Ground.data }, { on := 9, ground := Go.Ground.data }], guard := none }) (v := ?_) rfl (by kernel_rfl) (by kernel_rfl) (by kernel_rfl) (fun _ _ _ h => h) (Or.inl ⟨by rfl, ?_⟩) (by assumption) ?_
  rotate_left 1
  · (intro w hSw; (try dsimp only at hSw); go_simp; try with_reducible rfl)
  try simp only [Act.put, List.setIfInBounds_toArray, List.set_cons_zero, List.set_cons_succ]
  refine wpAnyH_take (i := 11) (oi := { dst := some 53, op := Go.Op.move (Go.Operand.tmp 52), type := 4, pos := "law.go:28", after := #[{ on := 10, ground := Go.Ground.data }, { on := 6, ground := Go.Ground.chain }], guard := none }) (v := ?_) rfl (by kernel_rfl) (by kernel_rfl) (by kernel_rfl) (fun _ _ _ h => h) (Or.inl ⟨by rfl, ?_⟩) (by assumption) ?_
  rotate_left 1
  · (intro w hSw; (try dsimp only at hSw); go_simp; try with_reducible rfl)
  try simp only [Act.put, List.setIfInBounds_toArray, List.set_cons_zero, List.set_cons_succ]
  refine wpAnyH_take (i := 12) (oi := { dst := some 54, op := Go.Op.move (Go.Operand.tmp 7), type := 49, pos := "law.go:28", after := #[{ on := 11, ground := Go.Ground.guard }], guard := some (11, true) }) (v := ?_) rfl (by kernel_rfl) (by kernel_rfl) (by kernel_rfl) (fun _ _ _ h => h) (Or.inl ⟨by rfl, ?_⟩) (by assumption) ?_
  rotate_left 1
  · (intro w hSw; (try dsimp only at hSw); go_simp; try with_reducible rfl)
  try simp only [Act.put, List.setIfInBounds_toArray, List.set_cons_zero, List.set_cons_succ]
  refine wpAnyH_take (i := 13) (oi := { dst := some 55, op := Go.Op.call { callee := Go.Callee.builtin Go.Builtin.len, args := #[Go.Operand.tmp 54], argTypes := #[49] }, type := 3, pos := "law.go:28", after := #[{ on := 12, ground := Go.Ground.data }, { on := 11, ground := Go.Ground.guard }], guard := some (11, true) }) (v := ?_) rfl (by kernel_rfl) (by kernel_rfl) (by kernel_rfl) (fun _ _ _ h => h) (Or.inl ⟨by rfl, ?_⟩) (by assumption) ?_
  rotate_left 1
  · (intro w hSw; (try dsimp only at hSw); go_simp; try with_reducible rfl)
  try simp only [Act.put, List.setIfInBounds_toArray, List.set_cons_zero, List.set_cons_succ]
  refine wpAnyH_take (i := 14) (oi := { dst := some 56, op := Go.Op.binOp Go.BinOp.eql 3 (Go.Operand.tmp 55) (Go.Operand.const (Go.Value.int Go.IntKind.i64 1)) 3, type := 4, pos := "law.go:28", after := #[{ on := 13, ground := Go.Ground.data }, { on := 11, ground := Go.Ground.guard }], guard := some (11, true) }) (v := ?_) rfl (by kernel_rfl) (by kernel_rfl) (by kernel_rfl) (fun _ _ _ h => h) (Or.inl ⟨by rfl, ?_⟩) (by assumption) ?_
  rotate_left 1
  · (intro w hSw; (try dsimp only at hSw); go_simp; try with_reducible rfl)
  try simp only [Act.put, List.setIfInBounds_toArray, List.set_cons_zero, List.set_cons_succ]
  refine wpAnyH_take (i := 15) (oi := { dst := some 57, op := Go.Op.pick (Go.Operand.tmp 53) (Go.Operand.tmp 56) (Go.Operand.const (Go.Value.bool false)), type := 4, pos := "law.go:28", after := #[{ on := 11, ground := Go.Ground.data }, { on := 14, ground := Go.Ground.data }], guard := none }) (v := ?_) rfl (by kernel_rfl) (by kernel_rfl) (by kernel_rfl) (fun _ _ _ h => h) (Or.inl ⟨by rfl, ?_⟩) (by assumption) ?_
  rotate_left 1
  · (intro w hSw; (try dsimp only at hSw); go_simp; try with_reducible rfl)
  try simp only [Act.put, List.setIfInBounds_toArray, List.set_cons_zero, List.set_cons_succ]
  refine wpAnyH_take (i := 16) (oi := { dst := some 58, op := Go.Op.move (Go.Operand.tmp 57), type := 4, pos := "law.go:28", after := #[{ on := 15, ground := Go.Ground.data }, { on := 11, ground := Go.Ground.chain }], guard := none }) (v := ?_) rfl (by kernel_rfl) (by kernel_rfl) (by kernel_rfl) (fun _ _ _ h => h) (Or.inl ⟨by rfl, ?_⟩) (by assumption) ?_
  rotate_left 1
  · (intro w hSw; (try dsimp only at hSw); go_simp; try with_reducible rfl)
  try simp only [Act.put, List.setIfInBounds_toArray, List.set_cons_zero, List.set_cons_succ]
  refine wpAnyH_take (i := 17) (oi := { dst := some 59, op := Go.Op.move (Go.Operand.tmp 7), type := 49, pos := "law.go:28", after := #[{ on := 16, ground := Go.Ground.guard }], guard := some (16, true) }) (v := ?_) rfl (by kernel_rfl) (by kernel_rfl) (by kernel_rfl) (fun _ _ _ h => h) (Or.inl ⟨by rfl, ?_⟩) (by assumption) ?_
  rotate_left 1
  · (intro w hSw; (try dsimp only at hSw); go_simp; try with_reducible rfl)
  try simp only [Act.put, List.setIfInBounds_toArray, List.set_cons_zero, List.set_cons_succ]
  refine wpAnyH_take (i := 18) (oi := { dst := some 60, op := Go.Op.indexAddr 49 (Go.Operand.tmp 59) (Go.Operand.const (Go.Value.int Go.IntKind.i64 0)), type := 0, pos := "law.go:28", after := #[{ on := 17, ground := Go.Ground.data }, { on := 16, ground := Go.Ground.guard }], guard := some (16, true) }) (v := ?_) rfl (by kernel_rfl) (by kernel_rfl) (by kernel_rfl) (fun _ _ _ h => h) (Or.inl ⟨by rfl, ?_⟩) (by assumption) ?_
  rotate_left 1
  · (intro w hSw; (try dsimp only at hSw); go_simp; try with_reducible rfl)
  try simp only [Act.put, List.setIfInBounds_toArray, List.set_cons_zero, List.set_cons_succ]
  refine wpAnyH_take (i := 19) (oi := { dst := some 61, op := Go.Op.load 83 (Go.Operand.tmp 60), type := 83, pos := "law.go:28", after := #[{ on := 18, ground := Go.Ground.data }, { on := 16, ground := Go.Ground.guard }], guard := some (16, true) }) (v := ?_) rfl (by kernel_rfl) (by kernel_rfl) (by kernel_rfl) (fun _ _ _ h => h) (Or.inl ⟨by rfl, ?_⟩) (by assumption) ?_
  rotate_left 1
  · (intro w hSw; (try dsimp only at hSw); go_simp; try with_reducible rfl)
  try simp only [Act.put, List.setIfInBounds_toArray, List.set_cons_zero, List.set_cons_succ]
  refine wpAnyH_take (i := 20) (oi := { dst := some 62, op := Go.Op.build 83 #[(0, Go.Operand.const (Go.Value.int Go.IntKind.i64 10)), (1, Go.Operand.const (Go.Value.int Go.IntKind.i64 5))], type := 83, pos := "law.go:28", after := #[{ on := 16, ground := Go.Ground.guard }], guard := some (16, true) }) (v := ?_) rfl (by kernel_rfl) (by kernel_rfl) (by kernel_rfl) (fun _ _ _ h => h) (Or.inl ⟨by rfl, ?_⟩) (by assumption) ?_
  rotate_left 1
  · (intro w hSw; (try dsimp only at hSw); go_simp; try with_reducible rfl)
  try simp only [Act.put, List.setIfInBounds_toArray, List.set_cons_zero, List.set_cons_succ]
  refine wpAnyH_take (i := 21) (oi := { dst := some 63, op := Go.Op.binOp Go.BinOp.eql 83 (Go.Operand.tmp 61) (Go.Operand.tmp 62) 83, type := 4, pos := "law.go:28", after := #[{ on := 19, ground := Go.Ground.data }, { on := 20, ground := Go.Ground.data }, { on := 16, ground := Go.Ground.guard }], guard := some (16, true) }) (v := ?_) rfl (by kernel_rfl) (by kernel_rfl) (by kernel_rfl) (fun _ _ _ h => h) (Or.inl ⟨by rfl, ?_⟩) (by assumption) ?_
  rotate_left 1
  · (intro w hSw; (try dsimp only at hSw); go_simp; try with_reducible rfl)
  try simp only [Act.put, List.setIfInBounds_toArray, List.set_cons_zero, List.set_cons_succ]
  refine wpAnyH_take (i := 22) (oi := { dst := some 64, op := Go.Op.pick (Go.Operand.tmp 58) (Go.Operand.tmp 63) (Go.Operand.const (Go.Value.bool false)), type := 4, pos := "law.go:28", after := #[{ on := 16, ground := Go.Ground.data }, { on := 21, ground := Go.Ground.data }], guard := none }) (v := ?_) rfl (by kernel_rfl) (by kernel_rfl) (by kernel_rfl) (fun _ _ _ h => h) (Or.inl ⟨by rfl, ?_⟩) (by assumption) ?_
  rotate_left 1
  · (intro w hSw; (try dsimp only at hSw); go_simp; try with_reducible rfl)
  try simp only [Act.put, List.setIfInBounds_toArray, List.set_cons_zero, List.set_cons_succ]
  refine wpAnyH_take (i := 23) (oi := { dst := some 65, op := Go.Op.move (Go.Operand.tmp 64), type := 4, pos := "law.go:28", after := #[{ on := 22, ground := Go.Ground.data }, { on := 16, ground := Go.Ground.chain }], guard := none }) (v := ?_) rfl (by kernel_rfl) (by kernel_rfl) (by kernel_rfl) (fun _ _ _ h => h) (Or.inl ⟨by rfl, ?_⟩) (by assumption) ?_
  rotate_left 1
  · (intro w hSw; (try dsimp only at hSw); go_simp; try with_reducible rfl)
  try simp only [Act.put, List.setIfInBounds_toArray, List.set_cons_zero, List.set_cons_succ]
  refine wpAnyH_take (i := 24) (oi := { dst := some 66, op := Go.Op.move (Go.Operand.tmp 8), type := 25, pos := "law.go:28", after := #[{ on := 23, ground := Go.Ground.guard }], guard := some (23, true) }) (v := ?_) rfl (by kernel_rfl) (by kernel_rfl) (by kernel_rfl) (fun _ _ _ h => h) (Or.inl ⟨by rfl, ?_⟩) (by assumption) ?_
  rotate_left 1
  · (intro w hSw; (try dsimp only at hSw); go_simp; try with_reducible rfl)
  try simp only [Act.put, List.setIfInBounds_toArray, List.set_cons_zero, List.set_cons_succ]
  refine wpAnyH_take (i := 25) (oi := { dst := some 67, op := Go.Op.binOp Go.BinOp.eql 25 (Go.Operand.tmp 66) (Go.Operand.const (Go.Value.int Go.IntKind.i64 0)) 25, type := 4, pos := "law.go:28", after := #[{ on := 24, ground := Go.Ground.data }, { on := 23, ground := Go.Ground.guard }], guard := some (23, true) }) (v := ?_) rfl (by kernel_rfl) (by kernel_rfl) (by kernel_rfl) (fun _ _ _ h => h) (Or.inl ⟨by rfl, ?_⟩) (by assumption) ?_
  rotate_left 1
  · (intro w hSw; (try dsimp only at hSw); go_simp; try with_reducible rfl)
  try simp only [Act.put, List.setIfInBounds_toArray, List.set_cons_zero, List.set_cons_succ]
  refine wpAnyH_take (i := 26) (oi := { dst := some 68, op := Go.Op.pick (Go.Operand.tmp 65) (Go.Operand.tmp 67) (Go.Operand.const (Go.Value.bool false)), type := 4, pos := "law.go:28", after := #[{ on := 23, ground := Go.Ground.data }, { on := 25, ground := Go.Ground.data }], guard := none }) (v := ?_) rfl (by kernel_rfl) (by kernel_rfl) (by kernel_rfl) (fun _ _ _ h => h) (Or.inl ⟨by rfl, ?_⟩) (by assumption) ?_
  rotate_left 1
  · (intro w hSw; (try dsimp only at hSw); go_simp; try with_reducible rfl)
  try simp only [Act.put, List.setIfInBounds_toArray, List.set_cons_zero, List.set_cons_succ]
  refine wpAnyH_take (i := 27) (oi := { dst := some 69, op := Go.Op.move (Go.Operand.tmp 68), type := 4, pos := "law.go:28", after := #[{ on := 26, ground := Go.Ground.data }, { on := 23, ground := Go.Ground.chain }], guard := none }) (v := ?_) rfl (by kernel_rfl) (by kernel_rfl) (by kernel_rfl) (fun _ _ _ h => h) (Or.inl ⟨by rfl, ?_⟩) (by assumption) ?_
  rotate_left 1
  · (intro w hSw; (try dsimp only at hSw); go_simp; try with_reducible rfl)
  try simp only [Act.put, List.setIfInBounds_toArray, List.set_cons_zero, List.set_cons_succ]
  refine wpAnyH_take (i := 28) (oi := { dst := some 70, op := Go.Op.pick (Go.Operand.tmp 69) (Go.Operand.const (Go.Value.bool true)) (Go.Operand.const (Go.Value.bool false)), type := 4, pos := "law.go:28", after := #[{ on := 27, ground := Go.Ground.data }], guard := none }) (v := ?_) rfl (by kernel_rfl) (by kernel_rfl) (by kernel_rfl) (fun _ _ _ h => h) (Or.inl ⟨by rfl, ?_⟩) (by assumption) ?_
  rotate_left 1
  · (intro w hSw; (try dsimp only at hSw); go_simp; try with_reducible rfl)
  try simp only [Act.put, List.setIfInBounds_toArray, List.set_cons_zero, List.set_cons_succ]
  refine wpAnyH_take (i := 29) (oi := { dst := some 0, op := Go.Op.assign (Go.Operand.tmp 70), type := 4, pos := "law.go:28", after := #[{ on := 28, ground := Go.Ground.data }, { on := 27, ground := Go.Ground.chain }, { on := 0, ground := Go.Ground.phase }, { on := 1, ground := Go.Ground.phase }, { on := 2, ground := Go.Ground.phase }, { on := 3, ground := Go.Ground.phase }, { on := 4, ground := Go.Ground.phase }, { on := 5, ground := Go.Ground.phase }, { on := 6, ground := Go.Ground.phase }, { on := 7, ground := Go.Ground.phase }, { on := 8, ground := Go.Ground.phase }, { on := 9, ground := Go.Ground.phase }, { on := 10, ground := Go.Ground.phase }, { on := 11, ground := Go.Ground.phase }, { on := 12, ground := Go.Ground.phase }, { on := 13, ground := Go.Ground.phase }, { on := 14, ground := Go.Ground.phase }, { on := 15, ground := Go.Ground.phase }, { on := 16, ground := Go.Ground.phase }, { on := 17, ground := Go.Ground.phase }, { on := 18, ground := Go.Ground.phase }, { on := 19, ground := Go.Ground.phase }, { on := 20, ground := Go.Ground.phase }, { on := 21, ground := Go.Ground.phase }, { on := 22, ground := Go.Ground.phase }, { on := 23, ground := Go.Ground.phase }, { on := 24, ground := Go.Ground.phase }, { on := 25, ground := Go.Ground.phase }, { on := 26, ground := Go.Ground.phase }, { on := 27, ground := Go.Ground.phase }, { on := 28, ground := Go.Ground.phase }], guard := none }) (v := ?_) rfl (by kernel_rfl) (by kernel_rfl) (by kernel_rfl) (fun _ _ _ h => h) (Or.inl ⟨by rfl, ?_⟩) (by assumption) ?_
  rotate_left 1
  · (intro w hSw; (try dsimp only at hSw); go_simp; try with_reducible rfl)
  try simp only [Act.put, List.setIfInBounds_toArray, List.set_cons_zero, List.set_cons_succ]
  refine wpAnyH_done (by kernel_rfl) ?_ _
  go_wp2
  go_ret
  exact ⟨rfl, HB7.out⟩
end Go.Proofs.YtgdmcnoogacdaaaGreatDoor
