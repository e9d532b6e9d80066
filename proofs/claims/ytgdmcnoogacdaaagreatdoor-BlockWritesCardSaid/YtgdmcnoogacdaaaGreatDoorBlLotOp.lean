/- In one text, written by lotify.py: BlOpen, BlMeth. -/
import Derived.Test.YtgdmcnoogacdaaaGreatDoorBlRead
import Derived.Test.YtgdmcnoogacdaaaGreatDoorBlLotX
import Derived.Defers
import Derived.Recover
import Derived.Test.YtgdmcnoogacdaaaGreatDoorBlLotS
namespace Go.Proofs.YtgdmcnoogacdaaaGreatDoor
open Go.RowKit Go.Maps
open Ch
set_option linter.unusedVariables false
set_option linter.unusedSimpArgs false
set_option maxRecDepth 100000

theorem blread_prog (A : Option Addr) (b : List UInt8) (c : Nat) (hbc : b.length ≤ c) (hbl : b.length ≤ 140737488355328) (w : World) (hA : Bys w A b) {o : BlRes} (ho : BlO b o) :
    Calls Tryz.prog 44 #[.slice A b.length c] w (ReadTold w o) := by
  by_cases h4 : 4 ≤ b.length
  · rcases hA with h | ⟨bb, oo, rfl, hlt, hc⟩
    · subst h; simp at h4
    · have hA' : Bys w (some ⟨bb, oo, none⟩) b := .inr ⟨bb, oo, rfl, hlt, hc⟩
      by_cases hs : b.drop (b.length - 4) = le4 (sumN (b.take (b.length - 4)))
      · exact blread_good bb oo b c hbc hbl w hlt hA' ho h4 hs
      · exact blread_sum bb oo b c hbc hbl w hA' ho h4 hs
  · exact blread_short A b c w hA ho h4
theorem bl_isErr (v : Value) (w : World) : (Instr.typeAssert (.iface 138 v) 20 140 true).run Tryz.prog w = .ok (.tuple #[.iface 138 v, .bool true]) w :=
  Go.run_typeAssert_hasB Tryz.underlying140 (by kernel_rfl) v 20 w
set_option maxHeartbeats 4000000 in
theorem told_prog5 (w : World) (hD : Door w) : Calls Tryz.prog 43 #[.iface 138 (.int .i64 5)] w fun e w' => e = .returned (.int .i64 5) ∧ Below w.heap.size w w' := by
  have hb1 := below_one w (.cells #[.int .i64 0] 138)
  have hR1 := Row.new w 138 #[.int .i64 0]
  have HAS := Lib.hid (as_hit 5 w.heap.size (.int .i64 0) _ (hD.alloc (.cells #[.int .i64 0] 138)) hR1)
  have hA := fun (v : Value) (w : World) => bl_isErr v w
  have HB1 := Lib.hid hb1
  clear hD hb1 hR1
  go_enter Tryz.func43, Tryz.ntmps43
  go_wp2_with fail
  refine HAS.out.mono ?_
  rintro e w2 ⟨rfl, hw2⟩
  have hb2 : Below w.heap.size w w2 := by
    rw [hw2]
    exact ((((HB1.out.alloc HB1.out.size _).alloc (by simp; omega) _).alloc (by simp; omega) _).alloc (by simp; omega) _).setCell (p := ⟨w.heap.size, 0, none⟩) (Nat.le_refl _) _
  have c2 : w2.cell? ⟨w.heap.size, 0, none⟩ = some (.int .i64 5) := by
    have hr := (((((Row.new w 138 #[.int .i64 0]).alloc (.cells #[.pointer (some ⟨w.heap.size, 0, none⟩)] 143)).alloc (.cells #[.pointer (some ⟨2, 143, none⟩), .pointer (some ⟨(w.alloc (.cells #[.int .i64 0] 138)).heap.size, 0, none⟩), .int .u64 150] 191)).alloc (.cells #[.pointer (some ⟨2, 143, none⟩), .pointer (some ⟨(w.alloc (.cells #[.int .i64 0] 138)).heap.size, 0, none⟩), .int .u64 150] 191)).alloc (.cells #[.int .i64 5] 138)).setAt 0 (.int .i64 5)
    rw [hw2]
    exact hr.cell 0
  have HB2 := Lib.hid hb2
  clear hw2 hb2
  go_wp2_with fail
  go_ret
  exact ⟨rfl, HB2.out⟩
set_option maxHeartbeats 4000000 in
theorem blcatch_panicking {C D : Nat} {x : Value} {y : Int} (w : World) (hC : Row w C 36 #[x]) (hD : Row w D 25 #[.int .i64 y]) (hx : x.oneCell' = true) (hCD : C ≠ D) (hDo : Door w) :
    CallsD Tryz.prog 42 #[.pointer (some ⟨C, 0, none⟩), .pointer (some ⟨D, 0, none⟩)] (.panicking blbroken) w fun e u' w' =>
      e = .returned (.tuple #[]) ∧ u' = .panicking [{ v := .iface 138 (.int .i64 5), recovered := true }] ∧ ∃ w1, Below w.heap.size w w1 ∧ w' = (w1.setCell ⟨C, 0, none⟩ (.pointer none)).setCell ⟨D, 0, none⟩ (.int .i64 5) := by
  have HT := Lib.hid (told_prog5 w hDo)
  have HC := Lib.hid hC
  have HD := Lib.hid hD
  clear hC hD hDo
  refine callsD_of_wpS Tryz.func42 rfl fun c₀ cs hu => ?_
  apply wpS_seq
  apply wpS_region
  simp [wpOpsS, go_sem, recoverD, hu, Tryz.ntmps42, Exit.thenS, blbroken]
  apply wpS_seq
  apply wpS_region
  simp [wpOpsS, go_sem, Exit.thenS]
  refine wpS_cond (t := true) (by simp [Act.eval, Array.replicate]) ?_
  simp only [if_true]
  refine wpS_of_wp ?_
  go_wp2_with fail
  refine HT.out.mono ?_
  rintro e w2 ⟨rfl, hb2⟩
  have hC2 := HC.out.below hb2 HC.out.lt
  have hD2 := HD.out.below hb2 HD.out.lt
  have c0 : w2.cell? ⟨C, 0, none⟩ = some x := hC2.cell 0
  have d0 : w2.cell? ⟨D, 0, none⟩ = some (.int .i64 y) := hD2.cell 0
  have e0 := hC2.frozen 0
  have f0 := hD2.frozen 0
  have d1 : (w2.setCell ⟨C, 0, none⟩ (.pointer none)).cell? ⟨D, 0, none⟩ = some (.int .i64 y) := (hD2.setFar (p := ⟨C, 0, none⟩) (Ne.symm hCD) _).cell 0
  have f1 := (hD2.setFar (p := ⟨C, 0, none⟩) (Ne.symm hCD) (.pointer none)).frozen 0
  have HB2 := Lib.hid hb2
  clear hC2 hD2 hb2
  go_wp2_with fail
  simp [bodyPostS, results, Tryz.results42, go_sem]
  exact ⟨w2, HB2.out, rfl⟩
theorem blcatch_idle (C D : Value) (w : World) :
    CallsD Tryz.prog 42 #[C, D] .returning w fun e u' w' => e = .returned (.tuple #[]) ∧ u' = .returning ∧ w' = w := by
  refine callsD_of_wpS Tryz.func42 rfl fun c₀ cs hu => ?_
  apply wpS_seq
  apply wpS_region
  simp [wpOpsS, go_sem, recoverD, hu, Tryz.ntmps42, Exit.thenS]
  apply wpS_seq
  apply wpS_region
  simp [wpOpsS, go_sem, Exit.thenS]
  refine wpS_cond (t := false) (by simp [Act.eval, Array.replicate]) ?_
  simp only [Bool.false_eq_true, if_false]
  refine wpS_of_wp (wp_skip ?_)
  cases c₀
  simp_all [bodyPostS, results, Tryz.results42]

/-! ### Open -/
/-- Block X holds a block of S; it and all that it has lie from block base on. -/
def BlkAt (w : World) (base X : Nat) (S : List Ser) : Prop :=
  base ≤ X ∧ ∃ I v B, base ≤ B ∧ Row w X 90 #[.pointer (some ⟨I, 0, none⟩), v] ∧ IdxAt w B I (blSets S) ∧ OwnQ w base v (S.map fun s => pcs s.2)
theorem BlkAt.below {w w' : World} {base X : Nat} {S : List Ser} (h : BlkAt w base X S) (hb : Below w.heap.size w w') : BlkAt w' base X S := by
  obtain ⟨h1, I, v, B, h2, h3, h4, h5⟩ := h
  exact ⟨h1, I, v, B, h2, h3.below hb h3.lt, h4.below hb, ownq_below h5 hb⟩
theorem BlkAt.lt {w : World} {base X : Nat} {S : List Ser} (h : BlkAt w base X S) : X < w.heap.size := by
  obtain ⟨_, I, v, B, _, h3, _⟩ := h
  exact h3.lt
/-- What Open tells. -/
def OpenTold (w : World) (b : List UInt8) (e : Ending) (w' : World) : Prop :=
  Below w.heap.size w w' ∧ ((∃ S X, blChk S = 0 ∧ blL S = b ∧ e = .returned (.tuple #[.pointer (some ⟨X, 0, none⟩), .int .i64 0]) ∧ BlkAt w' w.heap.size X S) ∨ ((∀ S, blChk S = 0 → blL S ≠ b) ∧ e = .returned (.tuple #[.pointer none, .int .i64 5])))
/-- For every list of bytes one outcome: the block of its series, or none. -/
theorem blO_pick (b : List UInt8) : (∃ S, blChk S = 0 ∧ blL S = b ∧ BlO b (some (blSets S, S.map fun s => pcs s.2))) ∨ ((∀ S, blChk S = 0 → blL S ≠ b) ∧ BlO b none) := by
  by_cases h : ∃ S, blChk S = 0 ∧ blL S = b
  · obtain ⟨S, h1, h2⟩ := h
    exact .inl ⟨S, h1, h2, by rw [← h2]; exact blO_back h1⟩
  · obtain ⟨o, ho⟩ := blO_total b
    rcases o with _ | ⟨ss, Q⟩
    · exact .inr ⟨fun S h1 h2 => h ⟨S, h1, h2⟩, ho⟩
    · have := blO_sound ho
      exact absurd ⟨_, this.1, this.2.1⟩ h
/-- What Open tells of a block of S. -/
def OpenYes (w : World) (S : List Ser) (e : Ending) (w' : World) : Prop :=
  Below w.heap.size w w' ∧ ∃ X, e = .returned (.tuple #[.pointer (some ⟨X, 0, none⟩), .int .i64 0]) ∧ BlkAt w' w.heap.size X S
/-- What Open tells of no block. -/
def OpenNo (w : World) (e : Ending) (w' : World) : Prop := Below w.heap.size w w' ∧ e = .returned (.tuple #[.pointer none, .int .i64 5])
set_option maxHeartbeats 4000000 in
theorem open_yes (A : Option Addr) (b : List UInt8) (c : Nat) (hbc : b.length ≤ c) (hbl : b.length ≤ 140737488355328) (w : World) (hA : Bys w A b) (hD : Door w) {S : List Ser} (h1 : blChk S = 0) (h2 : blL S = b) :
    Calls Tryz.prog 17 #[.slice A b.length c] w (OpenYes w S) := by
  have hW1 := below_one w (.cells #[.pointer none] 36)
  have hW2 : Below w.heap.size w ((w.alloc (.cells #[.pointer none] 36)).alloc (.cells #[.int .i64 0] 25)) := hW1.alloc (by simp) _
  have hC : Row ((w.alloc (.cells #[.pointer none] 36)).alloc (.cells #[.int .i64 0] 25)) w.heap.size 36 #[.pointer none] := (Row.new w _ _).alloc _
  have hE : Row ((w.alloc (.cells #[.pointer none] 36)).alloc (.cells #[.int .i64 0] 25)) (w.heap.size + 1) 25 #[.int .i64 0] := row_at w _ _ _
  have hs2 : ((w.alloc (.cells #[.pointer none] 36)).alloc (.cells #[.int .i64 0] 25)).heap.size = w.heap.size + 2 := by simp
  have HD2 := Lib.hid ((hD.alloc (.cells #[.pointer none] 36)).alloc (.cells #[.int .i64 0] 25))
  have HW2 := Lib.hid hW2
  have HC := Lib.hid hC
  have HE := Lib.hid hE
  have hmf : ∀ (fn : Fn) (first cap : Array Value) (w : World), (Instr.makeFunc fn first cap).run Tryz.prog w = .ok (.func fn first cap) w := fun _ _ _ _ => rfl
  have ho : BlO b (some (blSets S, S.map fun s => pcs s.2)) := by rw [← h2]; exact blO_back h1
  have HRD := Lib.hid (blread_prog A b c hbc hbl _ (hA.below hW2) ho)
  have HS := Lib.hid (And.intro h1 h2)
  clear hA hD hW1 hW2 hC hE h1 h2 ho hbl hbc
  generalize b.length = L at *
  go_enter_defers Tryz.func17, Tryz.ntmps17
  go_wp2_with fail
  refine HRD.out.mono ?_
  rintro e w3 ⟨hb3, ⟨ss, Q, I, v, B, hoo, rfl, hB, hI, hQ⟩ | ⟨h, _⟩⟩
  rotate_left
  · cases h
  injection hoo with hoo
  injection hoo with e1 e2
  subst e1 e2
  obtain ⟨Pq, cq, hvq, -⟩ := ownq_slice hQ
  subst hvq
  have hC3 : Row w3 w.heap.size 36 #[.pointer none] := HC.out.below hb3 HC.out.lt
  have hE3 : Row w3 (w.heap.size + 1) 25 #[.int .i64 0] := HE.out.below hb3 HE.out.lt
  have hs3 := hb3.size
  rw [hs2] at hs3 hB hQ
  have HB3 := Lib.hid (HW2.out.trans (hb3.mono HW2.out.size))
  obtain ⟨nq, hnq⟩ : ∃ nq, (S.map fun s => pcs s.2).length = nq := ⟨_, rfl⟩
  have HNQ := Lib.hid hnq
  rw [hnq] at hQ
  try rw [hnq]
  have HI := Lib.hid hI
  have HQ := Lib.hid hQ
  have HBB := Lib.hid hB
  have hC4 := hC3.alloc (.cells #[.pointer (some ⟨I, 0, none⟩), .slice Pq nq cq] 90)
  have hE4 := hE3.alloc (.cells #[.pointer (some ⟨I, 0, none⟩), .slice Pq nq cq] 90)
  have hX4 := Row.new w3 90 #[.pointer (some ⟨I, 0, none⟩), .slice Pq nq cq]
  have hB4 : Below w.heap.size w (w3.alloc (.cells #[.pointer (some ⟨I, 0, none⟩), .slice Pq nq cq] 90)) := HB3.out.alloc HB3.out.size _
  have hs4 : (w3.alloc (.cells #[.pointer (some ⟨I, 0, none⟩), .slice Pq nq cq] 90)).heap.size = w3.heap.size + 1 := by simp
  have HA4 := Lib.hid (below_one w3 (.cells #[.pointer (some ⟨I, 0, none⟩), .slice Pq nq cq] 90))
  obtain ⟨X, hX⟩ : ∃ X, w3.heap.size = X := ⟨_, rfl⟩
  have c0 : (w3.alloc (.cells #[.pointer (some ⟨I, 0, none⟩), .slice Pq nq cq] 90)).cell? ⟨w.heap.size, 0, none⟩ = some (.pointer none) := hC4.cell 0
  have d0 : (w3.alloc (.cells #[.pointer (some ⟨I, 0, none⟩), .slice Pq nq cq] 90)).cell? ⟨w.heap.size + 1, 0, none⟩ = some (.int .i64 0) := hE4.cell 0
  have f0 := hC4.frozen 0
  have g0 := hE4.frozen 0
  have HC4 := Lib.hid hC4
  have HE4 := Lib.hid hE4
  have HX4 := Lib.hid hX4
  have HB4 := Lib.hid hB4
  have HS4 := Lib.hid hs4
  have HS3 := Lib.hid hs3
  have HXX := Lib.hid hX
  clear hb3 hB hI hQ hC3 hE3 hC4 hE4 hX4 hB4 hs4 hs3 hX hnq HC HE HRD
  go_wp2_with fail
  have r1 := (HC4.out.setAt 0 (.pointer (some ⟨w3.heap.size, 0, none⟩))).setFar (p := ⟨w.heap.size + 1, 0, none⟩) (by show w.heap.size ≠ w.heap.size + 1; omega) (.int .i64 0)
  have r2 := (HE4.out.setFar (p := ⟨w.heap.size, 0, none⟩) (by show w.heap.size + 1 ≠ w.heap.size; omega) (.pointer (some ⟨w3.heap.size, 0, none⟩))).setAt 0 (.int .i64 0)
  have q1 := r1.cell 0
  have q2 := r2.cell 0
  simp only [List.setIfInBounds_toArray, List.set_cons_zero, List.getElem?_toArray, List.getElem?_cons_zero] at q1 q2
  have HB7 := Lib.hid ((HB4.out.setCell (p := ⟨w.heap.size, 0, none⟩) (Nat.le_refl _) (.pointer (some ⟨w3.heap.size, 0, none⟩))).setCell (p := ⟨w.heap.size + 1, 0, none⟩) (by show w.heap.size ≤ w.heap.size + 1; omega) (.int .i64 0))
  have hk7 : ∀ k, w.heap.size + 2 ≤ k → k < w3.heap.size → (((w3.alloc (.cells #[.pointer (some ⟨I, 0, none⟩), .slice Pq nq cq] 90)).setCell ⟨w.heap.size, 0, none⟩ (.pointer (some ⟨w3.heap.size, 0, none⟩))).setCell ⟨w.heap.size + 1, 0, none⟩ (.int .i64 0)).heap[k]? = w3.heap[k]? := fun k k1 k2 => by
    rw [Below.heap_setCell _ ⟨w.heap.size + 1, 0, none⟩ _ k (by show k ≠ w.heap.size + 1; omega), Below.heap_setCell _ ⟨w.heap.size, 0, none⟩ _ k (by show k ≠ w.heap.size; omega)]
    exact HA4.out.block k k2
  have hsz7 : (((w3.alloc (.cells #[.pointer (some ⟨I, 0, none⟩), .slice Pq nq cq] 90)).setCell ⟨w.heap.size, 0, none⟩ (.pointer (some ⟨w3.heap.size, 0, none⟩))).setCell ⟨w.heap.size + 1, 0, none⟩ (.int .i64 0)).heap.size = w3.heap.size + 1 := by simp [World.setCell]
  have HI7 := Lib.hid (idx_range HI.out (by rw [hsz7]; omega) fun k k1 k2 => hk7 k (by have := HBB.out; omega) k2)
  have HQ7 := Lib.hid (ownq_lower (ownq_keep HQ.out fun k t cs k1 hr _ => hk7 k k1 hr.lt) (show w.heap.size ≤ w.heap.size + 2 by omega))
  have HX7 := Lib.hid ((HX4.out.setFar (p := ⟨w.heap.size, 0, none⟩) (by show w3.heap.size ≠ w.heap.size; have := HS3.out; omega) (.pointer (some ⟨w3.heap.size, 0, none⟩))).setFar (p := ⟨w.heap.size + 1, 0, none⟩) (by show w3.heap.size ≠ w.heap.size + 1; have := HS3.out; omega) (.int .i64 0))
  have HXL := Lib.hid (show w.heap.size ≤ w3.heap.size by have := HS3.out; omega)
  have HBL := Lib.hid (show w.heap.size ≤ B by have := HBB.out; omega)
  clear hk7 hsz7 r1 r2
  refine leaves_cons (f := 42) (args := #[.pointer (some ⟨w.heap.size, 0, none⟩), .pointer (some ⟨w.heap.size + 1, 0, none⟩)]) (by simp) (by simp [go_sem]) ?_
  refine (blcatch_idle _ _ _).mono ?_
  rintro e u' w'' ⟨rfl, rfl, rfl⟩
  simp [Leaves, settle, results, Tryz.results17, go_sem, q1, q2]
  exact ⟨HB7.out, ⟨w3.heap.size, rfl, HXL.out, I, _, B, HBL.out, HX7.out, HI7.out, HQ7.out⟩⟩
set_option maxHeartbeats 4000000 in
theorem open_no (A : Option Addr) (b : List UInt8) (c : Nat) (hbc : b.length ≤ c) (hbl : b.length ≤ 140737488355328) (w : World) (hA : Bys w A b) (hD : Door w) (hno : ∀ S, blChk S = 0 → blL S ≠ b) :
    Calls Tryz.prog 17 #[.slice A b.length c] w (OpenNo w) := by
  have hW1 := below_one w (.cells #[.pointer none] 36)
  have hW2 : Below w.heap.size w ((w.alloc (.cells #[.pointer none] 36)).alloc (.cells #[.int .i64 0] 25)) := hW1.alloc (by simp) _
  have hC : Row ((w.alloc (.cells #[.pointer none] 36)).alloc (.cells #[.int .i64 0] 25)) w.heap.size 36 #[.pointer none] := (Row.new w _ _).alloc _
  have hE : Row ((w.alloc (.cells #[.pointer none] 36)).alloc (.cells #[.int .i64 0] 25)) (w.heap.size + 1) 25 #[.int .i64 0] := row_at w _ _ _
  have hs2 : ((w.alloc (.cells #[.pointer none] 36)).alloc (.cells #[.int .i64 0] 25)).heap.size = w.heap.size + 2 := by simp
  have HD2 := Lib.hid ((hD.alloc (.cells #[.pointer none] 36)).alloc (.cells #[.int .i64 0] 25))
  have HW2 := Lib.hid hW2
  have HC := Lib.hid hC
  have HE := Lib.hid hE
  have hmf : ∀ (fn : Fn) (first cap : Array Value) (w : World), (Instr.makeFunc fn first cap).run Tryz.prog w = .ok (.func fn first cap) w := fun _ _ _ _ => rfl
  have ho : BlO b none := by
    rcases blO_pick b with ⟨S, h1, h2, _⟩ | ⟨_, ho⟩
    · exact absurd h2 (hno S h1)
    · exact ho
  have HRD := Lib.hid (blread_prog A b c hbc hbl _ (hA.below hW2) ho)
  have HNO := Lib.hid hno
  clear hA hD hW1 hW2 hC hE hno ho hbl hbc
  generalize b.length = L at *
  go_enter_defers Tryz.func17, Tryz.ntmps17
  go_wp2_with fail
  refine HRD.out.mono ?_
  rintro e w3 ⟨hb3, ⟨ss, Q, I, v, B, hoo, _⟩ | ⟨_, rfl⟩⟩
  · cases hoo
  have hC3 : Row w3 w.heap.size 36 #[.pointer none] := HC.out.below hb3 HC.out.lt
  have hE3 : Row w3 (w.heap.size + 1) 25 #[.int .i64 0] := HE.out.below hb3 HE.out.lt
  have HD3 := Lib.hid (HD2.out.below hb3)
  have HB3 := Lib.hid (HW2.out.trans (hb3.mono HW2.out.size))
  have HC3 := Lib.hid hC3
  have HE3 := Lib.hid hE3
  clear hb3 hC3 hE3 HC HE HRD
  go_wp2_with fail
  refine leaves_cons (f := 42) (args := #[.pointer (some ⟨w.heap.size, 0, none⟩), .pointer (some ⟨w.heap.size + 1, 0, none⟩)]) (by simp) (by simp [go_sem]) ?_
  refine (blcatch_panicking _ HC3.out HE3.out (by rfl) (by omega) HD3.out).mono ?_
  rintro e u' w'' ⟨rfl, rfl, w4, hb4, rfl⟩
  have r1 := ((HC3.out.below hb4 HC3.out.lt).setAt 0 (.pointer none)).setFar (p := ⟨w.heap.size + 1, 0, none⟩) (by show w.heap.size ≠ w.heap.size + 1; omega) (.int .i64 5)
  have r2 := ((HE3.out.below hb4 HE3.out.lt).setFar (p := ⟨w.heap.size, 0, none⟩) (by show w.heap.size + 1 ≠ w.heap.size; omega) (.pointer none)).setAt 0 (.int .i64 5)
  have q1 := r1.cell 0
  have q2 := r2.cell 0
  simp only [List.setIfInBounds_toArray, List.set_cons_zero, List.getElem?_toArray, List.getElem?_cons_zero] at q1 q2
  have HB7 := Lib.hid (((HB3.out.trans (hb4.mono HB3.out.size)).setCell (p := ⟨w.heap.size, 0, none⟩) (Nat.le_refl _) (.pointer none)).setCell (p := ⟨w.heap.size + 1, 0, none⟩) (by show w.heap.size ≤ w.heap.size + 1; omega) (.int .i64 5))
  clear r1 r2
  simp [Leaves, settle, results, Tryz.results17, go_sem, q1, q2]
  exact ⟨HB7.out, rfl⟩
theorem open_prog (A : Option Addr) (b : List UInt8) (c : Nat) (hbc : b.length ≤ c) (hbl : b.length ≤ 140737488355328) (w : World) (hA : Bys w A b) (hD : Door w) :
    Calls Tryz.prog 17 #[.slice A b.length c] w (OpenTold w b) := by
  rcases blO_pick b with ⟨S, h1, h2, _⟩ | ⟨hno, _⟩
  · refine (open_yes A b c hbc hbl w hA hD h1 h2).mono ?_
    rintro e w' ⟨hb, X, rfl, hX⟩
    exact ⟨hb, .inl ⟨S, X, h1, h2, rfl, hX⟩⟩
  · refine (open_no A b c hbc hbl w hA hD hno).mono ?_
    rintro e w' ⟨hb, rfl⟩
    exact ⟨hb, .inr ⟨hno, rfl⟩⟩
end Go.Proofs.YtgdmcnoogacdaaaGreatDoor

namespace Go.Proofs.YtgdmcnoogacdaaaGreatDoor
open Go.RowKit Go.Maps
open Ch
set_option linter.unusedVariables false
set_option linter.unusedSimpArgs false
set_option maxRecDepth 100000

theorem fld0 (a b : Value) (w : World) : (Instr.field 87 (.agg #[a, b]) 0).run Tryz.prog w = .ok a w := by kernel_rfl
theorem fld1 (a b : Value) (w : World) : (Instr.field 87 (.agg #[a, b]) 1).run Tryz.prog w = .ok b w := by kernel_rfl
set_option maxHeartbeats 1000000 in
theorem inside_nil (w : World) : Calls Tryz.prog 52 #[.pointer none] w fun e w' => e = .returned (.agg #[.pointer none, .slice none 0 0]) ∧ Below w.heap.size w w' := by
  have hR := Row.new w 87 #[.pointer none, .slice none 0 0]
  have HR := Lib.hid hR
  have c0 := hR.cell 0
  have c1 := hR.cell 1
  clear hR
  go_enter Tryz.func52, Tryz.ntmps52
  go_wp2_with fail
  (try simp only [Exit.inBlock, Exit.then])
  refine bodyPost_ret (ret_content rfl _ _ _ _ rfl HR.out rfl) rfl ⟨rfl, below_one w _⟩
/-- What inside tells. -/
def InTold (w : World) (base : Nat) (S : List Ser) (e : Ending) (w' : World) : Prop :=
  ∃ I B P c, e = .returned (.agg #[.pointer (some ⟨I, 0, none⟩), .slice P S.length c]) ∧ base ≤ B ∧ IdxAt w' B I (blSets S) ∧ OwnQ w' base (.slice P S.length c) (S.map fun s => pcs s.2) ∧ Below w.heap.size w w'
set_option maxHeartbeats 1000000 in
theorem inside_prog {w : World} {base X : Nat} {S : List Ser} (h : BlkAt w base X S) : Calls Tryz.prog 52 #[.pointer (some ⟨X, 0, none⟩)] w (InTold w base S) := by
  obtain ⟨_, I, v, B, h2, hX, hI, hQ⟩ := h
  obtain ⟨P, c, hv, -⟩ := ownq_slice hQ
  rw [List.length_map] at hv
  subst hv
  have hXl := hX.lt
  have hb1 := below_one w (.cells #[.pointer none, .slice none 0 0] 87)
  have hX1 := hX.below hb1 hXl
  have x0 := hX1.cell 0
  have x1 := hX1.cell 1
  have HB := Lib.hid (below_one w (.cells #[.pointer (some ⟨I, 0, none⟩), .slice P S.length c] 87))
  have HR := Lib.hid (Row.new w 87 #[.pointer (some ⟨I, 0, none⟩), .slice P S.length c])
  have HI := Lib.hid (hI.below HB.out)
  have HQ := Lib.hid (ownq_below hQ HB.out)
  have H2 := Lib.hid h2
  clear hX hI hQ h2 hX1 hb1
  unfold InTold
  generalize S.length = n at *
  go_enter Tryz.func52, Tryz.ntmps52
  go_wp2_with fail
  (try simp only [Exit.inBlock, Exit.then])
  refine bodyPost_ret (ret_content rfl _ _ _ _ rfl HR.out rfl) rfl ⟨I, B, P, c, rfl, H2.out, HI.out, HQ.out, HB.out⟩
theorem bllen_nil (w : World) : Calls Tryz.prog 26 #[.pointer none] w fun e w' => e = .returned (.int .i64 0) ∧ Below w.heap.size w w' := by
  have hf0 := fld0
  have hf1 := fld1
  go_enter Tryz.func26, Tryz.ntmps26
  go_wp2_with fail
  refine (inside_nil w).mono ?_
  rintro e w2 ⟨rfl, hb2⟩
  go_wp2_with fail
  refine (len_nil _).mono ?_
  rintro e w3 ⟨rfl, rfl⟩
  go_wp2_with fail
  go_ret
  exact ⟨rfl, hb2⟩
theorem bllabels_nil (id : Int) (w : World) : Calls Tryz.prog 24 #[.pointer none, .int .i64 id] w fun e w' => e = .returned (.tuple #[.slice none 0 0, .int .i64 1]) ∧ Below w.heap.size w w' := by
  have hf0 := fld0
  have hf1 := fld1
  go_enter Tryz.func24, Tryz.ntmps24
  go_wp2_with fail
  refine (inside_nil w).mono ?_
  rintro e w2 ⟨rfl, hb2⟩
  go_wp2_with fail
  refine (labels_nil id _).mono ?_
  rintro e w3 ⟨rfl, rfl⟩
  go_wp2_with fail
  go_ret2
  exact ⟨rfl, hb2⟩
theorem blfind_nil (M : Value) (w : World) : Calls Tryz.prog 25 #[.pointer none, M] w fun e w' => e = .returned (.tuple #[.slice none 0 0, .int .i64 1]) ∧ Below w.heap.size w w' := by
  have hf0 := fld0
  have hf1 := fld1
  go_enter Tryz.func25, Tryz.ntmps25
  go_wp2_with fail
  refine (inside_nil w).mono ?_
  rintro e w2 ⟨rfl, hb2⟩
  go_wp2_with fail
  refine (find_nil M _).mono ?_
  rintro e w3 ⟨rfl, rfl⟩
  go_wp2_with fail
  go_ret2
  exact ⟨rfl, hb2⟩
theorem blcount_nil (w : World) : Calls Tryz.prog 27 #[.pointer none] w fun e w' => e = .returned (.int .i64 0) ∧ Below w.heap.size w w' := by
  have HC := Lib.hid (fun x => count_prog (.pointer none) rfl 0 none 0 [] x (ownq_nil _ _) (by decide) (by decide))
  go_enter Tryz.func27, Tryz.ntmps27
  go_wp2_with fail
  refine (inside_nil w).mono ?_
  rintro e w2 ⟨rfl, hb2⟩
  have HB2 := Lib.hid hb2
  clear hb2
  go_wp2_with fail
  refine (show Calls Tryz.prog 57 #[.agg #[.pointer none, .slice none 0 0]] w2 _ from HC.out w2).mono ?_
  rintro e w3 ⟨rfl, hb3⟩
  have HB3 := Lib.hid (below_then HB2.out hb3)
  clear hb3
  go_wp2_with fail
  go_ret
  exact ⟨rfl, HB3.out⟩
theorem blbounds_nil (w : World) : Calls Tryz.prog 23 #[.pointer none] w fun e w' => e = .returned (.tuple #[.int .i64 0, .int .i64 0]) ∧ Below w.heap.size w w' := by
  have hf0 := fld0
  have hf1 := fld1
  go_enter Tryz.func23, Tryz.ntmps23
  go_wp2_with fail
  refine (inside_nil w).mono ?_
  rintro e w2 ⟨rfl, hb2⟩
  go_wp2_with fail
  refine wp_loop_rounds 1 ?_
  rw [rounds_succ]
  go_wp2_with fail
  go_ret2
  exact ⟨rfl, hb2⟩
theorem blselect_nil (id low high : Int) (w : World) : Calls Tryz.prog 21 #[.pointer none, .int .i64 id, .int .i64 low, .int .i64 high] w fun e w' => e = .returned (.tuple #[.slice none 0 0, .int .i64 1]) ∧ Below w.heap.size w w' := by
  go_enter Tryz.func21, Tryz.ntmps21
  go_wp2_with fail
  refine (inside_nil w).mono ?_
  rintro e w2 ⟨rfl, hb2⟩
  have HB2 := Lib.hid (hb2.alloc hb2.size (.cells #[.pointer none, .slice none 0 0] 87))
  clear hb2
  go_wp2_with fail
  refine (labels_nil id _).mono ?_
  rintro e w3 ⟨rfl, rfl⟩
  go_wp2_with fail
  go_ret2
  exact ⟨rfl, HB2.out⟩
theorem blall_nil (w : World) : Calls Tryz.prog 20 #[.pointer none] w fun e w' => e = .returned (.slice none 0 0) ∧ Below w.heap.size w w' := by
  go_enter Tryz.func20, Tryz.ntmps20
  go_wp2_with fail
  refine (bllen_nil w).mono ?_
  rintro e w2 ⟨rfl, hb2⟩
  go_wp2_with fail
  refine wp_loop_rounds 1 ?_
  rw [rounds_succ]
  go_wp2_with fail
  go_ret
  exact ⟨rfl, hb2⟩
end Go.Proofs.YtgdmcnoogacdaaaGreatDoor
