/- A record read of bytes, as the document does it (gaugeref11.read): ids, and rows. Written by genwarefread2.py. -/
import Derived.Test.YtmgolnlkepiocaaWaRefRead
namespace Go.Proofs.Ytmgolnlkepiocaa
open Go.RowKit Go.Maps
set_option linter.unusedVariables false

theorem refnums_at {l : List UInt8} {k : Nat} {a : Int} {xs : List Nat} {p : Int} {E : Nat} (K : Int) (h : GS l k a xs p E) (hK : K = (k : Int)) (hk : k ≤ 1000) (A : Option Addr) (c : Nat) (w : World) (hA : Bys w A l) (hlc : l.length ≤ c) (hl : l.length ≤ 140737488355328) :
    Calls Try.prog 71 #[.slice A l.length c, .int .i64 a, .int .i64 K] w (NumsTold w xs p E) := by
  subst hK
  exact refnums_prog h hk A c w hA hlc hl
set_option maxRecDepth 20000 in
set_option maxHeartbeats 2000000 in
theorem refread_3n {l : List UInt8} {nx : Nat} (h : GX l 0 3 nx 0) {ids : List Int} {q E1 : Nat} (hp : PY l nx ids q E1) (hE1 : E1 ≠ 0) (R : RecV) (E : Nat) (hE : E ≠ 0) (A : Option Addr) (c : Nat) (w : World) (hA : Bys w A l) (hlc : l.length ≤ c) (hl : l.length ≤ 140737488355328) :
    Calls Try.prog 44 #[.slice A l.length c] w (RefTold w R E) := by
  have HZ := Lib.hid (Row.new w 26 #[.int .i64 0, .slice none 0 0, .slice none 0 0, .slice none 0 0, .int .i64 0, .int .i64 0])
  have HB0 := Lib.hid (below_one w (.cells #[.int .i64 0, .slice none 0 0, .slice none 0 0, .slice none 0 0, .int .i64 0, .int .i64 0] 26))
  have HA0 := Lib.hid (hA.alloc (.cells #[.int .i64 0, .slice none 0 0, .slice none 0 0, .slice none 0 0, .int .i64 0, .int .i64 0] 26))
  have HN1 := Lib.hid (show Calls Try.prog 71 #[.slice A l.length c, .int .i64 0, .int .i64 1] _ _ from refnums_prog (gs_one h) (by decide) A c _ HA0.out hlc hl)
  unfold NumsTold at HN1
  rw [show decide ((0 : Nat) = 0) = true from rfl] at HN1
  obtain ⟨n, hn⟩ : ∃ n : Nat, n = 3 := ⟨3, rfl⟩
  have q1 : ((n : Int) == 1) = false := by rw [hn]; rfl
  have q2 : ((n : Int) == 2) = false := by rw [hn]; rfl
  have q3 : ((n : Int) == 3) = true := by rw [hn]; rfl
  rw [← hn] at HN1
  have HNN := Lib.hid hn
  clear hn
  have HPR := Lib.hid (fun W (hW : Below w.heap.size w W) => read_ref hp A c W (hA.below hW) hlc hl)
  unfold PoTold at HPR
  obtain ⟨xs, p2, E2, hs⟩ := gs_total l 2 0
  have HN2 := Lib.hid (fun W (hW : Below w.heap.size w W) => refnums_at 2 hs rfl (by decide) A c W (hA.below hW) hlc hl)
  unfold NumsTold at HN2
  have t1 : ((E1 : Int) != 0) = true := bne_iff_ne.2 (by omega)
  have HE1 := Lib.hid hE1
  have HE := Lib.hid hE
  generalize decide (E2 = 0) = b2 at HN2
  generalize (if E2 = 0 then intL xs else []) = ys at HN2
  clear h hA hp hE1 hE hs
  go_enter Try.func44, Try.ntmps44
  go_wp2_with (first
    | (go_at_call 71; (with_reducible refine (HN2.out _ HB3.out).mono ?_); rintro e' w4 ⟨v4, rfl, ho4, hb4⟩
       have HB4 := Lib.hid (HB3.out.trans (hb4.mono (Nat.le_trans HB2.out.size (Nat.le_trans (Nat.le_succ _) HS3.out))))
       have HBX4 := Lib.hid (HBX3.out.below hb4 HBX3.out.lt)
       have HZ4 := Lib.hid (HZ3.out.below hb4 HZ3.out.lt)
       obtain ⟨P4, d4, hv4, _, _, _⟩ := ownz_slice ho4
       subst hv4
       obtain ⟨z0, z1, z2, z3, z4, z5⟩ := rec_cells HZ4.out rfl
       have f0 := HZ4.out.frozen 0
       have f1 := HZ4.out.frozen 1
       have f2 := HZ4.out.frozen 2
       have f3 := HZ4.out.frozen 3
       have f4 := HZ4.out.frozen 4
       have f5 := HZ4.out.frozen 5
       clear ho4 hb4)
    | (go_at_call 73; refine (HPR.out _ (HB2.out.alloc HB2.out.size _)).mono ?_; rintro e' w3 ⟨hb3, hh⟩
       obtain ⟨_, rfl⟩ := hh.resolve_right (fun h => HE1.out h.1)
       have hb3' := (HB2.out.alloc HB2.out.size (.cells #[.int .i64 (n : Int), .slice none 0 0, .slice none 0 0, .slice none 0 0, .int .i64 0, .int .i64 0] 26)).trans (hb3.mono (by have := HB2.out.size; simp; omega))
       have HB3 := Lib.hid hb3'
       have HBX3 := Lib.hid (HBX.out.below hb3 (by simp))
       have HZ3 := Lib.hid ((HZ2.out.alloc (.cells #[.int .i64 (n : Int), .slice none 0 0, .slice none 0 0, .slice none 0 0, .int .i64 0, .int .i64 0] 26)).below hb3 (Nat.lt_of_lt_of_le HZ2.out.lt (by simp)))
       have HS3 := Lib.hid (show w2.heap.size + 1 ≤ w3.heap.size by have := hb3.size; simp at this; omega)
       clear hb3 hh hb3')
    | (go_at_call 71; (with_reducible refine HN1.out.mono ?_); rintro e w2 ⟨v2, rfl, ho2, hb2⟩
       rw [if_pos rfl] at ho2
       obtain ⟨g2, cap2, hv2, _, hgl2, _, _, hc2⟩ := ownz_form ho2 (by simp [intL])
       rw [show (intL [n]).length = 1 from rfl] at hv2
       have k0 : w2.cell? ⟨g2, 0, none⟩ = some (.int .i64 (n : Int)) := hc2 0 (by simp [intL])
       subst hv2
       have HB2 := Lib.hid (below_then HB0.out hb2)
       have HZ2 := Lib.hid (HZ.out.below hb2 HZ.out.lt)
       have HBX := Lib.hid (Row.new w2 26 #[.int .i64 (n : Int), .slice none 0 0, .slice none 0 0, .slice none 0 0, .int .i64 0, .int .i64 0])
       obtain ⟨x0, x1, x2, x3, x4, x5⟩ := rec_cells HBX.out rfl
       clear ho2 hb2 hc2))
  try simp only [Exit.inBlock, Exit.then]
  refine bodyPost_ret (ret_rec2 rfl _ _ _ _ rfl (put6_row HZ4.out _ _ _ _ _ _) rfl) rfl ?_
  exact ⟨rec0, recM0, false, rfl, OwnRec.far (OwnRec.nil _ w.heap.size 0 0 0) HZ4.out (by simp [World.setCell]) (put6_far _ _ _ _ _ _), fit_0, put6_below HB4.out (Nat.le_refl _) _ _ _ _ _ _, fun hh => absurd hh.1 HE.out, fun _ => rfl⟩
set_option maxRecDepth 20000 in
set_option maxHeartbeats 2000000 in
theorem refread_3e {l : List UInt8} {nx : Nat} (h : GX l 0 3 nx 0) {ids : List Int} {q : Nat} (hp : PY l nx ids q 0) {xs : List Nat} {p2 : Int} {E2 : Nat} (hs : GS l 2 q xs p2 E2) (hE2 : E2 ≠ 0) (R : RecV) (E : Nat) (hE : E ≠ 0) (A : Option Addr) (c : Nat) (w : World) (hA : Bys w A l) (hlc : l.length ≤ c) (hl : l.length ≤ 140737488355328) :
    Calls Try.prog 44 #[.slice A l.length c] w (RefTold w R E) := by
  have HZ := Lib.hid (Row.new w 26 #[.int .i64 0, .slice none 0 0, .slice none 0 0, .slice none 0 0, .int .i64 0, .int .i64 0])
  have HB0 := Lib.hid (below_one w (.cells #[.int .i64 0, .slice none 0 0, .slice none 0 0, .slice none 0 0, .int .i64 0, .int .i64 0] 26))
  have HA0 := Lib.hid (hA.alloc (.cells #[.int .i64 0, .slice none 0 0, .slice none 0 0, .slice none 0 0, .int .i64 0, .int .i64 0] 26))
  have HN1 := Lib.hid (show Calls Try.prog 71 #[.slice A l.length c, .int .i64 0, .int .i64 1] _ _ from refnums_prog (gs_one h) (by decide) A c _ HA0.out hlc hl)
  unfold NumsTold at HN1
  rw [show decide ((0 : Nat) = 0) = true from rfl] at HN1
  obtain ⟨n, hn⟩ : ∃ n : Nat, n = 3 := ⟨3, rfl⟩
  have q1 : ((n : Int) == 1) = false := by rw [hn]; rfl
  have q2 : ((n : Int) == 2) = false := by rw [hn]; rfl
  have q3 : ((n : Int) == 3) = true := by rw [hn]; rfl
  rw [← hn] at HN1
  have HNN := Lib.hid hn
  clear hn
  have HPR := Lib.hid (fun W (hW : Below w.heap.size w W) => read_ref hp A c W (hA.below hW) hlc hl)
  unfold PoTold at HPR
  have HN2 := Lib.hid (fun W (hW : Below w.heap.size w W) => refnums_at 2 hs rfl (by decide) A c W (hA.below hW) hlc hl)
  unfold NumsTold at HN2
  rw [decide_eq_false hE2, if_neg hE2] at HN2
  have HE := Lib.hid hE
  clear h hA hp hE2 hE hs
  go_enter Try.func44, Try.ntmps44
  go_wp2_with (first
    | (go_at_call 71; (with_reducible refine (HN2.out _ HB3.out).mono ?_); rintro e' w4 ⟨v4, rfl, ho4, hb4⟩
       have HB4 := Lib.hid (HB3.out.trans (hb4.mono (Nat.le_trans HB2.out.size (Nat.le_trans (Nat.le_succ _) HS3.out))))
       have HBX4 := Lib.hid (HBX3.out.below hb4 HBX3.out.lt)
       have HZ4 := Lib.hid (HZ3.out.below hb4 HZ3.out.lt)
       obtain ⟨P4, d4, hv4, _, _, _⟩ := ownz_slice ho4
       subst hv4
       obtain ⟨z0, z1, z2, z3, z4, z5⟩ := rec_cells HZ4.out rfl
       have f0 := HZ4.out.frozen 0
       have f1 := HZ4.out.frozen 1
       have f2 := HZ4.out.frozen 2
       have f3 := HZ4.out.frozen 3
       have f4 := HZ4.out.frozen 4
       have f5 := HZ4.out.frozen 5
       clear ho4 hb4)
    | (go_at_call 73; refine (HPR.out _ (HB2.out.alloc HB2.out.size _)).mono ?_; rintro e' w3 ⟨hb3, hh⟩
       obtain ⟨_, v3, rfl, ho3⟩ := hh.resolve_left (fun h => h.1 rfl)
       obtain ⟨P3, d3, hv3, _, _, _⟩ := ownz_slice ho3
       subst hv3
       clear ho3
       have hb3' := (HB2.out.alloc HB2.out.size (.cells #[.int .i64 (n : Int), .slice none 0 0, .slice none 0 0, .slice none 0 0, .int .i64 0, .int .i64 0] 26)).trans (hb3.mono (by have := HB2.out.size; simp; omega))
       have HB3 := Lib.hid hb3'
       have HBX3 := Lib.hid (HBX.out.below hb3 (by simp))
       have HZ3 := Lib.hid ((HZ2.out.alloc (.cells #[.int .i64 (n : Int), .slice none 0 0, .slice none 0 0, .slice none 0 0, .int .i64 0, .int .i64 0] 26)).below hb3 (Nat.lt_of_lt_of_le HZ2.out.lt (by simp)))
       have HS3 := Lib.hid (show w2.heap.size + 1 ≤ w3.heap.size by have := hb3.size; simp at this; omega)
       clear hb3 hh hb3')
    | (go_at_call 71; (with_reducible refine HN1.out.mono ?_); rintro e w2 ⟨v2, rfl, ho2, hb2⟩
       rw [if_pos rfl] at ho2
       obtain ⟨g2, cap2, hv2, _, hgl2, _, _, hc2⟩ := ownz_form ho2 (by simp [intL])
       rw [show (intL [n]).length = 1 from rfl] at hv2
       have k0 : w2.cell? ⟨g2, 0, none⟩ = some (.int .i64 (n : Int)) := hc2 0 (by simp [intL])
       subst hv2
       have HB2 := Lib.hid (below_then HB0.out hb2)
       have HZ2 := Lib.hid (HZ.out.below hb2 HZ.out.lt)
       have HBX := Lib.hid (Row.new w2 26 #[.int .i64 (n : Int), .slice none 0 0, .slice none 0 0, .slice none 0 0, .int .i64 0, .int .i64 0])
       obtain ⟨x0, x1, x2, x3, x4, x5⟩ := rec_cells HBX.out rfl
       clear ho2 hb2 hc2))
  try simp only [Exit.inBlock, Exit.then]
  refine bodyPost_ret (ret_rec2 rfl _ _ _ _ rfl (put6_row HZ4.out _ _ _ _ _ _) rfl) rfl ?_
  exact ⟨rec0, recM0, false, rfl, OwnRec.far (OwnRec.nil _ w.heap.size 0 0 0) HZ4.out (by simp [World.setCell]) (put6_far _ _ _ _ _ _), fit_0, put6_below HB4.out (Nat.le_refl _) _ _ _ _ _ _, fun hh => absurd hh.1 HE.out, fun _ => rfl⟩
set_option maxRecDepth 20000 in
set_option maxHeartbeats 2000000 in
theorem refread_3y {l : List UInt8} {nx : Nat} (h : GX l 0 3 nx 0) {ids : List Int} {q : Nat} (hp : PY l nx ids q 0) {x y : Nat} {p2 : Int} (hs : GS l 2 q [x, y] p2 0) (hft : RecFit ⟨3, [], [], ids, (x : Int), (y : Int)⟩) (A : Option Addr) (c : Nat) (w : World) (hA : Bys w A l) (hlc : l.length ≤ c) (hl : l.length ≤ 140737488355328) :
    Calls Try.prog 44 #[.slice A l.length c] w (RefTold w ⟨3, [], [], ids, (x : Int), (y : Int)⟩ 0) := by
  have HZ := Lib.hid (Row.new w 26 #[.int .i64 0, .slice none 0 0, .slice none 0 0, .slice none 0 0, .int .i64 0, .int .i64 0])
  have HB0 := Lib.hid (below_one w (.cells #[.int .i64 0, .slice none 0 0, .slice none 0 0, .slice none 0 0, .int .i64 0, .int .i64 0] 26))
  have HA0 := Lib.hid (hA.alloc (.cells #[.int .i64 0, .slice none 0 0, .slice none 0 0, .slice none 0 0, .int .i64 0, .int .i64 0] 26))
  have HN1 := Lib.hid (show Calls Try.prog 71 #[.slice A l.length c, .int .i64 0, .int .i64 1] _ _ from refnums_prog (gs_one h) (by decide) A c _ HA0.out hlc hl)
  unfold NumsTold at HN1
  rw [show decide ((0 : Nat) = 0) = true from rfl] at HN1
  obtain ⟨n, hn⟩ : ∃ n : Nat, n = 3 := ⟨3, rfl⟩
  have q1 : ((n : Int) == 1) = false := by rw [hn]; rfl
  have q2 : ((n : Int) == 2) = false := by rw [hn]; rfl
  have q3 : ((n : Int) == 3) = true := by rw [hn]; rfl
  rw [← hn] at HN1
  have HNN := Lib.hid hn
  clear hn
  have HPR := Lib.hid (fun W (hW : Below w.heap.size w W) => read_ref hp A c W (hA.below hW) hlc hl)
  unfold PoTold at HPR
  have HN2 := Lib.hid (fun W (hW : Below w.heap.size w W) => refnums_at 2 hs rfl (by decide) A c W (hA.below hW) hlc hl)
  unfold NumsTold at HN2
  rw [show decide ((0 : Nat) = 0) = true from rfl, if_pos rfl] at HN2
  have HFT := Lib.hid hft
  clear h hA hp hs hft
  go_enter Try.func44, Try.ntmps44
  go_upto_region 28 with (first
    | (go_at_call 71; (with_reducible refine (HN2.out _ HB3.out).mono ?_); rintro e' w4 ⟨v4, rfl, ho4, hb4⟩
       have HB4 := Lib.hid (HB3.out.trans (hb4.mono (Nat.le_trans HB2.out.size (Nat.le_trans (Nat.le_succ _) HS3.out))))
       have HBX4 := Lib.hid (HBX3.out.below hb4 HBX3.out.lt)
       have HZ4 := Lib.hid (HZ3.out.below hb4 HZ3.out.lt)
       obtain ⟨g4, cap4, hv4, hgb4, hgl4, _, _, hc4⟩ := ownz_form ho4 (by simp [intL])
       rw [show (intL [x, y]).length = 2 from rfl] at hv4
       have m0 : w4.cell? ⟨g4, 0, none⟩ = some (.int .i64 (x : Int)) := hc4 0 (by simp [intL])
       have m1 : w4.cell? ⟨g4, 1, none⟩ = some (.int .i64 (y : Int)) := hc4 1 (by simp [intL])
       have HGB := Lib.hid hgb4
       have HGL := Lib.hid hgl4
       have HO34 := Lib.hid (ownz_below HO3.out hb4)
       have HS4 := Lib.hid hb4.size
       subst hv4
       clear ho4 hb4 hc4)
    | (go_at_call 73; refine (HPR.out _ (HB2.out.alloc HB2.out.size _)).mono ?_; rintro e' w3 ⟨hb3, hh⟩
       obtain ⟨_, v3, rfl, ho3⟩ := hh.resolve_left (fun h => h.1 rfl)
       obtain ⟨P3, d3, hv3, _, _, _⟩ := ownz_slice ho3
       subst hv3
       have HO3 := Lib.hid ho3
       clear ho3
       have hb3' := (HB2.out.alloc HB2.out.size (.cells #[.int .i64 (n : Int), .slice none 0 0, .slice none 0 0, .slice none 0 0, .int .i64 0, .int .i64 0] 26)).trans (hb3.mono (by have := HB2.out.size; simp; omega))
       have HB3 := Lib.hid hb3'
       have HBX3 := Lib.hid (HBX.out.below hb3 (by simp))
       have HZ3 := Lib.hid ((HZ2.out.alloc (.cells #[.int .i64 (n : Int), .slice none 0 0, .slice none 0 0, .slice none 0 0, .int .i64 0, .int .i64 0] 26)).below hb3 (Nat.lt_of_lt_of_le HZ2.out.lt (by simp)))
       have HS3 := Lib.hid (show w2.heap.size + 1 ≤ w3.heap.size by have := hb3.size; simp at this; omega)
       clear hb3 hh hb3')
    | (go_at_call 71; (with_reducible refine HN1.out.mono ?_); rintro e w2 ⟨v2, rfl, ho2, hb2⟩
       rw [if_pos rfl] at ho2
       obtain ⟨g2, cap2, hv2, _, hgl2, _, _, hc2⟩ := ownz_form ho2 (by simp [intL])
       rw [show (intL [n]).length = 1 from rfl] at hv2
       have k0 : w2.cell? ⟨g2, 0, none⟩ = some (.int .i64 (n : Int)) := hc2 0 (by simp [intL])
       subst hv2
       have HB2 := Lib.hid (below_then HB0.out hb2)
       have HZ2 := Lib.hid (HZ.out.below hb2 HZ.out.lt)
       have HBX := Lib.hid (Row.new w2 26 #[.int .i64 (n : Int), .slice none 0 0, .slice none 0 0, .slice none 0 0, .int .i64 0, .int .i64 0])
       obtain ⟨x0, x1, x2, x3, x4, x5⟩ := rec_cells HBX.out rfl
       clear ho2 hb2 hc2))
  obtain ⟨y0, y1, y2, y3, y4, y5⟩ := rec_cells HBX4.out rfl
  have f3 := HBX4.out.frozen 3
  have f4 := HBX4.out.frozen 4
  have f5 := HBX4.out.frozen 5
  have n1 : g4 ≠ w2.heap.size := by have := HGB.out; have := HS3.out; omega
  have n2 : w2.heap.size ≠ g4 := Ne.symm n1
  have l4 := HGL.out
  go_region
  have HBX5 := Lib.hid (show Row (((w4.setCell ⟨w2.heap.size, 3, none⟩ (.slice P3 ids.length d3)).setCell ⟨w2.heap.size, 4, none⟩ (.int .i64 (x : Int))).setCell ⟨w2.heap.size, 5, none⟩ (.int .i64 (y : Int))).drew w2.heap.size 26 _ from put345_row HBX4.out (.slice P3 ids.length d3) (.int .i64 (x : Int)) (.int .i64 (y : Int)))
  have hfar : ∀ k, k ≠ w2.heap.size → (((w4.setCell ⟨w2.heap.size, 3, none⟩ (.slice P3 ids.length d3)).setCell ⟨w2.heap.size, 4, none⟩ (.int .i64 (x : Int))).setCell ⟨w2.heap.size, 5, none⟩ (.int .i64 (y : Int))).drew.heap[k]? = w4.heap[k]? := fun k hk => by
    show (((w4.setCell ⟨w2.heap.size, 3, none⟩ (.slice P3 ids.length d3)).setCell ⟨w2.heap.size, 4, none⟩ (.int .i64 (x : Int))).setCell ⟨w2.heap.size, 5, none⟩ (.int .i64 (y : Int))).heap[k]? = _
    rw [Below.heap_setCell _ _ _ _ hk, Below.heap_setCell _ _ _ _ hk, Below.heap_setCell _ _ _ _ hk]
  have HB5 := Lib.hid ((((HB4.out.setCell (p := ⟨w2.heap.size, 3, none⟩) HB2.out.size (.slice P3 ids.length d3)).setCell (p := ⟨w2.heap.size, 4, none⟩) HB2.out.size (.int .i64 (x : Int))).setCell (p := ⟨w2.heap.size, 5, none⟩) HB2.out.size (.int .i64 (y : Int))).drew)
  have hs5 : w4.heap.size ≤ (((w4.setCell ⟨w2.heap.size, 3, none⟩ (.slice P3 ids.length d3)).setCell ⟨w2.heap.size, 4, none⟩ (.int .i64 (x : Int))).setCell ⟨w2.heap.size, 5, none⟩ (.int .i64 (y : Int))).drew.heap.size := by
    show _ ≤ (((w4.setCell ⟨w2.heap.size, 3, none⟩ (.slice P3 ids.length d3)).setCell ⟨w2.heap.size, 4, none⟩ (.int .i64 (x : Int))).setCell ⟨w2.heap.size, 5, none⟩ (.int .i64 (y : Int))).heap.size
    simp [World.setCell]
  have HFAR := Lib.hid hfar
  clear hfar hs5
  generalize (((w4.setCell ⟨w2.heap.size, 3, none⟩ (.slice P3 ids.length d3)).setCell ⟨w2.heap.size, 4, none⟩ (.int .i64 (x : Int))).setCell ⟨w2.heap.size, 5, none⟩ (.int .i64 (y : Int))).drew = w5 at *
  have HZ5 := Lib.hid (row_atz HZ4.out (HFAR.out w.heap.size (by have := HZ2.out.lt; omega)))
  have HO5 := Lib.hid (rows_atz HO34.out fun k hk => HFAR.out k (by have := (World.ownsRow.lt HO34.out k hk).1; simp at this; omega))
  clear y0 y1 y2 y3 y4 y5 f3 f4 f5
  obtain ⟨y0, y1, y2, y3, y4, y5⟩ := rec_cells HBX5.out rfl
  obtain ⟨z0, z1, z2, z3, z4, z5⟩ := rec_cells HZ5.out rfl
  have f0 := HZ5.out.frozen 0
  have f1 := HZ5.out.frozen 1
  have f2 := HZ5.out.frozen 2
  have f3 := HZ5.out.frozen 3
  have f4 := HZ5.out.frozen 4
  have f5 := HZ5.out.frozen 5
  go_wp2_with fail
  try simp only [Exit.inBlock, Exit.then]
  refine bodyPost_ret (ret_rec2 rfl _ _ _ _ rfl (put6_row HZ5.out _ _ _ _ _ _) rfl) rfl ?_
  have hn : n = 3 := HNN.out
  subst hn
  refine ⟨⟨3, [], [], ids, (x : Int), (y : Int)⟩, ⟨none, 0, none, 0, P3, d3⟩, true, rfl, ?_, HFT.out, put6_below HB5.out (Nat.le_refl _) _ _ _ _ _ _, fun _ => ⟨rfl, rfl⟩, fun h => absurd ⟨rfl, .inr (.inr rfl)⟩ h⟩
  exact OwnRec.far (w := w5) ⟨ownl_nil _ _, ownw_nil _ _, ownz_lower HO5.out (by have := HB2.out.size; simp; omega)⟩ HZ5.out (by simp [World.setCell]) (put6_far _ _ _ _ _ _)
end Go.Proofs.Ytmgolnlkepiocaa
