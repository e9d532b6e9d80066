/- A record read of bytes, as the document does it (gaugeref11.read): all ways but the rows'. Written by genwarefread.py. -/
import Derived.Test.YtmgolnlkepiocaaWaRefNum
namespace Go.Proofs.Ytmgolnlkepiocaa
open Go.RowKit Go.Maps
set_option linter.unusedVariables false

def Known (R : RecV) : Prop := R.kind = 1 ∨ R.kind = 2 ∨ R.kind = 3
def RefTold (w : World) (R : RecV) (E : Nat) (e' : Ending) (w' : World) : Prop := ∃ R' m ok, e' = .returned (.tuple #[.agg (recC R' m).toArray, .bool ok]) ∧ OwnRec w' w.heap.size R' m ∧ RecFit R' ∧ Below w.heap.size w w' ∧ ((E = 0 ∧ Known R) → ok = true ∧ R' = R) ∧ (¬ (E = 0 ∧ Known R) → ok = false)
theorem gs_one {b : List UInt8} {n nx : Nat} (h : GX b 0 n nx 0) : GS b 1 0 [n] nx 0 := .more 0 0 n nx [] nx 0 h (.done _)
theorem gs_none {b : List UInt8} {n nx e : Nat} (h : GX b 0 n nx e) (he : e ≠ 0) : GS b 1 0 [] 0 e := .bad 0 0 n nx e h he
theorem reflab_prog {l : List UInt8} {a : Int} {ls : List Lbl} {p : Int} {E : Nat} (h : LX l a ls p E) (A : Option Addr) (c : Nat) (w : World) (hA : Bys w A l) (hlc : l.length ≤ c) (hl : l.length ≤ 140737488355328) :
    Calls Try.prog 72 #[.slice A l.length c, .int .i64 a] w (LabTold w ls p E) := by
  obtain ⟨n, nx, e, hg, h⟩ := h
  rcases h with ⟨h1, rfl, rfl, rfl⟩ | ⟨rfl, h1, rfl, rfl, rfl⟩ | ⟨rfl, h1, LS, P, E1, hr, h⟩
  · exact (read_ref_no hg h1 A c w hA hlc hl).mono fun e' w' h => ⟨_, h.1, ownl_nil _ _, h.2⟩
  · exact (read_ref_big hg h1 A c w hA hlc hl).mono fun e' w' h => ⟨_, h.1, ownl_nil _ _, h.2⟩
  · refine (read_ref_told hg h1 hr A c w hA hlc hl).mono fun e' w' hh => ?_
    obtain ⟨hb, hh⟩ := hh
    rcases h with ⟨h2, rfl, rfl, rfl⟩ | ⟨rfl, h2, rfl, rfl, rfl⟩ | ⟨rfl, h2, rfl, rfl, rfl⟩
    · rcases hh with ⟨_, h3⟩ | ⟨h3, _⟩ | ⟨h3, _⟩
      · exact ⟨_, h3, ownl_nil _ _, hb⟩
      · exact absurd h3 h2
      · exact absurd h3 h2
    · rcases hh with ⟨h3, _⟩ | ⟨_, _, h3⟩ | ⟨_, h3, _⟩
      · exact absurd rfl h3
      · exact ⟨_, h3, ownl_nil _ _, hb⟩
      · exact absurd h3 h2
    · rcases hh with ⟨h3, _⟩ | ⟨_, h3, _⟩ | ⟨_, _, v, h3, h4⟩
      · exact absurd rfl h3
      · exact absurd h2 h3
      · exact ⟨v, h3, h4, hb⟩
theorem lx_fit {b : List UInt8} {a : Int} {ls : List Lbl} {p : Int} {E : Nat} (h : LX b a ls p E) : RecFit ⟨1, ls, [], [], 0, 0⟩ := by
  have hn : ∀ k, RecFit ⟨k, [], [], [], 0, 0⟩ := fun k => ⟨fun i hi => by simp at hi, by simp, by simp, by simp⟩
  obtain ⟨n, nx, e, hg, h⟩ := h
  rcases h with ⟨_, _, rfl, _⟩ | ⟨_, _, _, rfl, _⟩ | ⟨_, _, LS, P, E1, hr, h⟩
  · exact hn 1
  · exact hn 1
  · rcases h with ⟨_, _, rfl, _⟩ | ⟨_, _, _, rfl, _⟩ | ⟨_, h2, _, rfl, _⟩
    · exact hn 1
    · exact hn 1
    · exact right_fit (R := ⟨1, ls, [], [], 0, 0⟩) (by rw [show recChk ⟨1, ls, [], [], 0, 0⟩ = lbChk ls from (by unfold recChk; rw [if_neg (by unfold Misfit; simp), if_pos rfl])]; exact h2)
theorem fit_0 : RecFit rec0 := recFit_zero
theorem row_atz {w w' : World} {g : Nat} {t : TypeId} {cs : Array Value} (h : Row w g t cs) (hb : w'.heap[g]? = w.heap[g]?) : Row w' g t cs := hb.trans h
theorem rows_atz {w w' : World} {base e size n : Nat} {v : Value} {xs : List Value} (h : w.ownsRow base e size v n xs) (hb : ∀ k, v.ownBlock = some k → w'.heap[k]? = w.heap[k]?) : w'.ownsRow base e size v n xs := by
  refine ⟨h.1, ?_⟩
  rcases h.2 with h1 | ⟨g, cap, cur, rfl, hg, hh, r⟩
  · exact .inl h1
  · exact .inr ⟨g, cap, cur, rfl, hg, (hb g rfl).trans hh, r⟩
theorem put1x_row {w : World} {g : Nat} {t : TypeId} {u0 u1 u2 u3 u4 u5 : Value} (h : Row w g t #[u0, u1, u2, u3, u4, u5]) (v : Value) : Row (w.setCell ⟨g, 1, none⟩ v) g t #[u0, v, u2, u3, u4, u5] := by
  have := h.setAt 1 v
  simpa only [List.setIfInBounds_toArray, List.set_cons_zero, List.set_cons_succ] using this
theorem put2x_row {w : World} {g : Nat} {t : TypeId} {u0 u1 u2 u3 u4 u5 : Value} (h : Row w g t #[u0, u1, u2, u3, u4, u5]) (v : Value) : Row (w.setCell ⟨g, 2, none⟩ v) g t #[u0, u1, v, u3, u4, u5] := by
  have := h.setAt 2 v
  simpa only [List.setIfInBounds_toArray, List.set_cons_zero, List.set_cons_succ] using this
theorem put345_row {w : World} {g : Nat} {t : TypeId} {u0 u1 u2 u3 u4 u5 : Value} (h : Row w g t #[u0, u1, u2, u3, u4, u5]) (v x y : Value) : Row (((w.setCell ⟨g, 3, none⟩ v).setCell ⟨g, 4, none⟩ x).setCell ⟨g, 5, none⟩ y) g t #[u0, u1, u2, v, x, y] := by
  have := ((h.setAt 3 v).setAt 4 x).setAt 5 y
  simpa only [List.setIfInBounds_toArray, List.set_cons_zero, List.set_cons_succ] using this
set_option maxRecDepth 20000 in
set_option maxHeartbeats 2000000 in
theorem refread_0 {l : List UInt8} {n nx e : Nat} (h : GX l 0 n nx e) (he : e ≠ 0) (R : RecV) (A : Option Addr) (c : Nat) (w : World) (hA : Bys w A l) (hlc : l.length ≤ c) (hl : l.length ≤ 140737488355328) :
    Calls Try.prog 44 #[.slice A l.length c] w (RefTold w R e) := by
  have HZ := Lib.hid (Row.new w 26 #[.int .i64 0, .slice none 0 0, .slice none 0 0, .slice none 0 0, .int .i64 0, .int .i64 0])
  have HB0 := Lib.hid (below_one w (.cells #[.int .i64 0, .slice none 0 0, .slice none 0 0, .slice none 0 0, .int .i64 0, .int .i64 0] 26))
  have HA0 := Lib.hid (hA.alloc (.cells #[.int .i64 0, .slice none 0 0, .slice none 0 0, .slice none 0 0, .int .i64 0, .int .i64 0] 26))
  have HN1 := Lib.hid (show Calls Try.prog 71 #[.slice A l.length c, .int .i64 0, .int .i64 1] _ _ from refnums_prog (gs_none h he) (by decide) A c _ HA0.out hlc hl)
  have hd : decide (e = 0) = false := decide_eq_false he
  unfold NumsTold at HN1
  rw [hd, if_neg he] at HN1
  have HE := Lib.hid he
  clear hd h he hA
  go_enter Try.func44, Try.ntmps44
  go_wp2_with (first
    | (go_at_call 71; refine HN1.out.mono ?_; rintro e' w2 ⟨v2, rfl, ho2, hb2⟩
       obtain ⟨P2, d2, hv2, _, _, _⟩ := ownz_slice ho2
       subst hv2
       have HB2 := Lib.hid (below_then HB0.out hb2)
       have HZ2 := Lib.hid (HZ.out.below hb2 HZ.out.lt)
       obtain ⟨z0, z1, z2, z3, z4, z5⟩ := rec_cells HZ2.out rfl
       have f0 := HZ2.out.frozen 0
       have f1 := HZ2.out.frozen 1
       have f2 := HZ2.out.frozen 2
       have f3 := HZ2.out.frozen 3
       have f4 := HZ2.out.frozen 4
       have f5 := HZ2.out.frozen 5
       clear ho2 hb2))
  try simp only [Exit.inBlock, Exit.then]
  refine bodyPost_ret (ret_rec2 rfl _ _ _ _ rfl (put6_row HZ2.out _ _ _ _ _ _) rfl) rfl ?_
  exact ⟨rec0, recM0, false, rfl, OwnRec.far (OwnRec.nil w2 w.heap.size 0 0 0) HZ2.out (by simp [World.setCell]) (put6_far _ _ _ _ _ _), fit_0, put6_below HB2.out (Nat.le_refl _) _ _ _ _ _ _, fun hh => absurd hh.1 HE.out, fun _ => rfl⟩
set_option maxRecDepth 20000 in
set_option maxHeartbeats 2000000 in
theorem refread_4 {l : List UInt8} {n nx : Nat} (h : GX l 0 n nx 0) (h1 : n ≠ 1) (h2 : n ≠ 2) (h3 : n ≠ 3) (R : RecV) (hR : R.kind = n) (E : Nat) (A : Option Addr) (c : Nat) (w : World) (hA : Bys w A l) (hlc : l.length ≤ c) (hl : l.length ≤ 140737488355328) :
    Calls Try.prog 44 #[.slice A l.length c] w (RefTold w R E) := by
  have HZ := Lib.hid (Row.new w 26 #[.int .i64 0, .slice none 0 0, .slice none 0 0, .slice none 0 0, .int .i64 0, .int .i64 0])
  have HB0 := Lib.hid (below_one w (.cells #[.int .i64 0, .slice none 0 0, .slice none 0 0, .slice none 0 0, .int .i64 0, .int .i64 0] 26))
  have HA0 := Lib.hid (hA.alloc (.cells #[.int .i64 0, .slice none 0 0, .slice none 0 0, .slice none 0 0, .int .i64 0, .int .i64 0] 26))
  have HN1 := Lib.hid (show Calls Try.prog 71 #[.slice A l.length c, .int .i64 0, .int .i64 1] _ _ from refnums_prog (gs_one h) (by decide) A c _ HA0.out hlc hl)
  unfold NumsTold at HN1
  rw [show decide ((0 : Nat) = 0) = true from rfl] at HN1
  have q1 : ((n : Int) == 1) = false := beq_eq_false_iff_ne.2 (by omega)
  have q2 : ((n : Int) == 2) = false := beq_eq_false_iff_ne.2 (by omega)
  have q3 : ((n : Int) == 3) = false := beq_eq_false_iff_ne.2 (by omega)
  have HK := Lib.hid (show ¬ (E = 0 ∧ Known R) by unfold Known; rw [hR]; omega)
  clear h hA h1 h2 h3 hR
  go_enter Try.func44, Try.ntmps44
  go_wp2_with (first
    | (go_at_call 71; refine HN1.out.mono ?_; rintro e w2 ⟨v2, rfl, ho2, hb2⟩
       rw [if_pos rfl] at ho2
       obtain ⟨g2, cap2, hv2, _, hgl2, _, _, hc2⟩ := ownz_form ho2 (by simp [intL])
       rw [show (intL [n]).length = 1 from rfl] at hv2
       have k0 : w2.cell? ⟨g2, 0, none⟩ = some (.int .i64 (n : Int)) := hc2 0 (by simp [intL])
       subst hv2
       have HB2 := Lib.hid (below_then HB0.out hb2)
       have HZ2 := Lib.hid (HZ.out.below hb2 HZ.out.lt)
       have HBX := Lib.hid (Row.new w2 26 #[.int .i64 (n : Int), .slice none 0 0, .slice none 0 0, .slice none 0 0, .int .i64 0, .int .i64 0])
       obtain ⟨x0, x1, x2, x3, x4, x5⟩ := rec_cells HBX.out rfl
       obtain ⟨z0, z1, z2, z3, z4, z5⟩ := rec_cells (HZ2.out.alloc (.cells #[.int .i64 (n : Int), .slice none 0 0, .slice none 0 0, .slice none 0 0, .int .i64 0, .int .i64 0] 26)) rfl
       have f0 := (HZ2.out.alloc (.cells #[.int .i64 (n : Int), .slice none 0 0, .slice none 0 0, .slice none 0 0, .int .i64 0, .int .i64 0] 26)).frozen 0
       have f1 := (HZ2.out.alloc (.cells #[.int .i64 (n : Int), .slice none 0 0, .slice none 0 0, .slice none 0 0, .int .i64 0, .int .i64 0] 26)).frozen 1
       have f2 := (HZ2.out.alloc (.cells #[.int .i64 (n : Int), .slice none 0 0, .slice none 0 0, .slice none 0 0, .int .i64 0, .int .i64 0] 26)).frozen 2
       have f3 := (HZ2.out.alloc (.cells #[.int .i64 (n : Int), .slice none 0 0, .slice none 0 0, .slice none 0 0, .int .i64 0, .int .i64 0] 26)).frozen 3
       have f4 := (HZ2.out.alloc (.cells #[.int .i64 (n : Int), .slice none 0 0, .slice none 0 0, .slice none 0 0, .int .i64 0, .int .i64 0] 26)).frozen 4
       have f5 := (HZ2.out.alloc (.cells #[.int .i64 (n : Int), .slice none 0 0, .slice none 0 0, .slice none 0 0, .int .i64 0, .int .i64 0] 26)).frozen 5
       clear ho2 hb2 hc2))
  try simp only [Exit.inBlock, Exit.then]
  refine bodyPost_ret (ret_rec2 rfl _ _ _ _ rfl (put6_row (HZ2.out.alloc _) _ _ _ _ _ _) rfl) rfl ?_
  exact ⟨rec0, recM0, false, rfl, OwnRec.far (OwnRec.nil _ w.heap.size 0 0 0) (HZ2.out.alloc _) (by simp [World.setCell]) (put6_far _ _ _ _ _ _), fit_0, put6_below (HB2.out.alloc HB2.out.size _) (Nat.le_refl _) _ _ _ _ _ _, fun hh => absurd hh HK.out, fun _ => rfl⟩
set_option maxRecDepth 20000 in
set_option maxHeartbeats 2000000 in
theorem refread_1 {l : List UInt8} {nx : Nat} (h : GX l 0 1 nx 0) {ls : List Lbl} {p : Int} {E : Nat} (hx : LX l nx ls p E) (A : Option Addr) (c : Nat) (w : World) (hA : Bys w A l) (hlc : l.length ≤ c) (hl : l.length ≤ 140737488355328) :
    Calls Try.prog 44 #[.slice A l.length c] w (RefTold w ⟨1, ls, [], [], 0, 0⟩ E) := by
  have HZ := Lib.hid (Row.new w 26 #[.int .i64 0, .slice none 0 0, .slice none 0 0, .slice none 0 0, .int .i64 0, .int .i64 0])
  have HB0 := Lib.hid (below_one w (.cells #[.int .i64 0, .slice none 0 0, .slice none 0 0, .slice none 0 0, .int .i64 0, .int .i64 0] 26))
  have HA0 := Lib.hid (hA.alloc (.cells #[.int .i64 0, .slice none 0 0, .slice none 0 0, .slice none 0 0, .int .i64 0, .int .i64 0] 26))
  have HN1 := Lib.hid (show Calls Try.prog 71 #[.slice A l.length c, .int .i64 0, .int .i64 1] _ _ from refnums_prog (gs_one h) (by decide) A c _ HA0.out hlc hl)
  unfold NumsTold at HN1
  rw [show decide ((0 : Nat) = 0) = true from rfl] at HN1
  have HLB := Lib.hid (fun W (hW : Below w.heap.size w W) => reflab_prog hx A c W (hA.below hW) hlc hl)
  have HFT := Lib.hid (lx_fit hx)
  have HK := Lib.hid (fun (b : Bool) (hb : b = decide (E = 0)) => show ((E = 0 ∧ Known ⟨1, ls, [], [], 0, 0⟩) → b = true) ∧ (¬ (E = 0 ∧ Known ⟨1, ls, [], [], 0, 0⟩) → b = false) from ⟨fun h => by rw [hb, decide_eq_true h.1], fun h => by rw [hb]; exact decide_eq_false fun e => h ⟨e, .inl rfl⟩⟩)
  have HEB := Lib.hid (show (((E : Int)) == 0) = decide (E = 0) by rw [Bool.eq_iff_iff]; simp)
  obtain ⟨n, hn⟩ : ∃ n : Nat, n = 1 := ⟨1, rfl⟩
  have q1 : ((n : Int) == 1) = true := by rw [hn]; rfl
  rw [← hn] at HN1
  have HNN := Lib.hid hn
  clear hn h hA hx
  go_enter Try.func44, Try.ntmps44
  go_wp2_with (first
    | (go_at_call 71; refine HN1.out.mono ?_; rintro e w2 ⟨v2, rfl, ho2, hb2⟩
       rw [if_pos rfl] at ho2
       obtain ⟨g2, cap2, hv2, _, hgl2, _, _, hc2⟩ := ownz_form ho2 (by simp [intL])
       rw [show (intL [n]).length = 1 from rfl] at hv2
       have k0 : w2.cell? ⟨g2, 0, none⟩ = some (.int .i64 (n : Int)) := hc2 0 (by simp [intL])
       subst hv2
       have HB2 := Lib.hid (below_then HB0.out hb2)
       have HZ2 := Lib.hid (HZ.out.below hb2 HZ.out.lt)
       have HBX := Lib.hid (Row.new w2 26 #[.int .i64 (n : Int), .slice none 0 0, .slice none 0 0, .slice none 0 0, .int .i64 0, .int .i64 0])
       obtain ⟨x0, x1, x2, x3, x4, x5⟩ := rec_cells HBX.out rfl
       clear ho2 hb2 hc2)
    | (go_at_call 72; refine (HLB.out _ (HB2.out.alloc HB2.out.size _)).mono ?_; rintro e w3 ⟨v3, rfl, ho3, hb3⟩
       obtain ⟨P3, d3, hv3, _, _, _⟩ := ownl_slice ho3
       subst hv3
       have HB3 := Lib.hid ((HB2.out.alloc HB2.out.size _).trans (hb3.mono (by have := HB2.out.size; simp; omega)))
       have HO3 := Lib.hid ho3
       have HBX3 := Lib.hid (HBX.out.below hb3 (by simp))
       have HZ3 := Lib.hid ((HZ2.out.alloc (.cells #[.int .i64 (n : Int), .slice none 0 0, .slice none 0 0, .slice none 0 0, .int .i64 0, .int .i64 0] 26)).below hb3 (Nat.lt_of_lt_of_le HZ2.out.lt (by simp)))
       have hg3 := HBX3.out
       obtain ⟨y0, y1, y2, y3, y4, y5⟩ := rec_cells HBX3.out rfl
       have f1 := HBX3.out.frozen 1
       have HBY := Lib.hid (put1x_row HBX3.out (.slice P3 ls.length d3))
       have HZY := Lib.hid (row_atz HZ3.out (show (w3.setCell ⟨w2.heap.size, 1, none⟩ (.slice P3 ls.length d3)).heap[w.heap.size]? = w3.heap[w.heap.size]? from Below.heap_setCell _ _ _ _ (by have := HZ2.out.lt; show w.heap.size ≠ w2.heap.size; omega)))
       obtain ⟨u0, u1, u2, u3, u4, u5⟩ := rec_cells HBY.out rfl
       obtain ⟨z0, z1, z2, z3, z4, z5⟩ := rec_cells HZY.out rfl
       have r0 := HZY.out.frozen 0
       have r1 := HZY.out.frozen 1
       have r2 := HZY.out.frozen 2
       have r3 := HZY.out.frozen 3
       have r4 := HZY.out.frozen 4
       have r5 := HZY.out.frozen 5
       clear ho3 hb3 hg3))
  try simp only [Exit.inBlock, Exit.then]
  refine bodyPost_ret (ret_rec2 rfl _ _ _ _ rfl (put6_row HZY.out _ _ _ _ _ _) rfl) rfl ?_
  have hn : n = 1 := HNN.out
  subst hn
  refine ⟨⟨1, ls, [], [], 0, 0⟩, ⟨P3, d3, none, 0, none, 0⟩, _, rfl, ?_, HFT.out, put6_below ((HB3.out).setCell (p := ⟨w2.heap.size, 1, none⟩) HB2.out.size _) (Nat.le_refl _) _ _ _ _ _ _, fun h => ⟨(HK.out _ HEB.out).1 h, rfl⟩, (HK.out _ HEB.out).2⟩
  refine OwnRec.far (w := w3.setCell ⟨w2.heap.size, 1, none⟩ (.slice P3 ls.length d3)) ⟨?_, ownw_nil _ _, ownz_nil _ _⟩ HZY.out (by simp [World.setCell]) (put6_far _ _ _ _ _ _)
  exact ownl_lower (rows_atz HO3.out fun k hk => Below.heap_setCell _ _ _ _ (by have := (World.ownsRow.lt HO3.out k hk).1; simp at this; show k ≠ w2.heap.size; omega)) (by have := HB2.out.size; simp; omega)
end Go.Proofs.Ytmgolnlkepiocaa
