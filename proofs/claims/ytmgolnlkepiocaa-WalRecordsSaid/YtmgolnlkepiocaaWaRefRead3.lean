/- A record of rows read of bytes, as the document does it (gaugeref11.read). Written by genwarefread3.py. -/
import Derived.Test.YtmgolnlkepiocaaWaRefRead2
namespace Go.Proofs.Ytmgolnlkepiocaa
open Go.RowKit Go.Maps
set_option linter.unusedVariables false

theorem gs_one_at {b : List UInt8} {a : Int} {n nx : Nat} (h : GX b a n nx 0) : GS b 1 a [n] nx 0 := .more 0 a n nx [] nx 0 h (.done _)
theorem gs_none_at {b : List UInt8} {a : Int} {n nx e : Nat} (h : GX b a n nx e) (he : e ≠ 0) : GS b 1 a [] 0 e := .bad 0 a n nx e h he
theorem rows3_snoc : ∀ (j : Nat) (xs : List Nat), 3 * j + 3 ≤ xs.length → rows3 (xs.take (3 * (j + 1))) = rows3 (xs.take (3 * j)) ++ [(((xs.getD (3 * j) 0 : Nat) : Int), ((xs.getD (3 * j + 1) 0 : Nat) : Int), zagV (xs.getD (3 * j + 2) 0))] := by
  intro j
  induction j with
  | zero =>
    intro xs h
    match xs, h with
    | a :: b :: c :: r, _ => rfl
    | [], h => simp at h
    | [a], h => simp at h
    | [a, b], h => simp at h
  | succ j ih =>
    intro xs h
    match xs, h with
    | a :: b :: c :: r, h =>
      have h1 := ih r (by simp at h; omega)
      have e1 : (a :: b :: c :: r).take (3 * (j + 1 + 1)) = a :: b :: c :: r.take (3 * (j + 1)) := by rw [show 3 * (j + 1 + 1) = 3 * (j + 1) + 1 + 1 + 1 from by omega]; rfl
      have e2 : (a :: b :: c :: r).take (3 * (j + 1)) = a :: b :: c :: r.take (3 * j) := by rw [show 3 * (j + 1) = 3 * j + 1 + 1 + 1 from by omega]; rfl
      have e3 : (a :: b :: c :: r).getD (3 * (j + 1)) 0 = r.getD (3 * j) 0 := by rw [show 3 * (j + 1) = 3 * j + 1 + 1 + 1 from by omega]; rfl
      have e4 : (a :: b :: c :: r).getD (3 * (j + 1) + 1) 0 = r.getD (3 * j + 1) 0 := by rw [show 3 * (j + 1) + 1 = (3 * j + 1) + 1 + 1 + 1 from by omega]; rfl
      have e5 : (a :: b :: c :: r).getD (3 * (j + 1) + 2) 0 = r.getD (3 * j + 2) 0 := by rw [show 3 * (j + 1) + 2 = (3 * j + 2) + 1 + 1 + 1 from by omega]; rfl
      rw [e1, e2, e3, e4, e5]
      show _ :: rows3 (r.take (3 * (j + 1))) = _ :: (rows3 (r.take (3 * j)) ++ _)
      rw [h1]
    | [], h => simp at h
    | [a], h => simp at h
    | [a, b], h => simp at h
theorem rows3_le : ∀ xs : List Nat, (rows3 xs).length ≤ xs.length
  | a :: b :: c :: r => by show (rows3 r).length + 1 ≤ r.length + 3; have := rows3_le r; omega
  | [] => by simp [rows3]
  | [a] => by simp [rows3]
  | [a, b] => by simp [rows3]
theorem len_24 {a : Nat} (h : a ≤ 192) : (a + 1) * 24 ≤ 140737488355328 := by omega
theorem odd_int {n : Nat} (h : n % 2 = 1) : (n : Int) % 2 = 1 := by omega
theorem even_int {n : Nat} (h : ¬ n % 2 = 1) : (n : Int) % 2 = 0 := by omega
theorem half_int {n q : Nat} (hq : q = n / 2) (h : n < 9223372036854775808) : wrap64 ((n : Int) / 2) = (q : Int) := by rw [IntWalk.wrap64_in _ (by omega)]; omega
theorem neg_half {n q : Nat} (hq : q = n / 2) (h : n < 9223372036854775808) : wrap64 (-(q : Int)) = -(q : Int) := by rw [IntWalk.wrap64_in _ (by omega)]
theorem odd_zag {n q : Nat} (hq : q = n / 2) (h : n < 9223372036854775808) (ho : n % 2 = 1) : wrap64 (-(q : Int) - 1) = zagV n := by rw [IntWalk.wrap64_in _ (by omega)]; unfold zagV; rw [if_pos ho, hq]
theorem even_zag {n q : Nat} (hq : q = n / 2) (ho : ¬ n % 2 = 1) : (q : Int) = zagV n := by unfold zagV; rw [if_neg ho, hq]
set_option maxRecDepth 20000 in
set_option maxHeartbeats 2000000 in
theorem refread_2a {l : List UInt8} {nx : Nat} (h : GX l 0 2 nx 0) {n2 nx2 e : Nat} (h2 : GX l nx n2 nx2 e) (he : e ≠ 0) (R : RecV) (E : Nat) (hE : E ≠ 0) (A : Option Addr) (c : Nat) (w : World) (hA : Bys w A l) (hlc : l.length ≤ c) (hl : l.length ≤ 140737488355328) :
    Calls Try.prog 44 #[.slice A l.length c] w (RefTold w R E) := by
  have HZ := Lib.hid (Row.new w 26 #[.int .i64 0, .slice none 0 0, .slice none 0 0, .slice none 0 0, .int .i64 0, .int .i64 0])
  have HB0 := Lib.hid (below_one w (.cells #[.int .i64 0, .slice none 0 0, .slice none 0 0, .slice none 0 0, .int .i64 0, .int .i64 0] 26))
  have HA0 := Lib.hid (hA.alloc (.cells #[.int .i64 0, .slice none 0 0, .slice none 0 0, .slice none 0 0, .int .i64 0, .int .i64 0] 26))
  have HN1 := Lib.hid (show Calls Try.prog 71 #[.slice A l.length c, .int .i64 0, .int .i64 1] _ _ from refnums_prog (gs_one h) (by decide) A c _ HA0.out hlc hl)
  unfold NumsTold at HN1
  rw [show decide ((0 : Nat) = 0) = true from rfl] at HN1
  obtain ⟨n, hn⟩ : ∃ n : Nat, n = 2 := ⟨2, rfl⟩
  have q1 : ((n : Int) == 1) = false := by rw [hn]; rfl
  have q2 : ((n : Int) == 2) = true := by rw [hn]; rfl
  have q3 : ((n : Int) == 3) = false := by rw [hn]; rfl
  rw [← hn] at HN1
  have HNN := Lib.hid hn
  clear hn
  have HN2 := Lib.hid (fun W (hW : Below w.heap.size w W) => refnums_at 1 (gs_none_at h2 he) rfl (by decide) A c W (hA.below hW) hlc hl)
  unfold NumsTold at HN2
  rw [decide_eq_false he, if_neg he] at HN2
  have HE := Lib.hid hE
  clear h hA h2 he hE
  go_enter Try.func44, Try.ntmps44
  go_wp2_with (first
    | (go_at_call 71; (with_reducible refine (HN2.out _ (HB2.out.alloc HB2.out.size (.cells #[.int .i64 (n : Int), .slice none 0 0, .slice none 0 0, .slice none 0 0, .int .i64 0, .int .i64 0] 26))).mono ?_); rintro e' w3 ⟨v3, rfl, ho3, hb3⟩
       have HB3 := Lib.hid ((HB2.out.alloc HB2.out.size (.cells #[.int .i64 (n : Int), .slice none 0 0, .slice none 0 0, .slice none 0 0, .int .i64 0, .int .i64 0] 26)).trans (hb3.mono (by have := HB2.out.size; simp; omega)))
       have HBX3 := Lib.hid (HBX.out.below hb3 (by simp))
       have HZ3 := Lib.hid ((HZ2.out.alloc (.cells #[.int .i64 (n : Int), .slice none 0 0, .slice none 0 0, .slice none 0 0, .int .i64 0, .int .i64 0] 26)).below hb3 (Nat.lt_of_lt_of_le HZ2.out.lt (by simp)))
       have HS3 := Lib.hid (show w2.heap.size + 1 ≤ w3.heap.size by have := hb3.size; simp at this; omega)
       obtain ⟨P3, d3, hv3, _, _, _⟩ := ownz_slice ho3
       subst hv3
       obtain ⟨z0, z1, z2, z3, z4, z5⟩ := rec_cells HZ3.out rfl
       have f0 := HZ3.out.frozen 0
       have f1 := HZ3.out.frozen 1
       have f2 := HZ3.out.frozen 2
       have f3 := HZ3.out.frozen 3
       have f4 := HZ3.out.frozen 4
       have f5 := HZ3.out.frozen 5
       clear ho3 hb3)
    | (go_at_call 71; (with_reducible refine HN1.out.mono ?_); rintro e w2 ⟨v2, rfl, ho2, hb2⟩
       rw [if_pos rfl] at ho2
       obtain ⟨g2, cap2, hv2, _, hgl2, _, _, hc2⟩ := ownz_form ho2 (by simp [intL])
       rw [show (intL [n]).length = 1 from rfl] at hv2
       have k0 : w2.cell? ⟨g2, 0, none⟩ = some (.int .i64 (n : Int)) := hc2 0 (by simp [intL])
       subst hv2
       have HB2 := Lib.hid (below_then HB0.out hb2)
       have HZ2 := Lib.hid (HZ.out.below hb2 HZ.out.lt)
       have HBX := Lib.hid (Row.new w2 26 #[.int .i64 (n : Int), .slice none 0 0, .slice none 0 0, .slice none 0 0, .int .i64 0, .int .i64 0])
       obtain ⟨x0, x1, x2, x3, x4, x5⟩ := rec_cells HBX.out rfl
       clear ho2 hb2 hc2))
  try simp only [Exit.inBlock, Exit.then]
  refine bodyPost_ret (ret_rec2 rfl _ _ _ _ rfl (put6_row HZ3.out _ _ _ _ _ _) rfl) rfl ?_
  exact ⟨rec0, recM0, false, rfl, OwnRec.far (OwnRec.nil _ w.heap.size 0 0 0) HZ3.out (by simp [World.setCell]) (put6_far _ _ _ _ _ _), fit_0, put6_below HB3.out (Nat.le_refl _) _ _ _ _ _ _, fun hh => absurd hh.1 HE.out, fun _ => rfl⟩
set_option maxRecDepth 20000 in
set_option maxHeartbeats 2000000 in
theorem refread_2b {l : List UInt8} {nx : Nat} (h : GX l 0 2 nx 0) {n2 nx2 : Nat} (h2 : GX l nx n2 nx2 0) (hb : 64 < n2) (R : RecV) (E : Nat) (hE : E ≠ 0) (A : Option Addr) (c : Nat) (w : World) (hA : Bys w A l) (hlc : l.length ≤ c) (hl : l.length ≤ 140737488355328) :
    Calls Try.prog 44 #[.slice A l.length c] w (RefTold w R E) := by
  have HZ := Lib.hid (Row.new w 26 #[.int .i64 0, .slice none 0 0, .slice none 0 0, .slice none 0 0, .int .i64 0, .int .i64 0])
  have HB0 := Lib.hid (below_one w (.cells #[.int .i64 0, .slice none 0 0, .slice none 0 0, .slice none 0 0, .int .i64 0, .int .i64 0] 26))
  have HA0 := Lib.hid (hA.alloc (.cells #[.int .i64 0, .slice none 0 0, .slice none 0 0, .slice none 0 0, .int .i64 0, .int .i64 0] 26))
  have HN1 := Lib.hid (show Calls Try.prog 71 #[.slice A l.length c, .int .i64 0, .int .i64 1] _ _ from refnums_prog (gs_one h) (by decide) A c _ HA0.out hlc hl)
  unfold NumsTold at HN1
  rw [show decide ((0 : Nat) = 0) = true from rfl] at HN1
  obtain ⟨n, hn⟩ : ∃ n : Nat, n = 2 := ⟨2, rfl⟩
  have q1 : ((n : Int) == 1) = false := by rw [hn]; rfl
  have q2 : ((n : Int) == 2) = true := by rw [hn]; rfl
  have q3 : ((n : Int) == 3) = false := by rw [hn]; rfl
  rw [← hn] at HN1
  have HNN := Lib.hid hn
  clear hn
  have HN2 := Lib.hid (fun W (hW : Below w.heap.size w W) => refnums_at 1 (gs_one_at h2) rfl (by decide) A c W (hA.below hW) hlc hl)
  unfold NumsTold at HN2
  rw [show decide ((0 : Nat) = 0) = true from rfl, if_pos rfl] at HN2
  have HE := Lib.hid hE
  have p1 : decide ((64 : Int) < (n2 : Int)) = true := decide_eq_true (by omega)
  have p2 : (64 : Int) < (n2 : Int) := by omega
  have p3 : 64 < n2 := hb
  clear h hA h2 hE hb
  go_enter Try.func44, Try.ntmps44
  go_wp2_with (first
    | (go_at_call 71; (with_reducible refine (HN2.out _ (HB2.out.alloc HB2.out.size (.cells #[.int .i64 (n : Int), .slice none 0 0, .slice none 0 0, .slice none 0 0, .int .i64 0, .int .i64 0] 26))).mono ?_); rintro e' w3 ⟨v3, rfl, ho3, hb3⟩
       have HB3 := Lib.hid ((HB2.out.alloc HB2.out.size (.cells #[.int .i64 (n : Int), .slice none 0 0, .slice none 0 0, .slice none 0 0, .int .i64 0, .int .i64 0] 26)).trans (hb3.mono (by have := HB2.out.size; simp; omega)))
       have HBX3 := Lib.hid (HBX.out.below hb3 (by simp))
       have HZ3 := Lib.hid ((HZ2.out.alloc (.cells #[.int .i64 (n : Int), .slice none 0 0, .slice none 0 0, .slice none 0 0, .int .i64 0, .int .i64 0] 26)).below hb3 (Nat.lt_of_lt_of_le HZ2.out.lt (by simp)))
       have HS3 := Lib.hid (show w2.heap.size + 1 ≤ w3.heap.size by have := hb3.size; simp at this; omega)
       obtain ⟨g3, cap3, hv3, _, hgl3, _, _, hc3⟩ := ownz_form ho3 (by simp [intL])
       rw [show (intL [n2]).length = 1 from rfl] at hv3
       have m0 : w3.cell? ⟨g3, 0, none⟩ = some (.int .i64 (n2 : Int)) := hc3 0 (by simp [intL])
       subst hv3
       obtain ⟨z0, z1, z2, z3, z4, z5⟩ := rec_cells HZ3.out rfl
       have f0 := HZ3.out.frozen 0
       have f1 := HZ3.out.frozen 1
       have f2 := HZ3.out.frozen 2
       have f3 := HZ3.out.frozen 3
       have f4 := HZ3.out.frozen 4
       have f5 := HZ3.out.frozen 5
       clear hc3
       clear ho3 hb3)
    | (go_at_call 71; (with_reducible refine HN1.out.mono ?_); rintro e w2 ⟨v2, rfl, ho2, hb2⟩
       rw [if_pos rfl] at ho2
       obtain ⟨g2, cap2, hv2, _, hgl2, _, _, hc2⟩ := ownz_form ho2 (by simp [intL])
       rw [show (intL [n]).length = 1 from rfl] at hv2
       have k0 : w2.cell? ⟨g2, 0, none⟩ = some (.int .i64 (n : Int)) := hc2 0 (by simp [intL])
       subst hv2
       have HB2 := Lib.hid (below_then HB0.out hb2)
       have HZ2 := Lib.hid (HZ.out.below hb2 HZ.out.lt)
       have HBX := Lib.hid (Row.new w2 26 #[.int .i64 (n : Int), .slice none 0 0, .slice none 0 0, .slice none 0 0, .int .i64 0, .int .i64 0])
       obtain ⟨x0, x1, x2, x3, x4, x5⟩ := rec_cells HBX.out rfl
       clear ho2 hb2 hc2))
  try simp only [Exit.inBlock, Exit.then]
  refine bodyPost_ret (ret_rec2 rfl _ _ _ _ rfl (put6_row HZ3.out _ _ _ _ _ _) rfl) rfl ?_
  exact ⟨rec0, recM0, false, rfl, OwnRec.far (OwnRec.nil _ w.heap.size 0 0 0) HZ3.out (by simp [World.setCell]) (put6_far _ _ _ _ _ _), fit_0, put6_below HB3.out (Nat.le_refl _) _ _ _ _ _ _, fun hh => absurd hh.1 HE.out, fun _ => rfl⟩
set_option maxRecDepth 20000 in
set_option maxHeartbeats 2000000 in
theorem refread_2c {l : List UInt8} {nx : Nat} (h : GX l 0 2 nx 0) {n2 nx2 : Nat} (h2 : GX l nx n2 nx2 0) (hb : n2 ≤ 64) {xs : List Nat} {p : Int} {E : Nat} (hs : GS l (3 * n2) nx2 xs p E) {rs : List Wrow} (hr1 : E = 0 → rs = rows3 xs) (A : Option Addr) (c : Nat) (w : World) (hA : Bys w A l) (hlc : l.length ≤ c) (hl : l.length ≤ 140737488355328) :
    Calls Try.prog 44 #[.slice A l.length c] w (RefTold w ⟨2, [], rs, [], 0, 0⟩ E) := by
  have HZ := Lib.hid (Row.new w 26 #[.int .i64 0, .slice none 0 0, .slice none 0 0, .slice none 0 0, .int .i64 0, .int .i64 0])
  have HB0 := Lib.hid (below_one w (.cells #[.int .i64 0, .slice none 0 0, .slice none 0 0, .slice none 0 0, .int .i64 0, .int .i64 0] 26))
  have HA0 := Lib.hid (hA.alloc (.cells #[.int .i64 0, .slice none 0 0, .slice none 0 0, .slice none 0 0, .int .i64 0, .int .i64 0] 26))
  have HN1 := Lib.hid (show Calls Try.prog 71 #[.slice A l.length c, .int .i64 0, .int .i64 1] _ _ from refnums_prog (gs_one h) (by decide) A c _ HA0.out hlc hl)
  unfold NumsTold at HN1
  rw [show decide ((0 : Nat) = 0) = true from rfl] at HN1
  obtain ⟨n, hn⟩ : ∃ n : Nat, n = 2 := ⟨2, rfl⟩
  have q1 : ((n : Int) == 1) = false := by rw [hn]; rfl
  have q2 : ((n : Int) == 2) = true := by rw [hn]; rfl
  have q3 : ((n : Int) == 3) = false := by rw [hn]; rfl
  rw [← hn] at HN1
  have HNN := Lib.hid hn
  clear hn
  have HN2 := Lib.hid (fun W (hW : Below w.heap.size w W) => refnums_at 1 (gs_one_at h2) rfl (by decide) A c W (hA.below hW) hlc hl)
  unfold NumsTold at HN2
  rw [show decide ((0 : Nat) = 0) = true from rfl, if_pos rfl] at HN2
  have HN3 := Lib.hid (fun W (hW : Below w.heap.size w W) => refnums_at (3 * (n2 : Int)) hs (by push_cast; rfl) (by omega) A c W (hA.below hW) hlc hl)
  unfold NumsTold at HN3
  have p1 : decide ((64 : Int) < (n2 : Int)) = false := decide_eq_false (by omega)
  have p2 : ¬ (64 : Int) < (n2 : Int) := by omega
  have p3 : ¬ 64 < n2 := by omega
  have w3n : IntKind.i64.wrap (3 * (n2 : Int)) = 3 * (n2 : Int) := IntWalk.i64_in _ (by omega)
  obtain ⟨ys, hys⟩ : ∃ ys : List Nat, ys = if E = 0 then xs else [] := ⟨_, rfl⟩
  obtain ⟨cnt, hcnt, hc64⟩ : ∃ cnt, ys.length = 3 * cnt ∧ cnt ≤ 64 := by
    by_cases hE : E = 0
    · exact ⟨n2, by rw [hys, if_pos hE]; exact (gs_len hs).1 hE, hb⟩
    · exact ⟨0, by rw [hys, if_neg hE]; rfl, by omega⟩
  have hbnd : ∀ k, ys.getD k 0 < 9223372036854775808 := by
    intro k
    by_cases hk : k < ys.length
    · have hm : ys.getD k 0 ∈ xs := by
        rw [List.getD_eq_getElem?_getD, List.getElem?_eq_getElem hk]
        have h1 : ys[k] ∈ ys := List.getElem_mem hk
        by_cases hE : E = 0
        · rw [if_pos hE] at hys; simp only [← hys]; exact h1
        · rw [if_neg hE] at hys; rw [hys] at hk; simp at hk
      exact (gs_len hs).2 _ hm
    · rw [List.getD_eq_getElem?_getD, List.getElem?_eq_none (by omega)]; decide
  have hrows : rs = rows3 ys ∨ E ≠ 0 := by
    by_cases hE : E = 0
    · rw [if_pos hE] at hys; rw [hys]; exact .inl (hr1 hE)
    · exact .inr hE
  rw [show (if E = 0 then intL xs else []) = intL ys by rw [hys]; split <;> rfl] at HN3
  obtain ⟨T, hT⟩ : ∃ T, T = 3 * cnt := ⟨_, rfl⟩
  have HLI := Lib.hid (show (intL ys).length = T by unfold intL; rw [List.length_map, hcnt, hT])
  have HT := Lib.hid hT
  have HLY := Lib.hid hcnt
  have HBN := Lib.hid hbnd
  have HRW := Lib.hid hrows
  have HC := Lib.hid hc64
  have HIA := Lib.hid (fun k => intL_at ys k)
  generalize hdb : decide (E = 0) = ob at *
  have HOB := Lib.hid hdb
  clear hT h hA h2 hb hs hr1 hys hcnt hbnd hrows hdb
  go_enter Try.func44, Try.ntmps44
  go_wp2_with (first
    | (go_at_call 71; (with_reducible refine (HN3.out _ HB3.out).mono ?_); rintro e' w4 ⟨v4, rfl, ho4, hb4⟩
       have HB4 := Lib.hid (HB3.out.trans (hb4.mono (Nat.le_trans HB2.out.size (Nat.le_trans (Nat.le_succ _) HS3.out))))
       have HBX4 := Lib.hid (HBX3.out.below hb4 HBX3.out.lt)
       have HZ4 := Lib.hid (HZ3.out.below hb4 HZ3.out.lt)
       obtain ⟨P4, d4, hv4, _, _, _⟩ := ownz_slice ho4
       rw [HLI.out] at hv4
       subst hv4
       have HO4 := Lib.hid ho4
       have HS4 := Lib.hid hb4.size
       clear ho4 hb4)
    | (go_at_call 71; (with_reducible refine (HN2.out _ (HB2.out.alloc HB2.out.size (.cells #[.int .i64 (n : Int), .slice none 0 0, .slice none 0 0, .slice none 0 0, .int .i64 0, .int .i64 0] 26))).mono ?_); rintro e' w3 ⟨v3, rfl, ho3, hb3⟩
       have HB3 := Lib.hid ((HB2.out.alloc HB2.out.size (.cells #[.int .i64 (n : Int), .slice none 0 0, .slice none 0 0, .slice none 0 0, .int .i64 0, .int .i64 0] 26)).trans (hb3.mono (by have := HB2.out.size; simp; omega)))
       have HBX3 := Lib.hid (HBX.out.below hb3 (by simp))
       have HZ3 := Lib.hid ((HZ2.out.alloc (.cells #[.int .i64 (n : Int), .slice none 0 0, .slice none 0 0, .slice none 0 0, .int .i64 0, .int .i64 0] 26)).below hb3 (Nat.lt_of_lt_of_le HZ2.out.lt (by simp)))
       have HS3 := Lib.hid (show w2.heap.size + 1 ≤ w3.heap.size by have := hb3.size; simp at this; omega)
       obtain ⟨g3, cap3, hv3, _, hgl3, _, _, hc3⟩ := ownz_form ho3 (by simp [intL])
       rw [show (intL [n2]).length = 1 from rfl] at hv3
       have m0 : w3.cell? ⟨g3, 0, none⟩ = some (.int .i64 (n2 : Int)) := hc3 0 (by simp [intL])
       subst hv3
       clear hc3
       clear ho3 hb3)
    | (go_at_call 71; (with_reducible refine HN1.out.mono ?_); rintro e w2 ⟨v2, rfl, ho2, hb2⟩
       rw [if_pos rfl] at ho2
       obtain ⟨g2, cap2, hv2, _, hgl2, _, _, hc2⟩ := ownz_form ho2 (by simp [intL])
       rw [show (intL [n]).length = 1 from rfl] at hv2
       have k0 : w2.cell? ⟨g2, 0, none⟩ = some (.int .i64 (n : Int)) := hc2 0 (by simp [intL])
       subst hv2
       have HB2 := Lib.hid (below_then HB0.out hb2)
       have HZ2 := Lib.hid (HZ.out.below hb2 HZ.out.lt)
       have HBX := Lib.hid (Row.new w2 26 #[.int .i64 (n : Int), .slice none 0 0, .slice none 0 0, .slice none 0 0, .int .i64 0, .int .i64 0])
       obtain ⟨x0, x1, x2, x3, x4, x5⟩ := rec_cells HBX.out rfl
       clear ho2 hb2 hc2))
  go_loopw [16] (fun i wr => ∃ (I j : Nat) (vr : Value), Hid (I = 3 * j) ∧ j ≤ cnt ∧ i = .int .i64 (I : Int) ∧ Row wr w2.heap.size 26 #[.int .i64 (n : Int), .slice none 0 0, vr, .slice none 0 0, .int .i64 0, .int .i64 0] ∧ Row wr w.heap.size 26 #[.int .i64 0, .slice none 0 0, .slice none 0 0, .slice none 0 0, .int .i64 0, .int .i64 0] ∧ OwnZ wr w3.heap.size (.slice P4 T d4) (intL ys) ∧ OwnW wr w4.heap.size vr (rows3 (ys.take I)) ∧ Below w.heap.size w wr ∧ w4.heap.size ≤ wr.heap.size) (fun i _ => T - (intOf i).toNat)
  case atStart => exact ⟨0, 0, .slice none 0 0, Lib.hid rfl, Nat.zero_le _, rfl, HBX4.out, HZ4.out, HO4.out, by rw [List.take_zero]; exact ownw_nil _ _, HB4.out, Nat.le_refl _⟩
  case round =>
    obtain ⟨I, j, vr, HI, hj, rfl, hbx, hz, hx, hv, hb, hs⟩ := hrel
    have HXR := Lib.hid hx
    have HVR := Lib.hid hv
    have HBR := Lib.hid hb
    have HSR := Lib.hid hs
    have HBXR := Lib.hid hbx
    have HZR := Lib.hid hz
    obtain ⟨PV, dv, hvv, _, _, _⟩ := ownw_slice hv
    generalize hlv : (rows3 (ys.take I)).length = lv at hvv
    have HLV := Lib.hid hlv
    subst hvv
    have hlt2 : w2.heap.size < w4.heap.size := by have := HS3.out; have := HS4.out; omega
    have HLT2 := Lib.hid hlt2
    by_cases hlt : j < cnt
    · obtain ⟨J1, hJ1⟩ : ∃ J1, J1 = I + 1 := ⟨_, rfl⟩
      obtain ⟨J2, hJ2⟩ : ∃ J2, J2 = I + 2 := ⟨_, rfl⟩
      obtain ⟨J3, hJ3⟩ : ∃ J3, J3 = I + 3 := ⟨_, rfl⟩
      have hI3 := HI.out
      have hTT := HT.out
      have hcc := HC.out
      have wr1 : IntKind.i64.wrap ((I : Int) + 1) = (J1 : Int) := by rw [IntWalk.i64_in _ (by omega), hJ1]; push_cast; rfl
      have wr2 : IntKind.i64.wrap ((I : Int) + 2) = (J2 : Int) := by rw [IntWalk.i64_in _ (by omega), hJ2]; push_cast; rfl
      have wr3 : IntKind.i64.wrap ((I : Int) + 3) = (J3 : Int) := by rw [IntWalk.i64_in _ (by omega), hJ3]; push_cast; rfl
      have b2 : J2 < T := by omega
      have b1 : J1 < T := by omega
      have b0 : I < T := by omega
      have b2i : (J2 : Int) < (T : Int) := by omega
      have b1i : (J1 : Int) < (T : Int) := by omega
      have b0i : (I : Int) < (T : Int) := by omega
      have hln : (intL ys).length = T := HLI.out
      obtain ⟨g4, cap4, he4, hgb4, hgl4, _, _, hc4⟩ := ownz_form hx (by rw [hln]; omega)
      injection he4 with hP4 hT4 hd4
      clear hT4 hd4
      subst hP4
      have m0 : wr.cell? ⟨g4, I, none⟩ = some (.int .i64 ((ys.getD I 0 : Nat) : Int)) := by rw [← HIA.out I]; exact hc4 I (by rw [hln]; omega)
      have m1 : wr.cell? ⟨g4, J1, none⟩ = some (.int .i64 ((ys.getD J1 0 : Nat) : Int)) := by rw [← HIA.out J1]; exact hc4 J1 (by rw [hln]; omega)
      have m2 : wr.cell? ⟨g4, J2, none⟩ = some (.int .i64 ((ys.getD J2 0 : Nat) : Int)) := by rw [← HIA.out J2]; exact hc4 J2 (by rw [hln]; omega)
      have HSN := Lib.hid (show rows3 (ys.take J3) = rows3 (ys.take I) ++ [(((ys.getD I 0 : Nat) : Int), ((ys.getD J1 0 : Nat) : Int), zagV (ys.getD J2 0))] by
        have := rows3_snoc j ys (by rw [HLY.out]; omega)
        rw [hJ3, hJ1, hJ2, hI3]
        rw [show 3 * j + 3 = 3 * (j + 1) from by omega]
        exact this)
      have hc63 := HBN.out J2
      have HJ3 := Lib.hid hJ3
      have HGL := Lib.hid (show g4 < w4.heap.size by have := (World.ownsRow.lt HO4.out g4 rfl).2; exact this)
      have HGB := Lib.hid (show w2.heap.size < g4 by have := HS3.out; omega)
      clear hc4 hgb4 hln hTT hI3 hcc hJ1 hJ2 hJ3 hx hv hb hs hlv
      generalize ys.getD I 0 = a at *
      generalize ys.getD J1 0 = b at *
      generalize ys.getD J2 0 = cv at *
      obtain ⟨y0, y1, y2, y3, y4, y5⟩ := rec_cells hbx rfl
      obtain ⟨q, hq⟩ : ∃ q, q = cv / 2 := ⟨_, rfl⟩
      obtain ⟨N, hN⟩ : ∃ N, zagV cv = N := ⟨_, rfl⟩
      have HN := Lib.hid hN
      have e0 : wrap64 ((cv : Int) / 2) = (q : Int) := half_int hq hc63
      by_cases hpar : cv % 2 = 1
      · have par1 : (cv : Int) % 2 = 1 := odd_int hpar
        have e1 : wrap64 (-(q : Int)) = -(q : Int) := neg_half hq hc63
        have e2 : wrap64 (-(q : Int) - 1) = N := (odd_zag hq hc63 hpar).trans hN
        have HLTJ := Lib.hid (show j + 1 ≤ cnt from hlt)
        clear hN hq hpar hc63 hbx hz hj hlt hlt2
        go_upto_region 21 with fail
        try rw [e2]
        have hfin : ∀ (W : World), Below wr.heap.size wr W → ∀ (v6 : Value) (w6 : World), OwnW w6 w4.heap.size v6 (rows3 (ys.take I) ++ [((a : Int), (b : Int), N)]) → Below w4.heap.size W w6 →
            (Row (w6.setCell ⟨w2.heap.size, 2, none⟩ v6) w2.heap.size 26 #[.int .i64 (n : Int), .slice none 0 0, v6, .slice none 0 0, .int .i64 0, .int .i64 0] ∧ Row (w6.setCell ⟨w2.heap.size, 2, none⟩ v6) w.heap.size 26 #[.int .i64 0, .slice none 0 0, .slice none 0 0, .slice none 0 0, .int .i64 0, .int .i64 0] ∧ OwnZ (w6.setCell ⟨w2.heap.size, 2, none⟩ v6) w3.heap.size (.slice (some ⟨g4, 0, none⟩) T d4) (intL ys) ∧ OwnW (w6.setCell ⟨w2.heap.size, 2, none⟩ v6) w4.heap.size v6 (rows3 (ys.take I) ++ [((a : Int), (b : Int), N)]) ∧ Below w.heap.size w (w6.setCell ⟨w2.heap.size, 2, none⟩ v6) ∧ w4.heap.size ≤ (w6.setCell ⟨w2.heap.size, 2, none⟩ v6).heap.size) ∧ w6.cell? ⟨w2.heap.size, 2, none⟩ = some (.slice PV lv dv) ∧ w6.frozen? ⟨w2.heap.size, 2, none⟩ = false := by
          intro W hW v6 w6 ho6 hb6
          have hall : Below w4.heap.size wr w6 := (hW.mono HSR.out).trans hb6
          have hbx6 := HBXR.out.below hall HLT2.out
          have hz6 := HZR.out.below hall (Nat.lt_of_lt_of_le HZ4.out.lt (Nat.le_refl _))
          refine ⟨⟨put2x_row hbx6 v6, row_atz hz6 (Below.heap_setCell _ _ _ _ (by have := HZ2.out.lt; show w.heap.size ≠ w2.heap.size; omega)), ?_, ?_, ?_, ?_⟩, hbx6.cell 2, hbx6.frozen 2⟩
          · refine rows_atz HXR.out fun k hk => ?_
            have e : k = g4 := by injection hk with hk; exact hk.symm
            subst e
            rw [Below.heap_setCell _ _ _ _ (by have := HGB.out; show k ≠ w2.heap.size; omega)]
            exact hall.block k HGL.out
          · exact rows_atz ho6 fun k hk => Below.heap_setCell _ _ _ _ (by have := (World.ownsRow.lt ho6 k hk).1; have := HLT2.out; show k ≠ w2.heap.size; omega)
          · exact (HBR.out.trans (hall.mono (Nat.le_trans HB4.out.size (Nat.le_refl _)))).setCell (p := ⟨w2.heap.size, 2, none⟩) HB2.out.size v6
          · have := hall.size; have := HSR.out; simp [World.setCell]; omega
        have HFIN := Lib.hid hfin
        clear hfin
        have HVW := Lib.hid (fun W (hW : Below wr.heap.size wr W) => ownw_below HVR.out hW)
        have HLEN := Lib.hid (show ((rows3 (ys.take I)).length + [((a : Int), (b : Int), N)].length) * 24 ≤ 140737488355328 from len_24 (Nat.le_trans (rows3_le _) (by rw [List.length_take]; have := HLY.out; have := HC.out; omega)))
        have y2a : (wr.alloc (.cells #[.int .i64 (a : Int), .int .i64 (b : Int), .int .i64 N] 62)).cell? ⟨w2.heap.size, 2, none⟩ = some (.slice PV lv dv) := (HBXR.out.alloc _).cell 2
        go_region_law
          (first
            | (refine step_wrows rfl (.tmp 106) (.tmp 119) rfl w4.heap.size (.slice PV lv dv) (rows3 (ys.take I)) rfl (HVW.out _ (by repeat (first | exact Below.refl _ _ | refine Below.drew ?_ | refine Below.alloc ?_ (by simp) _))) _ [((a : Int), (b : Int), N)] 1 1 rfl rfl (wrows_cell (Row.new _ _ _)) HLEN.out (Nat.le_trans HSR.out (by simp)) ?_
               intro v6 w6 ho6 hb6 _
               obtain ⟨P6, c6, hv6, _, _, _⟩ := ownw_slice ho6
               generalize (rows3 (ys.take I) ++ [((a : Int), (b : Int), N)]).length = l6 at hv6
               subst hv6
               obtain ⟨hh, s2, f2⟩ := HFIN.out _ (by repeat (first | exact Below.refl _ _ | refine Below.drew ?_ | refine Below.alloc ?_ (by simp) _)) _ w6 ho6 hb6
               have HH := Lib.hid hh
               clear ho6 hb6 hh))
        all_goals
          go_wp2_with fail
          go_roundw
          case rel =>
            obtain ⟨t1, t2, t3, t4, t5, t6⟩ := HH.out
            refine ⟨J3, j + 1, _, Lib.hid (by have := HJ3.out; have := HI.out; omega), HLTJ.out, by go_num, t1, t2, t3, ?_, t5, t6⟩
            rw [HSN.out, HN.out]
            exact t4
          case measure => have := HJ3.out; have := HT.out; have := HI.out; have := HLTJ.out; simp [intOf]; omega
      · have par1 : (cv : Int) % 2 = 0 := even_int hpar
        have e2 : (q : Int) = N := (even_zag hq hpar).trans hN
        have HLTJ := Lib.hid (show j + 1 ≤ cnt from hlt)
        clear hN hpar hc63 hbx hz hj hlt hlt2 hq
        go_upto_region 21 with fail
        try rw [e2]
        have hfin : ∀ (W : World), Below wr.heap.size wr W → ∀ (v6 : Value) (w6 : World), OwnW w6 w4.heap.size v6 (rows3 (ys.take I) ++ [((a : Int), (b : Int), N)]) → Below w4.heap.size W w6 →
            (Row (w6.setCell ⟨w2.heap.size, 2, none⟩ v6) w2.heap.size 26 #[.int .i64 (n : Int), .slice none 0 0, v6, .slice none 0 0, .int .i64 0, .int .i64 0] ∧ Row (w6.setCell ⟨w2.heap.size, 2, none⟩ v6) w.heap.size 26 #[.int .i64 0, .slice none 0 0, .slice none 0 0, .slice none 0 0, .int .i64 0, .int .i64 0] ∧ OwnZ (w6.setCell ⟨w2.heap.size, 2, none⟩ v6) w3.heap.size (.slice (some ⟨g4, 0, none⟩) T d4) (intL ys) ∧ OwnW (w6.setCell ⟨w2.heap.size, 2, none⟩ v6) w4.heap.size v6 (rows3 (ys.take I) ++ [((a : Int), (b : Int), N)]) ∧ Below w.heap.size w (w6.setCell ⟨w2.heap.size, 2, none⟩ v6) ∧ w4.heap.size ≤ (w6.setCell ⟨w2.heap.size, 2, none⟩ v6).heap.size) ∧ w6.cell? ⟨w2.heap.size, 2, none⟩ = some (.slice PV lv dv) ∧ w6.frozen? ⟨w2.heap.size, 2, none⟩ = false := by
          intro W hW v6 w6 ho6 hb6
          have hall : Below w4.heap.size wr w6 := (hW.mono HSR.out).trans hb6
          have hbx6 := HBXR.out.below hall HLT2.out
          have hz6 := HZR.out.below hall (Nat.lt_of_lt_of_le HZ4.out.lt (Nat.le_refl _))
          refine ⟨⟨put2x_row hbx6 v6, row_atz hz6 (Below.heap_setCell _ _ _ _ (by have := HZ2.out.lt; show w.heap.size ≠ w2.heap.size; omega)), ?_, ?_, ?_, ?_⟩, hbx6.cell 2, hbx6.frozen 2⟩
          · refine rows_atz HXR.out fun k hk => ?_
            have e : k = g4 := by injection hk with hk; exact hk.symm
            subst e
            rw [Below.heap_setCell _ _ _ _ (by have := HGB.out; show k ≠ w2.heap.size; omega)]
            exact hall.block k HGL.out
          · exact rows_atz ho6 fun k hk => Below.heap_setCell _ _ _ _ (by have := (World.ownsRow.lt ho6 k hk).1; have := HLT2.out; show k ≠ w2.heap.size; omega)
          · exact (HBR.out.trans (hall.mono (Nat.le_trans HB4.out.size (Nat.le_refl _)))).setCell (p := ⟨w2.heap.size, 2, none⟩) HB2.out.size v6
          · have := hall.size; have := HSR.out; simp [World.setCell]; omega
        have HFIN := Lib.hid hfin
        clear hfin
        have HVW := Lib.hid (fun W (hW : Below wr.heap.size wr W) => ownw_below HVR.out hW)
        have HLEN := Lib.hid (show ((rows3 (ys.take I)).length + [((a : Int), (b : Int), N)].length) * 24 ≤ 140737488355328 from len_24 (Nat.le_trans (rows3_le _) (by rw [List.length_take]; have := HLY.out; have := HC.out; omega)))
        have y2a : (wr.alloc (.cells #[.int .i64 (a : Int), .int .i64 (b : Int), .int .i64 N] 62)).cell? ⟨w2.heap.size, 2, none⟩ = some (.slice PV lv dv) := (HBXR.out.alloc _).cell 2
        go_region_law
          (first
            | (refine step_wrows rfl (.tmp 106) (.tmp 119) rfl w4.heap.size (.slice PV lv dv) (rows3 (ys.take I)) rfl (HVW.out _ (by repeat (first | exact Below.refl _ _ | refine Below.drew ?_ | refine Below.alloc ?_ (by simp) _))) _ [((a : Int), (b : Int), N)] 1 1 rfl rfl (wrows_cell (Row.new _ _ _)) HLEN.out (Nat.le_trans HSR.out (by simp)) ?_
               intro v6 w6 ho6 hb6 _
               obtain ⟨P6, c6, hv6, _, _, _⟩ := ownw_slice ho6
               generalize (rows3 (ys.take I) ++ [((a : Int), (b : Int), N)]).length = l6 at hv6
               subst hv6
               obtain ⟨hh, s2, f2⟩ := HFIN.out _ (by repeat (first | exact Below.refl _ _ | refine Below.drew ?_ | refine Below.alloc ?_ (by simp) _)) _ w6 ho6 hb6
               have HH := Lib.hid hh
               clear ho6 hb6 hh))
        all_goals
          go_wp2_with fail
          go_roundw
          case rel =>
            obtain ⟨t1, t2, t3, t4, t5, t6⟩ := HH.out
            refine ⟨J3, j + 1, _, Lib.hid (by have := HJ3.out; have := HI.out; omega), HLTJ.out, by go_num, t1, t2, t3, ?_, t5, t6⟩
            rw [HSN.out, HN.out]
            exact t4
          case measure => have := HJ3.out; have := HT.out; have := HI.out; have := HLTJ.out; simp [intOf]; omega
    · obtain rfl : j = cnt := by omega
      have hTI : ¬ I + 2 < T := by have := HI.out; have := HT.out; omega
      obtain ⟨J2, hJ2⟩ : ∃ J2, J2 = I + 2 := ⟨_, rfl⟩
      have wr2 : IntKind.i64.wrap ((I : Int) + 2) = (J2 : Int) := by rw [IntWalk.i64_in _ (by have := HI.out; have := HC.out; omega), hJ2]; push_cast; rfl
      have b2 : ¬ J2 < T := by omega
      have b2i : ¬ (J2 : Int) < (T : Int) := by omega
      have HTK := Lib.hid (show ys.take I = ys from List.take_of_length_le (by rw [HLY.out, HI.out]; exact Nat.le_refl _))
      rw [HTK.out] at HVR
      obtain ⟨y0, y1, y2, y3, y4, y5⟩ := rec_cells hbx rfl
      obtain ⟨z0, z1, z2, z3, z4, z5⟩ := rec_cells HZR.out rfl
      have f0 := HZR.out.frozen 0
      have f1 := HZR.out.frozen 1
      have f2 := HZR.out.frozen 2
      have f3 := HZR.out.frozen 3
      have f4 := HZR.out.frozen 4
      have f5 := HZR.out.frozen 5
      have HRL := Lib.hid hlv
      rw [HTK.out] at HRL
      clear hbx hz hj hlt hlt2 hJ2 hTI hlv hx hv hb hs
      go_wp2_with fail
      try simp only [Exit.inBlock, Exit.then]
      refine bodyPost_ret (ret_rec2 rfl _ _ _ _ rfl (put6_row HZR.out _ _ _ _ _ _) rfl) rfl ?_
      have hn : n = 2 := HNN.out
      subst hn
      have hfit : RecFit ⟨2, [], rows3 ys, [], 0, 0⟩ := ⟨fun i hi => by simp at hi, by simp, by have := rows3_le ys; have := HLY.out; have := HC.out; show (rows3 ys).length * 24 ≤ _; omega, by simp⟩
      refine ⟨⟨2, [], rows3 ys, [], 0, 0⟩, ⟨none, 0, PV, dv, none, 0⟩, ob, by rw [← HRL.out]; rfl, ?_, hfit, put6_below HBR.out (Nat.le_refl _) _ _ _ _ _ _, fun hh => ⟨by rw [← HOB.out]; exact decide_eq_true hh.1, ?_⟩, fun hh => by rw [← HOB.out]; exact decide_eq_false fun e => hh ⟨e, .inr (.inl rfl)⟩⟩
      · have hv2 := HVR.out
        rw [← HRL.out] at hv2
        exact OwnRec.far ⟨ownl_nil _ _, ownw_lower hv2 HB4.out.size, ownz_nil _ _⟩ HZR.out (by simp [World.setCell]) (put6_far _ _ _ _ _ _)
      · rcases HRW.out with h1 | h1
        · rw [h1]
        · exact absurd hh.1 h1
end Go.Proofs.Ytmgolnlkepiocaa
