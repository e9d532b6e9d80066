/- A number in so many bits behind bits: the document's own answer. -/
import Derived.Test.YtheaebkegncdlaaRefPutG
import Derived.Test.YtheaebkegncdlaaRefBit
import Derived.Deep.RegionHeld3
namespace Go.Proofs.Ytheaebkegncdlaa
open Go.RowKit
set_option linter.unusedVariables false

theorem put_bad_ref (A : Option Addr) (l : List UInt8) (c : Nat) (N n : Int) (u : Nat) (w : World) (hA : Bys w A l) (h1 : N ≤ 9223372036854775807) (hl : l.length ≤ 562949953421312)
    (h : rightB l N = false ∨ n < 0 ∨ 64 < n) :
    Calls Try.prog 46 #[.agg #[.slice A l.length c, .int .i64 N], .int .u64 u, .int .i64 n] w fun e w' =>
      e = .returned (.tuple #[.agg #[.slice none 0 0, .int .i64 0], .int .i64 2]) ∧ Below w.heap.size w w' := by
  have hcase : rightB l N = false ∨ (rightB l N = true ∧ decide (n < 0) = true) ∨ (rightB l N = true ∧ decide (n < 0) = false ∧ decide (64 < n) = true) := by
    simp only [decide_eq_true_eq, decide_eq_false_iff_not]
    rcases h with h | h | h
    · exact .inl h
    all_goals
      cases rightB l N
      · exact .inl rfl
      · simp only [Bool.true_eq_false, false_or, true_and]
        omega
  clear h
  rcases hcase with h | ⟨h, h2⟩ | ⟨h, h2, h3⟩
  all_goals
    go_enter Try.func46, Try.ntmps46
    go_wp2_with (go_at_call 57; refine (right_ref A l c N _ (hA.below (below_two _ _ _)) h1 hl).mono ?_; rintro e w1 ⟨rfl, hb1⟩; obtain ⟨hs, hf⟩ := stands hb1)
    have hR : Row w1 (w.heap.size + 1) 58 _ := (row_two _ _ _ _).below hb1 (by simp)
    have r0 := (hR.setAt 0 (.slice none 0 0)).setAt 1 (.int .i64 0)
    have c0 : ((w1.setCell ⟨w.heap.size + 1, 0, none⟩ (.slice none 0 0)).setCell ⟨w.heap.size + 1, 1, none⟩ (.int .i64 0)).cell? ⟨w.heap.size + 1, 0, none⟩ = some (.slice none 0 0) := r0.cell 0
    have c1 : ((w1.setCell ⟨w.heap.size + 1, 0, none⟩ (.slice none 0 0)).setCell ⟨w.heap.size + 1, 1, none⟩ (.int .i64 0)).cell? ⟨w.heap.size + 1, 1, none⟩ = some (.int .i64 0) := r0.cell 1
    exact bodyPost_ret (v := .tuple #[.agg #[.slice none 0 0, .int .i64 0], .int .i64 2]) (by simp [results, Try.results46, go_sem, c0, c1]) rfl
      ⟨rfl, ((below_then (below_two w _ _) hb1).setCell (p := ⟨w.heap.size + 1, 0, none⟩) (by show _ ≤ w.heap.size + 1; omega) _).setCell (p := ⟨w.heap.size + 1, 1, none⟩) (by show _ ≤ w.heap.size + 1; omega) _⟩

theorem put_big_ref (A : Option Addr) (l : List UInt8) (c : Nat) (N n u : Nat) (w : World) (hA : Bys w A l) (h1 : N ≤ 9223372036854775807) (hl : l.length ≤ 562949953421312) (hu : u ≤ 18446744073709551615)
    (h : rightB l (N : Int) = true) (hn : n ≤ 64) (hbig : ¬ u < 2 ^ n) :
    Calls Try.prog 46 #[.agg #[.slice A l.length c, .int .i64 N], .int .u64 u, .int .i64 n] w fun e w' =>
      e = .returned (.tuple #[.agg #[.slice none 0 0, .int .i64 0], .int .i64 3]) ∧ Below w.heap.size w w' := by
  have d1 : decide ((n : Int) < 0) = false := by simp
  have d2 : decide (64 < (n : Int)) = false := by simp; omega
  have d3 : n < digs u := by
    rcases Nat.lt_or_ge n (digs u) with h | h
    · exact h
    · exact absurd (digs_le.1 h) hbig
  have d4 : decide (n < digs u) = true := by simpa using d3
  have HD := Lib.hid (fun W => digits_ref u W hu)
  clear hbig
  generalize digs u = d at *
  go_enter Try.func46, Try.ntmps46
  go_wp2_with (first
    | (go_at_call 57; refine (right_ref A l c N _ (hA.below (below_two _ _ _)) (by omega) hl).mono ?_; rintro e w1 ⟨rfl, hb1⟩; obtain ⟨hs, hf⟩ := stands hb1)
    | (go_at_call 45; refine (HD.out _).mono ?_; rintro e w9 ⟨rfl, rfl⟩))
  have hR : Row w1 (w.heap.size + 1) 58 _ := (row_two _ _ _ _).below hb1 (by simp)
  have r0 := (hR.setAt 0 (.slice none 0 0)).setAt 1 (.int .i64 0)
  have c0 : ((w1.setCell ⟨w.heap.size + 1, 0, none⟩ (.slice none 0 0)).setCell ⟨w.heap.size + 1, 1, none⟩ (.int .i64 0)).cell? ⟨w.heap.size + 1, 0, none⟩ = some (.slice none 0 0) := r0.cell 0
  have c1 : ((w1.setCell ⟨w.heap.size + 1, 0, none⟩ (.slice none 0 0)).setCell ⟨w.heap.size + 1, 1, none⟩ (.int .i64 0)).cell? ⟨w.heap.size + 1, 1, none⟩ = some (.int .i64 0) := r0.cell 1
  exact bodyPost_ret (v := .tuple #[.agg #[.slice none 0 0, .int .i64 0], .int .i64 3]) (by simp [results, Try.results46, go_sem, c0, c1]) rfl
    ⟨rfl, ((below_then (below_two w _ _) hb1).setCell (p := ⟨w.heap.size + 1, 0, none⟩) (by show _ ≤ w.heap.size + 1; omega) _).setCell (p := ⟨w.heap.size + 1, 1, none⟩) (by show _ ≤ w.heap.size + 1; omega) _⟩

theorem copy_same {l : List UInt8} {N : Nat} {F : Nat → Nat} (hr : rightB l (N : Int) = true) (hF2 : ∀ i, F i < 2) (hF : ∀ i, i < N → F i = bitN l i) : l = mk ((N + 7) / 8) (cutF F N) := by
  have hlen := (rightB_iff.1 hr).2.1
  rw [Int.toNat_natCast] at hlen
  have := copy_start (m := l.length) hr hF2 hF (Nat.le_refl _)
  rw [Nat.sub_self, List.replicate_zero, List.append_nil] at this
  rw [← hlen]
  exact this

set_option maxHeartbeats 1000000 in
theorem put_ok_ref (A : Option Addr) (l : List UInt8) (c : Nat) (N n u : Nat) (w : World) (hA : Bys w A l) (hl : l.length ≤ 140737488355000) (hu : u ≤ 18446744073709551615)
    (hr : rightB l (N : Int) = true) (hn : n ≤ 64) (hsm : u < 2 ^ n) :
    Calls Try.prog 46 #[.agg #[.slice A l.length c, .int .i64 N], .int .u64 u, .int .i64 n] w fun e w' => ∃ v,
      e = .returned (.tuple #[.agg #[v, .int .i64 (N + n : Nat)], .int .i64 0]) ∧ Own w' (w.heap.size + 2) v (putL l N u n) ∧ Below w.heap.size w w' := by
  have hlen := (rightB_iff.1 hr).2.1
  rw [Int.toNat_natCast] at hlen
  have hN : N ≤ 1125899906842500 := by omega
  clear hlen
  obtain ⟨i0, hi, hz0, hz1, hz2⟩ := info_parts u8_info
  have d1 : decide ((n : Int) < 0) = false := by simp
  have d2 : decide (64 < (n : Int)) = false := by simp; omega
  have d3 : digs u ≤ n := digs_le.2 hsm
  have d4 : decide (n < digs u) = false := by simp; omega
  have HD := Lib.hid (fun W => digits_ref u W hu)
  clear hsm
  generalize digs u = d at *
  go_enter Try.func46, Try.ntmps46
  have HPF := Lib.hid (putF_lt l N u n)
  have HALL := Lib.hid (show mk ((N + n + 7) / 8) (cutF (putF l N u n) (N + n)) = putL l N u n from cut_all l N u n _)
  have HCS := Lib.hid (copy_same hr (putF_lt l N u n) (fun i hi => by unfold putF; rw [if_pos hi]))
  have HDD := Lib.hid (show ∀ k, k < n → putF l N u n (N + k) = dig u (n - 1 - k) from fun k hk => by unfold putF; rw [if_neg (by omega), if_pos (by omega)]; congr 1; omega)
  go_wp2_with (first
    | (go_at_call 57; refine (right_ref A l c N _ (hA.below (below_two _ _ _)) (by omega) (by omega)).mono ?_; rintro e w1 ⟨rfl, hb1⟩; obtain ⟨hs, hf⟩ := stands hb1; have hz1' : w.heap.size + 1 < w1.heap.size := (by have := hb1.size; simp at this; omega); have hz0' : w.heap.size < w1.heap.size := (by omega))
    | (go_at_call 45; refine (HD.out _).mono ?_; rintro e w9 ⟨rfl, rfl⟩)
    | (at_builtin; refine wpList_app _ rfl (.tmp 27) (.tmp 29) 24 rfl (w.heap.size + 2) i0 Try.underlying24 hi hz0 hz1 hz2 (.slice (some ⟨w1.heap.size, 0, none⟩) 0 0) [] rfl (own_empty (Row.new w1 _ _) (by omega)) A l c rfl ((hA.below (below_then (below_two w _ _) hb1)).alloc _) (by show 0 + l.length ≤ _; omega) (by simp; omega) ?_; intro v2 w2 hown2 hg2 hat2))
  have hW1 : Below w.heap.size w (w1.alloc (.cells #[] 5)) := (below_then (below_two w _ _) hb1).alloc (by omega) _
  have hW2 : Below w.heap.size w w2 := hW1.grown hg2 hW1.size (fun k hk => by simp [Value.ownBlock] at hk; omega)
  have RB : Row w2 w.heap.size 58 #[.slice A l.length c, .int .i64 N] := grown_row ((((Row.new w 58 _).alloc _).below hb1 (by simp; omega)).alloc _) hg2 (by simp [Value.ownBlock]; omega)
  have RR : Row w2 (w.heap.size + 1) 58 #[.slice none 0 0, .int .i64 0] := grown_row (((row_two w _ _ _).below hb1 (by simp)).alloc _) hg2 (by simp [Value.ownBlock]; omega)
  have hs2 : w.heap.size + 2 ≤ w2.heap.size := by have := hg2.size; simp at this; omega
  rw [List.nil_append] at hown2
  have hown2' : Own w2 (w.heap.size + 2) v2 (mk ((N + 7) / 8) (cutF (putF l N u n) N)) := by rw [← HCS.out]; exact hown2
  have HRB := Lib.hid RB
  have HRR := Lib.hid RR
  have HO2 := Lib.hid hown2'
  have HW2 := Lib.hid hW2
  clear hown2 hown2' hg2 hat2 hs hf RB RR hW1 hW2
  generalize putF l N u n = F at *
  go_wp2_with fail
  go_loopw [8, 9] (fun b i wr => ∃ k : Nat, k ≤ n ∧ i = .int .i64 k ∧ Own wr (w.heap.size + 2) b (mk ((N + k + 7) / 8) (cutF F (N + k))) ∧ Below (w.heap.size + 2) w2 wr) (fun _ i _ => n - (intOf i).toNat)
  case atStart => exact ⟨0, Nat.zero_le _, rfl, HO2.out, Below.refl _ _⟩
  case round =>
    obtain ⟨k, hk, rfl, hob, hbr⟩ := hrel
    have HOB := Lib.hid hob
    clear hob
    have x1 : wr.cell? ⟨w.heap.size, 1, none⟩ = some (.int .i64 N) := (HRB.out.below hbr (by omega)).cell 1
    have hsr := hbr.size
    by_cases hlt : k < n
    · have hw1 : IntKind.i64.wrap ((n : Int) - 1) = (n : Int) - 1 := IntWalk.i64_in _ (by omega)
      have hw2 : IntKind.i64.wrap ((n : Int) - 1 - k) = (n : Int) - 1 - k := IntWalk.i64_in _ (by omega)
      have hw3 : IntKind.i64.wrap ((N : Int) + k) = (N : Int) + k := IntWalk.i64_in _ (by omega)
      have HG := Lib.hid (show ∀ W, Calls Try.prog 59 #[.int .u64 u, .int .i64 ((n : Int) - 1 - k)] W fun e w' => e = .returned (.int .u64 (dig u (n - 1 - k))) ∧ W = w' from fun W => by
        have := digit_ref u (n - 1 - k) W hu (by omega)
        rw [show ((n - 1 - k : Nat) : Int) = (n : Int) - 1 - k from by omega] at this
        exact this)
      have HP := Lib.hid (show ∀ W b, w.heap.size + 2 ≤ W.heap.size → Own W (w.heap.size + 2) b (mk ((N + k + 7) / 8) (cutF F (N + k))) → Calls Try.prog 58 #[b, .int .i64 ((N : Int) + k), .int .u64 (dig u (n - 1 - k))] W fun e w' => ∃ v', e = .returned v' ∧ Own w' (w.heap.size + 2) v' (mk ((N + (k + 1) + 7) / 8) (cutF F (N + (k + 1)))) ∧ Below (w.heap.size + 2) W w' from fun W b hB hO => by
        have := refput F HPF.out b (N + k) (w.heap.size + 2) W (by omega) hB hO
        rw [HDD.out k hlt, Int.natCast_add] at this
        exact this)
      have HOd : Own wr.drew (w.heap.size + 2) u8 (mk ((N + k + 7) / 8) (cutF F (N + k))) := HOB.out
      have HOD := Lib.hid HOd
      clear HOd
      generalize dig u (n - 1 - k) = dd at *
      go_wp2_with fail
      go_region_held3 (fun w' => w'.cell? ⟨w.heap.size, 1, none⟩ = some (.int .i64 N))
        (first | exact y1 | exact x1 | go_keep)
        (first
          | (go_at_call 59; refine (HG.out _).mono ?_; rintro e w9 ⟨rfl, rfl⟩)
          | (go_at_call 58
             refine (HP.out _ _ (by first | exact Nat.le_trans (by omega) hsr) (by exact HOD.out)).mono ?_
             rintro e w5 ⟨v5, rfl, hown5, hb5⟩
             have y1 : w5.cell? ⟨w.heap.size, 1, none⟩ = some (.int .i64 N) := (hb5.cell (p := ⟨w.heap.size, 1, none⟩) (by show w.heap.size < w.heap.size + 2; omega)).trans x1))
      all_goals
        go_wp2
        go_roundw
        case rel => exact ⟨k + 1, by omega, by go_num, hown5, hbr.drew.trans hb5⟩
        case measure => simp [intOf]; omega
    · obtain rfl : k = n := by omega
      have RR := HRR.out.below hbr (by omega)
      have r0 : wr.cell? ⟨w.heap.size + 1, 0, none⟩ = some (.slice none 0 0) := RR.cell 0
      have r1 : wr.cell? ⟨w.heap.size + 1, 1, none⟩ = some (.int .i64 0) := RR.cell 1
      have f0 := RR.frozen 0
      have f1 := RR.frozen 1
      have HR := Lib.hid RR
      clear RR
      obtain ⟨B, dd, rfl, _⟩ := own_slice HOB.out
      generalize hlen : (mk ((N + k + 7) / 8) (cutF F (N + k))).length = ln at *
      have Hlen := Lib.hid hlen
      clear hlen
      go_wp2
      have F1 := (HR.out.setAt 0 (.slice B ln dd)).setAt 1 (.int .i64 ((N : Int) + k))
      have O1 := ownsRow_setCell_below (ownsRow_setCell_below HOB.out (a := ⟨w.heap.size + 1, 0, none⟩) (by show w.heap.size + 1 < _; omega) (.slice B ln dd)) (a := ⟨w.heap.size + 1, 1, none⟩) (by show w.heap.size + 1 < _; omega) (.int .i64 ((N : Int) + k))
      have f5 := ((HW2.out.trans (hbr.mono (by omega))).setCell (p := ⟨w.heap.size + 1, 0, none⟩) (by show _ ≤ w.heap.size + 1; omega) (.slice B ln dd)).setCell (p := ⟨w.heap.size + 1, 1, none⟩) (by show _ ≤ w.heap.size + 1; omega) (.int .i64 ((N : Int) + k))
      generalize hWW : ((wr.setCell ⟨w.heap.size + 1, 0, none⟩ (.slice B ln dd)).setCell ⟨w.heap.size + 1, 1, none⟩ (.int .i64 ((N : Int) + k))) = WW at *
      have q0 : WW.cell? ⟨w.heap.size + 1, 0, none⟩ = some (.slice B ln dd) := F1.cell 0
      have q1 : WW.cell? ⟨w.heap.size + 1, 1, none⟩ = some (.int .i64 ((N : Int) + k)) := F1.cell 1
      refine bodyPost_ret (v := .tuple #[.agg #[.slice B ln dd, .int .i64 ((N : Int) + k)], .int .i64 0]) (by simp [results, Try.results46, go_sem, q0, q1]) rfl ⟨.slice B ln dd, by rw [Int.natCast_add], ?_, f5⟩
      have O2 : Own WW (w.heap.size + 2) (.slice B ln dd) (mk ((N + k + 7) / 8) (cutF F (N + k))) := O1
      rw [HALL.out] at O2
      exact O2
end Go.Proofs.Ytheaebkegncdlaa
