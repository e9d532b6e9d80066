/- A number that says itself how long it is, laid down behind bits: the document's own answer. -/
import Derived.Test.YtheaebkegncdlaaRefPutsG
import Derived.Test.YtheaebkegncdlaaRefGetNum
import Derived.Test.YtheaebkegncdlaaBitRowsMathG
namespace Go.Proofs.Ytheaebkegncdlaa
open Go.RowKit
set_option linter.unusedVariables false

theorem putnum_bad_ref (A : Option Addr) (l : List UInt8) (c : Nat) (N : Int) (u : Nat) (w : World) (hA : Bys w A l) (h1 : N ≤ 9223372036854775807) (hl : l.length ≤ 562949953421312) (hu : u ≤ 18446744073709551615) (h : rightB l N = false) :
    Calls Try.prog 31 #[.agg #[.slice A l.length c, .int .i64 N], .int .u64 u] w fun e w' =>
      e = .returned (.tuple #[.agg #[.slice none 0 0, .int .i64 0], .int .i64 2]) ∧ Below w.heap.size w w' := by
  have hd := digs_64 hu
  have HD := Lib.hid (fun W => digits_ref u W hu)
  have HP := Lib.hid (fun W hV => put_bad_ref A l c N 7 (digs u) W hV h1 hl (.inl h))
  generalize digs u = d at *
  go_enter Try.func31, Try.ntmps31
  go_wp2_with (first
    | (go_at_call 45; refine (HD.out _).mono ?_; rintro e w9 ⟨rfl, rfl⟩)
    | (go_at_call 46; refine (HP.out _ (hA.below (below_two _ _ _))).mono ?_; rintro e w1 ⟨rfl, hb1⟩
       have hR : Row w1 (w.heap.size + 1) 58 #[.slice none 0 0, .int .i64 0] := (row_two _ _ _ _).below hb1 (by simp)
       have z0 : ∀ o, (w1.alloc o).cell? ⟨w.heap.size + 1, 0, none⟩ = some (.slice none 0 0) := fun o => (hR.alloc o).cell 0
       have z1 : ∀ o, (w1.alloc o).cell? ⟨w.heap.size + 1, 1, none⟩ = some (.int .i64 0) := fun o => (hR.alloc o).cell 1
       have f0 : ∀ o, (w1.alloc o).frozen? ⟨w.heap.size + 1, 0, none⟩ = false := fun o => (hR.alloc o).frozen 0
       have f1 : ∀ o, (w1.alloc o).frozen? ⟨w.heap.size + 1, 1, none⟩ = false := fun o => (hR.alloc o).frozen 1
       have HR := Lib.hid hR
       clear hR))
  have hW1 := below_then (below_two w _ _) hb1
  have r0 := ((HR.out.setAt 0 (.slice none 0 0)).setAt 1 (.int .i64 0))
  have q := fun o => (((HR.out.alloc o).setAt 0 (.slice none 0 0)).setAt 1 (.int .i64 0))
  have c0 := fun o => (q o).cell 0
  have c1 := fun o => (q o).cell 1
  simp only [List.setIfInBounds_toArray, List.set_cons_zero, List.set_cons_succ, List.getElem?_toArray, List.getElem?_cons_zero, List.getElem?_cons_succ] at c0 c1
  have k0 := HR.out.lt
  have hz := hW1.size
  refine bodyPost_ret (v := .tuple #[.agg #[.slice none 0 0, .int .i64 0], .int .i64 2]) (by simp [results, Try.results31, go_sem, c0, c1]) rfl ⟨rfl, ?_⟩
  exact ((hW1.alloc hz _).setCell (p := ⟨w.heap.size + 1, 0, none⟩) (by show _ ≤ w.heap.size + 1; omega) _).setCell (p := ⟨w.heap.size + 1, 1, none⟩) (by show _ ≤ w.heap.size + 1; omega) _

set_option maxHeartbeats 1000000 in
theorem putnum_ok_ref (A : Option Addr) (l : List UInt8) (c : Nat) (N u : Nat) (w : World) (hA : Bys w A l) (hl : l.length ≤ 140737488354000) (hu : u ≤ 18446744073709551615)
    (hr : rightB l (N : Int) = true) :
    Calls Try.prog 31 #[.agg #[.slice A l.length c, .int .i64 N], .int .u64 u] w fun e w' => ∃ B d,
      e = .returned (.tuple #[.agg #[.slice B (numL l N u).length d, .int .i64 (N + (7 + digs u) : Nat)], .int .i64 0]) ∧ Bys w' B (numL l N u) ∧ Below w.heap.size w w' ∧ ∀ ad, B = some ad → w.heap.size + 1 < ad.block := by
  have hlen := (rightB_iff.1 hr).2.1
  rw [Int.toNat_natCast] at hlen
  have hd := digs_64 hu
  have HD := Lib.hid (fun W => digits_ref u W hu)
  have HP := Lib.hid (fun W hV => put_ok_ref A l c N 7 (digs u) W hV (by omega) (by omega) hr (by omega) (by omega))
  have hpl : (putL l N (digs u) 7).length ≤ 140737488355000 := by rw [putL, length_mk]; omega
  have HQ := Lib.hid (fun (B : Option Addr) (dd : Nat) W hV => put_ok_ref B (putL l N (digs u) 7) dd (N + 7) (digs u) u W hV hpl hu right_put (by omega) (digs_le.1 (Nat.le_refl _)))
  clear hpl hlen
  have HN := Lib.hid (show putL (putL l N (digs u) 7) (N + 7) u (digs u) = numL l N u from rfl)
  generalize putL l N (digs u) 7 = Y at *
  rw [HN.out] at HQ
  clear HN
  generalize numL l N u = Z at *
  generalize digs u = d at *
  go_enter Try.func31, Try.ntmps31
  go_wp2_with (first
    | (go_at_call 45; refine (HD.out _).mono ?_; rintro e w9 ⟨rfl, rfl⟩))
  refine (HP.out _ (hA.below (below_two _ _ _))).mono ?_
  rintro e w1 ⟨v1, rfl, hO1, hb1⟩
  obtain ⟨B1, d1, rfl, hB1⟩ := own_slice hO1
  have hW1 := below_then (below_two w _ _) hb1
  have hR : Row w1 (w.heap.size + 1) 58 #[.slice none 0 0, .int .i64 0] := (row_two _ _ _ _).below hb1 (by simp)
  have HR := Lib.hid hR
  have k0 := hR.lt
  clear hR hO1
  have hB1a := hB1.alloc
  rw [Int.natCast_add]
  go_wp2_with fail
  refine (HQ.out B1 d1 _ (hB1a _)).mono ?_
  rintro e w2 ⟨v2, rfl, hO2, hb2⟩
  obtain ⟨B2, d2, rfl, hB2, hBb⟩ := own_slice' hO2
  have RR : Row w2 (w.heap.size + 1) 58 #[.slice none 0 0, .int .i64 0] := (HR.out.alloc _).below hb2 (by simp; omega)
  have hW2 := below_then (hW1.alloc hW1.size _) hb2
  have z0 : w2.cell? ⟨w.heap.size + 1, 0, none⟩ = some (.slice none 0 0) := RR.cell 0
  have z1 : w2.cell? ⟨w.heap.size + 1, 1, none⟩ = some (.int .i64 0) := RR.cell 1
  have f0 := RR.frozen 0
  have f1 := RR.frozen 1
  have HR2 := Lib.hid RR
  have HBb := Lib.hid hBb
  have hk2 := hb2.size
  simp at hk2
  clear RR hO2 hBb
  generalize hln : Z.length = ln at *
  have Hln := Lib.hid hln
  clear hln
  go_wp2
  have F1 := (HR2.out.setAt 0 (.slice B2 ln d2)).setAt 1 (.int .i64 ((N : Int) + 7 + d))
  have O1 := (hB2.setAway (p := ⟨w.heap.size + 1, 0, none⟩) (fun ad e => by have := HBb.out ad e; simp at this; show ad.block ≠ w.heap.size + 1; omega) (.slice B2 ln d2)).setAway (p := ⟨w.heap.size + 1, 1, none⟩) (fun ad e => by have := HBb.out ad e; simp at this; show ad.block ≠ w.heap.size + 1; omega) (.int .i64 ((N : Int) + 7 + d))
  have f5 := (hW2.setCell (p := ⟨w.heap.size + 1, 0, none⟩) (by show _ ≤ w.heap.size + 1; omega) (.slice B2 ln d2)).setCell (p := ⟨w.heap.size + 1, 1, none⟩) (by show _ ≤ w.heap.size + 1; omega) (.int .i64 ((N : Int) + 7 + d))
  generalize hWW : ((w2.setCell ⟨w.heap.size + 1, 0, none⟩ (.slice B2 ln d2)).setCell ⟨w.heap.size + 1, 1, none⟩ (.int .i64 ((N : Int) + 7 + d))) = WW at *
  have q0 : WW.cell? ⟨w.heap.size + 1, 0, none⟩ = some (.slice B2 ln d2) := F1.cell 0
  have q1 : WW.cell? ⟨w.heap.size + 1, 1, none⟩ = some (.int .i64 ((N : Int) + 7 + d)) := F1.cell 1
  refine bodyPost_ret (v := .tuple #[.agg #[.slice B2 ln d2, .int .i64 ((N : Int) + 7 + d)], .int .i64 0]) (by simp [results, Try.results31, go_sem, q0, q1]) rfl ⟨B2, d2, ?_, O1, f5, fun ad e => by have := HBb.out ad e; simp at this; omega⟩
  rw [Hln.out, show ((N + (7 + d) : Nat) : Int) = (N : Int) + 7 + d from by omega]
end Go.Proofs.Ytheaebkegncdlaa
