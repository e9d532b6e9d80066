/- A class of a pattern: the loop. -/
import Derived.Test.YtjljfilflajogaaReClass
import Derived.Deep.RegionLaw
namespace Go.Proofs.Ytjljfilflajogaa
open Go.RowKit Go.Maps
set_option linter.unusedVariables false

theorem ClsIn.told {W w2 : World} {X g : Nat} {y : List UInt8} {op dp n : Nat} {neg : Bool} {v : Value} {ss : List (UInt8 × UInt8)} {x' : List UInt8} (hg : Row w2 g 89 #[v, .bool neg, .bool false]) (hs : Spn w2 W.heap.size v ss) (hb : W.heap.size ≤ g) (hl : ss.length ≤ 1000) (hr : Rdr w2 X y op dp) (ht : Two W w2 X X) (hc : classM n x' = some (.atom ss neg false, y)) :
    ClsTold W w2 X op dp (.returned (.tuple #[.iface 86 (.pointer (some ⟨g, 0, none⟩)), .bool true])) (classM n x') := by
  rw [hc]
  obtain ⟨M, hN, hM⟩ := hs.atom hg hb hl
  exact ⟨ht, hr, _, M, rfl, hN, hM⟩
set_option maxHeartbeats 2000000 in
set_option maxRecDepth 100000 in
theorem class_prog {w : World} {X : Nat} {x : List UInt8} {op dp n : Nat} (h : Rdr w X x op dp) (hx : x.length ≤ 64) (hn : x.length ≤ n) :
    Calls Try.prog 86 #[.pointer (some ⟨X, 0, none⟩)] w fun e w' => ClsTold w w' X op dp e (classM n x) := by
  obtain ⟨i0, hi, hz0, hz1, hz2⟩ := info_parts span_info
  have hX := h.lt
  have HS := Lib.hid (skip_prog h ⟨#[94]⟩)
  have HD : ∀ z, aheadM (strL ⟨#[94]⟩) z = aheadM [94] z := fun _ => rfl
  have HD2 : ∀ z, aheadM (strL ⟨#[93]⟩) z = aheadM [93] z := fun _ => rfl
  rw [HD] at HS
  have HC := Lib.hid (show classM n x = (itemsM n (if aheadM [94] x then x.tail else x)).map (fun r => (.atom r.1 (aheadM [94] x) false, r.2)) by
    unfold classM
    cases itemsM n (if aheadM [94] x = true then x.tail else x) <;> rfl)
  have hl0 : (if aheadM [94] x then x.tail else x).length ≤ x.length := by
    split
    · rw [List.length_tail]; omega
    · exact Nat.le_refl _
  generalize aheadM [94] x = neg at HS HC hl0
  generalize (if neg = true then x.tail else x) = x0 at HS HC hl0
  clear h
  go_enter Try.func86, Try.ntmps86
  go_wp2_with (go_at_call 65; refine HS.out.mono ?_; rintro e w1 ⟨rfl, hr1, ht1⟩
               have hb1 := ht1.size
               have HR1 := Lib.hid (hr1.two (below_one w1 (.cells #[.slice none 0 0, .bool neg, .bool false] 89)))
               have HT1 := Lib.hid (ht1.trans (two_of_below (g := X) (h := X) (below_one w1 (.cells #[.slice none 0 0, .bool neg, .bool false] 89))))
               clear hr1 ht1)
  go_loopw [] (fun wr => ClsIn w X w1.heap.size x0 op dp n neg wr) (fun wr => restLen wr X)
  case atStart => exact ⟨_, [], x0, n, Row.new w1 _ _, Spn.nil _ _, HR1.out, HT1.out, by omega, by simp, by cases itemsM n x0 <;> rfl⟩
  case round =>
    obtain ⟨v, ss, x1, m, hg, hs, hr, ht, hm, hl, hq⟩ := hrel
    have hrl := hr.rest
    have hXr := hr.lt
    have hgl := hg.lt
    have hsl : ss.length ≤ 1000 := by omega
    cases hi1 : itemM x1 with
    | none =>
      have HN := Lib.hid (show classM n x = none by rw [HC.out, hq, items_stop hi1]; rfl)
      have HI := Lib.hid (show Calls Try.prog 89 #[.pointer (some ⟨X, 0, none⟩)] wr (fun e w' => ∃ s : UInt8 × UInt8, e = .returned (.tuple #[.agg #[.int .u8 (s.1.toNat : Int), .int .u8 (s.2.toNat : Int)], .bool false]) ∧ Two wr w' X X ∧ RdrAny w' X) from
        (item_prog hr).mono (by rintro e w' ⟨a, b, s, rfl, _⟩; exact ⟨s, by rw [hi1]; rfl, a, b⟩))
      have HT := Lib.hid ht
      clear hg hs hr ht hq hi1
      go_wp2_with (go_at_call 89; refine HI.out.mono ?_; rintro e w2 ⟨s, rfl, ht2, ha2⟩)
      go_ret2
      rw [HN.out]
      have hs2 := ht2.size
      exact ⟨HT.out.trans (ht2.trans (two_of_below (spanW_below w2 s))), (by obtain ⟨t, a, b, hh⟩ := ha2; exact ⟨t, a, b, hh.alloc _⟩), _, rfl⟩
    | some sy =>
      obtain ⟨s, y⟩ := sy
      obtain ⟨m', hm', hstep⟩ := items_step hi1 hm
      have hil := item_len hi1
      have HI := Lib.hid (show Calls Try.prog 89 #[.pointer (some ⟨X, 0, none⟩)] wr (fun e w' => e = .returned (.tuple #[.agg #[.int .u8 (s.1.toNat : Int), .int .u8 (s.2.toNat : Int)], .bool true]) ∧ Two wr w' X X ∧ Rdr w' X y op dp) from
        (item_prog hr).mono (by rintro e w' ⟨a, b, s', rfl, c⟩; obtain ⟨rfl, d⟩ := c s y hi1; exact ⟨by rw [hi1]; rfl, a, d⟩))
      obtain ⟨A, cc, rfl⟩ := hs.slice
      have HG := Lib.hid hg
      have HSp := Lib.hid hs
      have HT := Lib.hid ht
      have HQ := Lib.hid hq
      have HSt := Lib.hid hstep
      have hW := ht.size
      clear hg hs hr ht hq hi1 hstep
      cases ha : aheadM [93] y
      all_goals
        go_wp2_with (go_at_call 89; refine HI.out.mono ?_; rintro e w2 ⟨rfl, ht2, hr2⟩
                     have hs2 := ht2.size
                     have hz2 := spanW_below w2 s
                     have hgx : w1.heap.size ≠ X := by omega
                     have hR3 : Rdr (spanW w2 s) X y op dp := hr2.two hz2
                     have hG3 : Row (spanW w2 s) w1.heap.size 89 #[.slice A ss.length cc, .bool neg, .bool false] := row_two HG.out (ht2.trans (two_of_below hz2)) hgx
                     have hS3 : Spn (spanW w2 s) w.heap.size (.slice A ss.length cc) ss := HSp.out.two (ht2.trans (two_of_below hz2)) hX
                     have hQ3 := spanW_row w2 s
                     have hT3 : Two w (spanW w2 s) X X := HT.out.trans (ht2.trans (two_of_below hz2))
                     clear hr2 ht2 hz2)
        rw [show w2.alloc (.cells #[.int .u8 (s.1.toNat : Int), .int .u8 (s.2.toNat : Int)] 97) = spanW w2 s from rfl]
        generalize spanW w2 s = w3 at *
        have c0 : w3.cell? ⟨w1.heap.size, 0, none⟩ = some (.slice A ss.length cc) := hG3.cell 0
        have q0 : w3.cell? ⟨w2.heap.size, 0, none⟩ = some (.int .u8 (s.1.toNat : Int)) := hQ3.cell 0
        have q1 : w3.cell? ⟨w2.heap.size, 1, none⟩ = some (.int .u8 (s.2.toNat : Int)) := hQ3.cell 1
        have c0' : (w3.alloc (.cells #[.int .u8 (s.1.toNat : Int), .int .u8 (s.2.toNat : Int)] 97)).cell? ⟨w1.heap.size, 0, none⟩ = some (.slice A ss.length cc) := (hG3.alloc _).cell 0
        have q0' : (w3.alloc (.cells #[.int .u8 (s.1.toNat : Int), .int .u8 (s.2.toNat : Int)] 97)).cell? ⟨w2.heap.size, 0, none⟩ = some (.int .u8 (s.1.toNat : Int)) := (hQ3.alloc _).cell 0
        have q1' : (w3.alloc (.cells #[.int .u8 (s.1.toNat : Int), .int .u8 (s.2.toNat : Int)] 97)).cell? ⟨w2.heap.size, 1, none⟩ = some (.int .u8 (s.2.toNat : Int)) := (hQ3.alloc _).cell 1
        have HO := Lib.hid (show (w3.alloc (.cells #[.int .u8 (s.1.toNat : Int), .int .u8 (s.2.toNat : Int)] 97)).drew.ownsRow w.heap.size 97 2 (.slice A ss.length cc) ss.length (ss.flatMap spanCells) from rows_move hS3 fun k e => (below_one w3 (.cells #[.int .u8 (s.1.toNat : Int), .int .u8 (s.2.toNat : Int)] 97)).block k (World.ownsRow.lt hS3 k e).2)
        have HA := Lib.hid (show At (w3.alloc (.cells #[.int .u8 (s.1.toNat : Int), .int .u8 (s.2.toNat : Int)] 97)).drew (some ⟨w3.heap.size, 0, none⟩) (spanCells s) from At.row (show Row (w3.alloc (.cells #[.int .u8 (s.1.toNat : Int), .int .u8 (s.2.toNat : Int)] 97)).drew w3.heap.size 97 #[.int .u8 (s.1.toNat : Int), .int .u8 (s.2.toNat : Int)] from Row.new w3 _ _))
        have HB := Lib.hid (show w.heap.size ≤ (w3.alloc (.cells #[.int .u8 (s.1.toNat : Int), .int .u8 (s.2.toNat : Int)] 97)).drew.heap.size by have := hT3.size; simp; omega)
        have HL1 := Lib.hid (show ss.length + 1 ≤ maxLen by simp only [maxLen]; omega)
        have HL2 := Lib.hid (show (ss.length + 1) * 2 ≤ 140737488355328 by omega)
        have fin := Lib.hid (show ∀ (v' : Value) (w4 : World), w4.ownsRow w.heap.size 97 2 v' (ss.length + 1) (ss.flatMap spanCells ++ spanCells s) → (w3.alloc (.cells #[.int .u8 (s.1.toNat : Int), .int .u8 (s.2.toNat : Int)] 97)).drew.grownBy w4 (Value.ownBlock (.slice A ss.length cc)) →
            Row w4 w1.heap.size 89 #[.slice A ss.length cc, .bool neg, .bool false] ∧ Row (w4.setCell ⟨w1.heap.size, 0, none⟩ v') w1.heap.size 89 #[v', .bool neg, .bool false] ∧ Spn (w4.setCell ⟨w1.heap.size, 0, none⟩ v') w.heap.size v' (ss ++ [s]) ∧ Rdr (w4.setCell ⟨w1.heap.size, 0, none⟩ v') X y op dp ∧ Two w (w4.setCell ⟨w1.heap.size, 0, none⟩ v') X X from by
          intro v' w4 h1 h2
          have hown : ∀ k, Value.ownBlock (.slice A ss.length cc) = some k → w.heap.size ≤ k ∧ k < w3.heap.size := fun k e => World.ownsRow.lt hS3 k e
          have hA1 := below_one w3 (.cells #[.int .u8 (s.1.toNat : Int), .int .u8 (s.2.toNat : Int)] 97)
          have hkeep : ∀ k, k < w3.heap.size → Value.ownBlock (.slice A ss.length cc) ≠ some k → w4.heap[k]? = w3.heap[k]? := fun k hk hne => (h2.block k (by simp; omega) (fun e => hne e.symm)).trans (hA1.block k hk)
          have hneg := rows_ne hG3 hS3 (by decide)
          have hG4 : Row w4 w1.heap.size 89 #[.slice A ss.length cc, .bool neg, .bool false] := (hkeep _ hG3.lt hneg).trans hG3
          have hR4 : Rdr w4 X y op dp := hR3.stay (hkeep X hR3.lt (fun e => by have := (hown X e).1; omega))
          have hS4 : Spn w4 w.heap.size v' (ss ++ [s]) := by
            unfold Spn
            rw [List.flatMap_append, List.length_append]
            simpa using h1
          refine ⟨hG4, hG4.setAt 0 v', rows_setFar hS4 hG4 (by decide) 0 v', rdr_new hR4 (p := ⟨w1.heap.size, 0, none⟩) (Ne.symm hgx) v', ?_⟩
          refine two_new ⟨h2.os.trans hT3.os, h2.tape.trans hT3.tape, h2.output.trans hT3.output, ?_, fun k hk k1 k2 => ?_⟩ (p := ⟨w1.heap.size, 0, none⟩) hb1 v'
          · have := h2.size
            have := hT3.size
            simp at *
            omega
          · exact (hkeep k (Nat.lt_of_lt_of_le hk hT3.size) (fun e => by have := (hown k e).1; omega)).trans (hT3.block k hk k1 k2))
        clear hR3 hG3 hS3 hQ3 hT3
        go_region_law
          (first
            | (refine step_app_at rfl (.tmp 22) (.tmp 24) 87 rfl w.heap.size 97 i0 _ 2 2 Try.underlying87 hi hz0 hz1 hz2 rfl (by omega) (.slice A ss.length cc) ss.length (ss.flatMap spanCells) rfl HO.out (some ⟨w3.heap.size, 0, none⟩) 1 1 (spanCells s) rfl rfl HA.out (by intro u hu; simp [spanCells] at hu; rcases hu with rfl | rfl <;> rfl) HL1.out HL2.out HB.out ?_
               intro v4 w4 hown4 hb4 hg4
               have hf := fin.out v4 w4 hown4 hg4
               have y0 : w4.cell? ⟨w1.heap.size, 0, none⟩ = some (.slice A ss.length cc) := hf.1.cell 0
               have z0 := hf.1.frozen 0
               obtain ⟨A4, c4, hv4⟩ := hf.2.2.1.slice
               generalize (ss ++ [s]).length = ln at hv4
               subst hv4
               have HF := Lib.hid hf.2
               clear hf hown4 hb4 hg4))
      all_goals
        first
          | (have HS5 := Lib.hid (skip_prog HF.out.2.2.1 ⟨#[93]⟩)
             simp only [HD2, ha, Bool.false_eq_true, if_false] at HS5
             go_wp2_with (go_at_call 65; refine HS5.out.mono ?_; rintro e w5 ⟨rfl, hr5, ht5⟩)
             refine ⟨⟨_, ss ++ [s], y, m', row_two HF.out.1 ht5 hgx, HF.out.2.1.two ht5 hX, hr5, HF.out.2.2.2.trans ht5, hm', by rw [List.length_append, List.length_singleton]; omega, ?_⟩, ?_⟩
             · rw [HQ.out, HSt.out, ha]
               simp only [Bool.false_eq_true, if_false]
               cases itemsM m' y with
               | none => rfl
               | some r => simp [contM]
             · rw [hr5.rest, hrl]; exact hil)
          | (have HS5 := Lib.hid (skip_prog HF.out.2.2.1 ⟨#[93]⟩)
             simp only [HD2, ha, if_true] at HS5
             go_wp2_with (go_at_call 65; refine HS5.out.mono ?_; rintro e w5 ⟨rfl, hr5, ht5⟩)
             go_ret2
             exact ClsIn.told (row_two HF.out.1 ht5 hgx) (HF.out.2.1.two ht5 hX) hb1 (by rw [List.length_append, List.length_singleton]; omega) hr5 (HF.out.2.2.2.trans ht5) (by rw [HC.out, HQ.out, HSt.out, ha]; rfl))
end Go.Proofs.Ytjljfilflajogaa
