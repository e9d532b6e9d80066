/- In one text, written by lotify.py: BitPutNumG, BitGetNum, BitRowsMathG. -/
import Derived.Test.YtgdmcnoogacdaaaGreatDoorBlLotB
import Derived.Test.YtgdmcnoogacdaaaGreatDoorBitLen
namespace Go.Proofs.YtgdmcnoogacdaaaGreatDoor.Ch
open Go.RowKit
set_option linter.unusedVariables false

def numL (l : List UInt8) (N u : Nat) : List UInt8 := putL (putL l N (digs u) 7) (N + 7) u (digs u)
def numF (l : List UInt8) (N u : Nat) : Nat → Nat := putF (putL l N (digs u) 7) (N + 7) u (digs u)
theorem numF_old {l : List UInt8} {N u i : Nat} (hi : i < N) : numF l N u i = bitN l i := by
  unfold numF putF
  rw [if_pos (by omega), bit_put (by omega)]
  unfold putF
  rw [if_pos hi]
theorem numF_len {l : List UInt8} {N u j : Nat} (hj : j < 7) : numF l N u (N + j) = dig (digs u) (7 - 1 - j) := by
  unfold numF putF
  rw [if_pos (by omega), bit_put (by omega)]
  unfold putF
  rw [if_neg (by omega), if_pos (by omega)]
  congr 1
  omega
theorem numF_num {l : List UInt8} {N u j : Nat} (hj : j < digs u) : numF l N u (N + 7 + j) = dig u (digs u - 1 - j) := by
  unfold numF putF
  rw [if_neg (by omega), if_pos (by omega)]
  congr 1
  omega
theorem numF_lt (l : List UInt8) (N u i : Nat) : numF l N u i < 2 := putF_lt _ _ _ _ _
theorem numL_length (l : List UInt8) (N u : Nat) : (numL l N u).length = (N + (7 + digs u) + 7) / 8 := by
  unfold numL putL
  rw [length_mk]
  congr 1
  omega

theorem putnum_bad (A : Option Addr) (l : List UInt8) (c : Nat) (N : Int) (u : Nat) (w : World) (hA : Bys w A l) (h1 : N ≤ 9223372036854775807) (hl : l.length ≤ 562949953421312) (h : rightB l N = false) :
    Calls Tryz.prog 108 #[.agg #[.slice A l.length c, .int .i64 N], .int .u64 u] w fun e w' =>
      e = .returned (.tuple #[.agg #[.slice none 0 0, .int .i64 0], .int .i64 2]) ∧ Below w.heap.size w w' := by
  go_enter Tryz.func108, Tryz.ntmps108
  go_wp2_with (go_at_call 145; refine (right_prog A l c N _ (hA.below (below_two _ _ _)) h1 hl).mono ?_; rintro e w1 ⟨rfl, hb1⟩; obtain ⟨hs, hf⟩ := stands hb1)
  have hR : Row w1 (w.heap.size + 1) 126 _ := (row_two _ _ _ _).below hb1 (by simp)
  have r0 := (hR.setAt 0 (.slice none 0 0)).setAt 1 (.int .i64 0)
  have c0 : ((w1.setCell ⟨w.heap.size + 1, 0, none⟩ (.slice none 0 0)).setCell ⟨w.heap.size + 1, 1, none⟩ (.int .i64 0)).cell? ⟨w.heap.size + 1, 0, none⟩ = some (.slice none 0 0) := r0.cell 0
  have c1 : ((w1.setCell ⟨w.heap.size + 1, 0, none⟩ (.slice none 0 0)).setCell ⟨w.heap.size + 1, 1, none⟩ (.int .i64 0)).cell? ⟨w.heap.size + 1, 1, none⟩ = some (.int .i64 0) := r0.cell 1
  exact bodyPost_ret (v := .tuple #[.agg #[.slice none 0 0, .int .i64 0], .int .i64 2]) (by simp [results, Tryz.results108, go_sem, c0, c1]) rfl
    ⟨rfl, ((below_then (below_two w _ _) hb1).setCell (p := ⟨w.heap.size + 1, 0, none⟩) (by show _ ≤ w.heap.size + 1; omega) _).setCell (p := ⟨w.heap.size + 1, 1, none⟩) (by show _ ≤ w.heap.size + 1; omega) _⟩

set_option maxHeartbeats 1000000 in
theorem putnum_ok (A : Option Addr) (l : List UInt8) (c : Nat) (N u : Nat) (w : World) (hA : Bys w A l) (hl : l.length ≤ 281474976710000) (hu : u ≤ 18446744073709551615)
    (hr : rightB l (N : Int) = true) :
    Calls Tryz.prog 108 #[.agg #[.slice A l.length c, .int .i64 N], .int .u64 u] w fun e w' => ∃ G,
      e = .returned (.tuple #[.agg #[.slice (some ⟨G, 0, none⟩) (numL l N u).length (numL l N u).length, .int .i64 (N + (7 + digs u) : Nat)], .int .i64 0]) ∧
      Row w' G 5 (bcells (numL l N u)) ∧ Below w.heap.size w w' ∧ w.heap.size ≤ G := by
  have hlen := (rightB_iff.1 hr).2.1
  rw [Int.toNat_natCast] at hlen
  have hN : N ≤ 2251799813680000 := by omega
  clear hlen
  have hd := digs_64 hu
  have Hpl := Lib.hid (numL_length l N u)
  have len : ∀ W, Calls Tryz.prog 146 #[.int .u64 u] W fun e w' => e = .returned (.int .i64 (digs u)) ∧ W = w' := fun W => len64_prog u W hu
  have Len := Lib.hid len
  have H7 := Lib.hid (show ∀ j, j < 7 → numF l N u (N + j) = dig (digs u) (7 - 1 - j) from fun j hj => numF_len hj)
  have HU := Lib.hid (show ∀ j, j < digs u → numF l N u (N + 7 + j) = dig u (digs u - 1 - j) from fun j hj => numF_num hj)
  have HE := Lib.hid (show bcells (mk ((N + (7 + digs u) + 7) / 8) (cutF (numF l N u) (N + 7 + digs u))) = bcells (numL l N u) by
    unfold numF
    rw [cut_all, show (N + (7 + digs u) + 7) / 8 = (N + 7 + digs u + 7) / 8 from by omega]
    rfl)
  clear len
  generalize hdd : digs u = d at *
  have Hdd := Lib.hid hdd
  clear hdd
  go_enter Tryz.func108, Tryz.ntmps108
  go_wp2_with (first
    | (go_at_call 145; refine (right_prog A l c N _ (hA.below (below_two _ _ _)) (by omega) (by omega)).mono ?_; rintro e w1 ⟨rfl, hb1⟩; obtain ⟨hs, hf⟩ := stands hb1)
    | (go_at_call 146; refine (Len.out _).mono ?_; rintro e w9 ⟨rfl, rfl⟩))
  have hR : Row w1 (w.heap.size + 1) 126 _ := (row_two _ _ _ _).below hb1 (by simp)
  rw [show (7 : Int) + (d : Int) = ((7 + d : Nat) : Int) from by omega]
  refine (extend_prog A l c N (7 + d) (numF l N u) w1 (hA.below (below_then (below_two w _ _) hb1)) hl hr (numF_lt l N u) (fun i hi => numF_old hi) (by omega)).mono ?_
  rintro e w2 ⟨L, At, G, rfl, hL, hAt, hG, hb2, hL1, hA2, hG1, hAG, hLA, hLG⟩
  have hz1 := hR.lt
  have hR2 := hR.below hb2 hz1
  have HL := Lib.hid hL
  have HAt := Lib.hid hAt
  have HG := Lib.hid hG
  have HR2 := Lib.hid hR2
  clear hL hAt hG hR hR2
  obtain ⟨m, hmm⟩ : ∃ m, (N + (7 + d) + 7) / 8 = m := ⟨_, rfl⟩
  rw [hmm] at HL HG Hpl HE
  have Hm := Lib.hid hmm
  have hm1 : N + 7 ≤ 8 * m := by omega
  have hm2 : N + 7 + d ≤ 8 * m := by omega
  have hm3 : m ≤ 562949953421312 := by omega
  rw [hmm]
  clear hmm
  go_wp2_with fail
  have hLlt := HL.out.lt
  have hAlt := HAt.out.lt
  have hGlt := HG.out.lt
  have hRlt := HR2.out.lt
  have hbel2 := below_then (below_then (below_two w _ _) hb1) hb2
  refine (lay_prog (numF l N u) (numF_lt l N u) m N d 7 L At G (N + (7 + d)) _ (by omega) (by omega) hm1 hm3 H7.out (HL.out.alloc _) (HAt.out.alloc _) (HG.out.alloc _) hAG hLA hLG).mono ?_
  rintro e w3 ⟨rfl, hAt3, hG3, h3⟩
  have hX : Row (w2.alloc (.cells #[.slice (some ⟨G, 0, none⟩) m m, .int .i64 ((N + (7 + d) : Nat) : Int)] 126)) w2.heap.size 126 _ := Row.new _ _ _
  have hX3 : Row w3 w2.heap.size 126 _ := (h3.block w2.heap.size (by simp) (by omega) (by omega)).trans hX
  have hR3 : Row w3 (w.heap.size + 1) 126 _ := (h3.block (w.heap.size + 1) (by simp; omega) (by omega) (by omega)).trans (HR2.out.alloc _)
  have hL3 : Row w3 L 126 _ := (h3.block L (by simp; omega) hLG hLA).trans (HL.out.alloc _)
  have HX3 := Lib.hid hX3
  have HR3 := Lib.hid hR3
  have HL3 := Lib.hid hL3
  have HA3 := Lib.hid hAt3
  have HG3 := Lib.hid hG3
  have hsz3 := h3.size
  simp at hsz3
  have hwb := (below_then (below_two w _ _) hb1).size
  have hbel3 : Below w.heap.size w w3 := Two.below (hbel2.alloc hbel2.size _) h3 (by have := hbel2.size; simp; omega) (by omega) (by omega)
  clear hX hX3 hR3 hL3 hAt3 hG3
  go_wp2_with fail
  refine (lay_prog (numF l N u) (numF_lt l N u) m (N + 7) u d L At G (N + (7 + d)) _ hu (by omega) hm2 hm3 HU.out HL3.out HA3.out HG3.out hAG hLA hLG).mono ?_
  rintro e w4 ⟨rfl, hAt4, hG4, h4⟩
  have hX4 : Row w4 w2.heap.size 126 _ := (h4.block w2.heap.size (by omega) (by omega) (by omega)).trans HX3.out
  have hR4 : Row w4 (w.heap.size + 1) 126 _ := (h4.block (w.heap.size + 1) (by omega) (by omega) (by omega)).trans HR3.out
  rw [HE.out] at hG4
  have hx0 : w4.cell? ⟨w2.heap.size, 0, none⟩ = some (.slice (some ⟨G, 0, none⟩) m m) := hX4.cell 0
  have hx1 : w4.cell? ⟨w2.heap.size, 1, none⟩ = some (.int .i64 ((N : Int) + (7 + (d : Int)))) := by
    rw [show (N : Int) + (7 + (d : Int)) = ((N + (7 + d) : Nat) : Int) from by omega]
    exact hX4.cell 1
  have hr0 : w4.cell? ⟨w.heap.size + 1, 0, none⟩ = some (.slice none 0 0) := hR4.cell 0
  have hr1 : w4.cell? ⟨w.heap.size + 1, 1, none⟩ = some (.int .i64 0) := hR4.cell 1
  have hf0 := hR4.frozen 0
  have hf1 := hR4.frozen 1
  have hbel4 : Below w.heap.size w w4 := Two.below hbel3 h4 hbel3.size (by omega) (by omega)
  have hGw : w.heap.size ≤ G := by omega
  have f1 := ((hR4.setAt 0 (.slice (some ⟨G, 0, none⟩) m m)).setAt 1 (.int .i64 ((N : Int) + (7 + (d : Int)))))
  have f3 := ((hG4.setFar (p := ⟨w.heap.size + 1, 0, none⟩) (by show G ≠ w.heap.size + 1; omega) (.slice (some ⟨G, 0, none⟩) m m)).setFar (p := ⟨w.heap.size + 1, 1, none⟩) (by show G ≠ w.heap.size + 1; omega) (.int .i64 ((N : Int) + (7 + (d : Int)))))
  have f5 := ((hbel4.setCell (p := ⟨w.heap.size + 1, 0, none⟩) (by show _ ≤ w.heap.size + 1; omega) (.slice (some ⟨G, 0, none⟩) m m)).setCell (p := ⟨w.heap.size + 1, 1, none⟩) (by show _ ≤ w.heap.size + 1; omega) (.int .i64 ((N : Int) + (7 + (d : Int)))))
  have F1 := Lib.hid f1
  have F3 := Lib.hid f3
  clear hR4 hX4 hAt4 hG4 f1 f3
  go_wp2
  generalize hWW : ((w4.setCell ⟨w.heap.size + 1, 0, none⟩ (.slice (some ⟨G, 0, none⟩) m m)).setCell ⟨w.heap.size + 1, 1, none⟩ (.int .i64 ((N : Int) + (7 + (d : Int))))) = WW at *
  have r0 : WW.cell? ⟨w.heap.size + 1, 0, none⟩ = some (.slice (some ⟨G, 0, none⟩) m m) := F1.out.cell 0
  have r1 : WW.cell? ⟨w.heap.size + 1, 1, none⟩ = some (.int .i64 ((N : Int) + (7 + (d : Int)))) := F1.out.cell 1
  refine bodyPost_ret (v := .tuple #[.agg #[.slice (some ⟨G, 0, none⟩) m m, .int .i64 ((N : Int) + (7 + (d : Int)))], .int .i64 0]) (by simp [results, Tryz.results108, go_sem, r0, r1]) rfl ⟨G, ?_, F3.out, f5, hGw⟩
  rw [Hpl.out, show ((N + (7 + d) : Nat) : Int) = (N : Int) + (7 + (d : Int)) from by omega]
end Go.Proofs.YtgdmcnoogacdaaaGreatDoor.Ch

namespace Go.Proofs.YtgdmcnoogacdaaaGreatDoor.Ch
open Go.RowKit
set_option linter.unusedVariables false

/-- The document's answer: number, place behind it, error. -/
def gnum (l : List UInt8) (N a : Int) : Nat × Int × Int :=
  if rightB l N = false ∨ a < 0 ∨ N < a then (0, 0, 2)
  else if N - a < 7 then (0, 0, 4)
  else if 64 < getN l a.toNat 7 then (0, 0, 5)
  else if N - (a + 7) < getN l a.toNat 7 then (0, 0, 4)
  else if digs (getN l (a.toNat + 7) (getN l a.toNat 7)) ≠ getN l a.toNat 7 then (0, 0, 5)
  else (getN l (a.toNat + 7) (getN l a.toNat 7), a + 7 + getN l a.toNat 7, 0)

theorem getnum_prog (A : Option Addr) (l : List UInt8) (c : Nat) (N a : Int) (w : World) (hA : Bys w A l) (h0 : -9223372036854775808 ≤ N) (h1 : N ≤ 9223372036854775807) (hl : l.length ≤ 562949953421312) :
    Calls Tryz.prog 201 #[.agg #[.slice A l.length c, .int .i64 N], .int .i64 a] w fun e w' =>
      e = .returned (.tuple #[.int .u64 (gnum l N a).1, .int .i64 (gnum l N a).2.1, .int .i64 (gnum l N a).2.2]) ∧ Below w.heap.size w w' := by
  by_cases hbad : rightB l N = false ∨ a < 0 ∨ N < a
  · have e0 : gnum l N a = (0, 0, 2) := by unfold gnum; rw [if_pos hbad]
    rw [e0]
    go_enter Tryz.func201, Tryz.ntmps201
    go_wp2_with fail
    refine (get_bad A l c N a 7 _ (hA.below (below_one _ _)) h1 hl (by rcases hbad with h | h | h <;> simp [h])).mono ?_
    rintro e w1 ⟨rfl, hb1⟩
    go_wp2
    go_ret3
    exact ⟨rfl, below_then (below_one _ _) hb1⟩
  have hr : rightB l N = true := by
    cases h : rightB l N
    · exact absurd (.inl h) hbad
    · rfl
  have ha0 : 0 ≤ a := by omega
  have haN : a ≤ N := by omega
  obtain ⟨b, rfl⟩ := Int.eq_ofNat_of_zero_le ha0
  obtain ⟨M, rfl⟩ := Int.eq_ofNat_of_zero_le (show 0 ≤ N by omega)
  have hlen := (rightB_iff.1 hr).2.1
  rw [Int.toNat_natCast] at hlen
  have hM : M ≤ 4503599627370496 := by omega
  clear hlen
  by_cases hs : (M : Int) - b < 7
  · have e0 : gnum l M b = (0, 0, 4) := by unfold gnum; rw [if_neg hbad, if_pos hs]
    rw [e0]
    go_enter Tryz.func201, Tryz.ntmps201
    go_wp2_with fail
    refine (get_short A l c M b 7 _ (hA.below (below_one _ _)) h1 hl hr (by omega) (by omega) (by omega) haN hs).mono ?_
    rintro e w1 ⟨rfl, hb1⟩
    go_wp2
    go_ret3
    exact ⟨rfl, below_then (below_one _ _) hb1⟩
  have hg7 := getN_lt l b 7
  have first : ∀ W, Bys W A l → Calls Tryz.prog 232 #[.agg #[.slice A l.length c, .int .i64 M], .int .i64 b, .int .i64 7] W fun e w' => e = .returned (.tuple #[.int .u64 (getN l b 7), .int .i64 0]) ∧ Below W.heap.size W w' :=
    fun W hW => get_ok A l c M b 7 W hW hl hr (by omega) (by omega)
  have First := Lib.hid first
  clear first
  by_cases h64 : 64 < getN l b 7
  · have e0 : gnum l M b = (0, 0, 5) := by unfold gnum; rw [if_neg hbad, if_neg hs, Int.toNat_natCast, if_pos h64]
    rw [e0]
    clear e0
    generalize getN l b 7 = n at *
    go_enter Tryz.func201, Tryz.ntmps201
    go_wp2_with fail
    refine (First.out _ (hA.below (below_one _ _))).mono ?_
    rintro e w1 ⟨rfl, hb1⟩
    go_wp2
    go_ret3
    exact ⟨rfl, below_then (below_one _ _) hb1⟩
  by_cases hs2 : (M : Int) - (b + 7) < getN l b 7
  · have e0 : gnum l M b = (0, 0, 4) := by unfold gnum; rw [if_neg hbad, if_neg hs, Int.toNat_natCast, if_neg h64, if_pos hs2]
    rw [e0]
    clear e0
    generalize getN l b 7 = n at *
    go_enter Tryz.func201, Tryz.ntmps201
    go_wp2_with fail
    refine (First.out _ (hA.below (below_one _ _))).mono ?_
    rintro e w1 ⟨rfl, hb1⟩
    obtain ⟨hst, hfr⟩ := stands hb1
    go_wp2_with fail
    refine (get_short A l c M (b + 7) n w1 (hA.below (below_then (below_one _ _) hb1)) h1 hl hr (by omega) (by omega) (by omega) (by omega) hs2).mono ?_
    rintro e w2 ⟨rfl, hb2⟩
    go_wp2
    go_ret3
    exact ⟨rfl, below_then (below_then (below_one _ _) hb1) hb2⟩
  have second : ∀ W, Bys W A l → Calls Tryz.prog 232 #[.agg #[.slice A l.length c, .int .i64 M], .int .i64 ((b : Int) + 7), .int .i64 (getN l b 7)] W fun e w' =>
      e = .returned (.tuple #[.int .u64 (getN l (b + 7) (getN l b 7)), .int .i64 0]) ∧ Below W.heap.size W w' := fun W hW => by
    have := get_ok A l c M (b + 7) (getN l b 7) W hW hl hr (by omega) (by omega)
    rw [Int.natCast_add] at this
    exact this
  have Second := Lib.hid second
  clear second
  have hu := getN_64 l (b + 7) (getN l b 7) (by omega)
  have hdle := digs_64 hu
  have len : ∀ W, Calls Tryz.prog 146 #[.int .u64 (getN l (b + 7) (getN l b 7))] W fun e w' => e = .returned (.int .i64 (digs (getN l (b + 7) (getN l b 7)))) ∧ W = w' := fun W => len64_prog _ W hu
  have Len := Lib.hid len
  clear len
  by_cases hd : digs (getN l (b + 7) (getN l b 7)) ≠ getN l b 7
  · have e0 : gnum l M b = (0, 0, 5) := by unfold gnum; rw [if_neg hbad, if_neg hs, Int.toNat_natCast, if_neg h64, if_neg hs2, if_pos hd]
    rw [e0]
    clear e0
    generalize getN l (b + 7) (getN l b 7) = u at *
    generalize getN l b 7 = n at *
    generalize digs u = k at *
    have hne : ((k : Int) != (n : Int)) = true := by rw [bne_iff_ne]; omega
    clear hd
    go_enter Tryz.func201, Tryz.ntmps201
    go_wp2_with fail
    refine (First.out _ (hA.below (below_one _ _))).mono ?_
    rintro e w1 ⟨rfl, hb1⟩
    obtain ⟨hst, hfr⟩ := stands hb1
    go_wp2_with fail
    refine (Second.out w1 (hA.below (below_then (below_one _ _) hb1))).mono ?_
    rintro e w2 ⟨rfl, hb2⟩
    go_wp2_with fail
    refine (Len.out w2).mono ?_
    rintro e w3 ⟨rfl, rfl⟩
    go_wp2
    go_ret3
    exact ⟨rfl, below_then (below_then (below_one _ _) hb1) hb2⟩
  · have e0 : gnum l M b = (getN l (b + 7) (getN l b 7), (b : Int) + 7 + getN l b 7, 0) := by unfold gnum; rw [if_neg hbad, if_neg hs, Int.toNat_natCast, if_neg h64, if_neg hs2, if_neg hd]
    rw [e0]
    clear e0
    generalize getN l (b + 7) (getN l b 7) = u at *
    generalize getN l b 7 = n at *
    generalize digs u = k at *
    have hne : ((k : Int) != (n : Int)) = false := by rw [bne_eq_false_iff_eq]; omega
    clear hd
    go_enter Tryz.func201, Tryz.ntmps201
    go_wp2_with fail
    refine (First.out _ (hA.below (below_one _ _))).mono ?_
    rintro e w1 ⟨rfl, hb1⟩
    obtain ⟨hst, hfr⟩ := stands hb1
    go_wp2_with fail
    refine (Second.out w1 (hA.below (below_then (below_one _ _) hb1))).mono ?_
    rintro e w2 ⟨rfl, hb2⟩
    go_wp2_with fail
    refine (Len.out w2).mono ?_
    rintro e w3 ⟨rfl, rfl⟩
    go_wp2
    go_ret3
    exact ⟨rfl, below_then (below_then (below_one _ _) hb1) hb2⟩
end Go.Proofs.YtgdmcnoogacdaaaGreatDoor.Ch

namespace Go.Proofs.YtgdmcnoogacdaaaGreatDoor.Ch
set_option linter.unusedVariables false

def Has (L : List UInt8) (p u : Nat) : Prop :=
  (∀ j, j < 7 → bitN L (p + j) = dig (digs u) (7 - 1 - j)) ∧ (∀ j, j < digs u → bitN L (p + 7 + j) = dig u (digs u - 1 - j))
theorem right_num (l : List UInt8) (N u : Nat) : rightB (numL l N u) ((N + (7 + digs u) : Nat) : Int) = true := by
  rw [← Nat.add_assoc]
  exact right_put
theorem bit_num {l : List UInt8} {N u i : Nat} (hi : i < N + (7 + digs u)) : bitN (numL l N u) i = numF l N u i := bit_put (by omega)
theorem has_num (l : List UInt8) (N u : Nat) : Has (numL l N u) N u :=
  ⟨fun j hj => (bit_num (by omega)).trans (numF_len hj), fun j hj => (bit_num (by omega)).trans (numF_num hj)⟩
theorem has_keep {l : List UInt8} {N u p v : Nat} (h : Has l p v) (hp : p + 7 + digs v ≤ N) : Has (numL l N u) p v :=
  ⟨fun j hj => (bit_num (by omega)).trans ((numF_old (by omega)).trans (h.1 j hj)), fun j hj => (bit_num (by omega)).trans ((numF_old (by omega)).trans (h.2 j hj))⟩
theorem gnum_has {L : List UInt8} {M p u : Nat} (hr : rightB L (M : Int) = true) (h : Has L p u) (hu : u ≤ 18446744073709551615) (hp : p + (7 + digs u) ≤ M) :
    gnum L M p = (u, ((p + (7 + digs u) : Nat) : Int), 0) := by
  have hd := digs_64 hu
  have e7 : getN L p 7 = digs u := getN_of_dig (by omega) h.1
  have eu : getN L (p + 7) (digs u) = u := getN_of_dig (digs_le.1 (Nat.le_refl _)) h.2
  unfold gnum
  rw [if_neg (by rw [hr]; simp; omega), if_neg (by omega), Int.toNat_natCast, e7, if_neg (by omega), if_neg (by omega), eu, if_neg (by simp)]
  congr 2
  omega
theorem gnum_end {L : List UInt8} {M : Nat} (hr : rightB L (M : Int) = true) : gnum L M M = (0, 0, 4) := by
  unfold gnum
  rw [if_neg (by rw [hr]; simp), if_pos (by omega)]

/-- The bits, and how many, behind the first k numbers. -/
def st (us : List Nat) : Nat → List UInt8 × Nat
  | 0 => ([], 0)
  | k + 1 => (numL (st us k).1 (st us k).2 (us.getD k 0), (st us k).2 + (7 + digs (us.getD k 0)))
theorem st_ok (us : List Nat) (hu : ∀ k, us.getD k 0 ≤ 18446744073709551615) : ∀ k, rightB (st us k).1 ((st us k).2 : Int) = true ∧ (st us k).2 ≤ 71 * k ∧
    ∀ i, i < k → Has (st us k).1 (st us i).2 (us.getD i 0) ∧ (st us i).2 + (7 + digs (us.getD i 0)) ≤ (st us k).2 := by
  intro k
  induction k with
  | zero => exact ⟨by show rightB [] 0 = true; decide +kernel, Nat.le_refl _, fun i hi => by omega⟩
  | succ k ih =>
    obtain ⟨h1, h2, h3⟩ := ih
    have hd := digs_64 (hu k)
    refine ⟨right_num _ _ _, ?_, fun i hi => ?_⟩
    · show (st us k).2 + (7 + digs (us.getD k 0)) ≤ _
      omega
    · by_cases e : i = k
      · subst e
        exact ⟨has_num _ _ _, Nat.le_refl _⟩
      · obtain ⟨g1, g2⟩ := h3 i (by omega)
        refine ⟨has_keep g1 (by omega), ?_⟩
        show _ ≤ (st us k).2 + (7 + digs (us.getD k 0))
        omega
end Go.Proofs.YtgdmcnoogacdaaaGreatDoor.Ch
