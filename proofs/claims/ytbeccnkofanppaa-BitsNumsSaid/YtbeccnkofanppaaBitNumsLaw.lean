/- The walk of a law of layer 1: numbers that say themselves how long they are are laid down, and read at any place of any bits, as the document says. -/
import Derived.Test.YtbeccnkofanppaaRefPutNum
namespace Go.Proofs.Ytbeccnkofanppaa
open Go.RowKit
set_option linter.unusedVariables false

set_option maxHeartbeats 1000000 in
/-- Both answers alike: the program's bits (L, M) and the document's, an error 'code', whatever they are. -/
theorem bitsNums_any (L : List UInt8) (M code : Int) (w : World) (A : Option Addr) (l : List UInt8) (c : Nat) (N : Int) (u : Nat) (a : Int) (hA : Bys w A l) (hr : l.length ≤ 140737488351232)
    (lo : -9223372036854775808 ≤ N) (hi : N ≤ 9223372036854775807)
    (hp : ∀ (V : Option Addr) (cc : Nat) (W : World), Bys W V l → Calls Try.prog 27 #[.agg #[.slice V l.length cc, .int .i64 N], .int .u64 u] W fun e w' => ∃ B dd,
      e = .returned (.tuple #[.agg #[.slice B L.length dd, .int .i64 M], .int .i64 code]) ∧ Bys w' B L ∧ Below W.heap.size W w')
    (hq : ∀ (V : Option Addr) (cc : Nat) (W : World), Bys W V l → Calls Try.prog 28 #[.agg #[.slice V l.length cc, .int .i64 N], .int .u64 u] W fun e w' => ∃ B dd,
      e = .returned (.tuple #[.agg #[.slice B L.length dd, .int .i64 M], .int .i64 code]) ∧ Bys w' B L ∧ Below W.heap.size W w') :
    Calls Try.prog 7 #[.agg #[.slice A l.length c, .int .i64 N], .int .u64 u, .int .i64 a] w fun e w' => e = .returned (.bool true) ∧ Below w.heap.size w w' := by
  have Hp := Lib.hid hp
  have Hq := Lib.hid hq
  clear hp hq
  have hcode : (code == code) = true := beq_self_eq_true _
  go_enter Try.func7, Try.ntmps7
  go_wp2_with fail
  refine (lent_law A l c N _ (hA.below (below_one _ _)) hr).mono ?_
  rintro e w1 ⟨G0, cap, rfl, hG, hcap, hmax, hGw, hb1⟩
  have hW1 : Below w.heap.size w w1 := below_then (below_one _ _) hb1
  have RX : Row w1 w.heap.size 24 #[.slice A l.length c, .int .i64 N] := (Row.new w _ _).below hb1 (by simp)
  have hGf := bys_front hG
  have HRX := Lib.hid RX
  have hxlt := RX.lt
  clear RX hb1
  go_wp2_with fail
  refine (Hp.out (some ⟨G0, 0, none⟩) cap _ (hGf.alloc _)).mono ?_
  rintro e w2 ⟨By, dy, rfl, hBy, hb2⟩
  have k2 : Below w1.heap.size w1 w2 := below_then (below_one _ _) hb2
  have R7 : Row w2 w1.heap.size 24 #[.slice (some ⟨G0, 0, none⟩) l.length cap, .int .i64 N] := (Row.new w1 _ _).below hb2 (by simp)
  have RX2 := HRX.out.below k2 hxlt
  have x20 : ∀ o, (w2.alloc o).cell? ⟨w.heap.size, 0, none⟩ = some (.slice A l.length c) := fun o => (RX2.alloc o).cell 0
  have x21 : ∀ o, (w2.alloc o).cell? ⟨w.heap.size, 1, none⟩ = some (.int .i64 N) := fun o => (RX2.alloc o).cell 1
  have HR7 := Lib.hid R7
  clear R7 hb2 RX2
  go_wp2_with fail
  refine (Hq.out A c _ (((hA.below hW1).below k2).alloc _)).mono ?_
  rintro e w3 ⟨Bw, dw, rfl, hBw, hb3⟩
  have k3 : Below w2.heap.size w2 w3 := below_then (below_one _ _) hb3
  have k13 := below_then k2 k3
  have R8 : Row w3 w2.heap.size 24 #[.slice By L.length dy, .int .i64 M] := (Row.new w2 _ _).below hb3 (by simp)
  have R73 := HR7.out.below k3 HR7.out.lt
  have c70 : ∀ o, (w3.alloc o).cell? ⟨w1.heap.size, 0, none⟩ = some (.slice (some ⟨G0, 0, none⟩) l.length cap) := fun o => (R73.alloc o).cell 0
  have c71 : ∀ o, (w3.alloc o).cell? ⟨w1.heap.size, 1, none⟩ = some (.int .i64 N) := fun o => (R73.alloc o).cell 1
  have HR8 := Lib.hid R8
  have HR73 := Lib.hid R73
  clear x20 x21 R8 hb3 R73
  have hsz3 := k3.size
  go_wp2_with fail
  refine (getnum_prog (some ⟨G0, 0, none⟩) l cap N a _ ((hGf.below k13).alloc _) lo hi (by omega)).mono ?_
  rintro e w4 ⟨rfl, hb4⟩
  have k4 : Below w3.heap.size w3 w4 := below_then (below_one _ _) hb4
  have k14 := below_then k13 k4
  have R10 : Row w4 w3.heap.size 24 #[.slice Bw L.length dw, .int .i64 M] := (Row.new w3 _ _).below hb4 (by simp)
  have RX4 := HRX.out.below k14 hxlt
  have x40 : w4.cell? ⟨w.heap.size, 0, none⟩ = some (.slice A l.length c) := RX4.cell 0
  have x41 : w4.cell? ⟨w.heap.size, 1, none⟩ = some (.int .i64 N) := RX4.cell 1
  have HR10 := Lib.hid R10
  clear c70 c71 R10 hb4 RX4
  have hsz4 := k4.size
  go_wp2_with fail
  refine (getnum_ref A l c N a _ ((hA.below hW1).below k14) lo hi (by omega)).mono ?_
  rintro e w5 ⟨rfl, hb5⟩
  have k15 := below_then k14 hb5
  have hsz5 := hb5.size
  have R85 := (HR8.out.below k4 HR8.out.lt).below hb5 (by have := HR8.out.lt; omega)
  have R105 := HR10.out.below hb5 HR10.out.lt
  have c80 : w5.cell? ⟨w2.heap.size, 0, none⟩ = some (.slice By L.length dy) := R85.cell 0
  have c81 : w5.cell? ⟨w2.heap.size, 1, none⟩ = some (.int .i64 M) := R85.cell 1
  have c100 : w5.cell? ⟨w3.heap.size, 0, none⟩ = some (.slice Bw L.length dw) := R105.cell 0
  have c101 : w5.cell? ⟨w3.heap.size, 1, none⟩ = some (.int .i64 M) := R105.cell 1
  have By5 : Bys w5 By L := ((hBy.below k3).below k4).below hb5
  have Bw5 : Bys w5 Bw L := (hBw.below k4).below hb5
  clear x40 x41 R85 R105
  have q1 : ((gnum l N a).1 == (gnum l N a).1) = true := beq_self_eq_true _
  have q2 : ((gnum l N a).2.1 == (gnum l N a).2.1) = true := beq_self_eq_true _
  have q3 : ((gnum l N a).2.2 == (gnum l N a).2.2) = true := beq_self_eq_true _
  go_wp2_with fail
  refine (same_yes By Bw L dy dw M _ By5 Bw5).mono ?_
  rintro e w6 ⟨rfl, hb6⟩
  have k16 := below_then k15 hb6
  have RX6 := HRX.out.below k16 hxlt
  have R76 := ((HR73.out.below k4 HR73.out.lt).below hb5 (by have := HR73.out.lt; omega)).below hb6 (by have := HR73.out.lt; omega)
  have x60 : w6.cell? ⟨w.heap.size, 0, none⟩ = some (.slice A l.length c) := RX6.cell 0
  have x61 : w6.cell? ⟨w.heap.size, 1, none⟩ = some (.int .i64 N) := RX6.cell 1
  have c760 : w6.cell? ⟨w1.heap.size, 0, none⟩ = some (.slice (some ⟨G0, 0, none⟩) l.length cap) := R76.cell 0
  have c761 : w6.cell? ⟨w1.heap.size, 1, none⟩ = some (.int .i64 N) := R76.cell 1
  clear c80 c81 c100 c101 RX6 R76
  go_wp2_with fail
  refine (kept_law A l c G0 cap N _ ((hA.below hW1).below k16) (hG.below k16) hcap hr).mono ?_
  rintro e w7 ⟨rfl, hb7⟩
  go_wp2_with fail
  refine (lives_true w7).mono ?_
  rintro e w8 ⟨rfl, hb8⟩
  go_wp2
  go_ret
  exact ⟨rfl, below_then (below_then (below_then hW1 k16) hb7) hb8⟩

theorem bitsNums_walk (w : World) (A : Option Addr) (l : List UInt8) (c : Nat) (N : Int) (hA : Bys w A l) (hr : l.length ≤ 140737488351232) (hlc : l.length ≤ c) (lo : -9223372036854775808 ≤ N) (hi : N ≤ 9223372036854775807)
    (x : Int) (bx : 0 ≤ x ∧ x ≤ 18446744073709551615) (a : Int) (ba : -9223372036854775808 ≤ a ∧ a ≤ 9223372036854775807) :
    Calls Try.prog 7 #[.agg #[.slice A l.length c, .int .i64 N], .int .u64 x, .int .i64 a] w fun e w' => e = .returned (.bool true) ∧ Below w.heap.size w w' := by
  obtain ⟨u, rfl⟩ := Int.eq_ofNat_of_zero_le bx.1
  have hu : u ≤ 18446744073709551615 := by omega
  by_cases hR : rightB l N = true
  · obtain ⟨M, rfl⟩ := Int.eq_ofNat_of_zero_le (rightB_iff.1 hR).1
    refine bitsNums_any (numL l M u) ((M + (7 + digs u) : Nat) : Int) 0 w A l c M u a hA hr lo hi (fun V cc W hV => ?_) (fun V cc W hV => ?_)
    · exact (putnum_ok V l cc M u W hV (by omega) hu hR).mono fun e w' ⟨G, he, hG, hb, _⟩ => ⟨_, _, he, hG.bys, hb⟩
    · exact putnum_ok_ref V l cc M u W hV (by omega) hu hR
  · have hR' : rightB l N = false := by simpa using hR
    refine bitsNums_any [] 0 2 w A l c N u a hA hr lo hi (fun V cc W hV => ?_) (fun V cc W hV => ?_)
    · exact (putnum_bad V l cc N u W hV hi (by omega) hR').mono fun e w' ⟨he, hb⟩ => ⟨none, 0, he, Bys.empty _ _, hb⟩
    · exact (putnum_bad_ref V l cc N u W hV hi (by omega) hu hR').mono fun e w' ⟨he, hb⟩ => ⟨none, 0, he, Bys.empty _ _, hb⟩
end Go.Proofs.Ytbeccnkofanppaa
