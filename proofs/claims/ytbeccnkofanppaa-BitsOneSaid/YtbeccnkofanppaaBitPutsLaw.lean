/- The walk of a law of layer 1: any number is laid down in any number of bits behind any bits as the document says, or refused. -/
import Derived.Test.YtbeccnkofanppaaBitOpen
import Derived.Test.YtbeccnkofanppaaBitLent
import Derived.Test.YtbeccnkofanppaaBitKept
import Derived.Test.YtbeccnkofanppaaRefPuts
namespace Go.Proofs.Ytbeccnkofanppaa
open Go.RowKit
set_option linter.unusedVariables false

theorem same_yes (A B : Option Addr) (l : List UInt8) (c d : Nat) (N : Int) (w : World) (hA : Bys w A l) (hB : Bys w B l) :
    Calls Try.prog 15 #[.agg #[.slice A l.length c, .int .i64 N], .agg #[.slice B l.length d, .int .i64 N]] w fun e w' => e = .returned (.bool true) ∧ Below w.heap.size w w' := by
  have := same_ref A B l l c d N N w hA hB
  rw [show decide (N = N ∧ l = l) = true from by simp] at this
  exact this
theorem Bys.two {w w' : World} {V : Option Addr} {l : List UInt8} {g : Nat} (h : Bys w V l) (k : Two w w' g g) (hV : ∀ ad, V = some ad → ad.block ≠ g) : Bys w' V l := by
  rcases h with rfl | ⟨b, o, rfl, hb, hc⟩
  · exact .inl rfl
  · exact .inr ⟨b, o, rfl, by have := k.size; omega, fun i hi => (k.cell (p := ⟨b, o + i, none⟩) hb (hV ⟨b, o, none⟩ rfl) (hV ⟨b, o, none⟩ rfl)).trans (hc i hi)⟩
theorem Row.two {w w' : World} {r g : Nat} {t : TypeId} {cs : Array Value} (h : Row w r t cs) (k : Two w w' g g) (hr : r ≠ g) : Row w' r t cs := (k.block r h.lt hr hr).trans h
theorem bys_lt {w : World} {V : Option Addr} {l : List UInt8} (h : Bys w V l) (hl : 0 < l.length) : ∀ ad, V = some ad → ad.block < w.heap.size := by
  obtain ⟨b, o, rfl, hb, _⟩ := h.at_ hl
  intro ad e
  injection e with e
  subst e
  exact hb
theorem spoil_nil (w : World) : Calls Try.prog 17 #[.slice none 0 0] w fun e w' => e = .returned (.tuple #[]) ∧ w = w' := by
  go_enter Try.func17, Try.ntmps17
  go_wp2
  go_loop [2] (fun i => i = .int .i64 0) (fun _ => 0)
  case atStart => rfl
  case round =>
    subst hrel
    go_wp2
    go_end0
    exact ⟨rfl, rfl⟩

set_option maxHeartbeats 1000000 in
/-- Where the laying down is refused. -/
theorem bitsPuts_no (code : Int) (w : World) (A : Option Addr) (l : List UInt8) (c : Nat) (N : Int) (u : Nat) (n : Int) (hA : Bys w A l) (hr : l.length ≤ 140737488351232)
    (hp : ∀ (V : Option Addr) (cc : Nat) (W : World), Bys W V l → Calls Try.prog 13 #[.agg #[.slice V l.length cc, .int .i64 N], .int .u64 u, .int .i64 n] W fun e w' =>
      e = .returned (.tuple #[.agg #[.slice none 0 0, .int .i64 0], .int .i64 code]) ∧ Below W.heap.size W w')
    (hq : ∀ (V : Option Addr) (cc : Nat) (W : World), Bys W V l → Calls Try.prog 14 #[.agg #[.slice V l.length cc, .int .i64 N], .int .u64 u, .int .i64 n] W fun e w' =>
      e = .returned (.tuple #[.agg #[.slice none 0 0, .int .i64 0], .int .i64 code]) ∧ Below W.heap.size W w') :
    Calls Try.prog 3 #[.agg #[.slice A l.length c, .int .i64 N], .int .u64 u, .int .i64 n] w fun e w' => e = .returned (.bool true) ∧ Below w.heap.size w w' := by
  have Hp := Lib.hid hp
  have Hq := Lib.hid hq
  clear hp hq
  have hcode : (code != code) = false := by simp
  go_enter Try.func3, Try.ntmps3
  go_wp2_with fail
  refine (lent_law A l c N _ (hA.below (below_one _ _)) hr).mono ?_
  rintro e w1 ⟨G0, cap, rfl, hG, hcap, hmax, hGw, hb1⟩
  have hW1 : Below w.heap.size w w1 := below_then (below_one _ _) hb1
  have RX : Row w1 w.heap.size 24 #[.slice A l.length c, .int .i64 N] := (Row.new w _ _).below hb1 (by simp)
  have hGf := bys_front hG
  have HRX := Lib.hid RX
  have hxlt := RX.lt
  clear RX hb1
  go_wp2_with fail
  refine (Hp.out (some ⟨G0, 0, none⟩) cap _ (hGf.alloc _)).mono ?_
  rintro e w2 ⟨rfl, hb2⟩
  have k2 : Below w1.heap.size w1 w2 := below_then (below_one _ _) hb2
  have R7 : Row w2 w1.heap.size 24 #[.slice (some ⟨G0, 0, none⟩) l.length cap, .int .i64 N] := (Row.new w1 _ _).below hb2 (by simp)
  have c70 : ∀ o, (w2.alloc o).cell? ⟨w1.heap.size, 0, none⟩ = some (.slice (some ⟨G0, 0, none⟩) l.length cap) := fun o => (R7.alloc o).cell 0
  have c71 : ∀ o, (w2.alloc o).cell? ⟨w1.heap.size, 1, none⟩ = some (.int .i64 N) := fun o => (R7.alloc o).cell 1
  have HR7 := Lib.hid R7
  clear R7 hb2
  go_wp2_with fail
  refine (Hp.out (some ⟨G0, 0, none⟩) cap _ ((hGf.below k2).alloc _)).mono ?_
  rintro e w3 ⟨rfl, hb3⟩
  have k3 : Below w2.heap.size w2 w3 := below_then (below_one _ _) hb3
  have k13 := below_then k2 k3
  have R8 : Row w3 w2.heap.size 24 #[.slice none 0 0, .int .i64 0] := (Row.new w2 _ _).below hb3 (by simp)
  have RX3 := HRX.out.below k13 hxlt
  have x30 : ∀ o, (w3.alloc o).cell? ⟨w.heap.size, 0, none⟩ = some (.slice A l.length c) := fun o => (RX3.alloc o).cell 0
  have x31 : ∀ o, (w3.alloc o).cell? ⟨w.heap.size, 1, none⟩ = some (.int .i64 N) := fun o => (RX3.alloc o).cell 1
  have HR8 := Lib.hid R8
  clear R8 hb3 c70 c71 RX3
  go_wp2_with fail
  refine (Hq.out A c _ (((hA.below hW1).below k13).alloc _)).mono ?_
  rintro e w4 ⟨rfl, hb4⟩
  have k4 : Below w3.heap.size w3 w4 := below_then (below_one _ _) hb4
  have k24 := below_then k3 k4
  have k14 := below_then k13 k4
  have R10 : Row w4 w3.heap.size 24 #[.slice none 0 0, .int .i64 0] := (Row.new w3 _ _).below hb4 (by simp)
  have R84 := HR8.out.below k4 HR8.out.lt
  have c80 : ∀ o, (w4.alloc o).cell? ⟨w2.heap.size, 0, none⟩ = some (.slice none 0 0) := fun o => (R84.alloc o).cell 0
  have c81 : ∀ o, (w4.alloc o).cell? ⟨w2.heap.size, 1, none⟩ = some (.int .i64 0) := fun o => (R84.alloc o).cell 1
  have HR10 := Lib.hid R10
  have HR84 := Lib.hid R84
  clear x30 x31 R10 hb4 R84
  go_wp2_with fail
  refine (same_yes none none [] 0 0 0 _ (Bys.empty _ _) (Bys.empty _ _)).mono ?_
  rintro e w5 ⟨rfl, hb5⟩
  have k5 : Below w4.heap.size w4 w5 := below_then (below_one _ _) hb5
  have k15 := below_then k14 k5
  have R12 : Row w5 w4.heap.size 24 #[.slice none 0 0, .int .i64 0] := (Row.new w4 _ _).below hb5 (by simp)
  have RX5 := HRX.out.below k15 hxlt
  have R75 := (HR7.out.below k24 HR7.out.lt).below k5 (by have := HR7.out.lt; have := k24.size; omega)
  have x50 : w5.cell? ⟨w.heap.size, 0, none⟩ = some (.slice A l.length c) := RX5.cell 0
  have x51 : w5.cell? ⟨w.heap.size, 1, none⟩ = some (.int .i64 N) := RX5.cell 1
  have c750 : w5.cell? ⟨w1.heap.size, 0, none⟩ = some (.slice (some ⟨G0, 0, none⟩) l.length cap) := R75.cell 0
  have c751 : w5.cell? ⟨w1.heap.size, 1, none⟩ = some (.int .i64 N) := R75.cell 1
  have HR75 := Lib.hid R75
  have HR12 := Lib.hid R12
  clear c80 c81 R12 hb5 RX5 R75
  go_wp2_with fail
  refine (kept_law A l c G0 cap N _ ((hA.below hW1).below k15) (hG.below k15) hcap hr).mono ?_
  rintro e w6 ⟨rfl, hb6⟩
  have k16 := below_then k15 hb6
  have R86 := (HR84.out.below k5 HR84.out.lt).below hb6 (by have := HR84.out.lt; have := k5.size; omega)
  have c86 : w6.cell? ⟨w2.heap.size, 0, none⟩ = some (.slice none 0 0) := R86.cell 0
  clear x50 x51 c750 c751 R86
  go_wp2_with fail
  refine (spoil_nil w6).mono ?_
  rintro e w7 ⟨rfl, rfl⟩
  have R106 := ((HR10.out.below k5 HR10.out.lt).below hb6 (by have := HR10.out.lt; have := k5.size; omega))
  have R126 := HR12.out.below hb6 HR12.out.lt
  have a0 : w6.cell? ⟨w3.heap.size, 0, none⟩ = some (.slice none 0 0) := R106.cell 0
  have a1 : w6.cell? ⟨w3.heap.size, 1, none⟩ = some (.int .i64 0) := R106.cell 1
  have a2 : w6.cell? ⟨w4.heap.size, 0, none⟩ = some (.slice none 0 0) := R126.cell 0
  have a3 : w6.cell? ⟨w4.heap.size, 1, none⟩ = some (.int .i64 0) := R126.cell 1
  clear c86 R106 R126
  go_wp2_with fail
  refine (same_yes none none [] 0 0 0 _ (Bys.empty _ _) (Bys.empty _ _)).mono ?_
  rintro e w8 ⟨rfl, hb8⟩
  have k18 := below_then k16 hb8
  have RX8 := HRX.out.below k18 hxlt
  have R78 := (HR75.out.below hb6 HR75.out.lt).below hb8 (by have := HR75.out.lt; have := hb6.size; omega)
  have x80 : w8.cell? ⟨w.heap.size, 0, none⟩ = some (.slice A l.length c) := RX8.cell 0
  have x81 : w8.cell? ⟨w.heap.size, 1, none⟩ = some (.int .i64 N) := RX8.cell 1
  have c780 : w8.cell? ⟨w1.heap.size, 0, none⟩ = some (.slice (some ⟨G0, 0, none⟩) l.length cap) := R78.cell 0
  have c781 : w8.cell? ⟨w1.heap.size, 1, none⟩ = some (.int .i64 N) := R78.cell 1
  clear a0 a1 a2 a3 RX8 R78
  go_wp2_with fail
  refine (kept_law A l c G0 cap N _ ((hA.below hW1).below k18) (hG.below k18) hcap hr).mono ?_
  rintro e w9 ⟨rfl, hb9⟩
  go_wp2_with fail
  refine (lives_true w9).mono ?_
  rintro e w10 ⟨rfl, hb10⟩
  go_wp2
  go_ret
  exact ⟨rfl, below_then (below_then (below_then hW1 k18) hb9) hb10⟩

set_option maxHeartbeats 1000000 in
/-- Where it is laid down. -/
theorem bitsPuts_yes (L : List UInt8) (M : Int) (w : World) (A : Option Addr) (l : List UInt8) (c : Nat) (N : Int) (u : Nat) (n : Int) (hA : Bys w A l) (hr : l.length ≤ 140737488351232) (hL : L.length ≤ 281474976710656)
    (hp : ∀ (V : Option Addr) (cc : Nat) (W : World), Bys W V l → Calls Try.prog 13 #[.agg #[.slice V l.length cc, .int .i64 N], .int .u64 u, .int .i64 n] W fun e w' => ∃ G,
      e = .returned (.tuple #[.agg #[.slice (some ⟨G, 0, none⟩) L.length L.length, .int .i64 M], .int .i64 0]) ∧ Row w' G 5 (bcells L) ∧ Below W.heap.size W w' ∧ W.heap.size ≤ G)
    (hq : ∀ (V : Option Addr) (cc : Nat) (W : World), Bys W V l → Calls Try.prog 14 #[.agg #[.slice V l.length cc, .int .i64 N], .int .u64 u, .int .i64 n] W fun e w' => ∃ B dd,
      e = .returned (.tuple #[.agg #[.slice B L.length dd, .int .i64 M], .int .i64 0]) ∧ Bys w' B L ∧ (∀ ad, B = some ad → W.heap.size ≤ ad.block) ∧ Below W.heap.size W w') :
    Calls Try.prog 3 #[.agg #[.slice A l.length c, .int .i64 N], .int .u64 u, .int .i64 n] w fun e w' => e = .returned (.bool true) ∧ Below w.heap.size w w' := by
  have Hp := Lib.hid hp
  have Hq := Lib.hid hq
  clear hp hq
  go_enter Try.func3, Try.ntmps3
  go_wp2_with fail
  refine (lent_law A l c N _ (hA.below (below_one _ _)) hr).mono ?_
  rintro e w1 ⟨G0, cap, rfl, hG, hcap, hmax, hGw, hb1⟩
  have hW1 : Below w.heap.size w w1 := below_then (below_one _ _) hb1
  have RX : Row w1 w.heap.size 24 #[.slice A l.length c, .int .i64 N] := (Row.new w _ _).below hb1 (by simp)
  have hGf := bys_front hG
  have HRX := Lib.hid RX
  have hxlt := RX.lt
  clear RX hb1
  go_wp2_with fail
  refine (Hp.out (some ⟨G0, 0, none⟩) cap _ (hGf.alloc _)).mono ?_
  rintro e w2 ⟨Gy, rfl, hRy, hb2, hGy⟩
  have k2 : Below w1.heap.size w1 w2 := below_then (below_one _ _) hb2
  have hGy1 : w1.heap.size + 1 ≤ Gy := by simpa using hGy
  have R7 : Row w2 w1.heap.size 24 #[.slice (some ⟨G0, 0, none⟩) l.length cap, .int .i64 N] := (Row.new w1 _ _).below hb2 (by simp)
  have c70 : ∀ o, (w2.alloc o).cell? ⟨w1.heap.size, 0, none⟩ = some (.slice (some ⟨G0, 0, none⟩) l.length cap) := fun o => (R7.alloc o).cell 0
  have c71 : ∀ o, (w2.alloc o).cell? ⟨w1.heap.size, 1, none⟩ = some (.int .i64 N) := fun o => (R7.alloc o).cell 1
  have HR7 := Lib.hid R7
  have HRy := Lib.hid hRy
  have hGy2 := hRy.lt
  clear R7 hb2 hRy hGy
  go_wp2_with fail
  refine (Hp.out (some ⟨G0, 0, none⟩) cap _ ((hGf.below k2).alloc _)).mono ?_
  rintro e w3 ⟨Gz, rfl, hRz, hb3, hGz⟩
  have k3 : Below w2.heap.size w2 w3 := below_then (below_one _ _) hb3
  have hGz1 : w2.heap.size + 1 ≤ Gz := by simpa using hGz
  have k13 := below_then k2 k3
  have R8 : Row w3 w2.heap.size 24 #[.slice (some ⟨Gy, 0, none⟩) L.length L.length, .int .i64 M] := (Row.new w2 _ _).below hb3 (by simp)
  have RX3 := HRX.out.below k13 hxlt
  have x30 : ∀ o, (w3.alloc o).cell? ⟨w.heap.size, 0, none⟩ = some (.slice A l.length c) := fun o => (RX3.alloc o).cell 0
  have x31 : ∀ o, (w3.alloc o).cell? ⟨w.heap.size, 1, none⟩ = some (.int .i64 N) := fun o => (RX3.alloc o).cell 1
  have HR8 := Lib.hid R8
  have HRz := Lib.hid hRz
  have hGz2 := hRz.lt
  clear R8 hb3 c70 c71 RX3 hRz hGz
  go_wp2_with fail
  refine (Hq.out A c _ (((hA.below hW1).below k13).alloc _)).mono ?_
  rintro e w4 ⟨B, dd, rfl, hB, hBb, hb4⟩
  have k4 : Below w3.heap.size w3 w4 := below_then (below_one _ _) hb4
  have k24 := below_then k3 k4
  have k14 := below_then k13 k4
  have R10 : Row w4 w3.heap.size 24 #[.slice (some ⟨Gz, 0, none⟩) L.length L.length, .int .i64 M] := (Row.new w3 _ _).below hb4 (by simp)
  have R84 := HR8.out.below k4 HR8.out.lt
  have c80 : ∀ o, (w4.alloc o).cell? ⟨w2.heap.size, 0, none⟩ = some (.slice (some ⟨Gy, 0, none⟩) L.length L.length) := fun o => (R84.alloc o).cell 0
  have c81 : ∀ o, (w4.alloc o).cell? ⟨w2.heap.size, 1, none⟩ = some (.int .i64 M) := fun o => (R84.alloc o).cell 1
  have HR10 := Lib.hid R10
  have HR84 := Lib.hid R84
  have HBb := Lib.hid hBb
  have Ry4 := HRy.out.below k24 hGy2
  clear x30 x31 R10 hb4 R84 hBb
  have hsz3 := k3.size
  have hsz4 := k4.size
  go_wp2_with fail
  refine (same_yes (some ⟨Gy, 0, none⟩) B L L.length dd M _ (Ry4.alloc _).bys (hB.alloc _)).mono ?_
  rintro e w5 ⟨rfl, hb5⟩
  have k5 : Below w4.heap.size w4 w5 := below_then (below_one _ _) hb5
  have k15 := below_then k14 k5
  have R12 : Row w5 w4.heap.size 24 #[.slice B L.length dd, .int .i64 M] := (Row.new w4 _ _).below hb5 (by simp)
  have RX5 := HRX.out.below k15 hxlt
  have R75 := (HR7.out.below k24 HR7.out.lt).below k5 (by have := HR7.out.lt; omega)
  have x50 : w5.cell? ⟨w.heap.size, 0, none⟩ = some (.slice A l.length c) := RX5.cell 0
  have x51 : w5.cell? ⟨w.heap.size, 1, none⟩ = some (.int .i64 N) := RX5.cell 1
  have c750 : w5.cell? ⟨w1.heap.size, 0, none⟩ = some (.slice (some ⟨G0, 0, none⟩) l.length cap) := R75.cell 0
  have c751 : w5.cell? ⟨w1.heap.size, 1, none⟩ = some (.int .i64 N) := R75.cell 1
  have HR75 := Lib.hid R75
  have HR12 := Lib.hid R12
  have HRy4 := Lib.hid Ry4
  clear c80 c81 R12 hb5 RX5 R75 Ry4
  have hsz5 := k5.size
  go_wp2_with fail
  refine (kept_law A l c G0 cap N _ ((hA.below hW1).below k15) (hG.below k15) hcap hr).mono ?_
  rintro e w6 ⟨rfl, hb6⟩
  have k16 := below_then k15 hb6
  have hsz6 := hb6.size
  have R86 := (HR84.out.below k5 HR84.out.lt).below hb6 (by have := HR84.out.lt; omega)
  have c86 : w6.cell? ⟨w2.heap.size, 0, none⟩ = some (.slice (some ⟨Gy, 0, none⟩) L.length L.length) := R86.cell 0
  have Ry6 := (HRy4.out.below k5 (by omega)).below hb6 (by omega)
  have HRy6 := Lib.hid Ry6
  clear x50 x51 c750 c751 R86 Ry6
  go_wp2_with fail
  refine (spoil_law Gy L.length L.length L w6 rfl hL HRy6.out).mono ?_
  rintro e w7 ⟨rfl, h7⟩
  have R106 := (((HR10.out.below k5 HR10.out.lt).below hb6 (by have := HR10.out.lt; omega))).two h7 (by have := HR10.out.lt; omega)
  have R126 := (HR12.out.below hb6 HR12.out.lt).two h7 (by omega)
  have Rz6 : Row w6 Gz 5 (bcells L) := ((HRz.out.below k4 hGz2).below k5 (by omega)).below hb6 (by omega)
  have Rz7 := Rz6.two h7 (by omega)
  have B7 : Bys w7 B L := ((hB.below k5).below hb6).two h7 (fun ad e => by have := HBb.out ad e; simp at this; omega)
  have k17 : Below w1.heap.size w1 w7 := Two.below k16 h7 k16.size (by omega) (by omega)
  have R77 := ((HR75.out.below hb6 HR75.out.lt)).two h7 (by omega)
  have a0 : w7.cell? ⟨w3.heap.size, 0, none⟩ = some (.slice (some ⟨Gz, 0, none⟩) L.length L.length) := R106.cell 0
  have a1 : w7.cell? ⟨w3.heap.size, 1, none⟩ = some (.int .i64 M) := R106.cell 1
  have a2 : w7.cell? ⟨w4.heap.size, 0, none⟩ = some (.slice B L.length dd) := R126.cell 0
  have a3 : w7.cell? ⟨w4.heap.size, 1, none⟩ = some (.int .i64 M) := R126.cell 1
  have HR77 := Lib.hid R77
  have HRz7 := Lib.hid Rz7
  clear c86 R106 R126 Rz6 R77 Rz7
  go_wp2_with fail
  refine (same_yes (some ⟨Gz, 0, none⟩) B L L.length dd M _ HRz7.out.bys B7).mono ?_
  rintro e w8 ⟨rfl, hb8⟩
  have k18 := below_then k17 hb8
  have RX8 := HRX.out.below k18 hxlt
  have R78 := HR77.out.below hb8 HR77.out.lt
  have x80 : w8.cell? ⟨w.heap.size, 0, none⟩ = some (.slice A l.length c) := RX8.cell 0
  have x81 : w8.cell? ⟨w.heap.size, 1, none⟩ = some (.int .i64 N) := RX8.cell 1
  have c780 : w8.cell? ⟨w1.heap.size, 0, none⟩ = some (.slice (some ⟨G0, 0, none⟩) l.length cap) := R78.cell 0
  have c781 : w8.cell? ⟨w1.heap.size, 1, none⟩ = some (.int .i64 N) := R78.cell 1
  clear a0 a1 a2 a3 RX8 R78
  go_wp2_with fail
  refine (kept_law A l c G0 cap N _ ((hA.below hW1).below k18) (hG.below k18) hcap hr).mono ?_
  rintro e w9 ⟨rfl, hb9⟩
  go_wp2_with fail
  refine (lives_true w9).mono ?_
  rintro e w10 ⟨rfl, hb10⟩
  go_wp2
  go_ret
  exact ⟨rfl, below_then (below_then (below_then hW1 k18) hb9) hb10⟩

theorem own_slice' {w : World} {base : Nat} {v : Value} {x : List UInt8} (h : Own w base v x) : ∃ B d, v = .slice B x.length d ∧ Bys w B x ∧ ∀ ad, B = some ad → base ≤ ad.block := by
  rcases h.2 with ⟨rfl, h0⟩ | ⟨g, cap, cur, rfl, hg, _⟩
  · obtain rfl := List.eq_nil_of_length_eq_zero h0
    exact ⟨none, 0, rfl, Bys.empty _ _, fun ad e => by cases e⟩
  · exact ⟨some ⟨g, 0, none⟩, cap, rfl, own_bys h, fun ad e => by injection e with e; subst e; exact hg⟩

theorem bitsPuts_walk (w : World) (A : Option Addr) (l : List UInt8) (c : Nat) (N : Int) (hA : Bys w A l) (hr : l.length ≤ 140737488351232) (hlc : l.length ≤ c) (lo : -9223372036854775808 ≤ N) (hi : N ≤ 9223372036854775807)
    (x : Int) (bx : 0 ≤ x ∧ x ≤ 18446744073709551615) (n : Int) (bn : -9223372036854775808 ≤ n ∧ n ≤ 9223372036854775807) :
    Calls Try.prog 3 #[.agg #[.slice A l.length c, .int .i64 N], .int .u64 x, .int .i64 n] w fun e w' => e = .returned (.bool true) ∧ Below w.heap.size w w' := by
  obtain ⟨u, rfl⟩ := Int.eq_ofNat_of_zero_le bx.1
  have hu : u ≤ 18446744073709551615 := by omega
  by_cases hbad : rightB l N = false ∨ n < 0 ∨ 64 < n
  · exact bitsPuts_no 2 w A l c N u n hA hr (fun V cc W hV => put_bad V l cc N n u W hV hi (by omega) hbad) (fun V cc W hV => put_bad_ref V l cc N n u W hV hi (by omega) hbad)
  · have hR : rightB l N = true := by
      cases h : rightB l N
      · exact absurd (.inl h) hbad
      · rfl
    have hn0 : 0 ≤ n := by
      rcases Int.lt_or_le n 0 with h | h
      · exact absurd (.inr (.inl h)) hbad
      · exact h
    have hn64 : n ≤ 64 := by
      rcases Int.lt_or_le 64 n with h | h
      · exact absurd (.inr (.inr h)) hbad
      · exact h
    have hN0 := (rightB_iff.1 hR).1
    obtain ⟨k, rfl⟩ := Int.eq_ofNat_of_zero_le hn0
    obtain ⟨M, rfl⟩ := Int.eq_ofNat_of_zero_le hN0
    have hlen := (rightB_iff.1 hR).2.1
    rw [Int.toNat_natCast] at hlen
    by_cases hs : u < 2 ^ k
    · refine bitsPuts_yes (putL l M u k) ((M + k : Nat) : Int) w A l c M u k hA hr (by rw [putL, length_mk]; omega) (fun V cc W hV => put_ok V l cc M k u W hV (by omega) hu hR (by omega) hs) (fun V cc W hV => ?_)
      refine (put_ok_ref V l cc M k u W hV (by omega) hu hR (by omega) hs).mono ?_
      rintro e w' ⟨v, rfl, hO, hb⟩
      obtain ⟨B, d, rfl, hB, hBb⟩ := own_slice' hO
      exact ⟨B, d, rfl, hB, fun ad e => Nat.le_trans (by omega) (hBb ad e), hb⟩
    · exact bitsPuts_no 3 w A l c M u k hA hr (fun V cc W hV => put_big V l cc M k u W hV (by omega) (by omega) hu hR (by omega) hs) (fun V cc W hV => put_big_ref V l cc M k u W hV (by omega) (by omega) hu hR (by omega) hs)
end Go.Proofs.Ytbeccnkofanppaa
