/- The walk of a law of layer 1: what was put behind right bits is got there, and what stood ahead stands still. -/
import Derived.Test.YtbeccnkofanppaaRefMade
import Derived.Test.YtbeccnkofanppaaBitGetsLaw
namespace Go.Proofs.Ytbeccnkofanppaa
open Go.RowKit
set_option linter.unusedVariables false

theorem get_put {l : List UInt8} {N u n : Nat} (hs : u < 2 ^ n) : getN (putL l N u n) N n = u := by
  refine getN_of_dig hs fun j hj => ?_
  rw [bit_put (by omega)]
  unfold putF
  rw [if_neg (by omega), if_pos (by omega)]
  congr 1
  omega
theorem get_one {l : List UInt8} {i : Nat} : getN l i 1 = bitN l i := by
  show 2 * getN l i 0 + bitN l (i + 0) = _
  simp [getN]

set_option maxHeartbeats 1000000 in
/-- Where the laying down is refused. -/
theorem bitsBack_no (code : Int) (hc : (code != 0) = true) (w : World) (A : Option Addr) (l : List UInt8) (c : Nat) (k : Int) (u : Nat) (n : Int) (hA : Bys w A l) (hr : l.length ≤ 140737488351232) (lo : -9223372036854775808 ≤ k) (hi : k ≤ 9223372036854775807)
    (hp : ∀ (V : Option Addr) (cc : Nat) (W : World), Bys W V (madeL l k) → Calls Try.prog 13 #[.agg #[.slice V (madeL l k).length cc, .int .i64 (madeN l k)], .int .u64 u, .int .i64 n] W fun e w' =>
      e = .returned (.tuple #[.agg #[.slice none 0 0, .int .i64 0], .int .i64 code]) ∧ Below W.heap.size W w') :
    Calls Try.prog 8 #[.slice A l.length c, .int .i64 k, .int .u64 u, .int .i64 n] w fun e w' => e = .returned (.bool true) ∧ Below w.heap.size w w' := by
  have Hp := Lib.hid hp
  clear hp
  go_enter Try.func8, Try.ntmps8
  go_wp2_with fail
  refine (made_ref A l c k _ hA hr lo hi).mono ?_
  rintro e w1 ⟨B, d, rfl, hB, hb1⟩
  have Hp1 := Hp.out B d
  generalize madeL l k = L at *
  generalize madeN l k = K at *
  go_wp2_with fail
  refine (Hp1 _ (hB.alloc _)).mono ?_
  rintro e w2 ⟨rfl, hb2⟩
  have k2 : Below w1.heap.size w1 w2 := below_then (below_one _ _) hb2
  go_wp2_with fail
  refine (lives_true _).mono ?_
  rintro e w3 ⟨rfl, hb3⟩
  go_wp2
  go_ret
  exact ⟨rfl, below_then (below_then hb1 k2) (below_then (below_one _ _) hb3)⟩

set_option maxHeartbeats 1000000 in
/-- Where it is laid down. -/
theorem bitsBack_yes (w : World) (A : Option Addr) (l : List UInt8) (c : Nat) (k : Int) (u n : Nat) (hA : Bys w A l) (hr : l.length ≤ 140737488351232) (lo : -9223372036854775808 ≤ k) (hi : k ≤ 9223372036854775807)
    (hu : u ≤ 18446744073709551615) (hn : n ≤ 64) (hs : u < 2 ^ n) :
    Calls Try.prog 8 #[.slice A l.length c, .int .i64 k, .int .u64 u, .int .i64 n] w fun e w' => e = .returned (.bool true) ∧ Below w.heap.size w w' := by
  have hK : madeN l k ≤ 8 * l.length := by unfold madeN; omega
  have hLl : (madeL l k).length ≤ 140737488355000 := by rw [madeL, length_mk]; omega
  have hright := made_right l k
  have HM := Lib.hid (made_ref A l c k w hA hr lo hi)
  generalize madeL l k = L at *
  generalize madeN l k = K at *
  have hZl : (putL L K u n).length ≤ 140737488356000 := by rw [putL, length_mk]; omega
  have hrz : rightB (putL L K u n) ((K + n : Nat) : Int) = true := right_put
  have HP := Lib.hid (fun (V : Option Addr) (cc : Nat) W hV => put_ok V L cc K n u W hV (by omega) hu hright hn hs)
  have HG := Lib.hid (fun (G : Nat) (cc : Nat) W (hV : Bys W (some ⟨G, 0, none⟩) (putL L K u n)) => by
    have := get_ok (some ⟨G, 0, none⟩) (putL L K u n) cc (K + n) K n W hV (by omega) hrz hn (Nat.le_refl _)
    rw [get_put hs, Int.natCast_add] at this
    exact this)
  have HR := Lib.hid (fun (G : Nat) (cc : Nat) W (hV : Bys W (some ⟨G, 0, none⟩) (putL L K u n)) => by
    have := right_prog (some ⟨G, 0, none⟩) (putL L K u n) cc ((K + n : Nat) : Int) W hV (by omega) (by omega)
    rw [hrz, Int.natCast_add] at this
    exact this)
  have HX := Lib.hid (fun (V : Option Addr) (cc i : Nat) (h : i < K) W (hV : Bys W V L) => by
    have := get_ok V L cc K i 1 W hV (by omega) hright (by omega) (by omega)
    rw [get_one] at this
    exact this)
  have HY := Lib.hid (fun (G : Nat) (cc i : Nat) (h : i < K) W (hV : Bys W (some ⟨G, 0, none⟩) (putL L K u n)) => by
    have := get_ok (some ⟨G, 0, none⟩) (putL L K u n) cc (K + n) i 1 W hV (by omega) hrz (by omega) (by omega)
    rw [get_one, bit_put (by omega), Int.natCast_add] at this
    unfold putF at this
    rw [if_pos h] at this
    exact this)
  clear hright hZl hrz hLl
  generalize putL L K u n = Z at *
  go_enter Try.func8, Try.ntmps8
  go_wp2_with fail
  refine HM.out.mono ?_
  rintro e w1 ⟨B, d, rfl, hB, hb1⟩
  have HX1 := Lib.hid (HX.out B d)
  go_wp2_with fail
  refine (HP.out B d _ (hB.alloc _)).mono ?_
  rintro e w2 ⟨G, rfl, hRz, hb2, hGw⟩
  have k2 : Below w1.heap.size w1 w2 := below_then (below_one _ _) hb2
  have R9 : Row w2 w1.heap.size 24 #[.slice B L.length d, .int .i64 K] := (Row.new w1 _ _).below hb2 (by simp)
  have c90 : ∀ o, (w2.alloc o).cell? ⟨w1.heap.size, 0, none⟩ = some (.slice B L.length d) := fun o => (R9.alloc o).cell 0
  have c91 : ∀ o, (w2.alloc o).cell? ⟨w1.heap.size, 1, none⟩ = some (.int .i64 K) := fun o => (R9.alloc o).cell 1
  have hB2 := hB.below k2
  have hZ2 := hRz.bys
  have H9 := Lib.hid R9
  have HG1 := HG.out G Z.length
  have HR1 := HR.out G Z.length
  have HY1 := Lib.hid (HY.out G Z.length)
  have HGG := Lib.hid HG1
  have HRR := Lib.hid HR1
  clear R9 hb2 HG1 HR1 hRz
  go_wp2_with fail
  refine (HGG.out _ (hZ2.alloc _)).mono ?_
  rintro e w3 ⟨rfl, hb3⟩
  have k3 : Below w2.heap.size w2 w3 := below_then (below_one _ _) hb3
  have R10 : Row w3 w2.heap.size 24 #[.slice (some ⟨G, 0, none⟩) Z.length Z.length, .int .i64 ((K : Int) + n)] := (Row.new w2 _ _).below hb3 (by simp)
  have R93 := H9.out.below k3 H9.out.lt
  have c930 : w3.cell? ⟨w1.heap.size, 0, none⟩ = some (.slice B L.length d) := R93.cell 0
  have c931 : w3.cell? ⟨w1.heap.size, 1, none⟩ = some (.int .i64 K) := R93.cell 1
  have c100 : w3.cell? ⟨w2.heap.size, 0, none⟩ = some (.slice (some ⟨G, 0, none⟩) Z.length Z.length) := R10.cell 0
  have c101 : w3.cell? ⟨w2.heap.size, 1, none⟩ = some (.int .i64 ((K : Int) + n)) := R10.cell 1
  have H93 := Lib.hid R93
  have H10 := Lib.hid R10
  have hZ3 := hZ2.below k3
  have hB3 := hB2.below k3
  have q1 : ((u : Int) != (u : Int)) = false := by simp
  have q2 : ((K : Int) + n != (K : Int) + n) = false := by simp
  clear c90 c91 R93 R10 hb3
  go_wp2_with fail
  refine (HRR.out _ hZ3).mono ?_
  rintro e w4 ⟨rfl, hb4⟩
  have R94 := H93.out.below hb4 H93.out.lt
  have R104 := H10.out.below hb4 H10.out.lt
  have hZ4 := hZ3.below hb4
  have hB4 := hB3.below hb4
  have h1lt := R94.lt
  have h2lt := R104.lt
  have d90 : w4.cell? ⟨w1.heap.size, 0, none⟩ = some (.slice B L.length d) := R94.cell 0
  have d91 : w4.cell? ⟨w1.heap.size, 1, none⟩ = some (.int .i64 K) := R94.cell 1
  have d100 : w4.cell? ⟨w2.heap.size, 0, none⟩ = some (.slice (some ⟨G, 0, none⟩) Z.length Z.length) := R104.cell 0
  have d101 : w4.cell? ⟨w2.heap.size, 1, none⟩ = some (.int .i64 ((K : Int) + n)) := R104.cell 1
  clear c930 c931 c100 c101 R94 R104
  go_wp2_with fail
  go_loopw [14] (fun i wr => ∃ j : Nat, j ≤ K ∧ i = .int .i64 j ∧ Below w4.heap.size w4 wr) (fun i _ => K - (intOf i).toNat)
  case atStart => exact ⟨0, Nat.zero_le _, rfl, Below.refl _ _⟩
  case round =>
    obtain ⟨j, hj, rfl, hbr⟩ := hrel
    have e90 := (hbr.cell (p := ⟨w1.heap.size, 0, none⟩) h1lt).trans d90
    have e91 := (hbr.cell (p := ⟨w1.heap.size, 1, none⟩) h1lt).trans d91
    have e100 := (hbr.cell (p := ⟨w2.heap.size, 0, none⟩) h2lt).trans d100
    have e101 := (hbr.cell (p := ⟨w2.heap.size, 1, none⟩) h2lt).trans d101
    have hZr := hZ4.below hbr
    have hBr := hB4.below hbr
    have hwr := hbr.size
    clear d90 d91 d100 d101
    by_cases hlt : j < K
    · have HXj := Lib.hid (HX1.out j hlt)
      have HYj := Lib.hid (HY1.out j hlt)
      have q3 : ((bitN L j : Int) != (bitN L j : Int)) = false := by simp
      generalize bitN L j = b at *
      go_wp2_with fail
      refine (HXj.out _ hBr).mono ?_
      rintro e w5 ⟨rfl, hb5⟩
      have g100 := (hb5.cell (p := ⟨w2.heap.size, 0, none⟩) (by show w2.heap.size < _; omega)).trans e100
      have g101 := (hb5.cell (p := ⟨w2.heap.size, 1, none⟩) (by show w2.heap.size < _; omega)).trans e101
      clear e90 e91 e100 e101
      go_wp2_with fail
      refine (HYj.out _ (hZr.below hb5)).mono ?_
      rintro e w6 ⟨rfl, hb6⟩
      go_wp2
      go_roundw
      case rel => exact ⟨j + 1, by omega, by go_num, below_then (below_then hbr hb5) hb6⟩
      case measure => simp [intOf]; omega
    · obtain rfl : j = K := by omega
      go_wp2_with fail
      refine (lives_true _).mono ?_
      rintro e w5 ⟨rfl, hb5⟩
      go_wp2
      go_ret
      exact ⟨rfl, below_then (below_then (below_then (below_then (below_then hb1 k2) k3) hb4) hbr) hb5⟩

theorem bitsBack_walk (w : World) (A : Option Addr) (l : List UInt8) (c : Nat) (hA : Bys w A l) (hr : l.length ≤ 140737488351232) (hlc : l.length ≤ c) (k : Int) (bk : -9223372036854775808 ≤ k ∧ k ≤ 9223372036854775807)
    (x : Int) (bx : 0 ≤ x ∧ x ≤ 18446744073709551615) (n : Int) (bn : -9223372036854775808 ≤ n ∧ n ≤ 9223372036854775807) :
    Calls Try.prog 8 #[.slice A l.length c, .int .i64 k, .int .u64 x, .int .i64 n] w fun e w' => e = .returned (.bool true) ∧ Below w.heap.size w w' := by
  obtain ⟨u, rfl⟩ := Int.eq_ofNat_of_zero_le bx.1
  have hu : u ≤ 18446744073709551615 := by omega
  have hK : madeN l k ≤ 8 * l.length := by unfold madeN; omega
  have hLl : (madeL l k).length ≤ 140737488355000 := by rw [madeL, length_mk]; omega
  by_cases h0 : n < 0
  · exact bitsBack_no 2 (by decide) w A l c k u n hA hr bk.1 bk.2 (fun V cc W hV => put_bad V _ cc _ n u W hV (by omega) (by omega) (.inr (.inl h0)))
  · by_cases h64 : 64 < n
    · exact bitsBack_no 2 (by decide) w A l c k u n hA hr bk.1 bk.2 (fun V cc W hV => put_bad V _ cc _ n u W hV (by omega) (by omega) (.inr (.inr h64)))
    · obtain ⟨m, rfl⟩ := Int.eq_ofNat_of_zero_le (show 0 ≤ n by omega)
      by_cases hs : u < 2 ^ m
      · exact bitsBack_yes w A l c k u m hA hr bk.1 bk.2 hu (by omega) hs
      · exact bitsBack_no 3 (by decide) w A l c k u m hA hr bk.1 bk.2 (fun V cc W hV => put_big V _ cc _ m u W hV (by omega) (by omega) hu (made_right l k) (by omega) hs)
end Go.Proofs.Ytbeccnkofanppaa
