/- The walk of a law of layer 1: where a number is read, laying it down gives just the bits that were read. -/
import Derived.Test.YtbeccnkofanppaaBitBackLaw
import Derived.Test.YtbeccnkofanppaaBitRowsMath
namespace Go.Proofs.Ytbeccnkofanppaa
open Go.RowKit
set_option linter.unusedVariables false

theorem gnum_cases (l : List UInt8) (N : Nat) (a : Int) (hr : rightB l (N : Int) = true) :
    (∃ code : Int, (code != 0) = true ∧ gnum l N a = (0, 0, code)) ∨
    (∃ b d : Nat, a = b ∧ d ≤ 64 ∧ b + 7 + d ≤ N ∧ getN l b 7 = d ∧ digs (getN l (b + 7) d) = d ∧ gnum l N a = (getN l (b + 7) d, (b : Int) + 7 + d, 0)) := by
  unfold gnum
  by_cases h1 : rightB l (N : Int) = false ∨ a < 0 ∨ (N : Int) < a
  · rw [if_pos h1]
    exact .inl ⟨2, by decide, rfl⟩
  rw [if_neg h1]
  have ha0 : 0 ≤ a := by
    rcases Int.lt_or_le a 0 with h | h
    · exact absurd (.inr (.inl h)) h1
    · exact h
  obtain ⟨b, rfl⟩ := Int.eq_ofNat_of_zero_le ha0
  rw [Int.toNat_natCast]
  by_cases h2 : (N : Int) - b < 7
  · rw [if_pos h2]
    exact .inl ⟨4, by decide, rfl⟩
  rw [if_neg h2]
  by_cases h3 : 64 < getN l b 7
  · rw [if_pos h3]
    exact .inl ⟨5, by decide, rfl⟩
  rw [if_neg h3]
  by_cases h4 : (N : Int) - (b + 7) < getN l b 7
  · rw [if_pos h4]
    exact .inl ⟨4, by decide, rfl⟩
  rw [if_neg h4]
  by_cases h5 : digs (getN l (b + 7) (getN l b 7)) ≠ getN l b 7
  · rw [if_pos h5]
    exact .inl ⟨5, by decide, rfl⟩
  rw [if_neg h5]
  exact .inr ⟨b, getN l b 7, rfl, by omega, by omega, rfl, by simpa using h5, rfl⟩

theorem one_bits {l : List UInt8} {b d : Nat} (h7 : getN l b 7 = d) (hd : digs (getN l (b + 7) d) = d) (i : Nat) (hi : i < 7 + d) : bitN (numL [] 0 (getN l (b + 7) d)) i = bitN l (b + i) := by
  rw [bit_num (by rw [hd]; omega)]
  by_cases h : i < 7
  · have := numF_len (l := []) (N := 0) (u := getN l (b + 7) d) h
    rw [Nat.zero_add] at this
    rw [this, hd, ← h7]
    exact dig_getN l b 7 i h
  · have := numF_num (l := []) (N := 0) (u := getN l (b + 7) d) (j := i - 7) (by rw [hd]; omega)
    rw [show 0 + 7 + (i - 7) = i from by omega] at this
    rw [this, hd, dig_getN l (b + 7) d (i - 7) (by omega)]
    congr 1
    omega

set_option maxHeartbeats 1000000 in
theorem bitsOne_walk (w : World) (A : Option Addr) (l : List UInt8) (c : Nat) (hA : Bys w A l) (hr : l.length ≤ 140737488351232) (hlc : l.length ≤ c) (k : Int) (bk : -9223372036854775808 ≤ k ∧ k ≤ 9223372036854775807)
    (a : Int) (ba : -9223372036854775808 ≤ a ∧ a ≤ 9223372036854775807) :
    Calls Try.prog 10 #[.slice A l.length c, .int .i64 k, .int .i64 a] w fun e w' => e = .returned (.bool true) ∧ Below w.heap.size w w' := by
  have hK : madeN l k ≤ 8 * l.length := by unfold madeN; omega
  have hLl : (madeL l k).length ≤ 140737488355000 := by rw [madeL, length_mk]; omega
  have hright := made_right l k
  have HM := Lib.hid (made_ref A l c k w hA hr bk.1 bk.2)
  generalize madeL l k = L at *
  generalize madeN l k = K at *
  have HGN := Lib.hid (fun (V : Option Addr) (cc : Nat) W hV => getnum_prog V L cc K a W hV (by omega) (by omega) (by omega))
  rcases gnum_cases L K a hright with ⟨code, hcode, hg⟩ | ⟨b, d, rfl, hd64, hbd, h7, hdd, hg⟩
  · rw [hg] at HGN
    have Hg := Lib.hid hg
    clear hg hright
    go_enter Try.func10, Try.ntmps10
    go_wp2_with fail
    refine HM.out.mono ?_
    rintro e w1 ⟨B, dB, rfl, hB, hb1⟩
    go_wp2_with fail
    refine (HGN.out B dB _ (hB.alloc _)).mono ?_
    rintro e w2 ⟨rfl, hb2⟩
    have k2 : Below w1.heap.size w1 w2 := below_then (below_one _ _) hb2
    go_wp2_with fail
    refine (lives_true _).mono ?_
    rintro e w3 ⟨rfl, hb3⟩
    go_wp2
    go_ret
    exact ⟨rfl, below_then (below_then hb1 k2) hb3⟩
  · rw [hg] at HGN
    have hu := getN_64 L (b + 7) d hd64
    have HOB := Lib.hid (fun i hi => one_bits h7 hdd i hi)
    have hYl : (numL [] 0 (getN L (b + 7) d)).length ≤ 20 := by rw [numL_length, hdd]; omega
    have hry := right_num [] 0 (getN L (b + 7) d)
    rw [hdd, Nat.zero_add] at hry
    have HPN := Lib.hid (fun W => by
      have := putnum_ok none [] 0 0 (getN L (b + 7) d) W (Bys.empty _ _) (by simp) hu (by decide +kernel)
      rw [hdd, show ((0 + (7 + d) : Nat) : Int) = 7 + (d : Int) from by omega] at this
      exact this)
    have HX := Lib.hid (fun (V : Option Addr) (cc i : Nat) (h : i < 7 + d) W (hV : Bys W V L) => by
      have := get_ok V L cc K (b + i) 1 W hV (by omega) hright (by omega) (by omega)
      rw [get_one, Int.natCast_add] at this
      exact this)
    have HY := Lib.hid (fun (G : Nat) (cc i : Nat) (h : i < 7 + d) W (hV : Bys W (some ⟨G, 0, none⟩) (numL [] 0 (getN L (b + 7) d))) => by
      have := get_ok (some ⟨G, 0, none⟩) (numL [] 0 (getN L (b + 7) d)) cc (7 + d) i 1 W hV (by omega) hry (by omega) (by omega)
      rw [get_one, HOB.out i h, show ((7 + d : Nat) : Int) = 7 + (d : Int) from by omega] at this
      exact this)
    clear hry hYl HOB hg hright h7 hdd
    generalize numL [] 0 (getN L (b + 7) d) = Y at *
    generalize getN L (b + 7) d = u at *
    have q1 : ((7 : Int) + d != (b : Int) + 7 + d - b) = false := by rw [bne_eq_false_iff_eq]; omega
    go_enter Try.func10, Try.ntmps10
    go_wp2_with fail
    refine HM.out.mono ?_
    rintro e w1 ⟨B, dB, rfl, hB, hb1⟩
    have HXB := Lib.hid (HX.out B dB)
    go_wp2_with fail
    refine (HGN.out B dB _ (hB.alloc _)).mono ?_
    rintro e w2 ⟨rfl, hb2⟩
    have k2 : Below w1.heap.size w1 w2 := below_then (below_one _ _) hb2
    have R7 : Row w2 w1.heap.size 24 #[.slice B L.length dB, .int .i64 K] := (Row.new w1 _ _).below hb2 (by simp)
    have H7 := Lib.hid R7
    clear R7 hb2
    go_wp2_with fail
    refine (HPN.out _).mono ?_
    rintro e w3 ⟨G, rfl, hRy, hb3, hGw⟩
    have k13 := below_then k2 hb3
    have R73 := H7.out.below hb3 H7.out.lt
    have HYG := Lib.hid (HY.out G Y.length)
    have RA : Row (w3.alloc (.cells #[.slice (some ⟨G, 0, none⟩) Y.length Y.length, .int .i64 ((7 : Int) + d)] 24)) w3.heap.size 24 _ := Row.new w3 _ _
    have RB := R73.alloc (.cells #[.slice (some ⟨G, 0, none⟩) Y.length Y.length, .int .i64 ((7 : Int) + d)] 24)
    have hY4 := (hRy.alloc (.cells #[.slice (some ⟨G, 0, none⟩) Y.length Y.length, .int .i64 ((7 : Int) + d)] 24)).bys
    have hB4 := (hB.below k13).alloc (.cells #[.slice (some ⟨G, 0, none⟩) Y.length Y.length, .int .i64 ((7 : Int) + d)] 24)
    have k14 := below_then k13 (below_one w3 (.cells #[.slice (some ⟨G, 0, none⟩) Y.length Y.length, .int .i64 ((7 : Int) + d)] 24))
    have h1lt := RB.lt
    have h2lt := RA.lt
    go_wp2_with fail
    generalize hw4 : (w3.alloc (.cells #[.slice (some ⟨G, 0, none⟩) Y.length Y.length, .int .i64 ((7 : Int) + d)] 24)) = w4 at *
    have d70 : w4.cell? ⟨w1.heap.size, 0, none⟩ = some (.slice B L.length dB) := RB.cell 0
    have d71 : w4.cell? ⟨w1.heap.size, 1, none⟩ = some (.int .i64 K) := RB.cell 1
    have d110 : w4.cell? ⟨w3.heap.size, 0, none⟩ = some (.slice (some ⟨G, 0, none⟩) Y.length Y.length) := RA.cell 0
    have d111 : w4.cell? ⟨w3.heap.size, 1, none⟩ = some (.int .i64 ((7 : Int) + d)) := RA.cell 1
    clear RA RB R73 hRy hw4
    go_loopw [13] (fun i wr => ∃ j : Nat, j ≤ 7 + d ∧ i = .int .i64 j ∧ Below w4.heap.size w4 wr) (fun i _ => 7 + d - (intOf i).toNat)
    case atStart => exact ⟨0, Nat.zero_le _, rfl, Below.refl _ _⟩
    case round =>
      obtain ⟨j, hj, rfl, hbr⟩ := hrel
      have e70 := (hbr.cell (p := ⟨w1.heap.size, 0, none⟩) h1lt).trans d70
      have e71 := (hbr.cell (p := ⟨w1.heap.size, 1, none⟩) h1lt).trans d71
      have e110 := (hbr.cell (p := ⟨w3.heap.size, 0, none⟩) h2lt).trans d110
      have e111 := (hbr.cell (p := ⟨w3.heap.size, 1, none⟩) h2lt).trans d111
      have hYr := hY4.below hbr
      have hBr := hB4.below hbr
      have hwr := hbr.size
      clear d70 d71 d110 d111
      by_cases hlt : j < 7 + d
      · have HXj := Lib.hid (HXB.out j hlt)
        have HYj := Lib.hid (HYG.out j hlt)
        have q3 : ((bitN L (b + j) : Int) != (bitN L (b + j) : Int)) = false := by simp
        generalize bitN L (b + j) = bt at *
        go_wp2_with fail
        refine (HXj.out _ hBr).mono ?_
        rintro e w5 ⟨rfl, hb5⟩
        have g110 := (hb5.cell (p := ⟨w3.heap.size, 0, none⟩) (by show w3.heap.size < _; omega)).trans e110
        have g111 := (hb5.cell (p := ⟨w3.heap.size, 1, none⟩) (by show w3.heap.size < _; omega)).trans e111
        clear e70 e71 e110 e111
        go_wp2_with fail
        refine (HYj.out _ (hYr.below hb5)).mono ?_
        rintro e w6 ⟨rfl, hb6⟩
        go_wp2
        go_roundw
        case rel => exact ⟨j + 1, by omega, by go_num, below_then (below_then hbr hb5) hb6⟩
        case measure => simp [intOf]; omega
      · go_wp2_with fail
        refine (lives_true _).mono ?_
        rintro e w5 ⟨rfl, hb5⟩
        go_wp2
        go_ret
        exact ⟨rfl, below_then (below_then (below_then hb1 k14) hbr) hb5⟩
end Go.Proofs.Ytbeccnkofanppaa
