/- Bits out of bytes, so many, at most as many as there are: as the document's own 'Made' makes them. -/
import Derived.Test.YtbeccnkofanppaaRefPut
import Derived.Test.YtbeccnkofanppaaRefBit
import Derived.Test.YtbeccnkofanppaaBitPutsLaw
import Derived.Test.YtbeccnkofanppaaBitRowsLaw
namespace Go.Proofs.Ytbeccnkofanppaa
open Go.RowKit
set_option linter.unusedVariables false

theorem own_below {w w' : World} {base : Nat} {v : Value} {x : List UInt8} (h : Own w base v x) (hb : Below w.heap.size w w') : Own w' base v x := by
  refine ⟨h.1, ?_⟩
  rcases h.2 with h2 | ⟨g, cap, cur, hv, hg, hh, r⟩
  · exact .inl h2
  · exact .inr ⟨g, cap, cur, hv, hg, (hb.block g (Row.lt (cs := cur) hh)).trans hh, r⟩
/-- How many. -/
def madeN (l : List UInt8) (n : Int) : Nat := min n.toNat (8 * l.length)
def madeL (l : List UInt8) (n : Int) : List UInt8 := mk ((madeN l n + 7) / 8) (cutF (bitN l) (madeN l n))
theorem made_right (l : List UInt8) (n : Int) : rightB (madeL l n) (madeN l n : Int) = true := by
  refine rightB_iff.2 ⟨by omega, by rw [Int.toNat_natCast, madeL, length_mk], fun i hi => ?_⟩
  rw [Int.toNat_natCast] at hi
  by_cases h : i < 8 * ((madeN l n + 7) / 8)
  · rw [madeL, bitN_mk (cutF_lt (bitN_lt l) _) _ _ h]
    unfold cutF
    rw [if_neg (by omega)]
  · exact bitN_out _ _ (by rw [madeL, length_mk]; omega)

set_option maxHeartbeats 1000000 in
theorem made_ref (A : Option Addr) (l : List UInt8) (c : Nat) (n : Int) (w : World) (hA : Bys w A l) (hl : l.length ≤ 140737488351232) (lo : -9223372036854775808 ≤ n) (hi : n ≤ 9223372036854775807) :
    Calls Try.prog 31 #[.slice A l.length c, .int .i64 n] w fun e w' => ∃ B d,
      e = .returned (.agg #[.slice B (madeL l n).length d, .int .i64 (madeN l n)]) ∧ Bys w' B (madeL l n) ∧ Below w.heap.size w w' := by
  have hcase : (n < 0 ∧ madeN l n = 0) ∨ (0 ≤ n ∧ n ≤ 8 * (l.length : Int) ∧ (madeN l n : Int) = n) ∨ (0 ≤ n ∧ 8 * (l.length : Int) < n ∧ madeN l n = 8 * l.length) := by
    unfold madeN
    omega
  have hK : madeN l n ≤ 8 * l.length := by unfold madeN; omega
  have HL := Lib.hid (show mk ((madeN l n + 7) / 8) (cutF (bitN l) (madeN l n)) = madeL l n from rfl)
  have key : ∀ K : Nat, K = madeN l n → True := fun _ _ => trivial
  clear key
  generalize madeL l n = L at *
  generalize madeN l n = K at *
  rcases hcase with ⟨h1, rfl⟩ | ⟨h1, h2, h3⟩ | ⟨h1, h2, rfl⟩
  · have m1 : max n 0 = 0 := by omega
    have m2 : min (0 : Int) (8 * (l.length : Int)) = 0 := by omega
    go_enter Try.func31, Try.ntmps31
    go_wp2
    go_loopw [5, 6] (fun b i wr => ∃ k : Nat, k ≤ 0 ∧ i = .int .i64 k ∧ Own wr (w.heap.size + 1) b (mk ((k + 7) / 8) (cutF (bitN l) k)) ∧ Below (w.heap.size + 1) (w.alloc (.cells #[.slice none 0 0, .int .i64 0] 24)) wr) (fun _ i _ => 0 - (intOf i).toNat)
    case atStart => exact ⟨0, Nat.zero_le _, rfl, own_nil _ _, Below.refl _ _⟩
    case round =>
      obtain ⟨k, hk, rfl, hob, hbr⟩ := hrel
      have HOB := Lib.hid hob
      clear hob
      have hsr := hbr.size
      simp at hsr
      have hAr := (hA.below (below_one w _)).below (hbr.mono (by simp) : Below (w.alloc (.cells #[.slice none 0 0, .int .i64 0] 24)).heap.size _ wr)
      by_cases hlt : k < 0
      · exact absurd hlt (by omega)
      · obtain rfl : k = 0 := by omega
        have RR := ((Row.new w 24 #[.slice none 0 0, .int .i64 0]).below hbr (by omega))
        have r0 : wr.cell? ⟨w.heap.size, 0, none⟩ = some (.slice none 0 0) := RR.cell 0
        have r1 : wr.cell? ⟨w.heap.size, 1, none⟩ = some (.int .i64 0) := RR.cell 1
        have f0 := RR.frozen 0
        have f1 := RR.frozen 1
        have HR := Lib.hid RR
        clear RR
        obtain ⟨B, dd, rfl, hB, hBb⟩ := own_slice' HOB.out
        have HB := Lib.hid hB
        have HBb := Lib.hid hBb
        clear hB hBb
        rw [HL.out] at HB ⊢
        generalize hln : L.length = ln at *
        have Hln := Lib.hid hln
        clear hln
        go_wp2
        have F1 := (HR.out.setAt 0 (.slice B ln dd)).setAt 1 (.int .i64 (0))
        have O1 := (HB.out.setAway (p := ⟨w.heap.size, 0, none⟩) (fun ad e => by have := HBb.out ad e; show ad.block ≠ w.heap.size; omega) (.slice B ln dd)).setAway (p := ⟨w.heap.size, 1, none⟩) (fun ad e => by have := HBb.out ad e; show ad.block ≠ w.heap.size; omega) (.int .i64 (0))
        have f5 := (((below_one w _).trans (hbr.mono (by omega))).setCell (p := ⟨w.heap.size, 0, none⟩) (Nat.le_refl _) (.slice B ln dd)).setCell (p := ⟨w.heap.size, 1, none⟩) (Nat.le_refl _) (.int .i64 (0))
        generalize hWW : ((wr.setCell ⟨w.heap.size, 0, none⟩ (.slice B ln dd)).setCell ⟨w.heap.size, 1, none⟩ (.int .i64 (0))) = WW at *
        have q0 : WW.cell? ⟨w.heap.size, 0, none⟩ = some (.slice B ln dd) := F1.cell 0
        have q1 : WW.cell? ⟨w.heap.size, 1, none⟩ = some (.int .i64 (0)) := F1.cell 1
        refine bodyPost_ret (v := .agg #[.slice B ln dd, .int .i64 (0)]) (by simp [results, Try.results31, go_sem, q0, q1]) rfl ⟨B, dd, ?_, O1, f5⟩
        rw [Hln.out]
        first | rfl | (congr 4; omega)
  · subst h3
    have m1 : max (K : Int) 0 = (K : Int) := by omega
    have m2 : min (K : Int) (8 * (l.length : Int)) = (K : Int) := by omega
    go_enter Try.func31, Try.ntmps31
    go_wp2
    go_loopw [5, 6] (fun b i wr => ∃ k : Nat, k ≤ K ∧ i = .int .i64 k ∧ Own wr (w.heap.size + 1) b (mk ((k + 7) / 8) (cutF (bitN l) k)) ∧ Below (w.heap.size + 1) (w.alloc (.cells #[.slice none 0 0, .int .i64 0] 24)) wr) (fun _ i _ => K - (intOf i).toNat)
    case atStart => exact ⟨0, Nat.zero_le _, rfl, own_nil _ _, Below.refl _ _⟩
    case round =>
      obtain ⟨k, hk, rfl, hob, hbr⟩ := hrel
      have HOB := Lib.hid hob
      clear hob
      have hsr := hbr.size
      simp at hsr
      have hAr := (hA.below (below_one w _)).below (hbr.mono (by simp) : Below (w.alloc (.cells #[.slice none 0 0, .int .i64 0] 24)).heap.size _ wr)
      by_cases hlt : k < K
      · have HP := Lib.hid (fun W hB hO => refput (bitN l) (bitN_lt l) u5 k (w.heap.size + 1) W (by omega) hB hO)
        have HBi := Lib.hid (bit_ref A l c 0 k wr hAr (by omega) (by omega))
        generalize bitN l k = d at *
        go_wp2_with fail
        refine HBi.out.mono ?_
        rintro e w5 ⟨rfl, hb5⟩
        have hb5' : Below (w.heap.size + 1) wr w5 := hb5.mono (by omega)
        have hO5 : Own w5 (w.heap.size + 1) u5 (mk ((k + 7) / 8) (cutF (bitN l) k)) := own_below HOB.out hb5
        go_wp2_with fail
        refine (HP.out _ (Nat.le_trans (by omega) hb5.size) hO5).mono ?_
        rintro e w6 ⟨v6, rfl, hO6, hb6⟩
        go_wp2
        go_roundw
        case rel => exact ⟨k + 1, by omega, by go_num, hO6, (hbr.trans hb5').trans hb6⟩
        case measure => simp [intOf]; omega
      · obtain rfl : k = K := by omega
        have RR := ((Row.new w 24 #[.slice none 0 0, .int .i64 0]).below hbr (by omega))
        have r0 : wr.cell? ⟨w.heap.size, 0, none⟩ = some (.slice none 0 0) := RR.cell 0
        have r1 : wr.cell? ⟨w.heap.size, 1, none⟩ = some (.int .i64 0) := RR.cell 1
        have f0 := RR.frozen 0
        have f1 := RR.frozen 1
        have HR := Lib.hid RR
        clear RR
        obtain ⟨B, dd, rfl, hB, hBb⟩ := own_slice' HOB.out
        have HB := Lib.hid hB
        have HBb := Lib.hid hBb
        clear hB hBb
        rw [HL.out] at HB ⊢
        generalize hln : L.length = ln at *
        have Hln := Lib.hid hln
        clear hln
        go_wp2
        have F1 := (HR.out.setAt 0 (.slice B ln dd)).setAt 1 (.int .i64 ((k : Int)))
        have O1 := (HB.out.setAway (p := ⟨w.heap.size, 0, none⟩) (fun ad e => by have := HBb.out ad e; show ad.block ≠ w.heap.size; omega) (.slice B ln dd)).setAway (p := ⟨w.heap.size, 1, none⟩) (fun ad e => by have := HBb.out ad e; show ad.block ≠ w.heap.size; omega) (.int .i64 ((k : Int)))
        have f5 := (((below_one w _).trans (hbr.mono (by omega))).setCell (p := ⟨w.heap.size, 0, none⟩) (Nat.le_refl _) (.slice B ln dd)).setCell (p := ⟨w.heap.size, 1, none⟩) (Nat.le_refl _) (.int .i64 ((k : Int)))
        generalize hWW : ((wr.setCell ⟨w.heap.size, 0, none⟩ (.slice B ln dd)).setCell ⟨w.heap.size, 1, none⟩ (.int .i64 ((k : Int)))) = WW at *
        have q0 : WW.cell? ⟨w.heap.size, 0, none⟩ = some (.slice B ln dd) := F1.cell 0
        have q1 : WW.cell? ⟨w.heap.size, 1, none⟩ = some (.int .i64 ((k : Int))) := F1.cell 1
        refine bodyPost_ret (v := .agg #[.slice B ln dd, .int .i64 ((k : Int))]) (by simp [results, Try.results31, go_sem, q0, q1]) rfl ⟨B, dd, ?_, O1, f5⟩
        rw [Hln.out]
  · have m1 : max n 0 = n := by omega
    have m2 : min n (8 * (l.length : Int)) = 8 * (l.length : Int) := by omega
    go_enter Try.func31, Try.ntmps31
    go_wp2
    go_loopw [5, 6] (fun b i wr => ∃ k : Nat, k ≤ (8 * l.length) ∧ i = .int .i64 k ∧ Own wr (w.heap.size + 1) b (mk ((k + 7) / 8) (cutF (bitN l) k)) ∧ Below (w.heap.size + 1) (w.alloc (.cells #[.slice none 0 0, .int .i64 0] 24)) wr) (fun _ i _ => (8 * l.length) - (intOf i).toNat)
    case atStart => exact ⟨0, Nat.zero_le _, rfl, own_nil _ _, Below.refl _ _⟩
    case round =>
      obtain ⟨k, hk, rfl, hob, hbr⟩ := hrel
      have HOB := Lib.hid hob
      clear hob
      have hsr := hbr.size
      simp at hsr
      have hAr := (hA.below (below_one w _)).below (hbr.mono (by simp) : Below (w.alloc (.cells #[.slice none 0 0, .int .i64 0] 24)).heap.size _ wr)
      by_cases hlt : k < (8 * l.length)
      · have HP := Lib.hid (fun W hB hO => refput (bitN l) (bitN_lt l) u5 k (w.heap.size + 1) W (by omega) hB hO)
        have HBi := Lib.hid (bit_ref A l c 0 k wr hAr (by omega) (by omega))
        generalize bitN l k = d at *
        go_wp2_with fail
        refine HBi.out.mono ?_
        rintro e w5 ⟨rfl, hb5⟩
        have hb5' : Below (w.heap.size + 1) wr w5 := hb5.mono (by omega)
        have hO5 : Own w5 (w.heap.size + 1) u5 (mk ((k + 7) / 8) (cutF (bitN l) k)) := own_below HOB.out hb5
        go_wp2_with fail
        refine (HP.out _ (Nat.le_trans (by omega) hb5.size) hO5).mono ?_
        rintro e w6 ⟨v6, rfl, hO6, hb6⟩
        go_wp2
        go_roundw
        case rel => exact ⟨k + 1, by omega, by go_num, hO6, (hbr.trans hb5').trans hb6⟩
        case measure => simp [intOf]; omega
      · obtain rfl : k = (8 * l.length) := by omega
        have RR := ((Row.new w 24 #[.slice none 0 0, .int .i64 0]).below hbr (by omega))
        have r0 : wr.cell? ⟨w.heap.size, 0, none⟩ = some (.slice none 0 0) := RR.cell 0
        have r1 : wr.cell? ⟨w.heap.size, 1, none⟩ = some (.int .i64 0) := RR.cell 1
        have f0 := RR.frozen 0
        have f1 := RR.frozen 1
        have HR := Lib.hid RR
        clear RR
        obtain ⟨B, dd, rfl, hB, hBb⟩ := own_slice' HOB.out
        have HB := Lib.hid hB
        have HBb := Lib.hid hBb
        clear hB hBb
        rw [HL.out] at HB ⊢
        generalize hln : L.length = ln at *
        have Hln := Lib.hid hln
        clear hln
        go_wp2
        have F1 := (HR.out.setAt 0 (.slice B ln dd)).setAt 1 (.int .i64 (8 * (l.length : Int)))
        have O1 := (HB.out.setAway (p := ⟨w.heap.size, 0, none⟩) (fun ad e => by have := HBb.out ad e; show ad.block ≠ w.heap.size; omega) (.slice B ln dd)).setAway (p := ⟨w.heap.size, 1, none⟩) (fun ad e => by have := HBb.out ad e; show ad.block ≠ w.heap.size; omega) (.int .i64 (8 * (l.length : Int)))
        have f5 := (((below_one w _).trans (hbr.mono (by omega))).setCell (p := ⟨w.heap.size, 0, none⟩) (Nat.le_refl _) (.slice B ln dd)).setCell (p := ⟨w.heap.size, 1, none⟩) (Nat.le_refl _) (.int .i64 (8 * (l.length : Int)))
        generalize hWW : ((wr.setCell ⟨w.heap.size, 0, none⟩ (.slice B ln dd)).setCell ⟨w.heap.size, 1, none⟩ (.int .i64 (8 * (l.length : Int)))) = WW at *
        have q0 : WW.cell? ⟨w.heap.size, 0, none⟩ = some (.slice B ln dd) := F1.cell 0
        have q1 : WW.cell? ⟨w.heap.size, 1, none⟩ = some (.int .i64 (8 * (l.length : Int))) := F1.cell 1
        refine bodyPost_ret (v := .agg #[.slice B ln dd, .int .i64 (8 * (l.length : Int))]) (by simp [results, Try.results31, go_sem, q0, q1]) rfl ⟨B, dd, ?_, O1, f5⟩
        rw [Hln.out]
        first | rfl | (congr 4; omega)
end Go.Proofs.Ytbeccnkofanppaa
