/- Seek: the place of the first sample at a time or behind it, by halving. -/
import Derived.Test.YtheaebkegncdlaaChLives
import Derived.Deep.RegionWith
import Derived.BigRegion
namespace Go.Proofs.Ytheaebkegncdlaa
open Go.RowKit Go.Maps
set_option linter.unusedVariables false

/-- k is the place of the first time that is not below t. -/
def IsPlace (l : List Smp) (t : Int) (k : Nat) : Prop := k ≤ l.length ∧ (∀ i, i < k → tOf l i < t) ∧ ∀ i, k ≤ i → i < l.length → t ≤ tOf l i
theorem good_mono {l : List Smp} (h : Good l) {i j : Nat} (hij : i ≤ j) (hj : j < l.length) : tOf l i ≤ tOf l j := by
  induction j with
  | zero => obtain rfl : i = 0 := by omega
            exact Int.le_refl _
  | succ j ih =>
    by_cases e : i = j + 1
    · rw [e]; exact Int.le_refl _
    · have h1 := ih (by omega) (by omega)
      have h2 := (h (j + 1) hj).2 (by omega)
      rw [Nat.add_sub_cancel] at h2
      omega
theorem place_one {l : List Smp} {t : Int} {k m : Nat} (h1 : IsPlace l t k) (h2 : IsPlace l t m) : k = m := by
  obtain ⟨a1, a2, a3⟩ := h1
  obtain ⟨b1, b2, b3⟩ := h2
  rcases Nat.lt_trichotomy k m with h | h | h
  · have := b2 k h
    have := a3 k (Nat.le_refl _) (by omega)
    omega
  · exact h
  · have := a2 m h
    have := b3 m (Nat.le_refl _) (by omega)
    omega

set_option maxHeartbeats 1000000 in
theorem search_prog {w : World} {C D b o : Nat} {l : List Smp} {c : Nat} {t : Int} (hg : Good l) (hl : l.length ≤ 120)
    (hC : w.cell? ⟨C, 0, none⟩ = some (.slice (some ⟨b, o, none⟩) l.length c)) (hD : w.cell? ⟨D, 0, none⟩ = some (.int .i64 t)) (hS : ∀ i, i < l.length → w.cell? ⟨b, o + i * 2, none⟩ = some (.int .i64 (tOf l i))) :
    Calls Try.prog 38 #[.int .i64 (l.length : Int), .func (.func 39) #[] #[.pointer (some ⟨C, 0, none⟩), .pointer (some ⟨D, 0, none⟩)]] w fun e w' => (∃ k : Nat, e = .returned (.int .i64 (k : Int)) ∧ IsPlace l t k) ∧ Below w.heap.size w w' := by
  have HF := Lib.hid (show ∀ (n i : Nat), i < l.length → Calls Try.prog 39 #[.int .i64 (i : Int), .pointer (some ⟨C, 0, none⟩), .pointer (some ⟨D, 0, none⟩)] (w.drewN n) fun e w' => e = .returned (.bool (decide (t ≤ tOf l i))) ∧ w' = w.drewN (n + 1) by
    intro n i hi
    have c1 : (w.drewN n).cell? ⟨C, 0, none⟩ = some (.slice (some ⟨b, o, none⟩) l.length c) := hC
    have c2 : (w.drewN n).cell? ⟨D, 0, none⟩ = some (.int .i64 t) := hD
    have c3 : (w.drewN n).cell? ⟨b, o + i * 2, none⟩ = some (.int .i64 (tOf l i)) := hS i hi
    have hw := Lib.hid (show (w.drewN n).drew = w.drewN (n + 1) from rfl)
    have i1 : (i : Int) < (l.length : Int) := by omega
    generalize tOf l i = T at *
    generalize hwn : w.drewN n = wn at *
    clear hC hD hS hg hwn
    go_enter Try.func39, Try.ntmps39
    go_wp2_with fail
    go_region
    all_goals
      go_wp2_with fail
      go_ret
      exact ⟨rfl, hw.out⟩)
  have HG := Lib.hid hg
  clear hC hD hS hg
  go_enter Try.func38, Try.ntmps38
  go_wp2_with fail
  go_loopw [5, 6] (fun i j wr => ∃ (p q n : Nat), i = .int .i64 (p : Int) ∧ j = .int .i64 (q : Int) ∧ p ≤ q ∧ q ≤ l.length ∧ (∀ k, k < p → tOf l k < t) ∧ (∀ k, q ≤ k → k < l.length → t ≤ tOf l k) ∧ wr = w.drewN n) (fun i j _ => (intOf j).toNat - (intOf i).toNat)
  case atStart => exact ⟨0, l.length, 0, rfl, rfl, Nat.zero_le _, Nat.le_refl _, fun k hk => by omega, fun k h1 h2 => by omega, rfl⟩
  case round =>
    obtain ⟨p, q, n, rfl, rfl, hpq, hq, h1, h2, rfl⟩ := hrel
    have H1 := Lib.hid h1
    have H2 := Lib.hid h2
    clear h1 h2
    by_cases hlt : p < q
    · have i1 : (p : Int) < (q : Int) := by omega
      obtain ⟨h, hh⟩ : ∃ h, (p + q) / 2 = h := ⟨_, rfl⟩
      have hhb : p ≤ h ∧ h < q := by omega
      obtain ⟨s, hs⟩ : ∃ s : Nat, (p : Int) + (q : Int) = (s : Int) := ⟨p + q, by omega⟩
      have hsb : s ≤ 240 := by omega
      have wr1 : (s : Int) / 2 = (h : Int) := by omega
      have HN := HF.out n h (by omega)
      have HHid := Lib.hid hh
      clear hh
      by_cases hle : t ≤ tOf l h
      · rw [decide_eq_true hle] at HN
        have HNN := Lib.hid HN
        have HLE := Lib.hid hle
        clear HN hle
        go_wp2_with fail
        refine HNN.out.mono ?_
        rintro e w2 ⟨rfl, rfl⟩
        go_wp2_with fail
        go_roundw
        case rel => exact ⟨p, h, n + 1, rfl, rfl, hhb.1, by omega, H1.out, fun k k1 k2 => Int.le_trans HLE.out (good_mono HG.out k1 k2), rfl⟩
        case measure => simp [intOf]; omega
      · rw [decide_eq_false hle] at HN
        have HNN := Lib.hid HN
        have HLE := Lib.hid hle
        clear HN hle
        go_wp2_with fail
        refine HNN.out.mono ?_
        rintro e w2 ⟨rfl, rfl⟩
        go_wp2_with fail
        go_roundw
        case rel =>
          refine ⟨h + 1, q, n + 1, by go_num, rfl, by omega, hq, fun k k1 => ?_, H2.out, rfl⟩
          have h3 := good_mono HG.out (show k ≤ h by omega) (by omega)
          have h4 := HLE.out
          omega
        case measure => simp [intOf]; omega
    · obtain rfl : p = q := by omega
      go_wp2_with fail
      go_ret
      exact ⟨⟨p, rfl, hq, H1.out, H2.out⟩, below_drewN' (Below.refl _ _) n⟩

theorem seek_yes {w : World} {A : Option Addr} {b : List UInt8} {c : Nat} {l : List Smp} (t : Int) (hA : Bys w A b) (hl : b.length ≤ 140737488355328) (hc : chk l = 0) (he : encL l = b) :
    Calls Try.prog 22 #[.slice A b.length c, .int .i64 t] w fun e w' => (∃ k : Nat, e = .returned (.tuple #[.int .i64 (k : Int), .int .i64 0]) ∧ IsPlace l t k) ∧ Below w.heap.size w w' := by
  obtain ⟨l0, l120, hg⟩ := chk_zero.1 hc
  have hmf : ∀ (fn : Fn) (first cap : Array Value) (w : World), (Instr.makeFunc fn first cap).run Try.prog w = .ok (.func fn first cap) w := fun _ _ _ _ => rfl
  have hb0 := below_one w (.cells #[.int .i64 t] 3)
  have HX := Lib.hid (show Row (w.alloc (.cells #[.int .i64 t] 3)) w.heap.size 3 #[.int .i64 t] from Row.new w _ _)
  have HD := Lib.hid (decode_yes (c := c) (hA.below hb0) hl hc he)
  have HB0 := Lib.hid hb0
  have HG := Lib.hid hg
  clear hA hc he hb0 hg
  go_enter Try.func22, Try.ntmps22
  go_wp2_with fail
  refine HD.out.mono ?_
  rintro e w1 ⟨v1, rfl, hO1, hb1⟩
  obtain ⟨P1, c1, hv1, _, hS1, _⟩ := owns_slice hO1
  subst hv1
  obtain ⟨bb, oo, rfl, hbb, hcc⟩ := hS1.all l0
  have hX1 := HX.out.below hb1 HX.out.lt
  have hB1 := HB0.out.trans (hb1.mono HB0.out.size)
  have hC : Row (w1.alloc (.cells #[.slice (some ⟨bb, oo, none⟩) l.length c1] 22)) w1.heap.size 22 #[.slice (some ⟨bb, oo, none⟩) l.length c1] := Row.new w1 _ _
  have hX2 := hX1.alloc (.cells #[.slice (some ⟨bb, oo, none⟩) l.length c1] 22)
  have hB2 := hB1.alloc hB1.size (.cells #[.slice (some ⟨bb, oo, none⟩) l.length c1] 22)
  have HSE := Lib.hid (search_prog (t := t) HG.out l120 (hC.cell 0) (hX2.cell 0) (fun i hi => ((below_one w1 (.cells #[.slice (some ⟨bb, oo, none⟩) l.length c1] 22)).cell (p := ⟨bb, oo + i * 2, none⟩) hbb).trans (hcc i hi).1))
  have HB2 := Lib.hid hB2
  clear hO1 hb1 hX1 hS1 hcc hC hX2 hB1 hB2
  go_wp2_with fail
  refine HSE.out.mono ?_
  rintro e w3 ⟨⟨k, rfl, hk⟩, hb3⟩
  have HK := Lib.hid hk
  clear hk
  go_wp2_with fail
  go_ret2
  exact ⟨⟨k, rfl, HK.out⟩, HB2.out.trans (hb3.mono HB2.out.size)⟩
theorem seek_no {w : World} {A : Option Addr} {b : List UInt8} {c : Nat} (t : Int) (hA : Bys w A b) (hl : b.length ≤ 140737488355328) (hno : NoChunk b) :
    Calls Try.prog 22 #[.slice A b.length c, .int .i64 t] w fun e w' => e = .returned (.tuple #[.int .i64 0, .int .i64 5]) ∧ Below w.heap.size w w' := by
  have hb0 := below_one w (.cells #[.int .i64 t] 3)
  have HD := Lib.hid (decode_no (c := c) (hA.below hb0) hl hno)
  clear hA hno
  go_enter Try.func22, Try.ntmps22
  go_wp2_with fail
  refine HD.out.mono ?_
  rintro e w1 ⟨rfl, hb1⟩
  go_wp2_with fail
  go_ret2
  exact ⟨rfl, (hb0.trans (hb1.mono hb0.size)).alloc (Nat.le_trans hb0.size hb1.size) _⟩
end Go.Proofs.Ytheaebkegncdlaa
