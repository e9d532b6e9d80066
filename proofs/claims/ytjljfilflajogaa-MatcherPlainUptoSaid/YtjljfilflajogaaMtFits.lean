/- Whether a matcher fits labels. -/
import Derived.Test.YtjljfilflajogaaMtChk
import Derived.Test.YtjljfilflajogaaMtGet
import Derived.Deep.RegionHeld3
namespace Go.Proofs.Ytjljfilflajogaa
open Go.RowKit
set_option linter.unusedVariables false

set_option maxHeartbeats 2000000 in
theorem mfits_prog (k : Int) (n v : ByteArray) (A : Option Addr) (l : List Lbl) (c : Nat) (w : World) (hA : Lbls w A l) (hl : l.length ≤ 100000000000000) :
    Calls Try.prog 29 #[.agg #[.int .i64 k, .string n, .string v], .slice A l.length c] w fun e w' => e = .returned (.bool (mfits (k, n, v) l)) ∧ Below w.heap.size w w' := by
  have R1 : Row (w.alloc (.cells #[.int .i64 k, .string n, .string v] 39)).drew w.heap.size 39 #[.int .i64 k, .string n, .string v] := Row.new w _ _
  have HB0 := Lib.hid (below_one w (.cells #[.int .i64 k, .string n, .string v] 39)).drew
  have c0 : (w.alloc (.cells #[.int .i64 k, .string n, .string v] 39)).drew.cell? ⟨w.heap.size, 0, none⟩ = some (.int .i64 k) := R1.cell 0
  have c1 : (w.alloc (.cells #[.int .i64 k, .string n, .string v] 39)).drew.cell? ⟨w.heap.size, 1, none⟩ = some (.string n) := R1.cell 1
  have c2 : (w.alloc (.cells #[.int .i64 k, .string n, .string v] 39)).drew.cell? ⟨w.heap.size, 2, none⟩ = some (.string v) := R1.cell 2
  have HR := Lib.hid R1
  have HC := Lib.hid (fun W => mchk_prog k n v W)
  have HG := Lib.hid (fun W (h : Lbls W A l) => get_prog A l c n W h hl)
  have HT := Lib.hid (fun W => takes_prog k n v (valOf l n) W)
  have HA := Lib.hid hA
  clear R1 hA
  by_cases h0 : mchk (k, n, v) = 0
  · have HM := Lib.hid (show mfits (k, n, v) l = mtake (k, n, v) (valOf l n) by unfold mfits; rw [decide_eq_true h0]; rfl)
    rw [HM.out]
    rw [h0] at HC
    generalize mtake (k, n, v) (valOf l n) = b at HT ⊢
    generalize valOf l n = x at HG HT
    clear h0
    go_enter Try.func29, Try.ntmps29
    go_wp2_with fail
    go_region_held3 (fun w' => w'.cell? ⟨w.heap.size, 0, none⟩ = some (.int .i64 k) ∧ w'.cell? ⟨w.heap.size, 1, none⟩ = some (.string n) ∧ w'.cell? ⟨w.heap.size, 2, none⟩ = some (.string v)) (go_keep)
      (first
        | (go_at_call 24; refine (HC.out _).mono ?_; rintro e w1 ⟨rfl, hb1⟩
           have HB1 := Lib.hid (HB0.out.trans (hb1.mono HB0.out.size))
           have HR1 := Lib.hid (HR.out.below hb1 HR.out.lt)
           have d0 : w1.cell? ⟨w.heap.size, 0, none⟩ = some (.int .i64 k) := HR1.out.cell 0
           have d1 : w1.cell? ⟨w.heap.size, 1, none⟩ = some (.string n) := HR1.out.cell 1
           have d2 : w1.cell? ⟨w.heap.size, 2, none⟩ = some (.string v) := HR1.out.cell 2
           clear hb1)
        | (go_at_call 47; refine (HG.out _ (HA.out.below HB1.out)).mono ?_; rintro e w2 ⟨rfl, hb2⟩
           have HB2 := Lib.hid (HB1.out.trans (hb2.mono HB1.out.size))
           have HR2 := Lib.hid (HR1.out.below hb2 HR1.out.lt)
           have e0 : w2.cell? ⟨w.heap.size, 0, none⟩ = some (.int .i64 k) := HR2.out.cell 0
           have e1 : w2.cell? ⟨w.heap.size, 1, none⟩ = some (.string n) := HR2.out.cell 1
           have e2 : w2.cell? ⟨w.heap.size, 2, none⟩ = some (.string v) := HR2.out.cell 2
           clear hb2)
        | (go_at_call 46; refine (HT.out _).mono ?_; rintro e w3 ⟨rfl, hb3⟩
           have HB3 := Lib.hid (HB2.out.trans (hb3.mono HB2.out.size))
           have HR3 := Lib.hid (HR2.out.below hb3 HR2.out.lt)
           have f0 : w3.cell? ⟨w.heap.size, 0, none⟩ = some (.int .i64 k) := HR3.out.cell 0
           have f1 : w3.cell? ⟨w.heap.size, 1, none⟩ = some (.string n) := HR3.out.cell 1
           have f2 : w3.cell? ⟨w.heap.size, 2, none⟩ = some (.string v) := HR3.out.cell 2
           clear hb3))
    all_goals
      go_wp2_with fail
      go_ret
      exact ⟨rfl, HB3.out⟩
  · rw [fits_no h0]
    generalize mchk (k, n, v) = ck at HC h0
    have z0 : (ck == 0) = false := beq_eq_false_iff_ne.2 h0
    clear h0
    go_enter Try.func29, Try.ntmps29
    go_wp2_with fail
    first
      | go_region_with
        ((go_at_call 24; refine (HC.out _).mono ?_; rintro e w1 ⟨rfl, hb1⟩
          have HB1 := Lib.hid (HB0.out.trans (hb1.mono HB0.out.size))
          have HR1 := Lib.hid (HR.out.below hb1 HR.out.lt)
          have d0 : w1.cell? ⟨w.heap.size, 0, none⟩ = some (.int .i64 k) := HR1.out.cell 0
          have d1 : w1.cell? ⟨w.heap.size, 1, none⟩ = some (.string n) := HR1.out.cell 1
          have d2 : w1.cell? ⟨w.heap.size, 2, none⟩ = some (.string v) := HR1.out.cell 2
          clear hb1))
      | fail
    all_goals
      go_wp2_with fail
      go_ret
      exact ⟨rfl, HB1.out⟩
end Go.Proofs.Ytjljfilflajogaa
