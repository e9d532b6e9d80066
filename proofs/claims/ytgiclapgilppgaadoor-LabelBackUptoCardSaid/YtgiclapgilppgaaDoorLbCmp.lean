/- Two labels, two sets of labels: how they stand to one another, as the program and as the document's own answer tell it. -/
import Derived.Test.YtgiclapgilppgaaDoorLbOrd
import Derived.Test.YtgiclapgilppgaaDoorLbRows
import Derived.Test.YtgiclapgilppgaaDoorLbCheckRef
import Derived.Test.YtgiclapgilppgaaDoorShelf
import Derived.Deep.RegionWith
import Derived.Deep.RegionHeld3
import Derived.Deep.Cut
namespace Go.Proofs.YtgiclapgilppgaaDoor
open Go.RowKit
set_option linter.unusedVariables false

theorem text_cmp (a b : ByteArray) (w : World) : Calls Tryd.prog 46 #[.string a, .string b] w fun e w' => e = .returned (.int .i64 (cmpB a b)) ∧ w = w' := by
  have h1 := less_cmp a b
  have h2 := eq_cmp a b
  rcases cmpB_cmp.rng a b with h | h | h
  all_goals
    rw [h] at h1 h2 ⊢
    simp only [Int.reduceNeg, Int.reduceEq, decide_true, decide_false] at h1 h2
    clear h
    go_enter Tryd.func46, Tryd.ntmps46
    go_wp2
    go_ret
    exact ⟨rfl, rfl⟩
theorem or_prog (g : Nat) (c1 c2 : Int) (w : World) (hr : Row w g 3 #[.int .i64 c1, .int .i64 c2]) (v : Int) (hv : v = if c1 ≠ 0 then c1 else c2) :
    Calls Tryd.prog 44 #[.slice (some ⟨g, 0, none⟩) 2 2] w fun e w' => e = .returned (.int .i64 v) ∧ w = w' := by
  have HV := Lib.hid hv
  clear hv
  have H1 : Hid (w.cell? ⟨g, 0, none⟩ = some (.int .i64 c1)) := Lib.hid (hr.cell 0)
  have H2 : Hid (w.cell? ⟨g, 1, none⟩ = some (.int .i64 c2)) := Lib.hid (hr.cell 1)
  clear hr
  go_enter Tryd.func44, Tryd.ntmps44
  go_wp2_with fail
  go_loop [8] (fun i => (i = .int .i64 0) ∨ (i = .int .i64 1 ∧ c1 = 0) ∨ (i = .int .i64 2 ∧ c1 = 0 ∧ c2 = 0)) (fun i => 2 - (intOf i).toNat)
  case atStart => exact .inl rfl
  case round =>
    rcases hrel with rfl | ⟨rfl, rfl⟩ | ⟨rfl, rfl, rfl⟩
    · have h1 := H1.out
      by_cases h0 : c1 = 0
      · subst h0
        go_wp2_with fail
        exact ⟨by simp, by simp [intOf]⟩
      · have i1 : (c1 != 0) = true := bne_iff_ne.2 h0
        have i2 : (c1 == 0) = false := beq_eq_false_iff_ne.2 h0
        rw [if_pos h0] at HV
        clear h0
        go_wp2_with fail
        go_ret
        exact ⟨ret_int HV.out.symm, rfl⟩
    · have h2 := H2.out
      rw [if_neg (by simp)] at HV
      by_cases h0 : c2 = 0
      · subst h0
        go_wp2_with fail
        exact ⟨by simp, by simp [intOf]⟩
      · have i1 : (c2 != 0) = true := bne_iff_ne.2 h0
        have i2 : (c2 == 0) = false := beq_eq_false_iff_ne.2 h0
        clear h0
        go_wp2_with fail
        go_ret
        exact ⟨ret_int HV.out.symm, rfl⟩
    · go_wp2_with fail
      go_ret
      exact ⟨ret_int HV.out.symm, rfl⟩
theorem str_cmp (a b : ByteArray) (w : World) : Calls Tryd.prog 45 #[.string a, .string b] w fun e w' => e = .returned (.int .i64 (cmpB a b)) ∧ w' = w := by
  have := Tryd.strings_Compare a b w
  rw [compare_lex] at this
  exact this
set_option maxHeartbeats 1000000 in
theorem cmp_lbl (x y : Lbl) (w : World) : Calls Tryd.prog 43 #[.agg #[.string x.1, .string x.2], .agg #[.string y.1, .string y.2]] w fun e w' => e = .returned (.int .i64 (cmpLbl x y)) ∧ Below w.heap.size w w' := by
  have HV := Lib.hid (show cmpLbl x y = if cmpB x.1 y.1 ≠ 0 then cmpB x.1 y.1 else cmpB x.2 y.2 from rfl)
  obtain ⟨z, hz⟩ : ∃ z, (w.alloc (.cells #[.string x.1, .string x.2] 58)).alloc (.cells #[.string y.1, .string y.2] 58) = z := ⟨_, rfl⟩
  have hx : Row z w.heap.size 58 #[.string x.1, .string x.2] := by rw [← hz]; exact (Row.new w _ _).alloc _
  have hy : Row z (w.heap.size + 1) 58 #[.string y.1, .string y.2] := by rw [← hz]; exact row_at w _ _ _
  have hb : Below w.heap.size w z := by rw [← hz]; exact (below_one w _).alloc (by simp) _
  have HR : Hid (Row ((z.alloc (.cells #[.int .i64 (cmpB x.1 y.1), .int .i64 (cmpB x.2 y.2)] 3)).drew) z.heap.size 3 #[.int .i64 (cmpB x.1 y.1), .int .i64 (cmpB x.2 y.2)]) := Lib.hid (Row.new z _ _)
  have HB : Hid (∀ o, Below w.heap.size w ((z.alloc o).drew)) := Lib.hid (fun o => (hb.alloc hb.size o).drew)
  have HZ := Lib.hid hz
  have x0 : z.cell? ⟨w.heap.size, 0, none⟩ = some (.string x.1) := hx.cell 0
  have x1 : z.cell? ⟨w.heap.size, 1, none⟩ = some (.string x.2) := hx.cell 1
  have y0 : z.cell? ⟨w.heap.size + 1, 0, none⟩ = some (.string y.1) := hy.cell 0
  have y1 : z.cell? ⟨w.heap.size + 1, 1, none⟩ = some (.string y.2) := hy.cell 1
  clear hz hx hy hb
  go_enter Tryd.func43, Tryd.ntmps43
  go_upto_region 1 with fail
  rw [HZ.out]
  go_region_held3 (fun w' => w'.cell? ⟨w.heap.size, 0, none⟩ = some (.string x.1) ∧ w'.cell? ⟨w.heap.size, 1, none⟩ = some (.string x.2) ∧ w'.cell? ⟨w.heap.size + 1, 0, none⟩ = some (.string y.1) ∧ w'.cell? ⟨w.heap.size + 1, 1, none⟩ = some (.string y.2))
    (first | exact ⟨x0, x1, y0, y1⟩ | exact x0 | exact x1 | exact y0 | exact y1 | go_keep)
    (first
      | (go_at_call 45; refine (str_cmp _ _ _).mono ?_; rintro e w1 ⟨rfl, hw1⟩; subst hw1)
      | (go_at_call 44; refine (or_prog _ _ _ _ HR.out _ HV.out).mono ?_; rintro e w2 ⟨rfl, hw2⟩; subst hw2))
  all_goals
    go_wp2_with fail
    go_ret
    exact ⟨rfl, HB.out _⟩
end Go.Proofs.YtgiclapgilppgaaDoor
