/- Append: a chunk with a sample behind, as the program tells it. -/
import Derived.Test.YtheaebkegncdlaaChLives
namespace Go.Proofs.Ytheaebkegncdlaa
open Go.RowKit Go.Maps
set_option linter.unusedVariables false

theorem append_no {w : World} {A : Option Addr} {b : List UInt8} {c : Nat} (t v : Int) (hA : Bys w A b) (hl : b.length ≤ 140737488355328) (hno : NoChunk b) :
    Calls Try.prog 24 #[.slice A b.length c, .agg #[.int .i64 t, .int .i64 v]] w fun e w' => e = .returned (.tuple #[.slice none 0 0, .int .i64 5]) ∧ Below w.heap.size w w' := by
  have hb0 := below_one w (.cells #[.int .i64 t, .int .i64 v] 44)
  have HD := Lib.hid (decode_no (c := c) (hA.below hb0) hl hno)
  clear hA hno
  go_enter Try.func24, Try.ntmps24
  go_wp2_with fail
  refine HD.out.mono ?_
  rintro e w1 ⟨rfl, hb1⟩
  go_wp2_with fail
  go_ret2
  exact ⟨rfl, hb0.trans (hb1.mono hb0.size)⟩
theorem append_full {w : World} {A : Option Addr} {b : List UInt8} {c : Nat} {l : List Smp} (t v : Int) (hA : Bys w A b) (hl : b.length ≤ 140737488355328) (hc : chk l = 0) (he : encL l = b) (hf : l.length = 120) :
    Calls Try.prog 24 #[.slice A b.length c, .agg #[.int .i64 t, .int .i64 v]] w fun e w' => e = .returned (.tuple #[.slice none 0 0, .int .i64 7]) ∧ Below w.heap.size w w' := by
  have hb0 := below_one w (.cells #[.int .i64 t, .int .i64 v] 44)
  have HD := Lib.hid (decode_yes (c := c) (hA.below hb0) hl hc he)
  clear hA hc he
  go_enter Try.func24, Try.ntmps24
  go_wp2_with fail
  refine HD.out.mono ?_
  rintro e w1 ⟨v1, rfl, hO1, hb1⟩
  obtain ⟨P1, c1, hv1, _, hS1, _⟩ := owns_slice hO1
  rw [hf] at hv1
  subst hv1
  go_wp2_with fail
  go_ret2
  exact ⟨rfl, hb0.trans (hb1.mono hb0.size)⟩
set_option maxHeartbeats 1000000 in
theorem append_yes {w : World} {A : Option Addr} {b : List UInt8} {c : Nat} {l : List Smp} (t v : Int) (hA : Bys w A b) (hl : b.length ≤ 140737488355328) (hc : chk l = 0) (he : encL l = b) (hf : ¬ l.length = 120) :
    Calls Try.prog 24 #[.slice A b.length c, .agg #[.int .i64 t, .int .i64 v]] w fun e w' => ∃ u, e = .returned (.tuple #[u, .int .i64 (chk (l ++ [(t, v)]))]) ∧ Own w' w.heap.size u (if chk (l ++ [(t, v)]) = 0 then encL (l ++ [(t, v)]) else []) ∧ Below w.heap.size w w' := by
  have hl120 := (chk_zero.1 hc).2.1
  have hb0 := below_one w (.cells #[.int .i64 t, .int .i64 v] 44)
  have hX : Row (w.alloc (.cells #[.int .i64 t, .int .i64 v] 44)) w.heap.size 44 #[.int .i64 t, .int .i64 v] := Row.new w _ _
  have HD := Lib.hid (decode_yes (c := c) (hA.below hb0) hl hc he)
  have HEP := Lib.hid (fun V cc W hV => encode_prog V (l ++ [(t, v)]) cc W hV (by simp; omega))
  have i1 : ((l.length : Int) == 120) = false := by rw [beq_eq_false_iff_ne]; omega
  generalize (if chk (l ++ [(t, v)]) = 0 then encL (l ++ [(t, v)]) else []) = R at *
  generalize chk (l ++ [(t, v)]) = ck at *
  have HB0 := Lib.hid hb0
  have HX := Lib.hid hX
  clear hA hc he hb0 hX
  go_enter Try.func24, Try.ntmps24
  go_wp2_with fail
  refine HD.out.mono ?_
  rintro e w1 ⟨v1, rfl, hO1, hb1⟩
  obtain ⟨P1, c1, hv1, _, hS1, _⟩ := owns_slice hO1
  subst hv1
  have hX1 := HX.out.below hb1 HX.out.lt
  have x0 : w1.cell? ⟨w.heap.size, 0, none⟩ = some (.int .i64 t) := hX1.cell 0
  have x1 : w1.cell? ⟨w.heap.size, 1, none⟩ = some (.int .i64 v) := hX1.cell 1
  have hs1 : w.heap.size + 1 ≤ w1.heap.size := by have := hb1.size; simpa using this
  have HB1 := Lib.hid (HB0.out.trans (hb1.mono HB0.out.size))
  have HO2 := Lib.hid (owns_below hO1 (below_one w1 (.cells #[.int .i64 t, .int .i64 v] 44)))
  have HS2 := Lib.hid (smps_cell (Row.new w1 44 #[.int .i64 t, .int .i64 v]))
  have HL2 := Lib.hid (show (l.length + [(t, v)].length) * 16 ≤ 140737488355328 by simp; omega)
  have HB2 := Lib.hid (HB1.out.alloc HB1.out.size (.cells #[.int .i64 t, .int .i64 v] 44))
  have hs2 : (w.alloc (.cells #[.int .i64 t, .int .i64 v] 44)).heap.size ≤ (w1.alloc (.cells #[.int .i64 t, .int .i64 v] 44)).heap.size := by simp; omega
  clear hO1 hb1 hX1 hS1
  go_wp2_with (at_builtin; refine app_smps rfl (.tmp 19) (.tmp 21) rfl _ (.slice P1 l.length c1) l rfl HO2.out (some ⟨w1.heap.size, 0, none⟩) [(t, v)] 1 rfl HS2.out HL2.out hs2 ?_; intro v7 w7 hO7 hb7 _; have HO7 := Lib.hid hO7; have HB7 := Lib.hid (HB2.out.trans (hb7.mono HB0.out.size)); obtain ⟨P7, c7, hv7, _, hS7, _⟩ := owns_slice hO7; have HC := Lib.hid (HEP.out P7 c7 _ hS7); generalize hl7 : (l ++ [(t, v)]).length = l7 at hv7 HC; subst hv7; clear hl7 hO7 hb7 hS7 HEP)
  refine HC.out.mono ?_
  rintro e w8 ⟨u, rfl, hU, hb8⟩
  obtain ⟨P8, c8, hv8, _, _⟩ := own_slice' hU
  have HU := Lib.hid (own_lower hU HB7.out.size)
  have HB8 := Lib.hid (HB7.out.trans (hb8.mono HB7.out.size))
  generalize R.length = rl at hv8
  subst hv8
  clear hU hb8
  go_wp2_with fail
  go_ret2
  exact ⟨_, rfl, HU.out, HB8.out⟩
end Go.Proofs.Ytheaebkegncdlaa
