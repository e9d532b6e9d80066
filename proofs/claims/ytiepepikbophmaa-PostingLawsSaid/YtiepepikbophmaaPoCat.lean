/- Two rows of bytes in one new one: slices.Grow of nothing, slices.Concat of two. -/
import Derived.Test.YtiepepikbophmaaPoOps
import Derived.Test.YtiepepikbophmaaFrPutUintG
import Derived.Lib.AppendZeros
namespace Go.Proofs.Ytiepepikbophmaa
open Go.RowKit Go.Maps
set_option linter.unusedVariables false

theorem grow_prog (n : Nat) (w : World) (h0 : 0 < n) (hn : n ≤ 211106232532992) :
    Calls Try.prog 88 #[.slice none 0 0, .int .i64 n] w fun e w' => ∃ v, e = .returned v ∧ Own w' w.heap.size v [] ∧ Below w.heap.size w w' := by
  obtain ⟨i0, hi, hz0, hz1, hz2⟩ := info_parts u8_info
  have hr := Go.Lib.run_append_nil_zeros (P := Try.prog) w 35 3 35 5 i0 (.int .u8 0) .i64 .i64 Try.underlying35 Try.underlying3 hi hz0 n h0 (by omega) (by omega) (by rw [hz2]; omega)
  have HG := Lib.hid (grownCap_ge w n 0 5)
  have HM := Lib.hid (grownCap_le_maxLen w n 0 5 (by simp only [maxLen]; omega))
  have HR := Lib.hid hr
  have i1 : decide ((n : Int) < 0) = false := by simp
  have i2 : decide ((0 : Int) < (n : Int)) = true := by simp; omega
  have i3 : IntKind.i64.wrap (n : Int) = n := IntWalk.i64_in _ (by omega)
  clear hr hi hz0 hz1 hz2
  go_enter Try.func88, Try.ntmps88
  go_wp2_with (at_builtin; refine Go.Lib.wpList_append_run _ rfl (.tmp 20) (.tmp 21) 35 3 rfl _ _ rfl rfl _ _ HR.out ?_)
  go_ret
  refine ⟨_, rfl, ⟨by simp [bcells], .inr ⟨w.heap.size, _, _, rfl, Nat.le_refl _, heap_alloc_new w.drew _, Nat.zero_le _, HM.out, ?_, by simp [bcells]⟩⟩, ((Below.refl _ _).drew.alloc (Nat.le_refl _) _)⟩
  have := HG.out
  simp only [Array.size_append, size_zeroCells]
  simp
  omega
theorem concat_prog (g : Nat) (A B : Option Addr) (x y : List UInt8) (c d : Nat) (w : World) (hg : Row w g 35 #[.slice A x.length c, .slice B y.length d]) (hA : Bys w A x) (hB : Bys w B y) (hx : x.length ≤ 140737488351300) (hy : 0 < y.length) (hy2 : y.length ≤ 20000) :
    Calls Try.prog 63 #[.slice (some ⟨g, 0, none⟩) 2 2] w fun e w' => ∃ v, e = .returned v ∧ Own w' w.heap.size v (x ++ y) ∧ Below w.heap.size w w' := by
  have HG := Lib.hid hg
  have HA := Lib.hid hA
  have HB := Lib.hid hB
  have c0 : w.cell? ⟨g, 0, none⟩ = some (.slice A x.length c) := hg.cell 0
  have c1 : w.cell? ⟨g, 1, none⟩ = some (.slice B y.length d) := hg.cell 1
  have hgl := hg.lt
  clear hg hA hB
  go_enter Try.func63, Try.ntmps63
  go_wp2_with fail
  go_loop [11, 3] (fun i u => (i = .int .i64 0 ∧ u = .int .i64 0) ∨ (i = .int .i64 1 ∧ u = .int .i64 x.length) ∨ (i = .int .i64 2 ∧ u = .int .i64 (x.length + y.length : Nat))) (fun i _ => 2 - (intOf i).toNat)
  case atStart => exact .inl ⟨rfl, rfl⟩
  case round =>
    rcases hrel with ⟨rfl, rfl⟩ | ⟨rfl, rfl⟩ | ⟨rfl, rfl⟩
    · have i1 : decide ((x.length : Int) < 0) = false := by simp
      have i2 : IntKind.i64.wrap (x.length : Int) = x.length := IntWalk.i64_in _ (by omega)
      go_wp2_with fail
      exact ⟨by simp, by simp [intOf]⟩
    · have i2 : IntKind.i64.wrap ((x.length : Int) + (y.length : Int)) = (x.length : Int) + (y.length : Int) := IntWalk.i64_in _ (by omega)
      have i1 : decide ((x.length : Int) + (y.length : Int) < 0) = false := by simp; omega
      go_wp2_with fail
      exact ⟨by simp, by simp [intOf]⟩
    · have HGR := Lib.hid (grow_prog (x.length + y.length) w (by omega) (by omega))
      have HC := Lib.hid (fun W (h : Below w.heap.size w W) => (show W.cell? ⟨g, 0, none⟩ = some (.slice A x.length c) ∧ W.cell? ⟨g, 1, none⟩ = some (.slice B y.length d) from ⟨(h.cell hgl).trans c0, (h.cell hgl).trans c1⟩))
      go_wp2_with (first | (go_at_call 88; refine HGR.out.mono ?_; rintro e w1 ⟨v1, rfl, ho1, hb1⟩; have HO1 := Lib.hid ho1; have HB1 := Lib.hid hb1; clear ho1 hb1))
      clear c0 c1
      go_loopw [27, 6] (fun i u wr => ((i = .int .i64 0 ∧ Own wr w.heap.size u []) ∨ (i = .int .i64 1 ∧ Own wr w.heap.size u x) ∨ (i = .int .i64 2 ∧ Own wr w.heap.size u (x ++ y))) ∧ Below w.heap.size w wr) (fun i _ _ => 2 - (intOf i).toNat)
      case atStart => exact ⟨.inl ⟨rfl, HO1.out⟩, HB1.out⟩
      case round =>
        obtain ⟨hrel, hbr⟩ := hrel
        have HBR := Lib.hid hbr
        obtain ⟨q0, q1⟩ := HC.out _ hbr
        clear hbr
        rcases hrel with ⟨rfl, ho⟩ | ⟨rfl, ho⟩ | ⟨rfl, ho⟩
        · have HO := Lib.hid ho
          clear ho
          go_wp2_with (at_builtin; refine app_u8 rfl (.tmp 31) (.tmp 32) rfl w.heap.size _ [] rfl HO.out A x c rfl (HA.out.below HBR.out) (by simp only [List.length_nil]; omega) HBR.out.size ?_; intro v2 w2 hown2 hb2 _; have HO2 := Lib.hid hown2; have HB2 := Lib.hid (HBR.out.trans hb2); clear hown2 hb2)
          go_roundw
          case rel => exact ⟨.inr (.inl ⟨rfl, by simpa using HO2.out⟩), HB2.out⟩
          case measure => simp [intOf]
        · have HO := Lib.hid ho
          clear ho
          go_wp2_with (at_builtin; refine app_u8 rfl (.tmp 31) (.tmp 32) rfl w.heap.size _ x rfl HO.out B y d rfl (HB.out.below HBR.out) (by omega) HBR.out.size ?_; intro v2 w2 hown2 hb2 _; have HO2 := Lib.hid hown2; have HB2 := Lib.hid (HBR.out.trans hb2); clear hown2 hb2)
          go_roundw
          case rel => exact ⟨.inr (.inr ⟨rfl, HO2.out⟩), HB2.out⟩
          case measure => simp [intOf]
        · go_wp2_with fail
          go_ret
          exact ⟨_, rfl, ho, HBR.out⟩

end Go.Proofs.Ytiepepikbophmaa
