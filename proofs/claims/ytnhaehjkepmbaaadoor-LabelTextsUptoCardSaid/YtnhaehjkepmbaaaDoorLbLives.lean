/- The chapter's examples, as every law asks them: they live. -/
import Derived.Test.YtnhaehjkepmbaaaDoorLbPrint
import Derived.Test.YtnhaehjkepmbaaaDoorLbCheck
namespace Go.Proofs.YtnhaehjkepmbaaaDoor
open Go.RowKit Go.Maps
set_option linter.unusedVariables false

theorem trim_empty (w : World) : Calls Tryd.prog 17 #[.string ⟨#[123, 125]⟩, .string ⟨#[123]⟩] w fun e w' => e = .returned (.string ⟨#[125]⟩) ∧ w = w' := by
  have t1 : ((({ data := #[123, 125] } : ByteArray).extract 0 1).toList == [123]) = true := by decide +kernel
  have t2 : (({ data := #[123, 125] } : ByteArray).extract 1 2) = ⟨#[125]⟩ := by decide +kernel
  go_enter Tryd.func17, Tryd.ntmps17
  go_wp2
  go_ret
  exact ⟨rfl, rfl⟩
theorem index_empty (w : World) : Calls Tryd.prog 30 #[.string ⟨#[125]⟩, .string ⟨#[61, 34]⟩] w fun e w' => e = .returned (.int .i64 (-1)) ∧ w = w' := by
  go_enter Tryd.func30, Tryd.ntmps30
  go_wp2
  go_ret
  exact ⟨by simp, rfl⟩
theorem scut_empty (w : World) : Calls Tryd.prog 25 #[.string ⟨#[125]⟩, .string ⟨#[61, 34]⟩] w fun e w' => e = .returned (.tuple #[.string ⟨#[125]⟩, .string ⟨#[]⟩, .bool false]) ∧ w = w' := by
  go_enter Tryd.func25, Tryd.ntmps25
  go_wp2_with (first
    | (go_at_call 30; refine (index_empty _).mono ?_; rintro e w1 ⟨rfl, rfl⟩))
  go_ret3
  exact ⟨rfl, rfl⟩
theorem cut_empty (w : World) : Calls Tryd.prog 18 #[.string ⟨#[125]⟩, .string ⟨#[61, 34]⟩] w fun e w' => e = .returned (.tuple #[.string ⟨#[125]⟩, .string ⟨#[]⟩, .bool false]) ∧ w = w' := by
  go_enter Tryd.func18, Tryd.ntmps18
  go_wp2_with (first
    | (go_at_call 25; refine (scut_empty _).mono ?_; rintro e w1 ⟨rfl, rfl⟩))
  go_ret3
  exact ⟨rfl, rfl⟩
theorem guess_empty (w : World) : Calls Tryd.prog 10 #[.string ⟨#[123, 125]⟩] w fun e w' => e = .returned (.slice none 0 0) ∧ w = w' := by
  go_enter Tryd.func10, Tryd.ntmps10
  go_wp2_with (first
    | (go_at_call 17; refine (trim_empty _).mono ?_; rintro e w1 ⟨rfl, rfl⟩))
  go_loop [4, 3] (fun i u => i = .string ⟨#[125]⟩ ∧ u = .slice none 0 0) (fun _ _ => 0)
  case atStart => exact ⟨rfl, rfl⟩
  case round =>
    obtain ⟨rfl, rfl⟩ := hrel
    go_wp2_with (first
      | (go_at_call 18; refine (cut_empty _).mono ?_; rintro e w1 ⟨rfl, rfl⟩))
    go_ret
    exact ⟨rfl, rfl⟩
theorem parse_empty (w : World) : Calls Tryd.prog 4 #[.string ⟨#[123, 125]⟩] w fun e w' => e = .returned (.tuple #[.slice none 0 0, .int .i64 0]) ∧ Below w.heap.size w w' := by
  have HC := Lib.hid (lbchk_prog none [] 0 w (Lbls.nil _ _) (by simp))
  have HP := Lib.hid (fun W => print_prog none [] 0 W (Lbls.nil _ _) (by simp) (by decide))
  have hp : printL [] = [123, 125] := rfl
  have hq : ((txt [123, 125]).toList == [123, 125]) = true := by decide +kernel
  rw [hp] at HP
  rw [show lbChk [] = 0 from rfl] at HC
  go_enter Tryd.func4, Tryd.ntmps4
  go_wp2_with (first
    | (go_at_call 10; refine (guess_empty _).mono ?_; rintro e w1 ⟨rfl, rfl⟩)
    | (go_at_call 11; refine HC.out.mono ?_; rintro e w2 ⟨rfl, hb2⟩)
    | (go_at_call 6; refine (HP.out _).mono ?_; rintro e w3 ⟨rfl, hb3⟩))
  go_ret2
  exact ⟨rfl, hb2.trans (hb3.mono hb2.size)⟩
def exL : List Lbl := [(⟨#[97]⟩, ⟨#[120]⟩), (⟨#[98]⟩, ⟨#[34, 92]⟩)]
theorem lives_true (w : World) : Calls Tryd.prog 9 #[] w fun e w' => e = .returned (.bool true) ∧ Below w.heap.size w w' := by
  have hb1 := below_one w (.cells #[.string ⟨#[97]⟩, .string ⟨#[120]⟩, .string ⟨#[98]⟩, .string ⟨#[34, 92]⟩] 37)
  have hL : Lbls (w.alloc (.cells #[.string ⟨#[97]⟩, .string ⟨#[120]⟩, .string ⟨#[98]⟩, .string ⟨#[34, 92]⟩] 37)) (some ⟨w.heap.size, 0, none⟩) exL := At.row (Row.new w _ _)
  have HB1 := Lib.hid hb1
  have HL := Lib.hid hL
  have hp : printL exL = [123, 97, 61, 34, 120, 34, 44, 32, 98, 61, 34, 92, 34, 92, 92, 34, 125] := by decide +kernel
  have hk : lbChk exL = 0 := by decide +kernel
  have hq : ((txt [123, 97, 61, 34, 120, 34, 44, 32, 98, 61, 34, 92, 34, 92, 92, 34, 125]).toList == [123, 97, 61, 34, 120, 34, 44, 32, 98, 61, 34, 92, 34, 92, 92, 34, 125]) = true := by decide +kernel
  have HP := Lib.hid (fun W (h : Lbls W (some ⟨w.heap.size, 0, none⟩) exL) => print_prog (some ⟨w.heap.size, 0, none⟩) exL 2 W h (by decide) (by decide))
  have HC := Lib.hid (fun W (h : Lbls W (some ⟨w.heap.size, 0, none⟩) exL) => lbchk_prog (some ⟨w.heap.size, 0, none⟩) exL 2 W h (by decide))
  rw [hp] at HP
  rw [hk] at HC
  clear hb1 hL hp hk
  go_enter Tryd.func9, Tryd.ntmps9
  go_wp2_with (first
    | (go_at_call 4; refine (parse_empty _).mono ?_; rintro e w1 ⟨rfl, hb1⟩; have HB2 := Lib.hid (HB1.out.trans (hb1.mono HB1.out.size)); have HL2 := Lib.hid (HL.out.below hb1); clear hb1)
    | (go_at_call 6; refine (HP.out _ HL2.out).mono ?_; rintro e w2 ⟨rfl, hb2⟩; have HB3 := Lib.hid (HB2.out.trans (hb2.mono HB2.out.size)); have HL3 := Lib.hid (HL2.out.below hb2); clear hb2)
    | (go_at_call 11; refine (HC.out _ HL3.out).mono ?_; rintro e w3 ⟨rfl, hb3⟩; have HB4 := Lib.hid (HB3.out.trans (hb3.mono HB3.out.size)); clear hb3))
  go_ret
  exact ⟨rfl, HB4.out⟩
end Go.Proofs.YtnhaehjkepmbaaaDoor
