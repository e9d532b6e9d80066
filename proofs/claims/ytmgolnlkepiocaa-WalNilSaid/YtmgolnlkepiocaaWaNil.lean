/- Of no disk there is no log, of no log nothing: WalNil's walk. -/
import Derived.Test.YtmgolnlkepiocaaWaLives
import Derived.Test.YtmgolnlkepiocaaWaOpen
namespace Go.Proofs.Ytmgolnlkepiocaa
open Go.RowKit Go.Maps
set_option linter.unusedVariables false

theorem open_nil (s : ByteArray) (w : World) : Calls Try.prog 20 #[.pointer none, .string s] w fun e w' => e = .returned (.tuple #[.pointer none, .slice none 0 0, .int .i64 1]) ∧ w = w' := by
  go_enter Try.func20, Try.ntmps20
  go_wp2
  go_ret3
  exact ⟨rfl, rfl⟩
theorem sync_nil (w : World) : Calls Try.prog 24 #[.pointer none] w fun e w' => e = .returned (.int .i64 1) ∧ w = w' := by
  go_enter Try.func24, Try.ntmps24
  go_wp2
  go_ret
  exact ⟨rfl, rfl⟩
theorem len_nil (w : World) : Calls Try.prog 23 #[.pointer none] w fun e w' => e = .returned (.int .i64 0) ∧ w = w' := by
  go_enter Try.func23, Try.ntmps23
  go_wp2
  go_ret
  exact ⟨rfl, rfl⟩
theorem size_nil (w : World) : Calls Try.prog 18 #[.pointer none] w fun e w' => e = .returned (.int .i64 0) ∧ w = w' := by
  go_enter Try.func18, Try.ntmps18
  go_wp2
  go_ret
  exact ⟨rfl, rfl⟩
theorem append_nil (cs : Array Value) (w : World) : Calls Try.prog 17 #[.pointer none, .agg cs] w fun e w' => e = .returned (.int .i64 1) ∧ Below w.heap.size w w' := by
  go_enter Try.func17, Try.ntmps17
  go_wp2
  go_ret
  exact ⟨rfl, below_one _ _⟩
theorem walNil_walk (w : World) (s : ByteArray) (hs : s.data.toList.length ≤ reachBytes) (p : Pl) (hp : RecIn w p.1 p.2) (hf : RecFit p.1) :
    Calls Try.prog 6 #[.string s, .agg (plE p).toArray] w fun e w' => e = .returned (.bool true) ∧ Below w.heap.size w w' := by
  clear hs hp hf
  obtain ⟨R, m⟩ := p
  simp only [plE, recC]
  obtain ⟨x0, x1, x2, x3, x4, x5⟩ := rec_cells (Row.new w 26 #[.int .i64 R.kind, .slice m.la R.labels.length m.lc, .slice m.ra R.rows.length m.rc, .slice m.ia R.ids.length m.ic, .int .i64 R.low, .int .i64 R.high]) rfl
  have HB := Lib.hid (below_one w (.cells #[.int .i64 R.kind, .slice m.la R.labels.length m.lc, .slice m.ra R.rows.length m.rc, .slice m.ia R.ids.length m.ic, .int .i64 R.low, .int .i64 R.high] 26))
  go_enter Try.func6, Try.ntmps6
  go_wp2_with (first
    | (go_at_call 20; refine (open_nil _ _).mono ?_; rintro e w1 ⟨rfl, rfl⟩)
    | (go_at_call 17; refine (append_nil _ _).mono ?_; rintro e w2 ⟨rfl, hb2⟩; have HB2 := Lib.hid (below_then HB.out hb2); clear hb2)
    | (go_at_call 24; refine (sync_nil _).mono ?_; rintro e w3 ⟨rfl, rfl⟩)
    | (go_at_call 23; refine (len_nil _).mono ?_; rintro e w4 ⟨rfl, rfl⟩)
    | (go_at_call 18; refine (size_nil _).mono ?_; rintro e w5 ⟨rfl, rfl⟩)
    | (go_at_call 15; refine (waLives_true _).mono ?_; rintro e w6 ⟨rfl, hb6⟩; have HB6 := Lib.hid (below_then HB2.out hb6); clear hb6))
  go_ret
  exact ⟨rfl, HB6.out⟩
end Go.Proofs.Ytmgolnlkepiocaa
