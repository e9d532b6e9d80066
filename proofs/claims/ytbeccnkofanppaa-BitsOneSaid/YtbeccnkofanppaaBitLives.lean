/- The chapter's first example, as every law asks it: it lives. -/
import Derived.Test.YtbeccnkofanppaaBitPut
import Derived.Test.YtbeccnkofanppaaStr
namespace Go.Proofs.Ytbeccnkofanppaa
open Go.RowKit
set_option linter.unusedVariables false

theorem Row.bys {w : World} {g : Nat} {l : List UInt8} (h : Row w g 5 (bcells l)) : Bys w (some ⟨g, 0, none⟩) l :=
  .inr ⟨g, 0, rfl, h.lt, fun i hi => by rw [Nat.zero_add, h.cell i]; exact bcells_get l i hi⟩

theorem put_first (w : World) :
    Calls Try.prog 13 #[.agg #[.slice none 0 0, .int .i64 0], .int .u64 5, .int .i64 4] w fun e w' => ∃ G,
      e = .returned (.tuple #[.agg #[.slice (some ⟨G, 0, none⟩) 1 1, .int .i64 4], .int .i64 0]) ∧ Row w' G 5 (bcells [80]) ∧ Below w.heap.size w w' ∧ w.heap.size ≤ G := by
  have e1 : putL [] 0 5 4 = [80] := by decide +kernel
  have h := put_ok none [] 0 0 4 5 w (Bys.empty _ _) (by simp) (by omega) (by decide +kernel) (by omega) (by omega)
  rw [e1] at h
  exact h
theorem put_second (G : Nat) (w : World) (hG : Row w G 5 (bcells [80])) :
    Calls Try.prog 13 #[.agg #[.slice (some ⟨G, 0, none⟩) 1 1, .int .i64 4], .int .u64 3, .int .i64 2] w fun e w' => ∃ G',
      e = .returned (.tuple #[.agg #[.slice (some ⟨G', 0, none⟩) 1 1, .int .i64 6], .int .i64 0]) ∧ Row w' G' 5 (bcells [92]) ∧ Below w.heap.size w w' ∧ w.heap.size ≤ G' := by
  have e1 : putL [80] 4 3 2 = [92] := by decide +kernel
  have h := put_ok (some ⟨G, 0, none⟩) [80] 1 4 2 3 w hG.bys (by simp) (by omega) (by decide +kernel) (by omega) (by omega)
  rw [e1] at h
  exact h

theorem lives_true (w : World) : Calls Try.prog 18 #[] w fun e w' => e = .returned (.bool true) ∧ Below w.heap.size w w' := by
  go_enter Try.func18, Try.ntmps18
  go_wp2_with fail
  refine (put_first w).mono ?_
  rintro e w1 ⟨G, rfl, hG, hb1, hGw⟩
  have HG := Lib.hid hG
  clear hG
  go_wp2_with fail
  refine (put_second G _ (HG.out.alloc _)).mono ?_
  rintro e w2 ⟨G', rfl, hG', hb2, hGw'⟩
  have HX : Row w2 w1.heap.size 24 #[.slice (some ⟨G, 0, none⟩) 1 1, .int .i64 4] := (Row.new w1 24 _).below hb2 (by simp)
  have HG2 : Row w2 G 5 (bcells [80]) := (HG.out.alloc _).below hb2 (by have := HG.out.lt; simp; omega)
  have x0 : ∀ o, (w2.alloc o).cell? ⟨w1.heap.size, 0, none⟩ = some (.slice (some ⟨G, 0, none⟩) 1 1) := fun o => (HX.alloc o).cell 0
  have x1 : ∀ o, (w2.alloc o).cell? ⟨w1.heap.size, 1, none⟩ = some (.int .i64 4) := fun o => (HX.alloc o).cell 1
  have c1 : ∀ o, (convert 22 9 (.slice (some ⟨G, 0, none⟩) 1 1)).run Try.prog (w2.alloc o) = .ok (.string (txt [80])) (w2.alloc o) := fun o => conv_bys _ _ [80] 1 (HG2.alloc o).bys
  have c2 : ∀ o, (convert 22 9 (.slice (some ⟨G', 0, none⟩) 1 1)).run Try.prog (w2.alloc o) = .ok (.string (txt [92])) (w2.alloc o) := fun o => conv_bys _ _ [92] 1 (hG'.alloc o).bys
  have hbel : ∀ o, Below w.heap.size w (w2.alloc o) := fun o => ((hb1.alloc hb1.size _).trans (hb2.mono (by have := hb1.size; simp; omega))).alloc (by have h1 := hb1.size; have h2 := hb2.size; simp at h2; omega) _
  have q1 : ((txt [80]).toList == [80]) = true := by decide +kernel
  have q2 : ((txt [92]).toList == [92]) = true := by decide +kernel
  clear hG' HX HG2
  go_wp2
  go_ret
  exact ⟨rfl, hbel _⟩
end Go.Proofs.Ytbeccnkofanppaa
