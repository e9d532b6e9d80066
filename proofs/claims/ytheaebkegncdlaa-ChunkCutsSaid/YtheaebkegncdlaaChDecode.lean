/- Decode: a chunk's samples, or that bytes are none; what is broken is recovered from. -/
import Derived.Test.YtheaebkegncdlaaChRead2
import Derived.Defers
import Derived.Recover
import Derived.Laws.Pointers
namespace Go.Proofs.Ytheaebkegncdlaa
open Go.RowKit Go.Maps
set_option linter.unusedVariables false

theorem end_yes {w : World} {X : Nat} {A : Option Addr} {b : List UInt8} {c p : Nat} (h : Rd w X A b c p) (hA : Bys w A b) (hl : b.length ≤ 140737488355328) (hp : p ≤ 8 * b.length) (hr : rightB b (p : Int) = true) :
    Calls Try.prog 51 #[.pointer (some ⟨X, 0, none⟩)] w fun e w' => e = .returned (.tuple #[]) ∧ Below w.heap.size w w' := by
  have HR := Lib.hid (fun W hW => by have := right_prog A b c (p : Int) W hW (by omega) (by omega); rw [hr] at this; exact this)
  have c0 : w.cell? ⟨X, 0, none⟩ = some (.slice A b.length c) := Row.cell h 0
  have c2 : w.cell? ⟨X, 2, none⟩ = some (.int .i64 (p : Int)) := Row.cell h 2
  have HAd := Lib.hid (show Bys w.drew A b from hA)
  clear h hA hr
  go_enter Try.func51, Try.ntmps51
  go_wp2_with fail
  go_region_with (first
    | (go_at_call 54; refine (HR.out _ HAd.out).mono ?_; rintro e w2 ⟨rfl, hb2⟩)
    | (go_at_call 50; refine (must_yes _).mono ?_; rintro e w3 ⟨rfl, rfl⟩))
  all_goals
    go_wp2_with fail
    go_end0
    exact ⟨rfl, (Below.refl _ _).drew.trans hb2⟩

theorem end_no {w : World} {X : Nat} {A : Option Addr} {b : List UInt8} {c p : Nat} (h : Rd w X A b c p) (hA : Bys w A b) (hl : b.length ≤ 140737488355328) (hp : p ≤ 8 * b.length) (hr : rightB b (p : Int) = false) :
    Calls Try.prog 51 #[.pointer (some ⟨X, 0, none⟩)] w fun e w' => e = .panicked broken ∧ Below w.heap.size w w' := by
  have HR := Lib.hid (fun W hW => by have := right_prog A b c (p : Int) W hW (by omega) (by omega); rw [hr] at this; exact this)
  have c0 : w.cell? ⟨X, 0, none⟩ = some (.slice A b.length c) := Row.cell h 0
  have c2 : w.cell? ⟨X, 2, none⟩ = some (.int .i64 (p : Int)) := Row.cell h 2
  have HAd := Lib.hid (show Bys w.drew A b from hA)
  clear h hA hr
  go_enter Try.func51, Try.ntmps51
  go_wp2_with fail
  go_region_dies
  all_goals
    refine (HR.out _ HAd.out).mono ?_
    rintro e w2 ⟨rfl, hb2⟩
    rename_i Q' K hK
    refine hK _ _ ?_
    clear hK K
    refine wpAny_ready (rs := [11]) (by kernel_rfl) (by simp) ?_
    refine AllReady.cons rfl (fun K hK => ?_) AllReady.nil
    go_simp
    refine (must_no _).mono ?_
    rintro e w3 ⟨rfl, rfl⟩
    exact ⟨rfl, rfl, (Below.refl _ _).drew.trans hb2⟩

theorem catch_panicking {C D : Nat} {x : Value} {y : Int} (u : TypeId) (pv : Value) (older : List PanicEntry) (w : World) (hC : Row w C 22 #[x]) (hD : Row w D 25 #[.int .i64 y]) (hx : x.oneCell' = true) (hCD : C ≠ D) :
    CallsD Try.prog 47 #[.pointer (some ⟨C, 0, none⟩), .pointer (some ⟨D, 0, none⟩)] (.panicking ({ v := .iface u pv, recovered := false } :: older)) w fun e u' w' =>
      e = .returned (.tuple #[]) ∧ u' = .panicking ({ v := .iface u pv, recovered := true } :: older) ∧ w' = (w.setCell ⟨C, 0, none⟩ (.slice none 0 0)).setCell ⟨D, 0, none⟩ (.int .i64 5) := by
  have c0 : w.cell? ⟨C, 0, none⟩ = some x := hC.cell 0
  have d0 : w.cell? ⟨D, 0, none⟩ = some (.int .i64 y) := hD.cell 0
  have e0 := hC.frozen 0
  have f0 := hD.frozen 0
  refine callsD_of_wpS Try.func47 rfl fun c₀ cs hu => ?_
  apply wpS_seq
  apply wpS_region
  simp [wpOpsS, go_sem, recoverD, hu, Try.ntmps47, Exit.thenS]
  refine wpS_cond (t := true) (by simp [Act.eval, Array.replicate]) ?_
  simp only [if_true]
  apply wpS_region
  simp [wpOpsS, go_sem, c0, d0, e0, f0, bodyPostS, results, Try.results47]

theorem catch_idle (C D : Value) (w : World) :
    CallsD Try.prog 47 #[C, D] .returning w fun e u' w' => e = .returned (.tuple #[]) ∧ u' = .returning ∧ w' = w := by
  refine callsD_of_wpS Try.func47 rfl fun c₀ cs hu => ?_
  apply wpS_seq
  apply wpS_region
  simp [wpOpsS, go_sem, recoverD, hu, Try.ntmps47, Exit.thenS]
  refine wpS_cond (t := false) (by simp [Act.eval, Array.replicate]) ?_
  simp only [Bool.false_eq_true, if_false]
  refine wpS_of_wp (wp_skip ?_)
  cases c₀
  simp_all [bodyPostS, results, Try.results47]

end Go.Proofs.Ytheaebkegncdlaa
