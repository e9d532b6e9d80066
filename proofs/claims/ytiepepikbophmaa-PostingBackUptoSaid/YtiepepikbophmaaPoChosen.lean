/- What the program's walk along two lists keeps, whichever closure it is handed; the errors ahead of it. -/
import Derived.Test.YtiepepikbophmaaPoOps
namespace Go.Proofs.Ytiepepikbophmaa
open Go.RowKit Go.Maps
set_option linter.unusedVariables false

def lenS : Value → Nat
  | .slice _ n _ => n
  | _ => 0
theorem ownz_drewN {w : World} {base : Nat} {v : Value} {l : List Int} (h : OwnZ w base v l) (q : Nat) : OwnZ (w.drewN q) base v l := rows_move h fun _ _ => rfl
/-- One world is another one but for orders that were drawn. -/
structure Drew (w w' : World) : Prop where
  heap : w'.heap = w.heap
  os : w'.os = w.os
  tape : w'.tape = w.tape
  output : w'.output = w.output
theorem Drew.refl (w : World) : Drew w w := ⟨rfl, rfl, rfl, rfl⟩
theorem Drew.more {w w' : World} (h : Drew w w') (q : Nat) : Drew w (w'.drewN q) := ⟨h.heap, h.os, h.tape, h.output⟩
theorem below_draws {B : Nat} {w wr wr' : World} (h : Below B w wr) (d : Drew wr wr') : Below B w wr' :=
  ⟨d.os.trans h.os, d.tape.trans h.tape, d.output.trans h.output, by rw [d.heap]; exact h.size, fun i hi => by rw [d.heap]; exact h.block i hi⟩
theorem ownz_draws {w w' : World} {base : Nat} {v : Value} {l : List Int} (h : OwnZ w base v l) (d : Drew w w') : OwnZ w' base v l := rows_move h fun _ _ => by rw [d.heap]
/-- What is handed back: a list of at most 1024 numbers, or that there are more. -/
def ChTold (w : World) (m : List Int) (e : Ending) (w' : World) : Prop :=
  Below w.heap.size w w' ∧ ((1024 < m.length ∧ e = .returned (.tuple #[.slice none 0 0, .int .i64 3])) ∨ (m.length ≤ 1024 ∧ ∃ v, e = .returned (.tuple #[v, .int .i64 0]) ∧ OwnZ w' w.heap.size v m))
def ChRel (w : World) (st : Bool → Bool → Bool) (res : List Int) (p q o : Value) (wr : World) : Prop :=
  ∃ (A B : Option Addr) (xa xb out : List Int) (ca cb : Nat), p = .slice A xa.length ca ∧ xa.length ≤ ca ∧ Zs w A xa ∧ q = .slice B xb.length cb ∧ xb.length ≤ cb ∧ Zs w B xb ∧ xa.length ≤ 1024 ∧ xb.length ≤ 1024 ∧ OwnZ wr w.heap.size o out ∧ out.length + xa.length + xb.length ≤ 2048 ∧ out ++ mergeF st xa xb = res ∧ Below w.heap.size w wr
theorem chosen_no (A B : Option Addr) (la lb : List Int) (ca cb : Nat) (fv : Value) (w : World) (hA : Zs w A la) (hB : Zs w B lb) (ma : la.length ≤ 281474976710656) (mb : lb.length ≤ 281474976710656) (he : refE la lb ≠ 0) :
    Calls Try.prog 55 #[.slice A la.length ca, .slice B lb.length cb, fv] w fun e w' => e = .returned (.tuple #[.slice none 0 0, .int .i64 (refE la lb)]) ∧ w = w' := by
  have HC := Lib.hid (check_prog A la ca w hA ma)
  have HD := Lib.hid (check_prog B lb cb w hB mb)
  have HE := Lib.hid (show refE la lb = if pchk la = 0 then pchk lb else pchk la from rfl)
  generalize refE la lb = x at *
  generalize pchk la = p at *
  generalize pchk lb = q at *
  clear hA hB
  by_cases hp : p = 0
  · subst hp
    have hX : x = q := by rw [HE.out, if_pos rfl]
    subst hX
    have j1 : (x != 0) = true := bne_iff_ne.2 he
    have j2 : (x == 0) = false := beq_eq_false_iff_ne.2 he
    clear he
    go_enter Try.func55, Try.ntmps55
    go_wp2_with fail
    refine HC.out.mono ?_
    rintro e w1 ⟨rfl, rfl⟩
    go_wp2_with fail
    refine HD.out.mono ?_
    rintro e w1 ⟨rfl, rfl⟩
    go_wp2_with fail
    go_ret2
    exact ⟨rfl, rfl⟩
  · have hX : x = p := by rw [HE.out, if_neg hp]
    subst hX
    have j1 : (x != 0) = true := bne_iff_ne.2 hp
    have j2 : (x == 0) = false := beq_eq_false_iff_ne.2 hp
    clear hp he
    go_enter Try.func55, Try.ntmps55
    go_wp2_with fail
    refine HC.out.mono ?_
    rintro e w1 ⟨rfl, rfl⟩
    go_wp2_with fail
    go_ret2
    exact ⟨rfl, rfl⟩
end Go.Proofs.Ytiepepikbophmaa
