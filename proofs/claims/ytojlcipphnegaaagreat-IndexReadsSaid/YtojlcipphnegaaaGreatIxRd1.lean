/- A number of an index's bytes, as the program reads it; of no bytes there is no index. -/
import Derived.Test.YtojlcipphnegaaaGreatIxLotL
import Derived.Test.YtojlcipphnegaaaGreatIxLotM
namespace Go.Proofs.YtojlcipphnegaaaGreat
open Go.RowKit Go.Maps
set_option linter.unusedVariables false
set_option maxRecDepth 100000

/-- A number that is read, and may be: the error that is told, and what else. -/
def numE (n e : Nat) (most : Int) : Int := if e ≠ 0 then (e : Int) else if most < (n : Int) then 5 else 0
theorem readnum_prog (A : Option Addr) (l : List UInt8) (c a n nx e : Nat) (most : Int) (w : World) (hA : Bys w A l) (hlc : l.length ≤ c) (hl : l.length ≤ 140737488355328) (ha : a ≤ l.length) (hg : GU l a n nx e) :
    Calls Tryz.prog 77 #[.slice A l.length c, .int .i64 (a : Int), .int .i64 most] w fun e' w' => e' = .returned (.tuple #[.int .i64 (if numE n e most = 0 then (n : Int) else 0), .int .i64 (if numE n e most = 0 then (nx : Int) else 0), .int .i64 (numE n e most)]) ∧ Below w.heap.size w w' := by
  have HG := Lib.hid (getuint_prog A l c a n nx e w hA hlc hl ha hg)
  clear hA hg
  by_cases he : e = 0
  · subst he
    by_cases hm : most < (n : Int)
    · have e1 : numE n 0 most = 5 := by unfold numE; rw [if_neg (by omega), if_pos hm]
      have i1 : decide (most < (n : Int)) = true := decide_eq_true hm
      rw [e1]
      clear hm e1
      go_enter Tryz.func77, Tryz.ntmps77
      go_wp2_with (first | (go_at_call 103; refine HG.out.mono ?_; rintro e w2 ⟨rfl, hb2⟩; have HB2 := Lib.hid hb2; clear hb2))
      go_ret3
      exact ⟨rfl, HB2.out⟩
    · have e1 : numE n 0 most = 0 := by unfold numE; rw [if_neg (by omega), if_neg hm]
      have i1 : decide (most < (n : Int)) = false := decide_eq_false hm
      rw [e1, if_pos rfl, if_pos rfl]
      clear hm e1
      go_enter Tryz.func77, Tryz.ntmps77
      go_wp2_with (first | (go_at_call 103; refine HG.out.mono ?_; rintro e w2 ⟨rfl, hb2⟩; have HB2 := Lib.hid hb2; clear hb2))
      go_ret3
      exact ⟨rfl, HB2.out⟩
  · have e1 : numE n e most = (e : Int) := if_pos he
    have e2 : ¬ (e : Int) = 0 := by omega
    have j1 : ((e : Int) != 0) = true := bne_iff_ne.2 e2
    have j2 : ((e : Int) == 0) = false := beq_eq_false_iff_ne.2 e2
    rw [e1, if_neg e2, if_neg e2]
    clear he e1 e2
    go_enter Tryz.func77, Tryz.ntmps77
    go_wp2_with (first | (go_at_call 103; refine HG.out.mono ?_; rintro e w2 ⟨rfl, hb2⟩; have HB2 := Lib.hid hb2; clear hb2))
    go_ret3
    exact ⟨rfl, HB2.out⟩
theorem gu_nil : GU [] 0 0 0 4 := .short 0 (by omega) (fun j hj => by omega) rfl
theorem of_nil (w : World) : Calls Tryz.prog 20 #[.slice none 0 0] w fun e w' => e = .returned (.tuple #[.pointer none, .int .i64 5]) ∧ Below w.heap.size w w' := by
  have HN := Lib.hid (fun (x : World) => (show Calls Tryz.prog 77 #[.slice none 0 0, .int .i64 0, .int .i64 4096] x fun e' w' => e' = .returned (.tuple #[.int .i64 0, .int .i64 0, .int .i64 4]) ∧ Below x.heap.size x w' from
    readnum_prog none [] 0 0 0 0 4 4096 x (Bys.empty _ _) (by simp) (by simp) (by simp) gu_nil))
  have HT := Lib.hid (show ∀ x : World, Calls Tryz.prog 76 #[.slice none 0 0] x fun e' w' => e' = .returned (.tuple #[.slice none 0 0, .int .i64 0, .int .i64 4]) ∧ Below x.heap.size x w' from fun x => by
    go_enter Tryz.func76, Tryz.ntmps76
    go_wp2_with (first | (go_at_call 77; refine (HN.out _).mono ?_; rintro e w2 ⟨rfl, hb2⟩; have HB2 := Lib.hid hb2; clear hb2))
    go_ret3
    exact ⟨rfl, HB2.out⟩)
  have HS := Lib.hid (show ∀ x : World, Calls Tryz.prog 43 #[.slice none 0 0] x fun e' w' => e' = .returned (.tuple #[.slice none 0 0, .int .i64 4]) ∧ Below x.heap.size x w' from fun x => by
    go_enter Tryz.func43, Tryz.ntmps43
    go_wp2_with (first | (go_at_call 76; refine (HT.out _).mono ?_; rintro e w2 ⟨rfl, hb2⟩; have HB2 := Lib.hid hb2; clear hb2))
    go_ret2
    exact ⟨rfl, HB2.out⟩)
  clear HN HT
  go_enter Tryz.func20, Tryz.ntmps20
  go_wp2_with (first | (go_at_call 43; refine (HS.out _).mono ?_; rintro e w2 ⟨rfl, hb2⟩; have HB2 := Lib.hid hb2; clear hb2))
  go_ret2
  exact ⟨rfl, HB2.out⟩
end Go.Proofs.YtojlcipphnegaaaGreat
