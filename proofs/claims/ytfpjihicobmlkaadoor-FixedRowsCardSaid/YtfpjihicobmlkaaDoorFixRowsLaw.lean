/- The law of a list's sum of layer 3: a walk. -/
import Derived.Test.YtfpjihicobmlkaaDoorFixLives
import Derived.Test.YtfpjihicobmlkaaDoorInts
namespace Go.Proofs.YtfpjihicobmlkaaDoor
open Go.RowKit
set_option linter.unusedVariables false

/-- The sum of a list behind a sum, or the first error. -/
def sumR (s : Int) : List Int → Int × Int
  | [] => (s, 0)
  | n :: r => if addE s n = 0 then sumR (addV s n) r else (0, addE s n)
theorem sumR_end (s : Int) (l : List Int) {k : Nat} (h : l.length ≤ k) : sumR s (l.drop k) = (s, 0) := by
  rw [List.drop_eq_nil_of_le h]
  rfl
theorem sumR_next (s : Int) (l : List Int) {k : Nat} (h : k < l.length) (he : addE s (l.getD k 0) = 0) : sumR s (l.drop k) = sumR (addV s (l.getD k 0)) (l.drop (k + 1)) := by
  rw [List.drop_eq_getElem_cons h, sumR]
  rw [getD_in l 0 h] at he ⊢
  rw [if_pos he]
theorem sumR_stop (s : Int) (l : List Int) {k : Nat} (h : k < l.length) (he : addE s (l.getD k 0) ≠ 0) : sumR s (l.drop k) = (0, addE s (l.getD k 0)) := by
  rw [List.drop_eq_getElem_cons h, sumR]
  rw [getD_in l 0 h] at he ⊢
  rw [if_neg he]
theorem ret_pair {p q : Int × Int} (h : p = q) : Ending.returned (.tuple #[.int .i64 p.1, .int .i64 p.2]) = .returned (.tuple #[.int .i64 q.1, .int .i64 q.2]) := by rw [h]

theorem sum_prog (A : Option Addr) (l : List Int) (c : Nat) (w : World) (hA : Ints w A l) (hl : l.length ≤ 17592186044416) :
    Calls Tryd.prog 17 #[.slice A l.length c] w fun e w' => e = .returned (.tuple #[.int .i64 (sumR 0 l).1, .int .i64 (sumR 0 l).2]) ∧ Below w.heap.size w w' := by
  go_enter Tryd.func17, Tryd.ntmps17
  go_wp2_with fail
  go_loopw [4, 11] (fun s i wr => ∃ (k : Nat) (s' : Int), k ≤ l.length ∧ i = .int .i64 (k : Int) ∧ s = .int .i64 s' ∧ sumR s' (l.drop k) = sumR 0 l ∧ Below w.heap.size w wr) (fun _ i _ => l.length - (intOf i).toNat)
  case atStart => exact ⟨0, 0, Nat.zero_le _, rfl, rfl, rfl, Below.refl _ _⟩
  case round =>
    obtain ⟨k, s, hk, rfl, rfl, hs, bl⟩ := hrel
    by_cases hlt : k < l.length
    · obtain ⟨b, o, rfl, hb, hc⟩ := hA.at_ (by omega)
      have x1 := (bl.cell (p := ⟨b, o + k, none⟩) hb).trans (hc k hlt)
      have HAdd := add_prog s (l.getD k 0) wr
      by_cases he : addE s (l.getD k 0) = 0
      · have HS := Lib.hid ((sumR_next s l hlt he).symm.trans hs)
        rw [he] at HAdd
        clear hc hs hA he
        generalize addV s (l.getD k 0) = v at *
        generalize l.getD k 0 = n at *
        go_wp2_with fail
        refine HAdd.mono ?_
        rintro e w1 ⟨rfl, hb1⟩
        go_wp2_with fail
        go_roundw
        case rel => exact ⟨k + 1, v, by omega, by go_num, rfl, HS.out, bl.trans (hb1.mono bl.size)⟩
        case measure => simp [intOf]; omega
      · have HS := Lib.hid (hs.symm.trans (sumR_stop s l hlt he))
        have q : (addE s (l.getD k 0) != 0) = true := bne_iff_ne.2 he
        clear hc hs hA he
        generalize addE s (l.getD k 0) = e1 at *
        generalize addV s (l.getD k 0) = v at *
        generalize l.getD k 0 = n at *
        go_wp2_with fail
        refine HAdd.mono ?_
        rintro e w1 ⟨rfl, hb1⟩
        go_wp2_with fail
        go_ret2
        exact ⟨(ret_pair HS.out.symm), bl.trans (hb1.mono bl.size)⟩
    · have HS := Lib.hid (hs.symm.trans (sumR_end s l (by omega)))
      clear hs
      go_wp2_with fail
      go_ret2
      exact ⟨(ret_pair HS.out.symm), bl⟩
theorem sum_ref (A : Option Addr) (l : List Int) (c : Nat) (w : World) (hA : Ints w A l) (hl : l.length ≤ 17592186044416) :
    Calls Tryd.prog 18 #[.slice A l.length c] w fun e w' => e = .returned (.tuple #[.int .i64 (sumR 0 l).1, .int .i64 (sumR 0 l).2]) ∧ w = w' := by
  go_enter Tryd.func18, Tryd.ntmps18
  go_wp2_with fail
  go_loop [4, 5] (fun s i => ∃ (k : Nat) (s' : Int), k ≤ l.length ∧ i = .int .i64 (k : Int) ∧ s = .int .i64 s' ∧ sumR s' (l.drop k) = sumR 0 l) (fun _ i => l.length - (intOf i).toNat)
  case atStart => exact ⟨0, 0, Nat.zero_le _, rfl, rfl, rfl⟩
  case round =>
    obtain ⟨k, s, hk, rfl, rfl, hs⟩ := hrel
    by_cases hlt : k < l.length
    · obtain ⟨b, o, rfl, hb, hc⟩ := hA.at_ (by omega)
      have x1 := hc k hlt
      have HAdd := add_ref s (l.getD k 0) w
      by_cases he : addE s (l.getD k 0) = 0
      · have HS := Lib.hid ((sumR_next s l hlt he).symm.trans hs)
        rw [he] at HAdd
        clear hc hs hA he
        generalize addV s (l.getD k 0) = v at *
        generalize l.getD k 0 = n at *
        go_wp2_with fail
        refine HAdd.mono ?_
        rintro e w1 ⟨rfl, rfl⟩
        go_wp2_with fail
        go_round
        case rel => exact ⟨k + 1, v, by omega, by go_num, rfl, HS.out⟩
        case measure => simp [intOf]; omega
      · have HS := Lib.hid (hs.symm.trans (sumR_stop s l hlt he))
        have q : (addE s (l.getD k 0) != 0) = true := bne_iff_ne.2 he
        clear hc hs hA he
        generalize addE s (l.getD k 0) = e1 at *
        generalize addV s (l.getD k 0) = v at *
        generalize l.getD k 0 = n at *
        go_wp2_with fail
        refine HAdd.mono ?_
        rintro e w1 ⟨rfl, rfl⟩
        go_wp2_with fail
        go_ret2
        exact ⟨(ret_pair HS.out.symm), rfl⟩
    · have HS := Lib.hid (hs.symm.trans (sumR_end s l (by omega)))
      clear hs
      go_wp2_with fail
      go_ret2
      exact ⟨(ret_pair HS.out.symm), rfl⟩

theorem fixedRows_walk (w : World) (A : Option Addr) (l : List Int) (c : Nat) (hA : Ints w A l) (hr : l.length ≤ 17592186044416) (hlc : l.length ≤ c) :
    Calls Tryd.prog 4 #[.slice A l.length c] w fun e w' => e = .returned (.bool true) ∧ Below w.heap.size w w' := by
  have HS := fun B d w (h : Ints w B l) => sum_prog B l d w h hr
  have HR := fun w (h : Ints w A l) => sum_ref A l c w h hr
  generalize (sumR 0 l).1 = v at *
  generalize (sumR 0 l).2 = e1 at *
  go_enter Tryd.func4, Tryd.ntmps4
  go_wp2_with (at_builtin; refine app_i64 rfl (.tmp 8) (.tmp 9) rfl w.heap.size _ [] rfl (owni_empty (Row.new w _ _) (Nat.le_refl _)) A l c rfl (hA.alloc _) (by simp only [List.length_nil]; omega) (by simp) ?_; intro v1 w1 hown1 hb1; rw [List.nil_append] at hown1; obtain ⟨B1, d1, hv1, hB1⟩ := owni_slice hown1; subst hv1; clear hown1)
  refine (HS B1 d1 w1 hB1).mono ?_
  rintro e w2 ⟨rfl, hb2⟩
  have hb02 : Below w.heap.size w w2 := (((Below.refl _ _).alloc (Nat.le_refl _) _).trans hb1).trans (hb2.mono (by have := hb1.size; simp at this; omega))
  have hA2 := hA.below hb02
  go_wp2_with fail
  refine (HR w2 hA2).mono ?_
  rintro e w3 ⟨rfl, rfl⟩
  go_wp2_with fail
  refine (lives_true w2).mono ?_
  rintro e w3 ⟨rfl, hb3⟩
  go_wp2
  go_ret
  exact ⟨rfl, below_then hb02 hb3⟩
end Go.Proofs.YtfpjihicobmlkaaDoor
