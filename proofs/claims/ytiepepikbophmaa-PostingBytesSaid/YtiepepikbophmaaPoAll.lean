/- What the program and the document's own answer tell of two lists, of a list laid down and of one read, in one form for right and wrong lists. -/
import Derived.Test.YtiepepikbophmaaPoChosenBoth
import Derived.Test.YtiepepikbophmaaPoChosenEither
import Derived.Test.YtiepepikbophmaaPoChosenWithout
import Derived.Test.YtiepepikbophmaaPoRefs
import Derived.Test.YtiepepikbophmaaPoPut
import Derived.Test.YtiepepikbophmaaPoPutRef2
import Derived.Test.YtiepepikbophmaaPoRead
import Derived.Test.YtiepepikbophmaaPoReadRef
namespace Go.Proofs.Ytiepepikbophmaa
open Go.RowKit Go.Maps
set_option linter.unusedVariables false

theorem refE_right {a b : List Int} (h : refE a b = 0) : pchk a = 0 ∧ pchk b = 0 := by
  unfold refE at h
  by_cases ha : pchk a = 0
  · rw [if_pos ha] at h; exact ⟨ha, h⟩
  · rw [if_neg ha] at h; exact absurd h ha
/-- A row in memory of its own, and an error. -/
def STold (w : World) (m : List Int) (E : Int) (e : Ending) (w' : World) : Prop := ∃ v, e = .returned (.tuple #[v, .int .i64 E]) ∧ OwnZ w' w.heap.size v m ∧ Below w.heap.size w w'
def boV (a b : List Int) : List Int := if refE a b = 0 then bothL a b else []
def leV (a b : List Int) : List Int := if refE a b = 0 then lessL a b else []
def eiV (a b : List Int) : List Int := if refE a b = 0 ∧ (eitherL a b).length ≤ 1024 then eitherL a b else []
def eiE (a b : List Int) : Int := if refE a b = 0 then (if 1024 < (eitherL a b).length then 3 else 0) else refE a b
theorem both_len' {a b : List Int} (ha : pchk a = 0) (hb : pchk b = 0) : (bothL a b).length ≤ 1024 := by
  rw [both_pick (pchk_zero.1 ha).2 (pchk_zero.1 hb).2]
  have := pick_len a b true
  have := (pchk_zero.1 ha).1
  omega
theorem less_len' {a b : List Int} (ha : pchk a = 0) (hb : pchk b = 0) : (lessL a b).length ≤ 1024 := by
  rw [less_pick (pchk_zero.1 ha).2 (pchk_zero.1 hb).2]
  have := pick_len a b false
  have := (pchk_zero.1 ha).1
  omega
theorem boV_len (a b : List Int) : (boV a b).length ≤ 1024 := by
  unfold boV
  split
  · rename_i h; obtain ⟨ha, hb⟩ := refE_right h; exact both_len' ha hb
  · simp
theorem leV_len (a b : List Int) : (leV a b).length ≤ 1024 := by
  unfold leV
  split
  · rename_i h; obtain ⟨ha, hb⟩ := refE_right h; exact less_len' ha hb
  · simp
theorem eiV_len (a b : List Int) : (eiV a b).length ≤ 1024 := by
  unfold eiV
  split
  · rename_i h; exact h.2
  · simp
theorem st_no {w w' : World} {E : Int} {e : Ending} (h : e = .returned (.tuple #[.slice none 0 0, .int .i64 E])) (hb : Below w.heap.size w w') : STold w [] E e w' := ⟨_, h, ownz_nil _ _, hb⟩
theorem st_ch {w w' : World} {m : List Int} {e : Ending} (h : ChTold w m e w') (hm : m.length ≤ 1024) : STold w m 0 e w' := by
  obtain ⟨hb, ⟨h1, _⟩ | ⟨_, v, rfl, hv⟩⟩ := h
  · omega
  · exact ⟨v, rfl, hv, hb⟩
theorem st_ei {w w' : World} {a b : List Int} {e : Ending} (h : ChTold w (eitherL a b) e w') (he : refE a b = 0) : STold w (eiV a b) (eiE a b) e w' := by
  obtain ⟨hb, ⟨h1, rfl⟩ | ⟨h1, v, rfl, hv⟩⟩ := h
  · have e1 : eiV a b = [] := by unfold eiV; exact if_neg (fun hh => by omega)
    have e2 : eiE a b = 3 := by unfold eiE; rw [if_pos he]; exact if_pos h1
    rw [e1, e2]
    exact ⟨_, rfl, ownz_nil _ _, hb⟩
  · have e1 : eiV a b = eitherL a b := by unfold eiV; exact if_pos ⟨he, h1⟩
    have e2 : eiE a b = 0 := by unfold eiE; rw [if_pos he]; exact if_neg (by omega)
    rw [e1, e2]
    exact ⟨_, rfl, hv, hb⟩
theorem ei_no {a b : List Int} (he : refE a b ≠ 0) : eiV a b = [] ∧ eiE a b = refE a b := by
  unfold eiV eiE
  exact ⟨if_neg (fun h => he h.1), if_neg he⟩
section
variable (A B : Option Addr) (a b : List Int) (ca cb : Nat) (w : World) (hA : Zs w A a) (hB : Zs w B b) (ma : a.length ≤ 281474976710656) (mb : b.length ≤ 281474976710656)
include hA hB ma mb
theorem both_all (hca : a.length ≤ ca) (hcb : b.length ≤ cb) : Calls Try.prog 22 #[.slice A a.length ca, .slice B b.length cb] w (STold w (boV a b) (refE a b)) := by
  by_cases he : refE a b = 0
  · obtain ⟨ea, eb⟩ := refE_right he
    unfold boV
    rw [if_pos he, he]
    exact (both_yes A B a b ca cb w hA hB hca hcb ea eb).mono fun e w' h => st_ch h (both_len' ea eb)
  · unfold boV
    rw [if_neg he]
    refine (both_no A B a b ca cb w hA hB ma mb he).mono ?_
    rintro e w' ⟨h, rfl⟩
    exact st_no h (Below.refl _ _)
theorem less_all (hca : a.length ≤ ca) (hcb : b.length ≤ cb) : Calls Try.prog 24 #[.slice A a.length ca, .slice B b.length cb] w (STold w (leV a b) (refE a b)) := by
  by_cases he : refE a b = 0
  · obtain ⟨ea, eb⟩ := refE_right he
    unfold leV
    rw [if_pos he, he]
    exact (without_yes A B a b ca cb w hA hB hca hcb ea eb).mono fun e w' h => st_ch h (less_len' ea eb)
  · unfold leV
    rw [if_neg he]
    refine (without_no A B a b ca cb w hA hB ma mb he).mono ?_
    rintro e w' ⟨h, rfl⟩
    exact st_no h (Below.refl _ _)
theorem either_all (hca : a.length ≤ ca) (hcb : b.length ≤ cb) : Calls Try.prog 23 #[.slice A a.length ca, .slice B b.length cb] w (STold w (eiV a b) (eiE a b)) := by
  by_cases he : refE a b = 0
  · obtain ⟨ea, eb⟩ := refE_right he
    exact (either_yes A B a b ca cb w hA hB hca hcb ea eb).mono fun e w' h => st_ei h he
  · rw [(ei_no he).1, (ei_no he).2]
    refine (either_no A B a b ca cb w hA hB ma mb he).mono ?_
    rintro e w' ⟨h, rfl⟩
    exact st_no h (Below.refl _ _)
theorem refboth_all : Calls Try.prog 25 #[.slice A a.length ca, .slice B b.length cb] w (STold w (boV a b) (refE a b)) := by
  by_cases he : refE a b = 0
  · obtain ⟨ea, eb⟩ := refE_right he
    unfold boV
    rw [if_pos he, he]
    exact ref_both_yes A B a b ca cb w hA hB ea eb
  · unfold boV
    rw [if_neg he]
    refine (ref_both_no A B a b ca cb w hA hB ma mb he).mono ?_
    rintro e w' ⟨h, hb⟩
    exact st_no h hb
theorem refless_all : Calls Try.prog 27 #[.slice A a.length ca, .slice B b.length cb] w (STold w (leV a b) (refE a b)) := by
  by_cases he : refE a b = 0
  · obtain ⟨ea, eb⟩ := refE_right he
    unfold leV
    rw [if_pos he, he]
    exact ref_less_yes A B a b ca cb w hA hB ea eb
  · unfold leV
    rw [if_neg he]
    refine (ref_less_no A B a b ca cb w hA hB ma mb he).mono ?_
    rintro e w' ⟨h, hb⟩
    exact st_no h hb
theorem refeither_all : Calls Try.prog 26 #[.slice A a.length ca, .slice B b.length cb] w (STold w (eiV a b) (eiE a b)) := by
  by_cases he : refE a b = 0
  · obtain ⟨ea, eb⟩ := refE_right he
    exact (ref_either_yes A B a b ca cb w hA hB ea eb).mono fun e w' h => st_ei h he
  · rw [(ei_no he).1, (ei_no he).2]
    refine (ref_either_no A B a b ca cb w hA hB ma mb he).mono ?_
    rintro e w' ⟨h, hb⟩
    exact st_no h hb
end
/-- A list laid behind bytes, or nothing. -/
def puV (b : List UInt8) (l : List Int) : List UInt8 := if pchk l = 0 then b ++ postL l else []
def PuTold (w : World) (b : List UInt8) (l : List Int) (e : Ending) (w' : World) : Prop := ∃ v, e = .returned (.tuple #[v, .int .i64 (pchk l)]) ∧ Own w' w.heap.size v (puV b l) ∧ Below w.heap.size w w'
theorem puV_len (b : List UInt8) (l : List Int) : (puV b l).length ≤ b.length + 20000 := by
  unfold puV
  split
  · rename_i h
    have := postL_len h
    rw [List.length_append]
    omega
  · simp
section
variable (A B : Option Addr) (b : List UInt8) (c : Nat) (l : List Int) (d : Nat) (w : World) (hA : Bys w A b) (hB : Zs w B l) (hb : b.length ≤ 140737488351300) (hl : l.length ≤ 281474976710656)
include hA hB hb hl
theorem put_all : Calls Try.prog 30 #[.slice A b.length c, .slice B l.length d] w (PuTold w b l) := by
  by_cases h : pchk l = 0
  · unfold PuTold puV
    rw [if_pos h, h]
    exact put_yes A B b c l d w hA hB hb h
  · unfold PuTold puV
    rw [if_neg h]
    refine (put_no A B b.length c l d w hB hl h).mono ?_
    rintro e w' ⟨h, hb⟩
    exact ⟨_, h, own_nil _ _, hb⟩
theorem refput_all : Calls Try.prog 31 #[.slice A b.length c, .slice B l.length d] w (PuTold w b l) := by
  by_cases h : pchk l = 0
  · unfold PuTold puV
    rw [if_pos h, h]
    exact put_ref_yes A B b c l d w hA hB hb h
  · unfold PuTold puV
    rw [if_neg h]
    refine (put_ref_no A B b.length c l d w hB hl h).mono ?_
    rintro e w' ⟨h, hb⟩
    exact ⟨_, h, own_nil _ _, hb⟩
end
/-- What is read, in one form. -/
def RdTold (w : World) (ls : List Int) (p e : Nat) (e' : Ending) (w' : World) : Prop := ∃ v, e' = .returned (.tuple #[v, .int .i64 p, .int .i64 e]) ∧ OwnZ w' w.heap.size v ls ∧ Below w.heap.size w w'
theorem rd_of {l : List UInt8} {a : Int} {ls : List Int} {p e : Nat} {w w' : World} {e' : Ending} (h : PY l a ls p e) (ht : PoTold w ls p e e' w') : RdTold w ls p e e' w' := by
  obtain ⟨hb, ⟨he, rfl⟩ | ⟨rfl, v, rfl, hv⟩⟩ := ht
  · obtain ⟨rfl, rfl⟩ := (py_err h).1 he
    exact ⟨_, rfl, ownz_nil _ _, hb⟩
  · exact ⟨v, rfl, hv, hb⟩
theorem read_all {l : List UInt8} {a : Int} {ls : List Int} {p e : Nat} (h : PY l a ls p e) (A : Option Addr) (c : Nat) (w : World) (hA : Bys w A l) (hlc : l.length ≤ c) (hl : l.length ≤ 140737488355328) :
    Calls Try.prog 32 #[.slice A l.length c, .int .i64 a] w (RdTold w ls p e) := (read_prog h A c w hA hlc hl).mono fun _ _ ht => rd_of h ht
theorem refread_all {l : List UInt8} {a : Int} {ls : List Int} {p e : Nat} (h : PY l a ls p e) (A : Option Addr) (c : Nat) (w : World) (hA : Bys w A l) (hlc : l.length ≤ c) (hl : l.length ≤ 140737488355328) :
    Calls Try.prog 33 #[.slice A l.length c, .int .i64 a] w (RdTold w ls p e) := (read_ref h A c w hA hlc hl).mono fun _ _ ht => rd_of h ht
end Go.Proofs.Ytiepepikbophmaa
