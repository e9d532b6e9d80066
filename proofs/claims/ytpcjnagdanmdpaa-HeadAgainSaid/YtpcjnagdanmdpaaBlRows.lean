/- Series in memory ([]api.Series): that stand at an address, and how a law's argument of that type is opened. -/
import Derived.Test.YtpcjnagdanmdpaaBlMath
namespace Go.Proofs.Ytpcjnagdanmdpaa
open Go.ChangeShapes Go.WideShapes Go.ChangeAt Go.RowKit Go.Joins Go.Maps
open Ch
set_option linter.unusedVariables false
/-- Where a series' slices lie. -/
structure SerM where
  la : Option Addr
  lc : Nat
  sa : Option Addr
  sc : Nat
abbrev SPl := Ser × SerM
def ser0 : Ser := ([], [])
def spl0 : SPl := (ser0, ⟨none, 0, none, 0⟩)
instance spl_inh : Inhabited SPl := ⟨spl0⟩
def lsV (x : SPl) : Value := .slice x.2.la x.1.1.length x.2.lc
def ssV (x : SPl) : Value := .slice x.2.sa x.1.2.length x.2.sc
def spE (x : SPl) : List Value := [lsV x, ssV x]
theorem spE_len (x : SPl) : (spE x).length = 2 := rfl
structure SerIn (w : World) (x : SPl) : Prop where
  labels : Lbls w x.2.la x.1.1
  samples : Smps w x.2.sa x.1.2
  lc : x.1.1.length ≤ x.2.lc
  sc : x.1.2.length ≤ x.2.sc
theorem SerIn.below {w w' : World} {x : SPl} (h : SerIn w x) (hb : Below w.heap.size w w') : SerIn w' x := ⟨h.labels.below hb, h.samples.below hb, h.lc, h.sc⟩
def Sers (w : World) (A : Option Addr) (S : List Ser) : Prop := ∃ ps : List SPl, ps.map (·.1) = S ∧ At w A (ps.flatMap spE) ∧ ∀ x ∈ ps, SerIn w x
theorem Sers.below {w w' : World} {A : Option Addr} {S : List Ser} (h : Sers w A S) (hb : Below w.heap.size w w') : Sers w' A S := by
  obtain ⟨ps, h1, h2, h3⟩ := h
  exact ⟨ps, h1, h2.below hb, fun x hx => (h3 x hx).below hb⟩
/-- The i-th series: its two slices, and what they hold. -/
def SerAt (w : World) (b o : Nat) (S : List Ser) (i : Nat) (m : SerM) : Prop :=
  w.cell? ⟨b, o + i * 2, none⟩ = some (.slice m.la (S.getD i ser0).1.length m.lc) ∧ w.cell? ⟨b, o + i * 2 + 1, none⟩ = some (.slice m.sa (S.getD i ser0).2.length m.sc) ∧ SerIn w (S.getD i ser0, m)
theorem Sers.all {w : World} {A : Option Addr} {S : List Ser} (h : Sers w A S) (hl : 0 < S.length) :
    ∃ b o, A = some ⟨b, o, none⟩ ∧ b < w.heap.size ∧ ∀ i, i < S.length → ∃ m, SerAt w b o S i m := by
  obtain ⟨ps, rfl, h2, h3⟩ := h
  rw [List.length_map] at hl
  have hlen := flat_len spE 2 spE_len ps
  rcases h2 with h2 | ⟨b, o, rfl, hb, hc⟩
  · rw [h2] at hlen; simp at hlen; omega
  · refine ⟨b, o, rfl, hb, fun i hi => ?_⟩
    rw [List.length_map] at hi
    have hg : (ps.map (·.1)).getD i ser0 = (ps.getD i spl0).1 := by simp [List.getD_eq_getElem?_getD, hi]
    have hm : ps.getD i spl0 ∈ ps := List.mem_of_getElem? (getD_some ps spl0 hi)
    refine ⟨(ps.getD i spl0).2, ?_, ?_, ?_⟩
    · rw [hg]
      exact hc (i * 2 + 0) _ (flat_get spE 2 spE_len ps i _ 0 (getD_some ps spl0 hi) (by omega))
    · rw [hg, Nat.add_assoc]
      exact hc (i * 2 + 1) _ (flat_get spE 2 spE_len ps i _ 1 (getD_some ps spl0 hi) (by omega))
    · rw [hg]
      exact h3 _ hm
theorem SerAt.below {w w' : World} {b o : Nat} {S : List Ser} {i : Nat} {m : SerM} (h : SerAt w b o S i m) (hb : Below w.heap.size w w') (hlt : b < w.heap.size) : SerAt w' b o S i m :=
  ⟨(hb.cell hlt).trans h.1, (hb.cell hlt).trans h.2.1, h.2.2.below hb⟩
theorem ser_at {S : List Ser} {i : Nat} (hi : i < S.length) : S.getD i ser0 ∈ S := List.mem_of_getElem? (getD_some S ser0 hi)
/-! ### opening -/
section
variable {H : Type} {enc : TypeId × Value → H} {W : World} {base : Nat} {sp : Nat → Bool} {held : Bool}
end
end Go.Proofs.Ytpcjnagdanmdpaa
