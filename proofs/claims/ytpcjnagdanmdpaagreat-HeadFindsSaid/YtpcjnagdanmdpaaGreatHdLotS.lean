/- In one text, written by lotify.py: HdSeries, HdRefT, HdPlAt. -/
import Derived.Test.YtpcjnagdanmdpaaGreatShelfG
import Derived.Shelf.SlSortCmp.NoneTotal
import Derived.Test.YtpcjnagdanmdpaaGreatHdLotC
namespace Go.Proofs.YtpcjnagdanmdpaaGreat
open Go.RowKit Go.Maps
open Ch
set_option linter.unusedVariables false
set_option linter.unusedSimpArgs false
set_option maxRecDepth 100000
theorem hser_info : (Tryz.prog.info? 65).map (fun i => (i.zero, i.size, i.bytes)) = some (some (.agg #[.slice none 0 0, .slice none 0 0]), 2, 48) := by kernel_rfl
theorem hrows_far {w w' : World} {base e size n base2 e2 size2 n2 : Nat} {v v2 : Value} {xs xs2 : List Value} (h : w.ownsRow base e size v n xs) (hg : w.grownBy w' v2.ownBlock) (h2 : w.ownsRow base2 e2 size2 v2 n2 xs2) (he : e ≠ e2) : w'.ownsRow base e size v n xs := by
  refine rows_move h fun k hk => ?_
  rcases h.2 with ⟨e1, _⟩ | ⟨g, cap, cur, e1, _, hh, _⟩
  · rw [e1] at hk; cases hk
  · rw [e1] at hk
    simp only [Value.ownBlock, Option.some.injEq] at hk
    subst hk
    exact hg.block g (Row.lt hh) fun e' => rows_ne (show Row _ g _ _ from hh) h2 he e'.symm
section
variable {T U : Nat → Prop} {w w' : World}
theorem lblE_nil {l : List Lbl} (h : l.flatMap lblE = []) : l = [] := by
  have := flat_len lblE 2 lblE_len l
  rw [h] at this
  exact List.eq_nil_of_length_eq_zero (by simp at this; omega)
theorem smpE_nil {l : List Smp} (h : l.flatMap smpE = []) : l = [] := by
  have := flat_len smpE 2 smpE_len l
  rw [h] at this
  exact List.eq_nil_of_length_eq_zero (by simp at this; omega)
/-- A series whose parts lie in blocks of T. -/
structure SerT (T : Nat → Prop) (w : World) (x : SPl) : Prop where
  ins : SerIn w x
  la : x.1.1 ≠ [] → ∀ ad, x.2.la = some ad → T ad.block
  sa : x.1.2 ≠ [] → ∀ ad, x.2.sa = some ad → T ad.block
theorem SerT.move {x : SPl} (h : SerT T w x) (hs : w.heap.size ≤ w'.heap.size) (hb : ∀ k, k < w.heap.size → T k → w'.heap[k]? = w.heap[k]?) : SerT T w' x := by
  refine ⟨⟨?_, ?_, h.ins.lc, h.ins.sc⟩, h.la, h.sa⟩
  · refine at_move h.ins.labels hs ?_
    by_cases e0 : x.1.1.flatMap lblE = []
    · exact .inl e0
    · exact .inr fun ad e => hb _ (at_block h.ins.labels e0 ad e) (h.la (fun q => e0 (by rw [q]; rfl)) ad e)
  · refine at_move h.ins.samples hs ?_
    by_cases e0 : x.1.2.flatMap smpE = []
    · exact .inl e0
    · exact .inr fun ad e => hb _ (at_block h.ins.samples e0 ad e) (h.sa (fun q => e0 (by rw [q]; rfl)) ad e)
theorem SerT.mono {x : SPl} (h : SerT T w x) (hT : ∀ k, T k → U k) : SerT U w x := ⟨h.ins, fun q ad e => hT _ (h.la q ad e), fun q ad e => hT _ (h.sa q ad e)⟩
/-- A list of series whose blocks are of T. -/
def SersT (T : Nat → Prop) (w : World) (A : Option Addr) (S : List Ser) : Prop :=
  ∃ ps : List SPl, ps.map (·.1) = S ∧ At w A (ps.flatMap spE) ∧ (S ≠ [] → ∀ ad, A = some ad → T ad.block) ∧ ∀ x ∈ ps, SerT T w x
theorem SersT.sers {A : Option Addr} {S : List Ser} (h : SersT T w A S) : Sers w A S := by
  obtain ⟨ps, h1, h2, _, h4⟩ := h
  exact ⟨ps, h1, h2, fun x hx => (h4 x hx).ins⟩
theorem SersT.move {A : Option Addr} {S : List Ser} (h : SersT T w A S) (hs : w.heap.size ≤ w'.heap.size) (hb : ∀ k, k < w.heap.size → T k → w'.heap[k]? = w.heap[k]?) : SersT T w' A S := by
  obtain ⟨ps, h1, h2, h3, h4⟩ := h
  refine ⟨ps, h1, at_move h2 hs ?_, h3, fun x hx => (h4 x hx).move hs hb⟩
  by_cases e0 : ps.flatMap spE = []
  · exact .inl e0
  · refine .inr fun ad e => hb _ (at_block h2 e0 ad e) (h3 (fun q => e0 ?_) ad e)
    rw [q] at h1
    rw [List.map_eq_nil_iff.1 h1]
    rfl
theorem SersT.kept {A : Option Addr} {S : List Ser} (h : SersT T w A S) (hk : Kept U w w') (hd : ∀ k, T k → ¬ U k) : SersT T w' A S := h.move hk.size fun k hl ht => hk.block k hl (hd k ht)
theorem SersT.below {A : Option Addr} {S : List Ser} (h : SersT T w A S) (hb : Below w.heap.size w w') : SersT T w' A S := h.move hb.size fun k hl _ => hb.block k hl
theorem SersT.mono {A : Option Addr} {S : List Ser} (h : SersT T w A S) (hT : ∀ k, T k → U k) : SersT U w A S := by
  obtain ⟨ps, h1, h2, h3, h4⟩ := h
  exact ⟨ps, h1, h2, fun q ad e => hT _ (h3 q ad e), fun x hx => (h4 x hx).mono hT⟩
theorem SersT.nil (T : Nat → Prop) (w : World) (A : Option Addr) : SersT T w A [] := ⟨[], rfl, .inl rfl, fun q => absurd rfl q, fun x hx => by cases hx⟩
/-- An own row of k cells an element, one cell of which is written. -/
theorem rows_write {α : Type} {f : α → List Value} {k base : Nat} {e : TypeId} {v : Value} {l : List α} (hf : ∀ x, (f x).length = k) (h : w.ownsRow base e k v l.length (l.flatMap f)) {g c : Nat} (hv : v = .slice (some ⟨g, 0, none⟩) l.length c) {i j : Nat} (hi : i < l.length) (hj : j < k) (y : α) (u : Value)
    (hy : ∀ x, l[i]? = some x → f y = (f x).set j u) : (w.setCell ⟨g, i * k + j, none⟩ u).ownsRow base e k v l.length ((l.set i y).flatMap f) := by
  rcases h.2 with ⟨e1, h0⟩ | ⟨g', cap, cur, e1, hb, hh, hn, hm, hs, ht⟩
  · omega
  rw [hv] at e1
  injection e1 with e2 _ e3
  injection e2 with e2
  injection e2 with e2
  subst e2
  have hlen := flat_len f k hf (l.set i y)
  rw [List.length_set] at hlen
  have hsz : i * k + j < l.length * k := by
    have h1 : (i + 1) * k ≤ l.length * k := Nat.mul_le_mul_right k hi
    rw [Nat.succ_mul] at h1
    omega
  refine ⟨hlen, .inr ⟨g, cap, cur.setIfInBounds (i * k + j) u, by rw [hv, e3], hb, ?_, hn, hm, by simpa using hs, ?_⟩⟩
  · exact Row.setAt (show Row w g e cur from hh) (i * k + j) u
  · rw [Array.toList_setIfInBounds, List.take_set, ht]
    apply List.ext_getElem?
    intro t
    have hl0 := flat_len f k hf l
    by_cases htk : t < l.length * k
    · have h0 : 0 < k := by omega
      have hq : t / k < l.length := Nat.div_lt_of_lt_mul (by rw [Nat.mul_comm]; exact htk)
      have hm' : t % k < k := Nat.mod_lt _ h0
      have h3 : t / k * k + t % k = t := by rw [Nat.mul_comm]; exact Nat.div_add_mod t k
      have ga := flat_get f k hf l (t / k) l[t / k] (t % k) (List.getElem?_eq_getElem hq) hm'
      have gb := flat_get f k hf (l.set i y) (t / k) ((l.set i y)[t / k]'(by simpa using hq)) (t % k) (List.getElem?_eq_getElem (by simpa using hq)) hm'
      rw [h3] at ga gb
      rw [gb, List.getElem?_set]
      by_cases he : i * k + j = t
      · subst he
        have d1 : (i * k + j) / k = i := by rw [Nat.mul_comm, Nat.mul_add_div h0, Nat.div_eq_of_lt hj, Nat.add_zero]
        have d2 : (i * k + j) % k = j := by rw [Nat.mul_comm, Nat.mul_add_mod, Nat.mod_eq_of_lt hj]
        rw [if_pos rfl, if_pos (by rw [hl0]; exact htk)]
        have hx := hy l[i] (List.getElem?_eq_getElem hi)
        simp only [d1, d2, List.getElem_set_self, hx, List.getElem?_set_self (show j < (f l[i]).length by rw [hf]; exact hj)]
      · rw [if_neg he, ga]
        by_cases hi2 : i = t / k
        · subst hi2
          have hx := hy l[t / k] (List.getElem?_eq_getElem hq)
          rw [List.getElem_set_self, hx, List.getElem?_set_ne (fun q => he (by rw [q]; exact h3))]
        · rw [List.getElem_set_ne hi2]
    · rw [List.getElem?_eq_none (by simp [hl0]; omega), List.getElem?_eq_none (by rw [hlen]; omega)]
end
end Go.Proofs.YtpcjnagdanmdpaaGreat

namespace Go.Proofs.YtpcjnagdanmdpaaGreat
open Go.RowKit Go.Maps
open Ch
set_option linter.unusedVariables false
set_option linter.unusedSimpArgs false
section
variable {B : Nat} {w w' w0 w1 w2 w3 w4 w5 w6 w7 w8 w9 w10 : World} {X Y : Nat} {S S' S2 S3 : List Ser} {A A' : Option Addr} {H T U : Nat → Prop}
theorem SersT.within (h : SersT T w A S) : SersT (fun k => T k ∧ k < w.heap.size) w A S := by
  obtain ⟨ps, h1, h2, h3, h4⟩ := h
  refine ⟨ps, h1, h2, fun q ad e => ⟨h3 q ad e, at_block h2 (fun e0 => q ?_) ad e⟩, fun x hx => ?_⟩
  · have := flat_len spE 2 spE_len ps
    rw [e0] at this
    rw [← h1, List.map_eq_nil_iff]
    exact List.eq_nil_of_length_eq_zero (by simp at this; omega)
  · have hs := h4 x hx
    exact ⟨hs.ins, fun q ad e => ⟨hs.la q ad e, at_block hs.ins.labels (fun e0 => q (lblE_nil e0)) ad e⟩, fun q ad e => ⟨hs.sa q ad e, at_block hs.ins.samples (fun e0 => q (smpE_nil e0)) ad e⟩⟩
/-- A head and the document's list of the same series, each in blocks of its own. -/
structure PlAt (B : Nat) (w : World) (H T : Nat → Prop) (X : Nat) (S : List Ser) (A : Option Addr) : Prop where
  head : HeadAt H w X S
  sers : SersT T w A S
  hH : ∀ k, H k → ¬ T k ∧ B ≤ k ∧ k < w.heap.size
  hT : ∀ k, T k → B ≤ k ∧ k < w.heap.size
/-- A record done on both, and its own rows written over. -/
theorem PlAt.did (hp : PlAt B w H T X S A) (hB : B ≤ w.heap.size) (h2 : Below w.heap.size w w2) (h3 : After H w2 X S' w3) (h4 : SersT (fun k => T k ∨ w3.heap.size ≤ k) w4 A' S') (hb4 : Below w3.heap.size w3 w4) (hU : ∀ k, U k → w.heap.size ≤ k ∧ k < w2.heap.size) (h5 : Kept U w4 w5) :
    ∃ H' T', PlAt B w5 H' T' X S' A' := by
  have s2 := h2.size
  have s3 := h3.2.size
  have s4 := hb4.size
  have s5 := h5.size
  have q1 : HeadAt (fun k => (H k ∨ w2.heap.size ≤ k) ∧ k < w3.heap.size) w5 X S' := (HeadAt.below h3.1.within hb4).kept h5 fun k hk hu => by
    have q := hU k hu
    rcases hk.1 with a | a
    · have := (hp.hH k a).2.2
      omega
    · omega
  have q2 : SersT (fun k => (T k ∨ w3.heap.size ≤ k) ∧ k < w4.heap.size) w5 A' S' := h4.within.kept h5 fun k hk hu => by
    have q := hU k hu
    rcases hk.1 with a | a
    · have := (hp.hT k a).2
      omega
    · omega
  refine ⟨_, _, q1, q2, fun k hk => ⟨fun ht => ?_, ?_, by omega⟩, fun k hk => ⟨?_, by omega⟩⟩
  · rcases hk.1 with a | a <;> rcases ht.1 with b | b
    · exact (hp.hH k a).1 b
    · have := (hp.hH k a).2.2
      omega
    · have := (hp.hT k b).2
      omega
    · omega
  · rcases hk.1 with a | a
    · exact (hp.hH k a).2.1
    · omega
  · rcases hk.1 with a | a
    · exact (hp.hT k a).1
    · omega
theorem did_below (hp : PlAt B w H T X S A) (hB : B ≤ w.heap.size) (h2 : Below w.heap.size w w2) (h3 : After H w2 X S' w3) (hb4 : Below w3.heap.size w3 w4) (hU : ∀ k, U k → w.heap.size ≤ k ∧ k < w2.heap.size) (h5 : Kept U w4 w5) : Below B w w5 := by
  have s2 := h2.size
  have s3 := h3.2.size
  have s4 := hb4.size
  exact (h2.mono hB).trans ((h3.2.to_below (fun k hk => (hp.hH k hk).2.1) (by omega)).trans ((hb4.mono (by omega)).trans (h5.to_below (fun k hk => by have := hU k hk; omega) (by omega))))
end
end Go.Proofs.YtpcjnagdanmdpaaGreat
