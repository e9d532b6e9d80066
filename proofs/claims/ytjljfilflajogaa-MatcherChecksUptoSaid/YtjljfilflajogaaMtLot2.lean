/- In one text, written by merge.py: Open, LbRows, MtMath, LbName, MtGet, MtChk, MtFits, MtRows, MtAll, MtChkAll, LbName2, ReFuel, ReOne, RePiece, ReAlts, ReEndsRef, MtRef1, Bulk, MtBulk, LbText, LbEsc, LbPrint, MtQuo, MtQuo2, MtPrt, MtChecksLaw. -/
import Derived.Test.YtjljfilflajogaaOwn
import Derived.Test.YtjljfilflajogaaRows
import Derived.OpenShut
import Derived.ShutString
import Derived.ChangeOld
import Derived.SizedLaws
import Derived.Lib.SmallJoins
import Derived.Test.YtjljfilflajogaaRowsG
import Derived.Test.YtjljfilflajogaaLbMath
import Derived.Deep.Slices
import Derived.Deep.Strs
import Derived.Deep.Fields
import Derived.Test.YtjljfilflajogaaReParse5
import Derived.Deep.RegionWith
import Derived.BigRegion
import Derived.Test.YtjljfilflajogaaRePat
import Derived.Deep.RegionHeld3
import Derived.Test.YtjljfilflajogaaReCut
import Derived.Test.YtjljfilflajogaaReByte
import Derived.Test.YtjljfilflajogaaReEnds
import Derived.Test.YtjljfilflajogaaReMerge
import Derived.Deep.DeepCutAuto
import Derived.Test.YtjljfilflajogaaReChecksLaw
import Derived.JoinedCond
import Derived.Deep.CondSized
import Derived.Deep.Cut
import Derived.Deep.RegionLaw
import Derived.OwnWalk
import Derived.Lib.SlBytesConst
import Derived.Test.YtjljfilflajogaaShelf
namespace Go.Proofs.Ytjljfilflajogaa
open Go.ChangeShapes Go.WideShapes Go.ChangeAt Go.RowKit Go.Joins
set_option linter.unusedVariables false

theorem ownK : ownKnob Try.prog.godebug = none := by kernel_rfl
theorem laidOutK : laidOutB Try.prog = true := by kernel_rfl

theorem byte_wf {x : Int} (h : (Lit.int .u8 x).wf = true) : 0 ≤ x ∧ x < 256 := by
  have := bounds_u8 h
  omega

theorem cell_lt {w : World} {b o : Nat} {v : Value} (h : w.cell? ⟨b, o, none⟩ = some v) : b < w.heap.size := by
  rcases Nat.lt_or_ge b w.heap.size with hlt | hge
  · exact hlt
  · simp [World.cell?, Array.getElem?_eq_none hge] at h

section
variable {H : Type} {enc : TypeId × Value → H} {W : World} {base : Nat} {sp : Nat → Bool} {held : Bool}

/-- A slice of bytes, as a value and as its datum. -/
theorem open_u8s {fuel : Nat} {v : Value} {x : DataW H × List MemPlace} (hf : DataW.trod enc Try.prog W base sp held fuel 36 [v] = some x) :
    ∃ (A : Option Addr) (l : List UInt8) (c : Nat), v = .slice A l.length c ∧ Bys W A l ∧ l.length ≤ c ∧ c ≤ maxLen ∧
      ((x.1 = .nil ∧ l = []) ∨ ∃ elems spare, x.1 = .slice elems spare ∧ elems.length = l.length) := by
  rcases open_ints Try.underlying36 Try.underlying5 (by kernel_rfl) hf with ⟨hcs, hx⟩ | ⟨a, len, cap, zs, hcs, _, hl, hm, hz, hx, hcell, hwz⟩
  · simp only [List.cons.injEq, and_true] at hcs
    subst hcs
    exact ⟨none, [], 0, rfl, Bys.empty _ _, Nat.le_refl _, by simp [maxLen], .inl ⟨by rw [hx], rfl⟩⟩
  · simp only [List.cons.injEq, and_true] at hcs
    subst hcs
    have hlz : len ≤ zs.length := by rw [hz]; split <;> omega
    have hll : ((zs.take len).map fun z => UInt8.ofNat z.toNat).length = len := by simp; omega
    refine ⟨some a, (zs.take len).map fun z => UInt8.ofNat z.toNat, cap, by rw [hll], ?_, by rw [hll]; exact hl, hm, .inr ⟨_, _, by rw [hx], by simp [lits]⟩⟩
    rcases Nat.eq_zero_or_pos len with h0 | h0
    · exact .inl (List.eq_nil_of_length_eq_zero (by rw [hll]; exact h0))
    · obtain ⟨b, off, spot⟩ := a
      have hc := hcell 0 (by omega)
      have hspot : spot = none := by simpa [Addr.add] using World.cell?_spot hc
      subst hspot
      have hc0 : W.cell? ⟨b, off, none⟩ = some (.int .u8 (zs.getD 0 0)) := by simpa [Addr.add] using hc
      refine .inr ⟨b, off, rfl, cell_lt hc0, fun i hi => ?_⟩
      rw [hll] at hi
      have hci := hcell i (by omega)
      rw [add_at] at hci
      rw [hci]
      have hi2 : i < zs.length := by omega
      have hw := byte_wf (hwz (zs.getD i 0) (by rw [getD_in zs 0 hi2]; exact List.getElem_mem hi2))
      congr 2
      rw [getD_in (List.map (fun z : Int => UInt8.ofNat z.toNat) (zs.take len)) 0 (by rw [hll]; exact hi)]
      simp only [List.getElem_map, List.getElem_take, UInt8.toNat_ofNat']
      rw [getD_in zs 0 hi2] at hw ⊢
      omega

theorem reach_u8s {ts : List TypeId} {ds : List (DataW H)} (hsz : (DataW.weightsEach Try.prog ts ds).all (· ≤ reachBytes) = true) {j : Nat} {d : DataW H} {l : List UInt8} (ht : ts[j]? = some 36) (hd : ds[j]? = some d)
    (h : (d = .nil ∧ l = []) ∨ ∃ elems spare, d = .slice elems spare ∧ elems.length = l.length) : l.length ≤ 140737488351232 := by
  rcases h with ⟨_, rfl⟩ | ⟨el, spr, rfl, hel⟩
  · simp
  · have := sized_slice hsz ht hd Try.underlying36
    have hb : Try.prog.bytesOf 5 = 1 := by kernel_rfl
    rw [hb] at this
    simp [reachBytes] at this
    omega
end
end Go.Proofs.Ytjljfilflajogaa

namespace Go.Proofs.Ytjljfilflajogaa
open Go.ChangeShapes Go.WideShapes Go.ChangeAt Go.RowKit Go.Joins Go.Maps
set_option linter.unusedVariables false

def lblE (s : Lbl) : List Value := [.string s.1, .string s.2]
theorem lblE_len (s : Lbl) : (lblE s).length = 2 := rfl
def Lbls (w : World) (A : Option Addr) (l : List Lbl) : Prop := At w A (l.flatMap lblE)
theorem Lbls.below {w w' : World} {A : Option Addr} {l : List Lbl} (h : Lbls w A l) (hb : Below w.heap.size w w') : Lbls w' A l := At.below h hb
theorem Lbls.alloc {w : World} {A : Option Addr} {l : List Lbl} (h : Lbls w A l) (o : Obj) : Lbls (w.alloc o) A l := At.alloc h o
theorem Lbls.nil (w : World) (A : Option Addr) : Lbls w A [] := .inl rfl
theorem Lbls.at_ {w : World} {A : Option Addr} {l : List Lbl} (h : Lbls w A l) {i : Nat} (hi : i < l.length) :
    ∃ b o, A = some ⟨b, o, none⟩ ∧ b < w.heap.size ∧ w.cell? ⟨b, o + i * 2, none⟩ = some (.string (nmOf l i)) ∧ w.cell? ⟨b, o + i * 2 + 1, none⟩ = some (.string (vlOf l i)) := by
  have hlen := flat_len lblE 2 lblE_len l
  rcases h with h | ⟨b, o, rfl, hb, hc⟩
  · rw [h] at hlen; simp at hlen; omega
  · refine ⟨b, o, rfl, hb, ?_, ?_⟩
    · have := hc (i * 2 + 0) _ (flat_get lblE 2 lblE_len l i _ 0 (getD_some l lbl0 hi) (by omega))
      exact this
    · have := hc (i * 2 + 1) _ (flat_get lblE 2 lblE_len l i _ 1 (getD_some l lbl0 hi) (by omega))
      exact this
/-- The first address is the same for every element. -/
theorem Lbls.all {w : World} {A : Option Addr} {l : List Lbl} (h : Lbls w A l) (hl : 0 < l.length) :
    ∃ b o, A = some ⟨b, o, none⟩ ∧ b < w.heap.size ∧ ∀ i, i < l.length → w.cell? ⟨b, o + i * 2, none⟩ = some (.string (nmOf l i)) ∧ w.cell? ⟨b, o + i * 2 + 1, none⟩ = some (.string (vlOf l i)) := by
  obtain ⟨b, o, rfl, hb, _⟩ := h.at_ hl
  refine ⟨b, o, rfl, hb, fun i hi => ?_⟩
  obtain ⟨b', o', e, _, h1, h2⟩ := h.at_ hi
  injection e with e
  injection e with e1 e2 _
  subst e1 e2
  exact ⟨h1, h2⟩
/-- Two rows, where both have an element. -/
theorem Lbls.front {w : World} {A : Option Addr} {l : List Lbl} (h : Lbls w A l) (k : Nat) : Lbls w A (l.take k) := by
  rcases Nat.eq_zero_or_pos (min k l.length) with h0 | h0
  · have : l.take k = [] := List.eq_nil_of_length_eq_zero (by rw [List.length_take]; exact h0)
    rw [this]; exact Lbls.nil _ _
  · rcases h with h | ⟨b, o, rfl, hb, hc⟩
    · have hlen := flat_len lblE 2 lblE_len l
      rw [h] at hlen; simp at hlen; omega
    · refine .inr ⟨b, o, rfl, hb, fun j u hj => hc j u ?_⟩
      have : l.flatMap lblE = (l.take k).flatMap lblE ++ (l.drop k).flatMap lblE := by rw [← List.flatMap_append, List.take_append_drop]
      rw [this, List.getElem?_append_left (List.getElem?_eq_some_iff.1 hj).1]
      exact hj
theorem Lbls.from {w : World} {b o : Nat} {l : List Lbl} (h : Lbls w (some ⟨b, o, none⟩) l) (k : Nat) (hk : k ≤ l.length) : Lbls w (some ⟨b, o + k * 2, none⟩) (l.drop k) := by
  rcases Nat.eq_zero_or_pos (l.length - k) with h0 | h0
  · have : l.drop k = [] := List.eq_nil_of_length_eq_zero (by rw [List.length_drop]; exact h0)
    rw [this]; exact Lbls.nil _ _
  · rcases h with h | ⟨b', o', e, hb, hc⟩
    · have hlen := flat_len lblE 2 lblE_len l
      rw [h] at hlen; simp at hlen; omega
    · injection e with e
      injection e with e1 e2 _
      subst e1 e2
      refine .inr ⟨b, o + k * 2, rfl, hb, fun j u hj => ?_⟩
      rw [Nat.add_assoc]
      refine hc _ _ ?_
      have : l.flatMap lblE = (l.take k).flatMap lblE ++ (l.drop k).flatMap lblE := by rw [← List.flatMap_append, List.take_append_drop]
      have hl1 : ((l.take k).flatMap lblE).length = k * 2 := by rw [flat_len lblE 2 lblE_len, List.length_take, Nat.min_eq_left hk]
      rw [this, List.getElem?_append_right (by omega), hl1, Nat.add_sub_cancel_left]
      exact hj

/-- The value v is a row of labels of the call's own, from block base on, and holds l. -/
def OwnL (w : World) (base : Nat) (v : Value) (l : List Lbl) : Prop := w.ownsRow base 63 2 v l.length (l.flatMap lblE)
section
variable {w w' : World} {base : Nat} {v : Value} {l : List Lbl}
theorem ownl_nil (w : World) (base : Nat) : OwnL w base (.slice none 0 0) [] := ⟨rfl, .inl ⟨rfl, rfl⟩⟩
theorem ownl_empty {g : Nat} (h : Row w g 63 #[]) (hb : base ≤ g) : OwnL w base (.slice (some ⟨g, 0, none⟩) 0 0) [] :=
  ⟨rfl, .inr ⟨g, 0, #[], rfl, hb, h, Nat.le_refl _, by simp [maxLen], by simp, by simp⟩⟩
theorem ownl_below (h : OwnL w base v l) (hb : Below w.heap.size w w') : OwnL w' base v l := rows_below h hb
theorem ownl_lower {base' : Nat} (h : OwnL w base v l) (hb : base' ≤ base) : OwnL w base' v l := rows_lower h hb
theorem ownl_slice (h : OwnL w base v l) : ∃ P c, v = .slice P l.length c ∧ l.length ≤ c ∧ Lbls w P l ∧ ∀ ad, P = some ad → base ≤ ad.block := rows_slice h
end
theorem label_info : (Try.prog.info? 63).map (fun i => (i.zero, i.size, i.bytes)) = some (some (.agg #[.string ⟨#[]⟩, .string ⟨#[]⟩]), 2, 32) := by kernel_rfl
theorem lbl_one (l : List Lbl) : ∀ u ∈ l.flatMap lblE, u.oneCell' = true := by
  intro u hu
  simp only [List.mem_flatMap, lblE, List.mem_cons, List.not_mem_nil, or_false] at hu
  obtain ⟨x, _, rfl | rfl⟩ := hu <;> rfl
/-- append of labels to an own row, at a walk's built-in. -/
theorem app_lbls {w : World} {ops : Array Oper} {rest : List Oper} {o : Oper} {a : Act} {Q : Exit → Act → World → Prop} (hgd : o.guard = none) (s y : Operand)
    (ho : o.op = .call { callee := .builtin .append, args := #[s, y], argTypes := #[44, 44] })
    (base : Nat) (v : Value) (x : List Lbl) (hs : a.eval s = v) (hown : OwnL w base v x) (A : Option Addr) (l : List Lbl) (c : Nat) (hy : a.eval y = .slice A l.length c) (hA : Lbls w A l) (hn : (x.length + l.length) * 32 ≤ 140737488355328) (hbase : base ≤ w.heap.size)
    (h : ∀ v' w', OwnL w' base v' (x ++ l) → Below base w w' → w.grownBy w' v.ownBlock → wpList Try.prog ops Q rest (a.put o.dst v') w') : wpList Try.prog ops Q (o :: rest) a w := by
  obtain ⟨i0, hi, hz0, hz1, hz2⟩ := info_parts label_info
  refine wpList_app_at hgd s y 44 ho base 63 i0 _ 2 32 Try.underlying44 hi hz0 hz1 hz2 rfl (by omega) v x.length (x.flatMap lblE) hs hown A l.length c (l.flatMap lblE) hy (flat_len lblE 2 lblE_len l) hA (lbl_one l)
    (by simp only [maxLen]; omega) hn hbase ?_
  intro v' w' h1 h2 h3
  refine h v' w' ?_ h2 h3
  unfold OwnL
  rw [List.flatMap_append, List.length_append]
  exact h1
theorem lbls_cell {w : World} {g : Nat} {t v : ByteArray} (h : Row w g 63 #[.string t, .string v]) : Lbls w (some ⟨g, 0, none⟩) [(t, v)] := At.row h

/-! ### opening -/
theorem reach_is : reachBytes = 140737488351232 := rfl
/-- No text is longer than a law's argument may be. -/
def LFit (s : Lbl) : Prop := s.1.size ≤ 140737488351232 ∧ s.2.size ≤ 140737488351232
def LFits (l : List Lbl) : Prop := ∀ i, i < l.length → (nmOf l i).size ≤ 140737488351232 ∧ (vlOf l i).size ≤ 140737488351232
section
variable {H : Type} {enc : TypeId × Value → H} {W : World} {base : Nat} {sp : Nat → Bool} {held : Bool}
theorem trod_struct2 {P : Program} {w : World} {t : TypeId} {f0 f1 : Field} {fuel : Nat} {cs : List Value} {x : DataW H × List MemPlace} (ht : P.underlying t = some (.struct #[f0, f1])) (h : DataW.trod enc P w base sp held fuel t cs = some x) :
    ∃ y0 y1 n, x.1 = .agg [y0.1, y1.1] ∧ cs.length = P.cellsOf t ∧ DataW.trod enc P w base sp held n f0.type ((cs.drop f0.offset).take (P.cellsOf f0.type)) = some y0 ∧
      DataW.trod enc P w base sp held n f1.type ((cs.drop f1.offset).take (P.cellsOf f1.type)) = some y1 := by
  obtain ⟨xs, n, _, rfl, hl, hlen, hf⟩ := DataW.trod_struct ht h
  match xs, hlen with
  | [y0, y1], _ => exact ⟨y0, y1, n, by simp, hl, by simpa using hf 0 f0 rfl, by simpa using hf 1 f1 rfl⟩
theorem two_of {α : Type} {l : List α} (h : l.length = 2) : ∃ c0 c1, l = [c0, c1] := by
  match l, h with
  | [c0, c1], _ => exact ⟨c0, c1, rfl⟩
theorem lbl_cells : Try.prog.cellsOf 63 = 2 := by kernel_rfl
theorem lbl_two : ∃ f0 f1 : Field, Try.prog.underlying 63 = some (.struct #[f0, f1]) ∧ Go.Deep.oneCellFields Try.prog #[f0, f1] = true ∧ [f0.type, f1.type] = [9, 9] :=
  ⟨_, _, Try.underlying63, by kernel_rfl, rfl⟩
theorem open_lbl {fuel : Nat} {cs : List Value} {x : DataW H × List MemPlace} (h : DataW.trod enc Try.prog W base sp held fuel 63 cs = some x) (hw : ∀ n ∈ x.1.weights Try.prog 63, n ≤ reachBytes) : ∃ s : Lbl, cs = lblE s ∧ LFit s := by
  obtain ⟨f0, f1, hu, hone, hty⟩ := lbl_two
  simp only [List.cons.injEq, and_true] at hty
  obtain ⟨e0, e1⟩ := hty
  obtain ⟨y0, y1, n, hx, hl, h0, h1⟩ := trod_struct2 hu h
  rw [lbl_cells] at hl
  obtain ⟨c0, c1, rfl⟩ := two_of hl
  obtain ⟨o0, k0⟩ := Go.Deep.hone_of hone 0 f0 rfl
  obtain ⟨o1, k1⟩ := Go.Deep.hone_of hone 1 f1 rfl
  have h0' : DataW.trod enc Try.prog W base sp held n 9 [c0] = some y0 := by rw [← e0]; simpa [o0, k0] using h0
  have h1' : DataW.trod enc Try.prog W base sp held n 9 [c1] = some y1 := by rw [← e1]; simpa [o1, k1] using h1
  have hwe : ∀ n ∈ DataW.weightsEach Try.prog [9, 9] [y0.1, y1.1], n ≤ reachBytes := by
    intro m hm
    refine hw m ?_
    rw [hx]
    unfold DataW.weights
    rw [hu]
    show m ∈ DataW.weightsEach Try.prog ([f0, f1].map (·.type)) _
    rw [show [f0, f1].map (fun x : Field => x.type) = [9, 9] from by simp [e0, e1]]
    exact hm
  have hsz : (DataW.weightsEach Try.prog [9, 9] [y0.1, y1.1]).all (· ≤ reachBytes) = true := List.all_eq_true.2 fun m hm => by simpa using hwe m hm
  obtain ⟨s0, g0, d0, _⟩ := DataW.trod_string Try.underlying9 h0'
  obtain ⟨s1, g1, d1, _⟩ := DataW.trod_string Try.underlying9 h1'
  simp only [List.cons.injEq, and_true] at g0 g1
  subst g0 g1
  have r0 := sized_string hsz (j := 0) rfl (bytes := s0.data.toList) (by rw [d0]; rfl)
  have r1 := sized_string hsz (j := 1) rfl (bytes := s1.data.toList) (by rw [d1]; rfl)
  rw [reach_is] at r0 r1
  refine ⟨(s0, s1), rfl, ?_, ?_⟩
  · have : s0.data.toList.length = s0.size := Array.length_toList
    show s0.size ≤ 140737488351232
    omega
  · have : s1.data.toList.length = s1.size := Array.length_toList
    show s1.size ≤ 140737488351232
    omega
theorem weights_all {P : Program} {e : TypeId} : ∀ {ds : List (DataW H)} {d : DataW H}, d ∈ ds → ∀ n ∈ d.weights P e, n ∈ DataW.weightsAll P e ds := by
  intro ds
  induction ds with
  | nil => intro d h; cases h
  | cons x r ih =>
    intro d h n hn
    simp only [DataW.weightsAll, List.mem_append]
    rcases List.mem_cons.1 h with rfl | h
    · exact .inl hn
    · exact .inr (ih h n hn)
theorem open_lbls {fuel : Nat} {v : Value} {x : DataW H × List MemPlace} (hf : DataW.trod enc Try.prog W base sp held fuel 44 [v] = some x) (hw : ∀ n ∈ x.1.weights Try.prog 44, n ≤ reachBytes) :
    ∃ (V : Option Addr) (l : List Lbl) (c : Nat), v = .slice V l.length c ∧ Lbls W V l ∧ LFits l ∧ l.length * 32 ≤ 140737488351232 ∧ l.length ≤ c := by
  rcases Go.Deep.open_slice Try.underlying44 hf with ⟨hcs, hx⟩ | ⟨a, len, cap, m, n, D, Pl, hcs, hb, hl, hm, hmm, hx, hcell⟩
  · simp only [List.cons.injEq, and_true] at hcs
    subst hcs
    exact ⟨none, [], 0, rfl, .inl rfl, fun i hi => by simp at hi, by simp, Nat.le_refl _⟩
  · simp only [List.cons.injEq, and_true] at hcs
    subst hcs
    rw [lbl_cells] at hcell
    have hml : len ≤ m := by rw [hmm]; split <;> omega
    rw [hx] at hw
    simp only [DataW.weights, Try.underlying44] at hw
    have hbytes : Try.prog.bytesOf 63 = 32 := by kernel_rfl
    have hlen32 := hw ((((List.range len).map D).length + ((List.range (m - len)).map fun j => D (len + j)).length) * Try.prog.bytesOf 63) (by simp)
    rw [hbytes] at hlen32
    simp only [List.length_map, List.length_range] at hlen32
    rw [reach_is] at hlen32
    have each : ∀ i, i < len → ∃ y : Lbl, LFit y ∧ W.cells? base (a.add (i * 2)) 2 = some (lblE y) := by
      intro i hi
      obtain ⟨cs', h1, h2⟩ := hcell i (by omega)
      obtain ⟨y, rfl, hy⟩ := open_lbl h2 (fun q hq => hw q (by
        simp only [List.mem_cons, List.mem_append]
        exact .inr (.inl (weights_all (List.mem_map.2 ⟨i, List.mem_range.2 hi, rfl⟩) q hq))))
      exact ⟨y, hy, h1⟩
    obtain ⟨y, hy⟩ := Go.Deep.choose_lt each
    have hlen : ((List.range len).map y).length = len := by simp
    have hget : ∀ i, i < len → ((List.range len).map y).getD i lbl0 = y i := by
      intro i hi
      simp [List.getD_eq_getElem?_getD, hi]
    refine ⟨some a, (List.range len).map y, cap, by rw [hlen], ?_, ?_, by rw [hlen]; omega, by rw [hlen]; exact hl⟩
    · rcases Nat.eq_zero_or_pos len with h0 | h0
      · have : (List.range len).map y = [] := List.eq_nil_of_length_eq_zero (by rw [hlen]; exact h0)
        rw [this]
        exact Lbls.nil _ _
      · obtain ⟨b, o, spot⟩ := a
        obtain ⟨_, hcs0⟩ := hy 0 h0
        obtain ⟨_, _, hc0⟩ := World.cells?_some hcs0
        have hc := hc0 0 (by omega)
        have hspot : spot = none := by
          have := World.cell?_spot (hc.trans rfl)
          simpa [Addr.add] using this
        subst hspot
        have hc00 : W.cell? ⟨b, o, none⟩ = some (.string (y 0).1) := by
          have : (lblE (y 0))[0]? = some (.string (y 0).1) := rfl
          rw [this] at hc
          simpa [Addr.add] using hc
        refine .inr ⟨b, o, rfl, cell_lt hc00, fun j u hj => ?_⟩
        have hj2 : j < len * 2 := by
          have := (List.getElem?_eq_some_iff.1 hj).1
          rw [flat_len lblE 2 lblE_len, hlen] at this
          exact this
        have hi : j / 2 < len := by omega
        obtain ⟨_, hcs⟩ := hy (j / 2) hi
        obtain ⟨_, _, hcj⟩ := World.cells?_some hcs
        have h1 := hcj (j % 2) (by omega)
        rw [add_at, add_at] at h1
        have h2 := flat_get lblE 2 lblE_len ((List.range len).map y) (j / 2) _ (j % 2) (getD_some _ lbl0 (by rw [hlen]; exact hi)) (by omega)
        rw [hget _ hi, show j / 2 * 2 + j % 2 = j from by omega, hj] at h2
        rw [← h2, show o + j / 2 * 2 + j % 2 = o + j from by omega] at h1
        exact h1
    · intro i hi
      rw [hlen] at hi
      unfold nmOf vlOf
      rw [hget i hi]
      exact (hy i hi).1
end
end Go.Proofs.Ytjljfilflajogaa

namespace Go.Proofs.Ytjljfilflajogaa
open Go.RowKit
set_option linter.unusedVariables false

/-- A matcher: its kind, its name, its value. -/
abbrev Mt := Int × ByteArray × ByteArray
def mt0 : Mt := (0, ⟨#[]⟩, ⟨#[]⟩)
def kindB (k : Int) : Bool := decide (1 ≤ k) && decide (k ≤ 4)
def signM (k : Int) : ByteArray := if k = 1 then ⟨#[61]⟩ else if k = 2 then ⟨#[33, 61]⟩ else if k = 3 then ⟨#[61, 126]⟩ else if k = 4 then ⟨#[33, 126]⟩ else ⟨#[]⟩
/-- What refuses a matcher (0: nothing). -/
def mchk (m : Mt) : Int :=
  if kindB m.1 = false then 2 else if nameB (strL m.2.1) = false then 8 else if 64 < m.2.2.size then 3 else if m.1 ≤ 2 then 0 else (parseM 300 (strL m.2.2)).1
/-- Does a matcher that may be fit this value? -/
def mtake (m : Mt) (v : ByteArray) : Bool :=
  if m.1 = 1 then decide (v = m.2.2) else if m.1 = 2 then !decide (v = m.2.2) else if m.1 = 3 then (fitV 300 (strL m.2.2) (strL v)).1 else if m.1 = 4 then !(fitV 300 (strL m.2.2) (strL v)).1 else false
/-- The value of the first label of that name. -/
def valOf : List Lbl → ByteArray → ByteArray
  | [], _ => ⟨#[]⟩
  | x :: l, name => if x.1 = name then x.2 else valOf l name
def mfits (m : Mt) (l : List Lbl) : Bool := decide (mchk m = 0) && mtake m (valOf l m.2.1)
def mall (ms : List Mt) (l : List Lbl) : Bool := ms.all fun m => mfits m l
/-- The first error of them. -/
def merr : List Mt → Int
  | [] => 0
  | m :: ms => if mchk m = 0 then merr ms else mchk m
def mchkAll (ms : List Mt) : Int := if 8 < ms.length then 3 else if merr ms ≠ 0 then merr ms else if mall ms [] = true then 2 else 0

theorem eqT (a b : ByteArray) : (a.toList == b.toList) = decide (a = b) := by
  rw [ByteArray.toList_eq, ByteArray.toList_eq, Bool.eq_iff_iff, beq_iff_eq, decide_eq_true_eq]
  constructor
  · intro h; exact ByteArray.ext (Array.toList_inj.1 h)
  · intro h; rw [h]
theorem kind_cases {k : Int} (h : kindB k = true) : k = 1 ∨ k = 2 ∨ k = 3 ∨ k = 4 := by
  unfold kindB at h
  simp only [Bool.and_eq_true, decide_eq_true_eq] at h
  omega
theorem kind_not {k : Int} (h : kindB k = false) : k ≠ 1 ∧ k ≠ 2 ∧ k ≠ 3 ∧ k ≠ 4 := by
  refine ⟨?_, ?_, ?_, ?_⟩ <;> (rintro rfl; simp [kindB] at h)
theorem sign_none {k : Int} (h : kindB k = false) : signM k = ⟨#[]⟩ := by
  obtain ⟨h1, h2, h3, h4⟩ := kind_not h
  unfold signM
  rw [if_neg h1, if_neg h2, if_neg h3, if_neg h4]
theorem sign_some {k : Int} (h : kindB k = true) : ((signM k).toList == []) = false := by
  rcases kind_cases h with rfl | rfl | rfl | rfl <;> (rw [ByteArray.toList_eq]; rfl)
theorem mchk_kind {k : Int} {n v : ByteArray} (h : kindB k = false) : mchk (k, n, v) = 2 := by unfold mchk; rw [if_pos h]
theorem mchk_name {k : Int} {n v : ByteArray} (h : kindB k = true) (h2 : nameB (strL n) = false) : mchk (k, n, v) = 8 := by
  unfold mchk; rw [if_neg (by rw [h]; simp), if_pos h2]
theorem mchk_big {k : Int} {n v : ByteArray} (h : kindB k = true) (h2 : nameB (strL n) = true) (h3 : 64 < v.size) : mchk (k, n, v) = 3 := by
  unfold mchk; rw [if_neg (by rw [h]; simp), if_neg (by rw [h2]; simp), if_pos h3]
theorem mchk_eq {k : Int} {n v : ByteArray} (h : kindB k = true) (h2 : nameB (strL n) = true) (h3 : ¬ 64 < v.size) (h4 : k ≤ 2) : mchk (k, n, v) = 0 := by
  unfold mchk; rw [if_neg (by rw [h]; simp), if_neg (by rw [h2]; simp), if_neg h3, if_pos h4]
theorem mchk_re {k : Int} {n v : ByteArray} (h : kindB k = true) (h2 : nameB (strL n) = true) (h3 : ¬ 64 < v.size) (h4 : ¬ k ≤ 2) : mchk (k, n, v) = (parseM 300 (strL v)).1 := by
  unfold mchk; rw [if_neg (by rw [h]; simp), if_neg (by rw [h2]; simp), if_neg h3, if_neg h4]
/-- A matcher and its opposite. -/
theorem opp_chk (n v : ByteArray) (p : Bool) : mchk (bif p then 3 else 1, n, v) = mchk (bif p then 4 else 2, n, v) := by
  cases p <;> rfl
theorem opp_fits (n v : ByteArray) (p : Bool) (l : List Lbl) (h : mchk (bif p then 3 else 1, n, v) = 0) : mfits (bif p then 4 else 2, n, v) l = !mfits (bif p then 3 else 1, n, v) l := by
  have h2 := (opp_chk n v p).symm.trans h
  unfold mfits
  rw [decide_eq_true h, decide_eq_true h2]
  cases p <;> simp [mtake]
theorem fits_no {m : Mt} {l : List Lbl} (h : mchk m ≠ 0) : mfits m l = false := by
  unfold mfits
  rw [decide_eq_false h]
  rfl
theorem mall_snoc (ms : List Mt) (m : Mt) (l : List Lbl) : mall (ms ++ [m]) l = (mall ms l && mfits m l) := by
  unfold mall
  rw [List.all_append]
  simp
/-- The pattern of a quoted text. -/
theorem plain_fits {n v q : ByteArray} (hq : strL q = quoteL (strL v)) (h1 : mchk (1, n, v) = 0) (h3 : mchk (3, n, q) = 0) (l : List Lbl) : mfits (3, n, q) l = mfits (1, n, v) l := by
  unfold mfits
  rw [decide_eq_true h1, decide_eq_true h3]
  have hk1 : kindB 1 = true := rfl
  have hk3 : kindB 3 = true := rfl
  cases hn : nameB (strL n) with
  | false => rw [mchk_name hk1 hn] at h1; cases h1
  | true =>
    have hv : ¬ 64 < v.size := fun hb => by rw [mchk_big hk1 hn hb] at h1; cases h1
    have hz : ¬ 64 < q.size := fun hb => by rw [mchk_big hk3 hn hb] at h3; cases h3
    have hql := strL_length q
    have hvl := strL_length v
    have hp := pat_quoted (n := 300) (strL v) (by omega)
    rw [← hq] at hp
    have ep : parseM 300 (strL q) = (0, .alt [.row ((strL v).map oneM)]) := by rw [parse_of hp (by omega)]; rfl
    generalize valOf l n = x
    show (fitV 300 (strL q) (strL x)).1 = decide (x = v)
    have hxl := strL_length x
    unfold fitV
    rw [ep]
    simp only [if_true]
    by_cases hx : 64 < (strL x).length
    · rw [if_pos hx]
      symm
      rw [decide_eq_false_iff_not]
      intro e
      rw [e] at hx
      omega
    · rw [if_neg hx]
      show fitsM _ _ = _
      rw [fits_quoted, decide_eq_decide]
      constructor
      · intro e; exact ByteArray.ext (Array.toList_inj.1 e)
      · intro e; rw [e]
end Go.Proofs.Ytjljfilflajogaa

namespace Go.Proofs.Ytjljfilflajogaa
open Go.RowKit
set_option linter.unusedVariables false

theorem strL_get (s : ByteArray) {k : Nat} (h : k < s.size) : (strL s).getD k 0 = s[k] := by
  rw [getD_in _ 0 (by rw [strL_length]; exact h)]
  rfl
theorem ret_bool {a b : Bool} (h : a = b) : Ending.returned (.bool a) = .returned (.bool b) := by rw [h]
theorem letter_cases (c : UInt8) (n : Nat) (hn : c.toNat = n) : (decide (97 ≤ n) = true ∧ decide (n ≤ 122) = true ∧ letterB c = true) ∨
    (decide (97 ≤ n) = true ∧ decide (n ≤ 122) = false ∧ decide (65 ≤ n) = true ∧ decide (n ≤ 90) = false ∧ (n == 95) = false ∧ letterB c = false) ∨
    (decide (97 ≤ n) = false ∧ decide (65 ≤ n) = true ∧ decide (n ≤ 90) = true ∧ letterB c = true) ∨
    (decide (97 ≤ n) = false ∧ decide (65 ≤ n) = true ∧ decide (n ≤ 90) = false ∧ (n == 95) = true ∧ letterB c = true) ∨
    (decide (97 ≤ n) = false ∧ decide (65 ≤ n) = true ∧ decide (n ≤ 90) = false ∧ (n == 95) = false ∧ letterB c = false) ∨
    (decide (97 ≤ n) = false ∧ decide (65 ≤ n) = false ∧ (n == 95) = false ∧ letterB c = false) := by
  subst hn
  unfold letterB
  by_cases h1 : 97 ≤ c.toNat <;> by_cases h2 : c.toNat ≤ 122 <;> by_cases h3 : 65 ≤ c.toNat <;> by_cases h4 : c.toNat ≤ 90 <;> by_cases h5 : c.toNat = 95 <;> simp [h1, h2, h3, h4, h5] <;> omega
theorem letter_prog (c : UInt8) (w : World) :
    Calls Try.prog 58 #[.int .u8 (c.toNat : Int)] w fun e w' => e = .returned (.bool (letterB c)) ∧ w = w' := by
  have hc := c.toNat_lt
  obtain ⟨n, hn⟩ : ∃ n, c.toNat = n := ⟨_, rfl⟩
  have k1 : decide ((97 : Int) ≤ (n : Int)) = decide (97 ≤ n) := by rw [decide_eq_decide]; omega
  have k2 : decide ((n : Int) ≤ 122) = decide (n ≤ 122) := by rw [decide_eq_decide]; omega
  have k3 : decide ((65 : Int) ≤ (n : Int)) = decide (65 ≤ n) := by rw [decide_eq_decide]; omega
  have k4 : decide ((n : Int) ≤ 90) = decide (n ≤ 90) := by rw [decide_eq_decide]; omega
  have k5 : ((n : Int) == 95) = (n == 95) := by rw [Bool.eq_iff_iff, beq_iff_eq, beq_iff_eq]; omega
  have key := letter_cases c n hn
  rw [hn] at *
  rcases key with ⟨h1, h2, h⟩ | ⟨h1, h2, h3, h4, h5, h⟩ | ⟨h1, h3, h4, h⟩ | ⟨h1, h3, h4, h5, h⟩ | ⟨h1, h3, h4, h5, h⟩ | ⟨h1, h3, h5, h⟩
  all_goals
    rw [h]
    simp only [h1] at k1
    try simp only [h2] at k2
    try simp only [h3] at k3
    try simp only [h4] at k4
    try simp only [h5] at k5
    clear h hn hc
    go_enter Try.func58, Try.ntmps58
    go_wp2
    go_ret
    exact ⟨rfl, rfl⟩
theorem digit_prog (c : UInt8) (w : World) :
    Calls Try.prog 59 #[.int .u8 (c.toNat : Int)] w fun e w' => e = .returned (.bool (digitB c)) ∧ w = w' := by
  have hc := c.toNat_lt
  unfold digitB
  generalize c.toNat = n at *
  have k1 : decide ((48 : Int) ≤ (n : Int)) = decide (48 ≤ n) := by rw [decide_eq_decide]; omega
  have k2 : decide ((n : Int) ≤ 57) = decide (n ≤ 57) := by rw [decide_eq_decide]; omega
  cases h1 : decide (48 ≤ n) <;> cases h2 : decide (n ≤ 57)
  all_goals
    rw [h1] at k1
    rw [h2] at k2
    go_enter Try.func59, Try.ntmps59
    go_wp2
    go_ret
    exact ⟨rfl, rfl⟩

theorem name_prog (s : ByteArray) (w : World) :
    Calls Try.prog 42 #[.string s] w fun e w' => e = .returned (.bool (nameB (strL s))) ∧ w = w' := by
  by_cases h0 : s.size = 0
  · have e : nameB (strL s) = false := by unfold nameB; rw [strL_length, h0]; rfl
    rw [e]
    have d0 : ((s.size : Int) == 0) = true := by rw [h0]; rfl
    clear e
    go_enter Try.func42, Try.ntmps42
    go_wp2
    go_ret
    exact ⟨rfl, rfl⟩
  have d0 : ((s.size : Int) == 0) = false := by rw [beq_eq_false_iff_ne]; omega
  by_cases h1 : 32 < s.size
  · have e : nameB (strL s) = false := by unfold nameB; rw [strL_length, decide_eq_true (show 0 < s.size by omega), decide_eq_false (show ¬ s.size ≤ 32 by omega)]; rfl
    rw [e]
    have d1 : decide ((32 : Int) < (s.size : Int)) = true := by simp; omega
    clear e
    go_enter Try.func42, Try.ntmps42
    go_wp2
    go_ret
    exact ⟨rfl, rfl⟩
  have d1 : decide ((32 : Int) < (s.size : Int)) = false := by simp; omega
  have HE := Lib.hid (show nameB (strL s) = okF (strL s) s.size 0 by unfold nameB; rw [strL_length, decide_eq_true (show 0 < s.size by omega), decide_eq_true (show s.size ≤ 32 by omega)]; rfl)
  rw [HE.out]
  go_enter Try.func42, Try.ntmps42
  go_wp2_with fail
  go_loop [14] (fun i => ∃ k : Nat, k ≤ s.size ∧ i = .int .i64 (k : Int) ∧ okF (strL s) (s.size - k) k = okF (strL s) s.size 0) (fun i => s.size - (intOf i).toNat)
  case atStart => exact ⟨0, Nat.zero_le _, rfl, rfl⟩
  case round =>
    obtain ⟨k, hk, rfl, hall⟩ := hrel
    by_cases hlt : k < s.size
    · rw [show s.size - k = (s.size - (k + 1)) + 1 from by omega, okF, strL_get s hlt] at hall
      have HA := Lib.hid hall
      clear hall
      have HL := Lib.hid (letter_prog s[k] w)
      have HD := Lib.hid (digit_prog s[k] w)
      cases hl : letterB s[k]
      · rw [hl] at HL
        by_cases hk0 : k = 0
        · have eb : okB s[k] k = false := by unfold okB; rw [hl, decide_eq_false (by omega)]; rfl
          rw [eb] at HA
          have i0 : ((k : Int) == 0) = true := by rw [hk0]; rfl
          clear eb hl hk0
          go_wp2_with fail
          refine HL.out.mono ?_
          rintro e w1 ⟨rfl, rfl⟩
          go_wp2_with fail
          go_ret
          exact ⟨by rw [← HA.out]; rfl, rfl⟩
        · have i0 : ((k : Int) == 0) = false := by rw [beq_eq_false_iff_ne]; omega
          cases hd : digitB s[k]
          · have eb : okB s[k] k = false := by unfold okB; rw [hl, hd]; simp
            rw [eb] at HA
            rw [hd] at HD
            clear eb hl hd hk0
            go_wp2_with fail
            refine HL.out.mono ?_
            rintro e w1 ⟨rfl, rfl⟩
            go_wp2_with fail
            refine HD.out.mono ?_
            rintro e w1 ⟨rfl, rfl⟩
            go_wp2_with fail
            go_ret
            exact ⟨by rw [← HA.out]; rfl, rfl⟩
          · have eb : okB s[k] k = true := by unfold okB; rw [hl, hd, decide_eq_true (by omega)]; rfl
            rw [eb, if_pos rfl] at HA
            rw [hd] at HD
            clear eb hl hd hk0
            go_wp2_with fail
            refine HL.out.mono ?_
            rintro e w1 ⟨rfl, rfl⟩
            go_wp2_with fail
            refine HD.out.mono ?_
            rintro e w1 ⟨rfl, rfl⟩
            go_wp2_with fail
            exact ⟨⟨k + 1, by omega, by go_num, HA.out⟩, by simp [intOf]; omega⟩
      · have eb : okB s[k] k = true := by unfold okB; rw [hl]; rfl
        rw [eb, if_pos rfl] at HA
        rw [hl] at HL
        clear eb hl
        go_wp2_with fail
        refine HL.out.mono ?_
        rintro e w1 ⟨rfl, rfl⟩
        go_wp2_with fail
        exact ⟨⟨k + 1, by omega, by go_num, HA.out⟩, by simp [intOf]; omega⟩
    · obtain rfl : k = s.size := by omega
      rw [Nat.sub_self, okF] at hall
      have HA := Lib.hid hall
      clear hall
      go_wp2_with fail
      go_ret
      exact ⟨ret_bool HA.out, rfl⟩
end Go.Proofs.Ytjljfilflajogaa

namespace Go.Proofs.Ytjljfilflajogaa
open Go.RowKit
set_option linter.unusedVariables false

theorem val_eq {l : List Lbl} {name : ByteArray} {k : Nat} (hk : k < l.length) (h : nmOf l k = name) : valOf (l.drop k) name = vlOf l k := by
  rw [List.drop_eq_getElem_cons hk, valOf]
  have e : l[k] = l.getD k lbl0 := by simp [List.getD, List.getElem?_eq_getElem hk]
  rw [e]
  exact if_pos h
theorem val_ne {l : List Lbl} {name : ByteArray} {k : Nat} (hk : k < l.length) (h : nmOf l k ≠ name) : valOf (l.drop k) name = valOf (l.drop (k + 1)) name := by
  rw [List.drop_eq_getElem_cons hk, valOf]
  have e : l[k] = l.getD k lbl0 := by simp [List.getD, List.getElem?_eq_getElem hk]
  rw [e]
  exact if_neg h
theorem ret_strv {a b : ByteArray} (h : a = b) : Ending.returned (.string a) = .returned (.string b) := by rw [h]
theorem get_prog (A : Option Addr) (l : List Lbl) (c : Nat) (name : ByteArray) (w : World) (hA : Lbls w A l) (hl : l.length ≤ 100000000000000) :
    Calls Try.prog 47 #[.slice A l.length c, .string name] w fun e w' => e = .returned (.string (valOf l name)) ∧ Below w.heap.size w w' := by
  have HA := Lib.hid hA
  clear hA
  go_enter Try.func47, Try.ntmps47
  go_wp2_with fail
  go_loopw [9] (fun i wr => ∃ k : Nat, k ≤ l.length ∧ i = .int .i64 (k : Int) ∧ valOf (l.drop k) name = valOf l name ∧ Below w.heap.size w wr) (fun i _ => l.length - (intOf i).toNat)
  case atStart => exact ⟨0, Nat.zero_le _, rfl, rfl, Below.refl _ _⟩
  case round =>
    obtain ⟨k, hk, rfl, he, hbr⟩ := hrel
    by_cases hlt : k < l.length
    · obtain ⟨b, o, rfl, hb, g0, g1⟩ := HA.out.at_ hlt
      have c0 := (hbr.cell (p := ⟨b, o + k * 2, none⟩) hb).trans g0
      have c1 := (hbr.cell (p := ⟨b, o + k * 2 + 1, none⟩) hb).trans g1
      have i2 : (k : Int) < (l.length : Int) := by omega
      have hq := eqT (nmOf l k) name
      have HB := Lib.hid (hbr.alloc hbr.size (.cells #[.string (nmOf l k), .string (vlOf l k)] 63))
      clear g0 g1 hbr
      by_cases h : nmOf l k = name
      · have HE := Lib.hid ((val_eq hlt h).symm.trans he)
        rw [decide_eq_true h] at hq
        clear he h
        go_wp2_with fail
        go_ret
        exact ⟨ret_strv HE.out, HB.out⟩
      · have HE := Lib.hid ((val_ne hlt h).symm.trans he)
        rw [decide_eq_false h] at hq
        clear he h
        go_wp2_with fail
        go_roundw
        case rel => exact ⟨k + 1, by omega, by go_num, HE.out, HB.out⟩
        case measure => simp [intOf]; omega
    · obtain rfl : k = l.length := by omega
      rw [List.drop_length] at he
      have HE := Lib.hid (show (⟨#[]⟩ : ByteArray) = valOf l name from he)
      clear he
      go_wp2_with fail
      go_ret
      exact ⟨ret_strv HE.out, hbr⟩
end Go.Proofs.Ytjljfilflajogaa

namespace Go.Proofs.Ytjljfilflajogaa
open Go.RowKit
set_option linter.unusedVariables false

theorem sign_prog (k : Int) (w : World) : Calls Try.prog 41 #[.int .i64 k] w fun e w' => e = .returned (.string (signM k)) ∧ w = w' := by
  by_cases h1 : k = 1
  · subst h1
    go_enter Try.func41, Try.ntmps41
    go_wp2
    go_ret
    exact ⟨rfl, rfl⟩
  by_cases h2 : k = 2
  · subst h2
    go_enter Try.func41, Try.ntmps41
    go_wp2
    go_ret
    exact ⟨rfl, rfl⟩
  by_cases h3 : k = 3
  · subst h3
    go_enter Try.func41, Try.ntmps41
    go_wp2
    go_ret
    exact ⟨rfl, rfl⟩
  by_cases h4 : k = 4
  · subst h4
    go_enter Try.func41, Try.ntmps41
    go_wp2
    go_ret
    exact ⟨rfl, rfl⟩
  have d1 : (k == 1) = false := beq_eq_false_iff_ne.2 h1
  have d2 : (k == 2) = false := beq_eq_false_iff_ne.2 h2
  have d3 : (k == 3) = false := beq_eq_false_iff_ne.2 h3
  have d4 : (k == 4) = false := beq_eq_false_iff_ne.2 h4
  rw [show signM k = ⟨#[]⟩ by unfold signM; rw [if_neg h1, if_neg h2, if_neg h3, if_neg h4]]
  clear h1 h2 h3 h4
  go_enter Try.func41, Try.ntmps41
  go_wp2
  go_ret
  exact ⟨rfl, rfl⟩
def MtBox (w : World) (k : Int) (n v : ByteArray) : World := w.alloc (.cells #[.int .i64 k, .string n, .string v] 39)
set_option maxHeartbeats 1000000 in
theorem mchk_prog (k : Int) (n v : ByteArray) (w : World) : Calls Try.prog 24 #[.agg #[.int .i64 k, .string n, .string v]] w fun e w' => e = .returned (.int .i64 (mchk (k, n, v))) ∧ Below w.heap.size w w' := by
  have HS := Lib.hid (fun W => sign_prog k W)
  have HN := Lib.hid (fun W => name_prog n W)
  have HB0 := Lib.hid (below_one w (.cells #[.int .i64 k, .string n, .string v] 39))
  cases hk : kindB k with
  | false =>
    rw [mchk_kind hk]
    rw [sign_none hk] at HS
    clear hk
    go_enter Try.func24, Try.ntmps24
    go_wp2_with (go_at_call 41; refine (HS.out _).mono ?_; rintro e w1 ⟨rfl, rfl⟩)
    go_ret
    exact ⟨rfl, HB0.out⟩
  | true =>
    have hs := sign_some hk
    cases hn : nameB (strL n) with
    | false =>
      rw [mchk_name hk hn]
      rw [hn] at HN
      generalize signM k = sg at HS hs
      clear hk hn
      go_enter Try.func24, Try.ntmps24
      go_wp2_with (first
        | (go_at_call 41; refine (HS.out _).mono ?_; rintro e w1 ⟨rfl, rfl⟩)
        | (go_at_call 42; refine (HN.out _).mono ?_; rintro e w1 ⟨rfl, rfl⟩))
      go_ret
      exact ⟨rfl, HB0.out⟩
    | true =>
      rw [hn] at HN
      by_cases hv : 64 < v.size
      · rw [mchk_big hk hn hv]
        generalize signM k = sg at HS hs
        clear hk hn
        go_enter Try.func24, Try.ntmps24
        go_wp2_with (first
          | (go_at_call 41; refine (HS.out _).mono ?_; rintro e w1 ⟨rfl, rfl⟩)
          | (go_at_call 42; refine (HN.out _).mono ?_; rintro e w1 ⟨rfl, rfl⟩))
        go_ret
        exact ⟨rfl, HB0.out⟩
      · by_cases h2 : k ≤ 2
        · rw [mchk_eq hk hn hv h2]
          have d3 : (k == 3) = false := beq_eq_false_iff_ne.2 (by omega)
          have d4 : (k == 4) = false := beq_eq_false_iff_ne.2 (by omega)
          generalize signM k = sg at HS hs
          clear hk hn h2
          go_enter Try.func24, Try.ntmps24
          go_wp2_with (first
            | (go_at_call 41; refine (HS.out _).mono ?_; rintro e w1 ⟨rfl, rfl⟩)
            | (go_at_call 42; refine (HN.out _).mono ?_; rintro e w1 ⟨rfl, rfl⟩))
          go_ret
          exact ⟨rfl, HB0.out⟩
        · rw [mchk_re hk hn hv h2]
          have HC := Lib.hid (fun W => check_prog W v (n := 300) (by omega))
          have hk34 : k = 3 ∨ k = 4 := by rcases kind_cases hk with h | h | h | h <;> omega
          generalize signM k = sg at HS hs
          clear hk hn h2
          rcases hk34 with rfl | rfl
          all_goals
            go_enter Try.func24, Try.ntmps24
            go_wp2_with (first
              | (go_at_call 41; refine (HS.out _).mono ?_; rintro e w1 ⟨rfl, rfl⟩)
              | (go_at_call 42; refine (HN.out _).mono ?_; rintro e w1 ⟨rfl, rfl⟩)
              | (go_at_call 16; refine (HC.out _).mono ?_; rintro e w2 ⟨rfl, hb2⟩; have HB2 := Lib.hid (below_then HB0.out hb2); clear hb2))
            go_ret
            exact ⟨rfl, HB2.out⟩
set_option maxHeartbeats 1000000 in
theorem takes_prog (k : Int) (n v x : ByteArray) (w : World) : Calls Try.prog 46 #[.agg #[.int .i64 k, .string n, .string v], .string x] w fun e w' => e = .returned (.bool (mtake (k, n, v) x)) ∧ Below w.heap.size w w' := by
  have HB0 := Lib.hid (below_one w (.cells #[.int .i64 k, .string n, .string v] 39))
  by_cases h12 : k = 1 ∨ k = 2
  · have hq := eqT x v
    have HM := Lib.hid (show mtake (k, n, v) x = if k = 1 then decide (x = v) else !decide (x = v) by rcases h12 with rfl | rfl <;> rfl)
    rw [HM.out]
    generalize decide (x = v) = b at hq ⊢
    rcases h12 with rfl | rfl <;> cases b
    all_goals
      go_enter Try.func46, Try.ntmps46
      go_wp2_with fail
      go_ret
      exact ⟨rfl, HB0.out⟩
  · by_cases h34 : k = 3 ∨ k = 4
    · have HF := Lib.hid (fun W => fits_prog W v x (n := 300) (by omega))
      have HM := Lib.hid (show mtake (k, n, v) x = if k = 3 then (fitV 300 (strL v) (strL x)).1 else !(fitV 300 (strL v) (strL x)).1 by rcases h34 with rfl | rfl <;> rfl)
      rw [HM.out]
      generalize fitV 300 (strL v) (strL x) = q at HF ⊢
      obtain ⟨b, c⟩ := q
      clear h12
      rcases h34 with rfl | rfl <;> cases b
      all_goals
        go_enter Try.func46, Try.ntmps46
        go_wp2_with (go_at_call 19; refine (HF.out _).mono ?_; rintro e w2 ⟨rfl, hb2⟩; have HB2 := Lib.hid (below_then HB0.out hb2); clear hb2)
        go_ret
        exact ⟨rfl, HB2.out⟩
    · have HM := Lib.hid (show mtake (k, n, v) x = false by
        unfold mtake
        rw [if_neg (by intro h; exact h12 (.inl h)), if_neg (by intro h; exact h12 (.inr h)), if_neg (by intro h; exact h34 (.inl h)), if_neg (by intro h; exact h34 (.inr h))])
      have d1 : (k == 1) = false := beq_eq_false_iff_ne.2 (by omega)
      have d2 : (k == 2) = false := beq_eq_false_iff_ne.2 (by omega)
      have d3 : (k == 3) = false := beq_eq_false_iff_ne.2 (by omega)
      have d4 : (k == 4) = false := beq_eq_false_iff_ne.2 (by omega)
      rw [HM.out]
      clear h12 h34
      go_enter Try.func46, Try.ntmps46
      go_wp2_with fail
      go_ret
      exact ⟨rfl, HB0.out⟩
end Go.Proofs.Ytjljfilflajogaa

namespace Go.Proofs.Ytjljfilflajogaa
open Go.RowKit
set_option linter.unusedVariables false

set_option maxHeartbeats 2000000 in
theorem mfits_prog (k : Int) (n v : ByteArray) (A : Option Addr) (l : List Lbl) (c : Nat) (w : World) (hA : Lbls w A l) (hl : l.length ≤ 100000000000000) :
    Calls Try.prog 29 #[.agg #[.int .i64 k, .string n, .string v], .slice A l.length c] w fun e w' => e = .returned (.bool (mfits (k, n, v) l)) ∧ Below w.heap.size w w' := by
  have R1 : Row (w.alloc (.cells #[.int .i64 k, .string n, .string v] 39)).drew w.heap.size 39 #[.int .i64 k, .string n, .string v] := Row.new w _ _
  have HB0 := Lib.hid (below_one w (.cells #[.int .i64 k, .string n, .string v] 39)).drew
  have c0 : (w.alloc (.cells #[.int .i64 k, .string n, .string v] 39)).drew.cell? ⟨w.heap.size, 0, none⟩ = some (.int .i64 k) := R1.cell 0
  have c1 : (w.alloc (.cells #[.int .i64 k, .string n, .string v] 39)).drew.cell? ⟨w.heap.size, 1, none⟩ = some (.string n) := R1.cell 1
  have c2 : (w.alloc (.cells #[.int .i64 k, .string n, .string v] 39)).drew.cell? ⟨w.heap.size, 2, none⟩ = some (.string v) := R1.cell 2
  have HR := Lib.hid R1
  have HC := Lib.hid (fun W => mchk_prog k n v W)
  have HG := Lib.hid (fun W (h : Lbls W A l) => get_prog A l c n W h hl)
  have HT := Lib.hid (fun W => takes_prog k n v (valOf l n) W)
  have HA := Lib.hid hA
  clear R1 hA
  by_cases h0 : mchk (k, n, v) = 0
  · have HM := Lib.hid (show mfits (k, n, v) l = mtake (k, n, v) (valOf l n) by unfold mfits; rw [decide_eq_true h0]; rfl)
    rw [HM.out]
    rw [h0] at HC
    generalize mtake (k, n, v) (valOf l n) = b at HT ⊢
    generalize valOf l n = x at HG HT
    clear h0
    go_enter Try.func29, Try.ntmps29
    go_wp2_with fail
    go_region_held3 (fun w' => w'.cell? ⟨w.heap.size, 0, none⟩ = some (.int .i64 k) ∧ w'.cell? ⟨w.heap.size, 1, none⟩ = some (.string n) ∧ w'.cell? ⟨w.heap.size, 2, none⟩ = some (.string v)) (go_keep)
      (first
        | (go_at_call 24; refine (HC.out _).mono ?_; rintro e w1 ⟨rfl, hb1⟩
           have HB1 := Lib.hid (HB0.out.trans (hb1.mono HB0.out.size))
           have HR1 := Lib.hid (HR.out.below hb1 HR.out.lt)
           have d0 : w1.cell? ⟨w.heap.size, 0, none⟩ = some (.int .i64 k) := HR1.out.cell 0
           have d1 : w1.cell? ⟨w.heap.size, 1, none⟩ = some (.string n) := HR1.out.cell 1
           have d2 : w1.cell? ⟨w.heap.size, 2, none⟩ = some (.string v) := HR1.out.cell 2
           clear hb1)
        | (go_at_call 47; refine (HG.out _ (HA.out.below HB1.out)).mono ?_; rintro e w2 ⟨rfl, hb2⟩
           have HB2 := Lib.hid (HB1.out.trans (hb2.mono HB1.out.size))
           have HR2 := Lib.hid (HR1.out.below hb2 HR1.out.lt)
           have e0 : w2.cell? ⟨w.heap.size, 0, none⟩ = some (.int .i64 k) := HR2.out.cell 0
           have e1 : w2.cell? ⟨w.heap.size, 1, none⟩ = some (.string n) := HR2.out.cell 1
           have e2 : w2.cell? ⟨w.heap.size, 2, none⟩ = some (.string v) := HR2.out.cell 2
           clear hb2)
        | (go_at_call 46; refine (HT.out _).mono ?_; rintro e w3 ⟨rfl, hb3⟩
           have HB3 := Lib.hid (HB2.out.trans (hb3.mono HB2.out.size))
           have HR3 := Lib.hid (HR2.out.below hb3 HR2.out.lt)
           have f0 : w3.cell? ⟨w.heap.size, 0, none⟩ = some (.int .i64 k) := HR3.out.cell 0
           have f1 : w3.cell? ⟨w.heap.size, 1, none⟩ = some (.string n) := HR3.out.cell 1
           have f2 : w3.cell? ⟨w.heap.size, 2, none⟩ = some (.string v) := HR3.out.cell 2
           clear hb3))
    all_goals
      go_wp2_with fail
      go_ret
      exact ⟨rfl, HB3.out⟩
  · rw [fits_no h0]
    generalize mchk (k, n, v) = ck at HC h0
    have z0 : (ck == 0) = false := beq_eq_false_iff_ne.2 h0
    clear h0
    go_enter Try.func29, Try.ntmps29
    go_wp2_with fail
    first
      | go_region_with
        ((go_at_call 24; refine (HC.out _).mono ?_; rintro e w1 ⟨rfl, hb1⟩
          have HB1 := Lib.hid (HB0.out.trans (hb1.mono HB0.out.size))
          have HR1 := Lib.hid (HR.out.below hb1 HR.out.lt)
          have d0 : w1.cell? ⟨w.heap.size, 0, none⟩ = some (.int .i64 k) := HR1.out.cell 0
          have d1 : w1.cell? ⟨w.heap.size, 1, none⟩ = some (.string n) := HR1.out.cell 1
          have d2 : w1.cell? ⟨w.heap.size, 2, none⟩ = some (.string v) := HR1.out.cell 2
          clear hb1))
      | fail
    all_goals
      go_wp2_with fail
      go_ret
      exact ⟨rfl, HB1.out⟩
end Go.Proofs.Ytjljfilflajogaa

namespace Go.Proofs.Ytjljfilflajogaa
open Go.ChangeShapes Go.WideShapes Go.ChangeAt Go.RowKit Go.Joins Go.Maps
set_option linter.unusedVariables false

def kdOf (l : List Mt) (i : Nat) : Int := (l.getD i mt0).1
def mnOf (l : List Mt) (i : Nat) : ByteArray := (l.getD i mt0).2.1
def mvOf (l : List Mt) (i : Nat) : ByteArray := (l.getD i mt0).2.2
theorem mt_of (l : List Mt) (i : Nat) : (kdOf l i, mnOf l i, mvOf l i) = l.getD i mt0 := rfl
def mtE (s : Mt) : List Value := [.int .i64 s.1, .string s.2.1, .string s.2.2]
theorem mtE_len (s : Mt) : (mtE s).length = 3 := rfl
def Mts (w : World) (A : Option Addr) (l : List Mt) : Prop := At w A (l.flatMap mtE)
theorem Mts.below {w w' : World} {A : Option Addr} {l : List Mt} (h : Mts w A l) (hb : Below w.heap.size w w') : Mts w' A l := At.below h hb
theorem Mts.nil (w : World) (A : Option Addr) : Mts w A [] := .inl rfl
theorem Mts.at_ {w : World} {A : Option Addr} {l : List Mt} (h : Mts w A l) {i : Nat} (hi : i < l.length) :
    ∃ b o, A = some ⟨b, o, none⟩ ∧ b < w.heap.size ∧ w.cell? ⟨b, o + i * 3, none⟩ = some (.int .i64 (kdOf l i)) ∧ w.cell? ⟨b, o + i * 3 + 1, none⟩ = some (.string (mnOf l i)) ∧ w.cell? ⟨b, o + i * 3 + 2, none⟩ = some (.string (mvOf l i)) := by
  have hlen := flat_len mtE 3 mtE_len l
  rcases h with h | ⟨b, o, rfl, hb, hc⟩
  · rw [h] at hlen; simp at hlen; omega
  · refine ⟨b, o, rfl, hb, ?_, ?_, ?_⟩
    · exact hc (i * 3 + 0) _ (flat_get mtE 3 mtE_len l i _ 0 (getD_some l mt0 hi) (by omega))
    · exact hc (i * 3 + 1) _ (flat_get mtE 3 mtE_len l i _ 1 (getD_some l mt0 hi) (by omega))
    · exact hc (i * 3 + 2) _ (flat_get mtE 3 mtE_len l i _ 2 (getD_some l mt0 hi) (by omega))
theorem mts_cell {w : World} {g : Nat} {k : Int} {t v : ByteArray} (h : Row w g 39 #[.int .i64 k, .string t, .string v]) : Mts w (some ⟨g, 0, none⟩) [(k, t, v)] := At.row h

/-- The value v is a row of matchers of the call's own, from block base on, and holds l. -/
def OwnM (w : World) (base : Nat) (v : Value) (l : List Mt) : Prop := w.ownsRow base 39 3 v l.length (l.flatMap mtE)
section
variable {w w' : World} {base : Nat} {v : Value} {l : List Mt}
theorem ownm_nil (w : World) (base : Nat) : OwnM w base (.slice none 0 0) [] := ⟨rfl, .inl ⟨rfl, rfl⟩⟩
theorem ownm_empty {g : Nat} (h : Row w g 39 #[]) (hb : base ≤ g) : OwnM w base (.slice (some ⟨g, 0, none⟩) 0 0) [] :=
  ⟨rfl, .inr ⟨g, 0, #[], rfl, hb, h, Nat.le_refl _, by simp [maxLen], by simp, by simp⟩⟩
theorem ownm_below (h : OwnM w base v l) (hb : Below w.heap.size w w') : OwnM w' base v l := rows_below h hb
theorem ownm_lower {base' : Nat} (h : OwnM w base v l) (hb : base' ≤ base) : OwnM w base' v l := rows_lower h hb
theorem ownm_slice (h : OwnM w base v l) : ∃ P c, v = .slice P l.length c ∧ l.length ≤ c ∧ Mts w P l ∧ ∀ ad, P = some ad → base ≤ ad.block := rows_slice h
end
theorem mt_info : (Try.prog.info? 39).map (fun i => (i.zero, i.size, i.bytes)) = some (some (.agg #[.int .i64 0, .string ⟨#[]⟩, .string ⟨#[]⟩]), 3, 40) := by kernel_rfl
theorem mt_one (l : List Mt) : ∀ u ∈ l.flatMap mtE, u.oneCell' = true := by
  intro u hu
  simp only [List.mem_flatMap, mtE, List.mem_cons, List.not_mem_nil, or_false] at hu
  obtain ⟨x, _, rfl | rfl | rfl⟩ := hu <;> rfl
/-- append of matchers to an own row, at a walk's built-in. -/
theorem app_mts {w : World} {ops : Array Oper} {rest : List Oper} {o : Oper} {a : Act} {Q : Exit → Act → World → Prop} (hgd : o.guard = none) (s y : Operand)
    (ho : o.op = .call { callee := .builtin .append, args := #[s, y], argTypes := #[46, 46] })
    (base : Nat) (v : Value) (x : List Mt) (hs : a.eval s = v) (hown : OwnM w base v x) (A : Option Addr) (l : List Mt) (c : Nat) (hy : a.eval y = .slice A l.length c) (hA : Mts w A l) (hn : (x.length + l.length) * 40 ≤ 140737488355328) (hbase : base ≤ w.heap.size)
    (h : ∀ v' w', OwnM w' base v' (x ++ l) → Below base w w' → w.grownBy w' v.ownBlock → wpList Try.prog ops Q rest (a.put o.dst v') w') : wpList Try.prog ops Q (o :: rest) a w := by
  obtain ⟨i0, hi, hz0, hz1, hz2⟩ := info_parts mt_info
  refine wpList_app_at hgd s y 46 ho base 39 i0 _ 3 40 Try.underlying46 hi hz0 hz1 hz2 rfl (by omega) v x.length (x.flatMap mtE) hs hown A l.length c (l.flatMap mtE) hy (flat_len mtE 3 mtE_len l) hA (mt_one l)
    (by simp only [maxLen]; omega) hn hbase ?_
  intro v' w' h1 h2 h3
  refine h v' w' ?_ h2 h3
  unfold OwnM
  rw [List.flatMap_append, List.length_append]
  exact h1
/-- The same where a region draws its order. -/
theorem step_mts {w : World} {ops : Array Oper} {o : Oper} {a : Act} {K : Act → World → Prop} {Q : Exit → Act → World → Prop} {E : Prop} (hgd : o.guard = none) (s y : Operand)
    (ho : o.op = .call { callee := .builtin .append, args := #[s, y], argTypes := #[46, 46] })
    (base : Nat) (v : Value) (x : List Mt) (hs : a.eval s = v) (hown : OwnM w base v x) (A : Option Addr) (l : List Mt) (c : Nat) (hy : a.eval y = .slice A l.length c) (hA : Mts w A l) (hn : (x.length + l.length) * 40 ≤ 140737488355328) (hbase : base ≤ w.heap.size)
    (h : ∀ v' w', OwnM w' base v' (x ++ l) → Below base w w' → w.grownBy w' v.ownBlock → K (a.put o.dst v') w') :
    if Region.wanted o (yielded ops a.tmps) = true then Oper.wp Try.prog o a w K Q else E := by
  obtain ⟨i0, hi, hz0, hz1, hz2⟩ := info_parts mt_info
  refine step_app_at hgd s y 46 ho base 39 i0 _ 3 40 Try.underlying46 hi hz0 hz1 hz2 rfl (by omega) v x.length (x.flatMap mtE) hs hown A l.length c (l.flatMap mtE) hy (flat_len mtE 3 mtE_len l) hA (mt_one l)
    (by simp only [maxLen]; omega) hn hbase ?_
  intro v' w' h1 h2 h3
  refine h v' w' ?_ h2 h3
  unfold OwnM
  rw [List.flatMap_append, List.length_append]
  exact h1

/-! ### opening -/
/-- A matcher as it comes in: its number is one, its texts are no longer than a law's argument may be. -/
def MFit (m : Mt) : Prop := (-9223372036854775808 ≤ m.1 ∧ m.1 ≤ 9223372036854775807) ∧ m.2.1.size ≤ 140737488351232 ∧ m.2.2.size ≤ 140737488351232
def MFits (l : List Mt) : Prop := ∀ i, i < l.length → MFit (l.getD i mt0)
section
variable {H : Type} {enc : TypeId × Value → H} {W : World} {base : Nat} {sp : Nat → Bool} {held : Bool}
theorem trod_struct3 {P : Program} {w : World} {t : TypeId} {f0 f1 f2 : Field} {fuel : Nat} {cs : List Value} {x : DataW H × List MemPlace} (ht : P.underlying t = some (.struct #[f0, f1, f2])) (h : DataW.trod enc P w base sp held fuel t cs = some x) :
    ∃ y0 y1 y2 n, x.1 = .agg [y0.1, y1.1, y2.1] ∧ cs.length = P.cellsOf t ∧ DataW.trod enc P w base sp held n f0.type ((cs.drop f0.offset).take (P.cellsOf f0.type)) = some y0 ∧
      DataW.trod enc P w base sp held n f1.type ((cs.drop f1.offset).take (P.cellsOf f1.type)) = some y1 ∧ DataW.trod enc P w base sp held n f2.type ((cs.drop f2.offset).take (P.cellsOf f2.type)) = some y2 := by
  obtain ⟨xs, n, _, rfl, hl, hlen, hf⟩ := DataW.trod_struct ht h
  match xs, hlen with
  | [y0, y1, y2], _ => exact ⟨y0, y1, y2, n, by simp, hl, by simpa using hf 0 f0 rfl, by simpa using hf 1 f1 rfl, by simpa using hf 2 f2 rfl⟩
theorem three_of {α : Type} {l : List α} (h : l.length = 3) : ∃ c0 c1 c2, l = [c0, c1, c2] := by
  match l, h with
  | [c0, c1, c2], _ => exact ⟨c0, c1, c2, rfl⟩
theorem mt_cells : Try.prog.cellsOf 39 = 3 := by kernel_rfl
theorem mt_three : ∃ f0 f1 f2 : Field, Try.prog.underlying 39 = some (.struct #[f0, f1, f2]) ∧ Go.Deep.oneCellFields Try.prog #[f0, f1, f2] = true ∧ [f0.type, f1.type, f2.type] = [3, 9, 9] :=
  ⟨_, _, _, Try.underlying39, by kernel_rfl, rfl⟩
theorem open_mt {fuel : Nat} {cs : List Value} {x : DataW H × List MemPlace} (h : DataW.trod enc Try.prog W base sp held fuel 39 cs = some x) (hw : ∀ n ∈ x.1.weights Try.prog 39, n ≤ reachBytes) : ∃ s : Mt, cs = mtE s ∧ MFit s := by
  obtain ⟨f0, f1, f2, hu, hone, hty⟩ := mt_three
  simp only [List.cons.injEq, and_true] at hty
  obtain ⟨e0, e1, e2⟩ := hty
  obtain ⟨y0, y1, y2, n, hx, hl, h0, h1, h2⟩ := trod_struct3 hu h
  rw [mt_cells] at hl
  obtain ⟨c0, c1, c2, rfl⟩ := three_of hl
  obtain ⟨o0, k0⟩ := Go.Deep.hone_of hone 0 f0 rfl
  obtain ⟨o1, k1⟩ := Go.Deep.hone_of hone 1 f1 rfl
  obtain ⟨o2, k2⟩ := Go.Deep.hone_of hone 2 f2 rfl
  have h0' : DataW.trod enc Try.prog W base sp held n 3 [c0] = some y0 := by rw [← e0]; simpa [o0, k0] using h0
  have h1' : DataW.trod enc Try.prog W base sp held n 9 [c1] = some y1 := by rw [← e1]; simpa [o1, k1] using h1
  have h2' : DataW.trod enc Try.prog W base sp held n 9 [c2] = some y2 := by rw [← e2]; simpa [o2, k2] using h2
  have hwe : ∀ n ∈ DataW.weightsEach Try.prog [3, 9, 9] [y0.1, y1.1, y2.1], n ≤ reachBytes := by
    intro m hm
    refine hw m ?_
    rw [hx]
    unfold DataW.weights
    rw [hu]
    show m ∈ DataW.weightsEach Try.prog ([f0, f1, f2].map (·.type)) _
    rw [show [f0, f1, f2].map (fun x : Field => x.type) = [3, 9, 9] from by simp [e0, e1, e2]]
    exact hm
  have hsz : (DataW.weightsEach Try.prog [3, 9, 9] [y0.1, y1.1, y2.1]).all (· ≤ reachBytes) = true := List.all_eq_true.2 fun m hm => by simpa using hwe m hm
  obtain ⟨z0, g0, d0, w0⟩ := DataW.trod_int Try.underlying3 h0'
  obtain ⟨s1, g1, d1, _⟩ := DataW.trod_string Try.underlying9 h1'
  obtain ⟨s2, g2, d2, _⟩ := DataW.trod_string Try.underlying9 h2'
  simp only [List.cons.injEq, and_true] at g0 g1 g2
  subst g0 g1 g2
  have r1 := sized_string hsz (j := 1) rfl (bytes := s1.data.toList) (by rw [d1]; rfl)
  have r2 := sized_string hsz (j := 2) rfl (bytes := s2.data.toList) (by rw [d2]; rfl)
  rw [reach_is] at r1 r2
  refine ⟨(z0, s1, s2), rfl, bounds_i64 w0, ?_, ?_⟩
  · have : s1.data.toList.length = s1.size := Array.length_toList
    show s1.size ≤ 140737488351232
    omega
  · have : s2.data.toList.length = s2.size := Array.length_toList
    show s2.size ≤ 140737488351232
    omega
theorem open_mts {fuel : Nat} {v : Value} {x : DataW H × List MemPlace} (hf : DataW.trod enc Try.prog W base sp held fuel 46 [v] = some x) (hw : ∀ n ∈ x.1.weights Try.prog 46, n ≤ reachBytes) :
    ∃ (V : Option Addr) (l : List Mt) (c : Nat), v = .slice V l.length c ∧ Mts W V l ∧ MFits l ∧ l.length * 40 ≤ 140737488351232 ∧ l.length ≤ c := by
  rcases Go.Deep.open_slice Try.underlying46 hf with ⟨hcs, hx⟩ | ⟨a, len, cap, m, n, D, Pl, hcs, hb, hl, hm, hmm, hx, hcell⟩
  · simp only [List.cons.injEq, and_true] at hcs
    subst hcs
    exact ⟨none, [], 0, rfl, .inl rfl, fun i hi => by simp at hi, by simp, Nat.le_refl _⟩
  · simp only [List.cons.injEq, and_true] at hcs
    subst hcs
    rw [mt_cells] at hcell
    have hml : len ≤ m := by rw [hmm]; split <;> omega
    rw [hx] at hw
    simp only [DataW.weights, Try.underlying46] at hw
    have hbytes : Try.prog.bytesOf 39 = 40 := by kernel_rfl
    have hlen40 := hw ((((List.range len).map D).length + ((List.range (m - len)).map fun j => D (len + j)).length) * Try.prog.bytesOf 39) (by simp)
    rw [hbytes] at hlen40
    simp only [List.length_map, List.length_range] at hlen40
    rw [reach_is] at hlen40
    have each : ∀ i, i < len → ∃ y : Mt, MFit y ∧ W.cells? base (a.add (i * 3)) 3 = some (mtE y) := by
      intro i hi
      obtain ⟨cs', h1, h2⟩ := hcell i (by omega)
      obtain ⟨y, rfl, hy⟩ := open_mt h2 (fun q hq => hw q (by
        simp only [List.mem_cons, List.mem_append]
        exact .inr (.inl (weights_all (List.mem_map.2 ⟨i, List.mem_range.2 hi, rfl⟩) q hq))))
      exact ⟨y, hy, h1⟩
    obtain ⟨y, hy⟩ := Go.Deep.choose_lt each
    have hlen : ((List.range len).map y).length = len := by simp
    have hget : ∀ i, i < len → ((List.range len).map y).getD i mt0 = y i := by
      intro i hi
      simp [List.getD_eq_getElem?_getD, hi]
    refine ⟨some a, (List.range len).map y, cap, by rw [hlen], ?_, ?_, by rw [hlen]; omega, by rw [hlen]; exact hl⟩
    · rcases Nat.eq_zero_or_pos len with h0 | h0
      · have : (List.range len).map y = [] := List.eq_nil_of_length_eq_zero (by rw [hlen]; exact h0)
        rw [this]
        exact Mts.nil _ _
      · obtain ⟨b, o, spot⟩ := a
        obtain ⟨_, hcs0⟩ := hy 0 h0
        obtain ⟨_, _, hc0⟩ := World.cells?_some hcs0
        have hc := hc0 0 (by omega)
        have hspot : spot = none := by
          have := World.cell?_spot (hc.trans rfl)
          simpa [Addr.add] using this
        subst hspot
        have hc00 : W.cell? ⟨b, o, none⟩ = some (.int .i64 (y 0).1) := by
          have : (mtE (y 0))[0]? = some (.int .i64 (y 0).1) := rfl
          rw [this] at hc
          simpa [Addr.add] using hc
        refine .inr ⟨b, o, rfl, cell_lt hc00, fun j u hj => ?_⟩
        have hj2 : j < len * 3 := by
          have := (List.getElem?_eq_some_iff.1 hj).1
          rw [flat_len mtE 3 mtE_len, hlen] at this
          exact this
        have hi : j / 3 < len := by omega
        obtain ⟨_, hcs⟩ := hy (j / 3) hi
        obtain ⟨_, _, hcj⟩ := World.cells?_some hcs
        have h1 := hcj (j % 3) (by omega)
        rw [add_at, add_at] at h1
        have h2 := flat_get mtE 3 mtE_len ((List.range len).map y) (j / 3) _ (j % 3) (getD_some _ mt0 (by rw [hlen]; exact hi)) (by omega)
        rw [hget _ hi, show j / 3 * 3 + j % 3 = j from by omega, hj] at h2
        rw [← h2, show o + j / 3 * 3 + j % 3 = o + j from by omega] at h1
        exact h1
    · intro i hi
      rw [hlen] at hi
      rw [hget i hi]
      exact (hy i hi).1
end
end Go.Proofs.Ytjljfilflajogaa

namespace Go.Proofs.Ytjljfilflajogaa
open Go.RowKit
set_option linter.unusedVariables false

def IdxTold (w : World) (b : Bool) (e : Ending) (w' : World) : Prop := ∃ j : Int, e = .returned (.int .i64 j) ∧ -1 ≤ j ∧ j ≤ 9223372036854775807 ∧ decide (0 ≤ j) = b ∧ Below w.heap.size w w'
theorem fails_prog (X : Nat) (A : Option Addr) (l : List Lbl) (c : Nat) (k : Int) (n v : ByteArray) (w : World) (hX : Row w X 44 #[.slice A l.length c]) (hA : Lbls w A l) (hl : l.length ≤ 100000000000000) :
    Calls Try.prog 49 #[.agg #[.int .i64 k, .string n, .string v], .pointer (some ⟨X, 0, none⟩)] w fun e w' => e = .returned (.bool (!mfits (k, n, v) l)) ∧ Below w.heap.size w w' := by
  have hb0 := below_one w (.cells #[.int .i64 k, .string n, .string v] 39)
  have HB0 := Lib.hid hb0
  have HF := Lib.hid (mfits_prog k n v A l c _ (hA.below hb0) hl)
  have hX1 := hX.below hb0 hX.lt
  have x0 := hX1.cell 0
  have R1 := Row.new w 39 #[.int .i64 k, .string n, .string v]
  have c0 := R1.cell 0
  have c1 := R1.cell 1
  have c2 := R1.cell 2
  generalize mfits (k, n, v) l = b at HF ⊢
  clear hb0 hX1 R1 hX hA
  go_enter Try.func49, Try.ntmps49
  go_wp2_with (go_at_call 29; refine HF.out.mono ?_; rintro e w2 ⟨rfl, hb2⟩; have HB2 := Lib.hid (below_then HB0.out hb2); clear hb2)
  go_ret
  exact ⟨rfl, HB2.out⟩
theorem idx_prog (X : Nat) (V : Option Addr) (ms : List Mt) (d : Nat) (w : World) (hV : Mts w V ms) (hm : ms.length ≤ 100000000000000) (st : Mt → Bool)
    (hst : ∀ (W : World) (k : Int) (n v : ByteArray), Below w.heap.size w W → Calls Try.prog 49 #[.agg #[.int .i64 k, .string n, .string v], .pointer (some ⟨X, 0, none⟩)] W fun e w' => e = .returned (.bool (st (k, n, v))) ∧ Below W.heap.size W w') :
    Calls Try.prog 63 #[.slice V ms.length d, .func (.func 49) #[] #[.pointer (some ⟨X, 0, none⟩)]] w (IdxTold w (ms.any st)) := by
  have HV := Lib.hid hV
  have HS := Lib.hid hst
  clear hV hst
  go_enter Try.func63, Try.ntmps63
  go_wp2_with fail
  go_loopw [8] (fun i wr => ∃ k : Nat, k ≤ ms.length ∧ i = .int .i64 (k : Int) ∧ (ms.drop k).any st = ms.any st ∧ Below w.heap.size w wr) (fun i _ => ms.length - (intOf i).toNat)
  case atStart => exact ⟨0, Nat.zero_le _, rfl, rfl, Below.refl _ _⟩
  case round =>
    obtain ⟨k, hk, rfl, ha, hbr⟩ := hrel
    by_cases hlt : k < ms.length
    · obtain ⟨b, o, rfl, hb, g0, g1, g2⟩ := HV.out.at_ hlt
      have c0 := (hbr.cell (p := ⟨b, o + k * 3, none⟩) hb).trans g0
      have c1 := (hbr.cell (p := ⟨b, o + k * 3 + 1, none⟩) hb).trans g1
      have c2 := (hbr.cell (p := ⟨b, o + k * 3 + 2, none⟩) hb).trans g2
      have i1 : (0 : Int) ≤ (k : Int) := by omega
      have i2 : (k : Int) < (ms.length : Int) := by omega
      have HC := Lib.hid (HS.out wr (kdOf ms k) (mnOf ms k) (mvOf ms k) hbr)
      rw [List.drop_eq_getElem_cons hlt, List.any_cons, show ms[k] = (kdOf ms k, mnOf ms k, mvOf ms k) by rw [mt_of]; simp [List.getD, List.getElem?_eq_getElem hlt]] at ha
      have HB := Lib.hid hbr
      clear g0 g1 g2 hbr
      generalize kdOf ms k = kd at *
      generalize mnOf ms k = mn at *
      generalize mvOf ms k = mv at *
      cases hs : st (kd, mn, mv)
      · rw [hs] at HC ha
        have HA := Lib.hid ((Bool.false_or _).symm.trans ha)
        clear ha hs
        go_wp2_with (go_at_call 49; refine HC.out.mono ?_; rintro e w2 ⟨rfl, hb2⟩; have HB2 := Lib.hid (HB.out.trans (hb2.mono HB.out.size)); clear hb2)
        go_roundw
        case rel => exact ⟨k + 1, by omega, by go_num, HA.out, HB2.out⟩
        case measure => simp [intOf]; omega
      · rw [hs] at HC ha
        have HA := Lib.hid (show true = ms.any st by rw [← ha]; rfl)
        clear ha hs
        go_wp2_with (go_at_call 49; refine HC.out.mono ?_; rintro e w2 ⟨rfl, hb2⟩; have HB2 := Lib.hid (HB.out.trans (hb2.mono HB.out.size)); clear hb2)
        go_ret
        exact ⟨(k : Int), rfl, by omega, by omega, by rw [← HA.out]; simp, HB2.out⟩
    · obtain rfl : k = ms.length := by omega
      have HA := Lib.hid (show false = ms.any st by rw [← ha, List.drop_length]; rfl)
      have HB := Lib.hid hbr
      clear ha hbr
      go_wp2_with fail
      go_ret
      exact ⟨-1, rfl, by omega, by omega, by rw [← HA.out]; rfl, HB.out⟩
theorem contains_prog (X : Nat) (V : Option Addr) (ms : List Mt) (d : Nat) (w : World) (hV : Mts w V ms) (hm : ms.length ≤ 100000000000000) (st : Mt → Bool)
    (hst : ∀ (W : World) (k : Int) (n v : ByteArray), Below w.heap.size w W → Calls Try.prog 49 #[.agg #[.int .i64 k, .string n, .string v], .pointer (some ⟨X, 0, none⟩)] W fun e w' => e = .returned (.bool (st (k, n, v))) ∧ Below W.heap.size W w') :
    Calls Try.prog 50 #[.slice V ms.length d, .func (.func 49) #[] #[.pointer (some ⟨X, 0, none⟩)]] w fun e w' => e = .returned (.bool (ms.any st)) ∧ Below w.heap.size w w' := by
  have HI := Lib.hid (idx_prog X V ms d w hV hm st hst)
  clear hst
  generalize ms.any st = b at HI ⊢
  cases b
  · go_enter Try.func50, Try.ntmps50
    go_wp2_with (go_at_call 63; refine HI.out.mono ?_; rintro e w2 ⟨j, rfl, j1, j2, jb, hb2⟩; have HB2 := Lib.hid hb2; clear hb2)
    go_ret
    exact ⟨rfl, HB2.out⟩
  · go_enter Try.func50, Try.ntmps50
    go_wp2_with (go_at_call 63; refine HI.out.mono ?_; rintro e w2 ⟨j, rfl, j1, j2, jb, hb2⟩; have HB2 := Lib.hid hb2; clear hb2)
    go_ret
    exact ⟨rfl, HB2.out⟩
theorem any_not (ms : List Mt) (l : List Lbl) : (ms.any fun m => !mfits m l) = !mall ms l := by
  unfold mall
  induction ms with
  | nil => rfl
  | cons m ms ih => rw [List.any_cons, List.all_cons, ih, Bool.not_and]
theorem all_prog (V : Option Addr) (ms : List Mt) (d : Nat) (A : Option Addr) (l : List Lbl) (c : Nat) (w : World) (hV : Mts w V ms) (hm : ms.length ≤ 100000000000000) (hA : Lbls w A l) (hl : l.length ≤ 100000000000000) :
    Calls Try.prog 33 #[.slice V ms.length d, .slice A l.length c] w fun e w' => e = .returned (.bool (mall ms l)) ∧ Below w.heap.size w w' := by
  have hb0 := below_one w (.cells #[.slice A l.length c] 44)
  have hX := Row.new w 44 #[.slice A l.length c]
  have hA1 := hA.below hb0
  have HH := Lib.hid (contains_prog w.heap.size V ms d _ (hV.below hb0) hm (fun m => !mfits m l) (fun W k n v h => fails_prog w.heap.size A l c k n v W (hX.below h hX.lt) (hA1.below h) hl))
  have HB0 := Lib.hid hb0
  rw [any_not] at HH
  generalize mall ms l = b at HH ⊢
  clear hb0 hX hA1 hV hA
  go_enter Try.func33, Try.ntmps33
  go_wp2_with (go_at_call 50; refine HH.out.mono ?_; rintro e w2 ⟨rfl, hb2⟩; have HB2 := Lib.hid (below_then HB0.out hb2); clear hb2)
  go_ret
  exact ⟨rfl, HB2.out⟩
end Go.Proofs.Ytjljfilflajogaa

namespace Go.Proofs.Ytjljfilflajogaa
open Go.RowKit
set_option linter.unusedVariables false

theorem merr_at {ms : List Mt} {k : Nat} (h : k < ms.length) : merr (ms.drop k) = if mchk (kdOf ms k, mnOf ms k, mvOf ms k) = 0 then merr (ms.drop (k + 1)) else mchk (kdOf ms k, mnOf ms k, mvOf ms k) := by
  rw [List.drop_eq_getElem_cons h, merr, show ms[k] = (kdOf ms k, mnOf ms k, mvOf ms k) by rw [mt_of]; simp [List.getD, List.getElem?_eq_getElem h]]
theorem ret_i64 {a b : Int} (h : a = b) : Ending.returned (.int .i64 a) = .returned (.int .i64 b) := by rw [h]
set_option maxHeartbeats 1000000 in
theorem chkall_prog (V : Option Addr) (ms : List Mt) (d : Nat) (w : World) (hV : Mts w V ms) (hm : ms.length ≤ 100000000000000) :
    Calls Try.prog 31 #[.slice V ms.length d] w fun e w' => e = .returned (.int .i64 (mchkAll ms)) ∧ Below w.heap.size w w' := by
  by_cases h8 : 8 < ms.length
  · rw [show mchkAll ms = 3 by unfold mchkAll; rw [if_pos h8]]
    go_enter Try.func31, Try.ntmps31
    go_wp2_with fail
    go_ret
    exact ⟨rfl, Below.refl _ _⟩
  have HV := Lib.hid hV
  have HQ := Lib.hid (show mchkAll ms = if merr ms ≠ 0 then merr ms else if mall ms [] = true then 2 else 0 by unfold mchkAll; rw [if_neg h8])
  clear hV
  go_enter Try.func31, Try.ntmps31
  go_wp2_with fail
  go_loopw [11] (fun i wr => ∃ k : Nat, k ≤ ms.length ∧ i = .int .i64 (k : Int) ∧ merr (ms.drop k) = merr ms ∧ Below w.heap.size w wr) (fun i _ => ms.length - (intOf i).toNat)
  case atStart => exact ⟨0, Nat.zero_le _, rfl, rfl, Below.refl _ _⟩
  case round =>
    obtain ⟨k, hk, rfl, he, hbr⟩ := hrel
    by_cases hlt : k < ms.length
    · obtain ⟨b, o, rfl, hb, g0, g1, g2⟩ := HV.out.at_ hlt
      have c0 := (hbr.cell (p := ⟨b, o + k * 3, none⟩) hb).trans g0
      have c1 := (hbr.cell (p := ⟨b, o + k * 3 + 1, none⟩) hb).trans g1
      have c2 := (hbr.cell (p := ⟨b, o + k * 3 + 2, none⟩) hb).trans g2
      have i2 : (k : Int) < (ms.length : Int) := by omega
      rw [merr_at hlt] at he
      have HC := Lib.hid (fun W => mchk_prog (kdOf ms k) (mnOf ms k) (mvOf ms k) W)
      have HB := Lib.hid (hbr.alloc hbr.size (.cells #[.int .i64 (kdOf ms k), .string (mnOf ms k), .string (mvOf ms k)] 39))
      clear g0 g1 g2 hbr
      generalize mchk (kdOf ms k, mnOf ms k, mvOf ms k) = ck at he HC
      generalize kdOf ms k = kd at *
      generalize mnOf ms k = mn at *
      generalize mvOf ms k = mv at *
      by_cases h0 : ck = 0
      · subst h0
        rw [if_pos rfl] at he
        have HE := Lib.hid he
        clear he
        go_wp2_with (go_at_call 24; refine (HC.out _).mono ?_; rintro e w2 ⟨rfl, hb2⟩; have HB2 := Lib.hid (HB.out.trans (hb2.mono HB.out.size)); clear hb2)
        go_roundw
        case rel => exact ⟨k + 1, by omega, by go_num, HE.out, HB2.out⟩
        case measure => simp [intOf]; omega
      · rw [if_neg h0] at he
        have HE := Lib.hid (show ck = mchkAll ms by rw [HQ.out, ← he, if_pos h0])
        have z0 : (ck == 0) = false := beq_eq_false_iff_ne.2 h0
        have z1 : (ck != 0) = true := by rw [bne, z0]; rfl
        clear he h0
        go_wp2_with (go_at_call 24; refine (HC.out _).mono ?_; rintro e w2 ⟨rfl, hb2⟩; have HB2 := Lib.hid (HB.out.trans (hb2.mono HB.out.size)); clear hb2)
        go_ret
        exact ⟨ret_i64 HE.out, HB2.out⟩
    · obtain rfl : k = ms.length := by omega
      have hz : merr ms = 0 := by rw [← he, List.drop_length]; rfl
      have HA := Lib.hid (show Calls Try.prog 33 #[.slice V ms.length d, .slice none 0 0] wr fun e w' => e = .returned (.bool (mall ms [])) ∧ Below wr.heap.size wr w' from all_prog V ms d none [] 0 wr (HV.out.below hbr) hm (Lbls.nil _ _) (by simp))
      have HE := Lib.hid (show (if mall ms [] = true then (2 : Int) else 0) = mchkAll ms by rw [HQ.out, hz, if_neg (show ¬ (0 : Int) ≠ 0 by simp)])
      have HB := Lib.hid hbr
      generalize mall ms [] = b at HA HE
      clear he hbr hz
      cases b
      all_goals
        go_wp2_with (go_at_call 33; refine HA.out.mono ?_; rintro e w2 ⟨rfl, hb2⟩; have HB2 := Lib.hid (HB.out.trans (hb2.mono HB.out.size)); clear hb2)
        go_ret
        exact ⟨ret_i64 HE.out, HB2.out⟩
def exS : List Lbl := [(⟨#[97]⟩, ⟨#[121]⟩)]
theorem ex_1 : mfits (3, ⟨#[97]⟩, ⟨#[120, 124, 121]⟩) exS = true := by decide +kernel
theorem ex_2 : mfits (3, ⟨#[97]⟩, ⟨#[120, 124, 121]⟩) [] = false := by decide +kernel
theorem ex_3 : mchkAll [(3, ⟨#[97]⟩, ⟨#[120, 124, 121]⟩)] = 0 := by decide +kernel
theorem ex_4 : mchkAll [] = 2 := by decide +kernel
set_option maxHeartbeats 1000000 in
theorem mlives_true (w : World) : Calls Try.prog 28 #[] w fun e w' => e = .returned (.bool true) ∧ Below w.heap.size w w' := by
  obtain ⟨nm, hnm⟩ : ∃ nm : ByteArray, (⟨#[97]⟩ : ByteArray) = nm := ⟨_, rfl⟩
  have F1 := Lib.hid (fun W (h : Lbls W (some ⟨w.heap.size, 0, none⟩) exS) => (show Calls Try.prog 29 #[.agg #[.int .i64 3, .string ⟨#[97]⟩, .string ⟨#[120, 124, 121]⟩], .slice (some ⟨w.heap.size, 0, none⟩) 1 1] W fun e w' => e = .returned (.bool true) ∧ Below W.heap.size W w' from by have := mfits_prog 3 ⟨#[97]⟩ ⟨#[120, 124, 121]⟩ _ exS 1 W h (by simp [exS]); rw [ex_1] at this; exact this))
  have F2 := Lib.hid (fun W => (show Calls Try.prog 29 #[.agg #[.int .i64 3, .string ⟨#[97]⟩, .string ⟨#[120, 124, 121]⟩], .slice none 0 0] W fun e w' => e = .returned (.bool false) ∧ Below W.heap.size W w' from by have := mfits_prog 3 ⟨#[97]⟩ ⟨#[120, 124, 121]⟩ none [] 0 W (Lbls.nil _ _) (by simp); rw [ex_2] at this; exact this))
  have F3 := Lib.hid (fun W g (h : Row W g 39 #[.int .i64 3, .string ⟨#[97]⟩, .string ⟨#[120, 124, 121]⟩]) => (show Calls Try.prog 31 #[.slice (some ⟨g, 0, none⟩) 1 1] W fun e w' => e = .returned (.int .i64 0) ∧ Below W.heap.size W w' from by have := chkall_prog (some ⟨g, 0, none⟩) [(3, ⟨#[97]⟩, ⟨#[120, 124, 121]⟩)] 1 W (mts_cell h) (by simp); rw [ex_3] at this; exact this))
  have F4 := Lib.hid (fun W => (show Calls Try.prog 31 #[.slice none 0 0] W fun e w' => e = .returned (.int .i64 2) ∧ Below W.heap.size W w' from by have := chkall_prog none [] 0 W (Mts.nil _ _) (by simp); rw [ex_4] at this; exact this))
  have hL := lbls_cell (Row.new w 63 #[.string ⟨#[97]⟩, .string ⟨#[121]⟩])
  have hb0 := below_one w (.cells #[.string ⟨#[97]⟩, .string ⟨#[121]⟩] 63)
  have hb1 := below_one (w.alloc (.cells #[.string ⟨#[97]⟩, .string ⟨#[121]⟩] 63)) (.cells #[.int .i64 3, .string ⟨#[97]⟩, .string ⟨#[120, 124, 121]⟩] 39)
  have HB1 := Lib.hid (below_then hb0 hb1)
  have HL1 := Lib.hid (hL.below hb1)
  have hR := row_at w (.cells #[.string ⟨#[97]⟩, .string ⟨#[121]⟩] 63) #[.int .i64 3, .string ⟨#[97]⟩, .string ⟨#[120, 124, 121]⟩] 39
  have HR1 := Lib.hid hR
  clear hL hb0 hb1 hR hnm
  go_enter Try.func28, Try.ntmps28
  go_wp2_with (first
    | (go_at_call 31; (with_reducible refine (F4.out _).mono ?_); rintro e w5 ⟨rfl, hb5⟩; have HB5 := Lib.hid (HB4.out.trans (hb5.mono HB4.out.size)); clear hb5)
    | (go_at_call 31; refine (F3.out _ _ (Row.new _ _ _)).mono ?_; rintro e w4 ⟨rfl, hb4⟩; have HB4 := Lib.hid (below_then HB3.out (below_then (below_one _ _) hb4)); clear hb4)
    | (go_at_call 29; (with_reducible refine (F2.out _).mono ?_); rintro e w3 ⟨rfl, hb3⟩; have HB3 := Lib.hid (HB2.out.trans (hb3.mono HB2.out.size)); have hr3 := HR2.out.below hb3 HR2.out.lt; have r30 := hr3.cell 0; have r31 := hr3.cell 1; have r32 := hr3.cell 2; clear hb3 hr3)
    | (go_at_call 29; refine (F1.out _ HL1.out).mono ?_; rintro e w2 ⟨rfl, hb2⟩; have HB2 := Lib.hid (HB1.out.trans (hb2.mono HB1.out.size)); have hr2 := HR1.out.below hb2 HR1.out.lt; have HR2 := Lib.hid hr2; have r20 := hr2.cell 0; have r21 := hr2.cell 1; have r22 := hr2.cell 2; clear hb2 hr2))
  go_ret
  exact ⟨rfl, HB5.out⟩
end Go.Proofs.Ytjljfilflajogaa

namespace Go.Proofs.Ytjljfilflajogaa
open Go.RowKit
set_option linter.unusedVariables false

theorem name_end (s : ByteArray) (hs : s.size ≤ 140737488351232) (h : okF (strL s) s.size 0 = true) : nameB (strL s) = (!(s.toList == []) && decide ((s.size : Int) ≤ 32)) := by
  have e1 : (s.toList == []) = decide (s.size = 0) := by
    rw [ByteArray.toList_eq, Bool.eq_iff_iff, beq_iff_eq, decide_eq_true_eq]
    have := strL_length s
    unfold strL at this
    constructor
    · intro e; rw [e] at this; simpa using this.symm
    · intro e; exact List.eq_nil_of_length_eq_zero (by omega)
  unfold nameB
  rw [strL_length, h, e1]
  by_cases h0 : s.size = 0
  · simp [h0]
  · by_cases h1 : s.size ≤ 32
    · rw [decide_eq_true (show 0 < s.size by omega), decide_eq_true h1, decide_eq_false h0, decide_eq_true (show (s.size : Int) ≤ 32 by omega)]; rfl
    · rw [decide_eq_true (show 0 < s.size by omega), decide_eq_false h1, decide_eq_false h0, decide_eq_false (show ¬ (s.size : Int) ≤ 32 by omega)]; rfl
theorem name_stop (s : ByteArray) (h : okF (strL s) s.size 0 = false) : nameB (strL s) = false := by
  unfold nameB
  rw [strL_length, h, Bool.and_false]

theorem name_ref (s : ByteArray) (w : World) (hs : s.size ≤ 140737488351232) :
    Calls Try.prog 43 #[.string s] w fun e w' => e = .returned (.bool (nameB (strL s))) ∧ w = w' := by
  have HE := Lib.hid (name_end s hs)
  have HF := Lib.hid (name_stop s)
  go_enter Try.func43, Try.ntmps43
  go_wp2_with fail
  go_loop [3] (fun i => ∃ k : Nat, k ≤ s.size ∧ i = .int .i64 (k : Int) ∧ okF (strL s) (s.size - k) k = okF (strL s) s.size 0) (fun i => s.size - (intOf i).toNat)
  case atStart => exact ⟨0, Nat.zero_le _, rfl, rfl⟩
  case round =>
    obtain ⟨k, hk, rfl, hall⟩ := hrel
    by_cases hlt : k < s.size
    · rw [show s.size - k = (s.size - (k + 1)) + 1 from by omega, okF, strL_get s hlt] at hall
      have hc := s[k].toNat_lt
      have key := letter_cases s[k] s[k].toNat rfl
      obtain ⟨cb, hcb⟩ : ∃ c, s[k] = c := ⟨_, rfl⟩
      have ho : okB cb k = (letterB cb || (decide (0 < k) && (decide (48 ≤ cb.toNat) && decide (cb.toNat ≤ 57)))) := rfl
      rw [hcb] at hall key hc
      have HA := Lib.hid hall
      clear hall
      have hn : s[k].toNat = cb.toNat := by rw [hcb]
      generalize cb.toNat = n at *
      have k1 : decide ((97 : Int) ≤ (n : Int)) = decide (97 ≤ n) := by rw [decide_eq_decide]; omega
      have k2 : decide ((n : Int) ≤ 122) = decide (n ≤ 122) := by rw [decide_eq_decide]; omega
      have k3 : decide ((65 : Int) ≤ (n : Int)) = decide (65 ≤ n) := by rw [decide_eq_decide]; omega
      have k4 : decide ((n : Int) ≤ 90) = decide (n ≤ 90) := by rw [decide_eq_decide]; omega
      have k5 : ((n : Int) == 95) = (n == 95) := by rw [Bool.eq_iff_iff, beq_iff_eq, beq_iff_eq]; omega
      have k6 : decide ((n : Int) < 48) = !decide (48 ≤ n) := by by_cases h : 48 ≤ n <;> simp [h] <;> omega
      have k7 : decide ((57 : Int) < (n : Int)) = !decide (n ≤ 57) := by by_cases h : n ≤ 57 <;> simp [h] <;> omega
      rcases key with ⟨h1, h2, h⟩ | ⟨h1, h2, h3, h4, h5, h⟩ | ⟨h1, h3, h4, h⟩ | ⟨h1, h3, h4, h5, h⟩ | ⟨h1, h3, h4, h5, h⟩ | ⟨h1, h3, h5, h⟩
      all_goals
        rw [h] at ho
        simp only [h1] at k1
        try simp only [h2] at k2
        try simp only [h3] at k3
        try simp only [h4] at k4
        try simp only [h5] at k5
        clear h
        rw [← hn] at k1 k2 k3 k4 k5
      all_goals first
        | (have eb : okB cb k = true := by rw [ho]; rfl
           rw [eb, if_pos rfl] at HA
           clear eb ho k6 k7 hcb hc hn
           go_wp2_with fail
           exact ⟨⟨k + 1, by omega, by go_num, HA.out⟩, by simp [intOf]; omega⟩)
        | (rw [Bool.false_or] at ho
           by_cases hk0 : k = 0
           · have i0 : ((k : Int) == 0) = true := by rw [hk0]; rfl
             rw [decide_eq_false (show ¬ 0 < k by omega), Bool.false_and] at ho
             rw [ho] at HA
             clear k6 k7 hcb hc hn ho hk0
             go_wp2_with fail
             go_ret
             exact ⟨ret_bool (HF.out (by rw [← HA.out]; rfl)).symm, rfl⟩
           · have i0 : ((k : Int) == 0) = false := by rw [beq_eq_false_iff_ne]; omega
             rw [decide_eq_true (show 0 < k by omega), Bool.true_and] at ho
             rw [← hn] at k6 k7 ho
             cases d1 : decide (48 ≤ s[k].toNat)
             · rw [d1, Bool.false_and] at ho
               rw [d1] at k6
               rw [ho] at HA
               clear k7 hcb hc hn ho hk0 d1
               go_wp2_with fail
               go_ret
               exact ⟨ret_bool (HF.out (by rw [← HA.out]; rfl)).symm, rfl⟩
             · cases d2 : decide (s[k].toNat ≤ 57)
               · rw [d1, d2] at ho
                 rw [d1] at k6
                 rw [d2] at k7
                 rw [ho] at HA
                 clear hcb hc hn ho hk0 d1 d2
                 go_wp2_with fail
                 go_ret
                 exact ⟨ret_bool (HF.out (by rw [← HA.out]; rfl)).symm, rfl⟩
               · rw [d1, d2] at ho
                 rw [d1] at k6
                 rw [d2] at k7
                 rw [ho, if_pos (by rfl)] at HA
                 clear hcb hc hn ho hk0 d1 d2
                 go_wp2_with fail
                 exact ⟨⟨k + 1, by omega, by go_num, HA.out⟩, by simp [intOf]; omega⟩)
    · obtain rfl : k = s.size := by omega
      rw [Nat.sub_self, okF] at hall
      have HA := Lib.hid (HE.out hall.symm)
      clear hall
      by_cases h0 : s.size = 0
      · have e1 : (s.toList == []) = true := by
          rw [ByteArray.toList_eq, beq_iff_eq]
          exact List.eq_nil_of_length_eq_zero (by have := strL_length s; unfold strL at this; omega)
        rw [e1] at HA
        go_wp2_with fail
        go_ret
        exact ⟨ret_bool HA.out.symm, rfl⟩
      · have e1 : (s.toList == []) = false := by
          rw [ByteArray.toList_eq, beq_eq_false_iff_ne]
          intro e
          have := strL_length s
          unfold strL at this
          rw [e] at this
          simp at this
          omega
        rw [e1] at HA
        go_wp2_with fail
        go_ret
        exact ⟨ret_bool HA.out.symm, rfl⟩
end Go.Proofs.Ytjljfilflajogaa

namespace Go.Proofs.Ytjljfilflajogaa
set_option linter.unusedVariables false

theorem class_fuel {n m : Nat} {x : List UInt8} {q} (hm : x.length < m) (h : classM n x = some q) : classM m x = some q := by
  unfold classM at h ⊢
  cases h1 : itemsM n (if aheadM [94] x = true then x.tail else x) with
  | none => simp [h1] at h
  | some r =>
    rw [items_fuel (m := m) (by have := hat_len x; unfold hatX at this; omega) h1]
    simpa [h1] using h
mutual
theorem pat_fuel : ∀ {n m : Nat} {x : List UInt8} {q}, 4 * x.length + 4 ≤ m → patM n x = some q → patM m x = some q
  | 0, m, x, q, _, h => by simp [patM] at h
  | n + 1, 0, x, q, hm, h => by omega
  | n + 1, m + 1, x, q, hm, h => by
    simp only [patM] at h ⊢
    cases h0 : altM n x with
    | none => simp [h0] at h
    | some r =>
      obtain ⟨l, y, d⟩ := r
      rw [alt_fuel (m := m) (by omega) h0]
      simp only [h0] at h ⊢
      have hy := alt_len h0
      split at h
      · rename_i ha
        rw [if_pos ha]
        have ht := tail_len ha
        cases h1 : patM n y.tail with
        | none => simp [h1] at h
        | some r =>
          rw [pat_fuel (m := m) (by omega) h1]
          simpa [h1] using h
      · rename_i ha
        rw [if_neg ha]; exact h
theorem alt_fuel : ∀ {n m : Nat} {x : List UInt8} {q}, 4 * x.length + 3 ≤ m → altM n x = some q → altM m x = some q
  | 0, m, x, q, _, h => by simp [altM] at h
  | n + 1, 0, x, q, hm, h => by omega
  | n + 1, m + 1, x, q, hm, h => by
    simp only [altM] at h ⊢
    split at h
    · rename_i ha
      rw [if_pos ha]; exact h
    · rename_i ha
      rw [if_neg ha]
      cases h0 : pieceM n x with
      | none => simp [h0] at h
      | some r =>
        obtain ⟨r, y, d⟩ := r
        rw [piece_fuel (m := m) (by omega) h0]
        simp only [h0] at h ⊢
        have hy := piece_len h0
        cases h1 : altM n y with
        | none => simp [h1] at h
        | some r =>
          rw [alt_fuel (m := m) (by omega) h1]
          simpa [h1] using h
theorem piece_fuel : ∀ {n m : Nat} {x : List UInt8} {q}, 4 * x.length + 2 ≤ m → pieceM n x = some q → pieceM m x = some q
  | 0, m, x, q, _, h => by simp [pieceM] at h
  | n + 1, 0, x, q, hm, h => by omega
  | n + 1, m + 1, x, q, hm, h => by
    simp only [pieceM] at h ⊢
    cases h0 : atomM n x with
    | none => simp [h0] at h
    | some r =>
      rw [atom_fuel (m := m) (by omega) h0]
      simpa only [h0] using h
theorem atom_fuel : ∀ {n m : Nat} {x : List UInt8} {q}, 4 * x.length + 1 ≤ m → atomM n x = some q → atomM m x = some q
  | 0, m, x, q, _, h => by simp [atomM] at h
  | n + 1, 0, x, q, hm, h => by omega
  | n + 1, m + 1, x, q, hm, h => by
    simp only [atomM] at h ⊢
    split at h
    · rename_i ha
      rw [if_pos ha]
      have ht := tail_len ha
      cases h0 : patM n x.tail with
      | none => simp [h0] at h
      | some r =>
        rw [pat_fuel (m := m) (by omega) h0]
        simpa only [h0] using h
    · rename_i ha
      rw [if_neg ha]
      split at h
      · rename_i hb
        rw [if_pos hb]
        have ht := tail_len hb
        cases h0 : classM n x.tail with
        | none => simp [h0] at h
        | some r =>
          rw [class_fuel (m := m) (by omega) h0]
          simpa only [h0] using h
      · rename_i hb
        rw [if_neg hb]
        exact h
end
theorem parse_fuel {n m : Nat} (hn : 260 ≤ n) (hm : 260 ≤ m) (p : List UInt8) : parseM n p = parseM m p := by
  unfold parseM
  by_cases h : 64 < p.length
  · rw [if_pos h, if_pos h]
  · rw [if_neg h, if_neg h]
    have e : patM n p = patM m p := by
      cases h1 : patM n p with
      | some q => exact (pat_fuel (by omega) h1).symm
      | none =>
        cases h2 : patM m p with
        | none => rfl
        | some q => rw [pat_fuel (m := n) (by omega) h2] at h1; cases h1
    rw [e]
theorem fit_fuel {n m : Nat} (hn : 260 ≤ n) (hm : 260 ≤ m) (p s : List UInt8) : fitV n p s = fitV m p s := by
  unfold fitV
  rw [parse_fuel hn hm]
end Go.Proofs.Ytjljfilflajogaa

namespace Go.Proofs.Ytjljfilflajogaa
open Go.RowKit Go.Maps
set_option linter.unusedVariables false

/-- Where the pattern of the text p may end, of s, is told as its tree's places. -/
def EndsAt (s p : ByteArray) : Prop := ∀ (ls : List Re), PatT (strL p) ls → ∀ (A : Option Addr) (l : List Nat) (c : Nat) (w : World), Pls w A l → l.length ≤ c → Rise l → (∀ x ∈ l, x ≤ s.size) → Calls Try.prog 39 #[.string p, .string s, .slice A l.length c] w (PlsTold w (IsEnds (LAlt ls) (strL s) l))
def OneAt (s a : ByteArray) : Prop := ∀ (r : Re), AtomT (strL a) r → ∀ (A : Option Addr) (l : List Nat) (c : Nat) (w : World), Pls w A l → l.length ≤ c → Rise l → (∀ x ∈ l, x ≤ s.size) → Calls Try.prog 79 #[.string a, .string s, .slice A l.length c] w (PlsTold w (IsEnds (L r) (strL s) l))
def OneRel (w : World) (s : List UInt8) (f : UInt8 → Bool) (l : List Nat) (o i : Value) (wr : World) : Prop := ∃ k : Nat, k ≤ l.length ∧ i = .int .i64 (k : Int) ∧ OwnP wr w.heap.size o (oneOut s f l k) ∧ Below w.heap.size w wr
set_option maxRecDepth 100000 in
set_option maxHeartbeats 4000000 in
theorem one_ref (s a : ByteArray) (hs : s.size ≤ 1000) (ha : a.size ≤ 1000) (hE : ∀ q : ByteArray, q.size < a.size → EndsAt s q) : OneAt s a := by
  intro r hr A l c w hA hc hl hx
  have hlen := rise_len hl hx
  obtain ⟨n, d, hat⟩ := hr
  rcases atom_text hat with ⟨ss, neg, rfl, hleaf⟩ | ⟨u, ls, rfl, hg, hp⟩
  · have HF := Lib.hid (fun (cc : UInt8) W => byteof_ref a ha hleaf cc W)
    obtain ⟨c0, t, he, hne⟩ := leaf_head hleaf
    have hal : 0 < a.size := by rw [← strL_length, he]; simp
    have h0 : a[0] = c0 := by have := strG a (k := 0) hal; rw [he] at this; simpa using this.symm
    have t0 : ((a[0].toNat : Int) == 40) = false := test_no 40 (by omega) (show a[0] ≠ UInt8.ofNat 40 by rw [h0]; exact hne)
    have i0 : (0 : Int) < (a.size : Int) := by omega
    have HEN := Lib.hid (show IsEnds (L (.atom ss neg false)) (strL s) l (oneOut (strL s) (hasB ss neg) l l.length) from (oneOut_ends (strL s) (hasB ss neg) l hl).congr fun w => by simp only [L])
    have HA := Lib.hid hA
    have HST := Lib.hid (fun (k : Nat) (h : k < l.length) => oneOut_step (strL s) (hasB ss neg) l h)
    have HLN := Lib.hid (fun k => oneOut_len (strL s) (hasB ss neg) l k)
    have HXL := Lib.hid hx
    clear hat hleaf he hne h0 hA hl hx
    go_enter Try.func79, Try.ntmps79
    go_wp2_with fail
    go_loopw [7, 8] (fun o i wr => OneRel w (strL s) (hasB ss neg) l o i wr) (fun _ i _ => l.length - (intOf i).toNat)
    case atStart => exact ⟨0, Nat.zero_le _, rfl, ownp_nil _ _, Below.refl _ _⟩
    case round =>
      obtain ⟨k, hk, rfl, ho, hbr⟩ := hrel
      have hsz := hbr.size
      obtain ⟨P, cc, rfl, hlc, hP, _⟩ := ownp_slice ho
      have HBr := Lib.hid hbr
      have HO := Lib.hid ho
      by_cases hlt : k < l.length
      · obtain ⟨b, o, rfl, hb, g0⟩ := HA.out.at_ hlt
        have e0 : wr.cell? ⟨b, o + k, none⟩ = some (.int .i64 ((l.getD k 0 : Nat) : Int)) := (hbr.cell (p := ⟨b, o + k, none⟩) hb).trans g0
        have hst := HST.out k hlt
        have hxl := HXL.out (l.getD k 0) (by rw [List.getD_eq_getElem?_getD, List.getElem?_eq_getElem hlt]; exact List.getElem_mem _)
        generalize l.getD k 0 = x at e0 hst hxl
        have i1 : (0 : Int) ≤ (k : Int) := by omega
        have i2 : (k : Int) < (l.length : Int) := by omega
        clear ho hbr g0 hP
        by_cases hxs : x < s.size
        · have HB := Lib.hid (fun W => HF.out s[x] W)
          have hsb : stepB (strL s) (hasB ss neg) x = hasB ss neg s[x] := by unfold stepB; rw [strG s hxs]
          rw [hsb] at hst
          have i3 : (x : Int) < (s.size : Int) := by omega
          have i4 : (0 : Int) ≤ (x : Int) := by omega
          cases hh : hasB ss neg s[x]
          · rw [hh] at hst HB
            have HS := Lib.hid (hst.trans (by simp : _ = oneOut (strL s) (hasB ss neg) l k))
            clear hst hh hsb
            go_wp2_with (go_at_call 84; refine (HB.out _).mono ?_; rintro e w2 ⟨rfl, hb2⟩; have HB2 := Lib.hid (HBr.out.trans (hb2.mono HBr.out.size)); have HO2 := Lib.hid (ownp_below HO.out hb2); clear hb2)
            go_roundw
            case rel => exact ⟨k + 1, by omega, by go_num, by rw [HS.out]; exact HO2.out, HB2.out⟩
            case measure => simp [intOf]; omega
          · rw [hh] at hst HB
            have HS := Lib.hid (hst.trans (by simp : _ = oneOut (strL s) (hasB ss neg) l k ++ [x + 1]))
            have HN := Lib.hid (show (oneOut (strL s) (hasB ss neg) l k).length + 1 ≤ 2002 by have := HLN.out k; omega)
            generalize oneOut (strL s) (hasB ss neg) l k = y at *
            clear hst hh hsb
            go_wp2_with (first
              | (go_at_call 84; refine (HB.out _).mono ?_; rintro e w2 ⟨rfl, hb2⟩; have HB2 := Lib.hid (HBr.out.trans (hb2.mono HBr.out.size)); have HO2 := Lib.hid (ownp_below HO.out hb2); have e2 : w2.cell? ⟨b, o + k, none⟩ = some (.int .i64 (x : Int)) := (HB2.out.cell (p := ⟨b, o + k, none⟩) hb).trans ((HBr.out.cell (p := ⟨b, o + k, none⟩) hb).symm.trans e0); clear hb2)
              | (at_builtin; refine app_nats rfl (.tmp 43) (.tmp 49) rfl w.heap.size _ y rfl (ownp_below HO2.out (below_one _ _)) _ [x + 1] 1 rfl (pls_cell (n := x + 1) (Row.new _ _ _)) (by rw [List.length_singleton]; have := HN.out; omega) (Nat.le_trans HB2.out.size (by simp)) ?_; intro v1 w3 hown1 hb1 _; have HO3 := Lib.hid hown1; have HB3 := Lib.hid ((HB2.out.alloc HB2.out.size _).trans hb1); clear hown1 hb1))
            go_roundw
            case rel => exact ⟨k + 1, by omega, by go_num, by rw [HS.out]; exact HO3.out, HB3.out⟩
            case measure => simp [intOf]; omega
        · have hsb : stepB (strL s) (hasB ss neg) x = false := by unfold stepB; rw [List.getElem?_eq_none (by rw [strL_length]; omega)]
          rw [hsb] at hst
          have HS := Lib.hid (hst.trans (by simp : _ = oneOut (strL s) (hasB ss neg) l k))
          have i3 : ¬ (x : Int) < (s.size : Int) := by omega
          clear hst hsb
          go_wp2_with fail
          exact ⟨⟨k + 1, by omega, by go_num, by rw [HS.out]; exact HO.out, HBr.out⟩, by simp [intOf]; omega⟩
      · obtain rfl : k = l.length := by omega
        clear ho hbr
        have HP := Lib.hid hP
        clear hP
        go_wp2_with fail
        go_ret
        exact ⟨P, _, cc, rfl, hlc, HP.out, HEN.out, HBr.out⟩
  · obtain ⟨hau, hpu⟩ : strL a = 40 :: (u ++ [41]) ∧ PatT u ls := ⟨hg, hp⟩
    have hz : a.size = u.length + 2 := by rw [← strL_length, hau]; simp
    have hal : 0 < a.size := by omega
    have h0 : a[0] = 40 := by have := strG a (k := 0) hal; rw [hau] at this; simpa using this.symm
    have t0 : ((a[0].toNat : Int) == 40) = true := test_yes 40 (by omega) h0
    have i0 : (0 : Int) < (a.size : Int) := by omega
    have hsl : strL (a.extract 1 (a.size - 1)) = u := by
      rw [ext_txt a _ _ (by omega), hau]
      simp only [List.drop_succ_cons, List.drop_zero]
      rw [show a.size - 1 - 1 = u.length by omega, List.take_left]
    have hsz : (a.extract 1 (a.size - 1)).size < a.size := by rw [← strL_length, hsl]; omega
    have HC := Lib.hid (hE _ hsz ls (by rw [hsl]; exact hpu) A l c w hA hc hl hx)
    have HL := Lib.hid (show ∀ e w', PlsTold w (IsEnds (LAlt ls) (strL s) l) e w' → PlsTold w (IsEnds (L (.alt ls)) (strL s) l) e w' from fun e w' h => by
      obtain ⟨A', out, c', h1, h2, h3, h4, h5⟩ := h
      exact ⟨A', out, c', h1, h2, h3, h4.congr fun w => by simp only [L], h5⟩)
    have i1 : (2 : Int) ≤ (a.size : Int) := by omega
    have i2 : 2 ≤ a.size := by omega
    clear hat hg hp hau hpu hz h0 hsl hsz hE
    go_enter Try.func79, Try.ntmps79
    go_wp2_with (go_at_call 39; refine HC.out.mono ?_; rintro e w2 ⟨A', out, c', rfl, h2, h3, h4, h5⟩; have H3 := Lib.hid h3; have H4 := Lib.hid h4; have H5 := Lib.hid h5; clear h3 h4 h5)
    go_ret
    exact HL.out _ _ ⟨A', out, c', rfl, h2, H3.out, H4.out, H5.out⟩
end Go.Proofs.Ytjljfilflajogaa

namespace Go.Proofs.Ytjljfilflajogaa
open Go.RowKit Go.Maps
set_option linter.unusedVariables false

def markF (m : UInt8) (r : Re) : Re := if m = 42 then .rep r true true else if m = 43 then .rep r false true else if m = 63 then .rep r true false else r
/-- What a mark of many makes of what a part fits. -/
def Many (r : Re) (m : UInt8) (x : List UInt8) : Prop := if m = 42 ∨ m = 43 then ∃ u v, x = u ++ v ∧ L r u ∧ Star (L r) v else L r x
def PieceAt (s a : ByteArray) : Prop := ∀ (r : Re), AtomT (strL a) r → ∀ (m : UInt8) (A : Option Addr) (l : List Nat) (c : Nat) (w : World), Pls w A l → l.length ≤ c → Rise l → (∀ x ∈ l, x ≤ s.size) → Calls Try.prog 69 #[.string a, .int .u8 (m.toNat : Int), .string s, .slice A l.length c] w (PlsTold w (IsEnds (L (markF m r)) (strL s) l))
def PcMid (w : World) (Q : List UInt8 → Prop) (s : List UInt8) (l : List Nat) (v : Value) (wx : World) : Prop := ∃ A out c, v = .slice A out.length c ∧ out.length ≤ c ∧ Pls wx A out ∧ IsEnds Q s l out ∧ Below w.heap.size w wx
def PcRel (w : World) (r : Re) (s : List UInt8) (l : List Nat) (v i : Value) (wr : World) : Prop := ∃ (k : Nat) (A : Option Addr) (nx : List Nat) (c : Nat), k ≤ s.length ∧ i = .int .i64 (k : Int) ∧ v = .slice A nx.length c ∧ nx.length ≤ c ∧ Pls wr A nx ∧ Found (L r) s l k nx ∧ Below w.heap.size w wr
theorem found_le {P : List UInt8 → Prop} {s : List UInt8} {l nx : List Nat} {k : Nat} (h : Found P s l k nx) : ∀ j ∈ nx, j ≤ s.length := fun j hj => by
  obtain ⟨i, t, _, hp⟩ := h.2.1 j hj
  exact hp.le.2
theorem many_yes {r : Re} {m : UInt8} (h : m = 42 ∨ m = 43) {s : List UInt8} {l out : List Nat} (k : IsEnds (fun x => ∃ u v, x = u ++ v ∧ L r u ∧ Star (L r) v) s l out) : IsEnds (Many r m) s l out := k.congr fun x => by unfold Many; rw [if_pos h]
theorem many_no {r : Re} {m : UInt8} (h : ¬ (m = 42 ∨ m = 43)) {s : List UInt8} {l out : List Nat} (k : IsEnds (L r) s l out) : IsEnds (Many r m) s l out := k.congr fun x => by unfold Many; rw [if_neg h]
theorem u8_yes {m : UInt8} (k : Nat) (hk : k < 256) (h : m = UInt8.ofNat k) : ((m.toNat : Int) == (k : Int)) = true := test_yes k hk h
theorem u8_no {m : UInt8} (k : Nat) (hk : k < 256) (h : m ≠ UInt8.ofNat k) : ((m.toNat : Int) == (k : Int)) = false := test_no k hk h
set_option maxRecDepth 100000 in
set_option maxHeartbeats 4000000 in
theorem piece_ref (s a : ByteArray) (hs : s.size ≤ 1000) (hO : OneAt s a) : PieceAt s a := by
  intro r hr m A l c w hA hc hl hx
  have hsl := strL_length s
  have HO := Lib.hid (fun (A : Option Addr) (l : List Nat) (c : Nat) W h1 h2 h3 h4 => hO r hr A l c W h1 h2 h3 h4)
  have HA := Lib.hid hA
  have HRL := Lib.hid hl
  have HXL := Lib.hid hx
  have HLL := Lib.hid (show l.length ≤ 1001 by have := rise_len hl hx; omega)
  have HSL := Lib.hid hsl
  clear hA hl hx hO hr hsl
  go_enter Try.func69, Try.ntmps69
  go_upto_region 2 with (first | (go_at_call 79; refine (HO.out A l c _ HA.out hc HRL.out HXL.out).mono ?_; rintro e w1 ⟨A1, n1, c1, rfl, hc1, hP1, hE1, hb1⟩; have HP1 := Lib.hid hP1; have HE1 := Lib.hid hE1; have HB1 := Lib.hid hb1; clear hP1 hE1 hb1))
  go_cut [21] (fun s21 wx => s21 = .bool (decide (m = 42 ∨ m = 43)) ∧ w1 = wx)
  case first =>
    by_cases h1 : m = 42
    · have t1 : ((m.toNat : Int) == 42) = true := u8_yes 42 (by omega) h1
      have HD := Lib.hid (decide_eq_true (show m = 42 ∨ m = 43 from .inl h1))
      clear h1
      go_wp2_with fail
      go_meet
      exact ⟨by rw [HD.out], rfl⟩
    · have t1 : ((m.toNat : Int) == 42) = false := u8_no 42 (by omega) h1
      by_cases h2 : m = 43
      · have t2 : ((m.toNat : Int) == 43) = true := u8_yes 43 (by omega) h2
        have HD := Lib.hid (decide_eq_true (show m = 42 ∨ m = 43 from .inr h2))
        clear h1 h2
        go_wp2_with fail
        go_meet
        exact ⟨by rw [HD.out], rfl⟩
      · have t2 : ((m.toNat : Int) == 43) = false := u8_no 43 (by omega) h2
        have HD := Lib.hid (decide_eq_false (show ¬ (m = 42 ∨ m = 43) from fun h => h.elim h1 h2))
        clear h1 h2
        go_wp2_with fail
        go_meet
        exact ⟨by rw [HD.out], rfl⟩
  case rest =>
    obtain ⟨rfl, rfl⟩ := hcut
    go_upto_if 21 with fail
    go_cut [9] (fun s9 wx => PcMid w (Many r m) (strL s) l s9 wx)
    case first =>
      by_cases hm : m = 42 ∨ m = 43
      · have HM := Lib.hid hm
        rw [decide_eq_true hm]
        clear hm
        have HS0 := Lib.hid (found_zero HE1.out)
        go_wp2_with fail
        go_loopw [9, 10] (fun v i wr => PcRel w r (strL s) l v i wr) (fun _ i _ => s.size - (intOf i).toNat)
        case atStart => exact ⟨0, A1, n1, c1, Nat.zero_le _, rfl, rfl, hc1, HP1.out, HS0.out, HB1.out⟩
        case round =>
          obtain ⟨k, A2, nx, c2, hk, rfl, rfl, hc2, hP2, hF2, hbr⟩ := hrel
          have hr2 := hF2.1
          have hl2 := found_le hF2
          rw [HSL.out] at hk hl2
          have HLX := Lib.hid (show nx.length ≤ 1001 by have := rise_len hr2 hl2; omega)
          have HP2 := Lib.hid hP2
          have HF2 := Lib.hid hF2
          have HBr := Lib.hid hbr
          have HC := Lib.hid (HO.out A2 nx c2 wr hP2 hc2 hr2 hl2)
          have HR2 := Lib.hid hr2
          clear hP2 hF2 hbr hr2 hl2
          by_cases hlt : k < s.size
          · have i1 : (k : Int) < (s.size : Int) := by omega
            go_upto_region 7 with (first
              | (go_at_call 79; refine HC.out.mono ?_; rintro e w3 ⟨A3, e3, c3, rfl, hc3, hP3, hE3, hb3⟩
                 have HB3 := Lib.hid (HBr.out.trans (hb3.mono HBr.out.size))
                 have HW3 := Lib.hid hb3
                 have HE3 := Lib.hid hE3
                 have hl3 := hE3.le
                 rw [HSL.out] at hl3
                 have HMG := Lib.hid (merge_ref A2 A3 nx e3 c2 c3 w3 (HP2.out.below hb3) hP3 hc2 hc3 HR2.out hE3.1 HLX.out (by have := rise_len hE3.1 hl3; omega))
                 clear hP3 hE3 hb3 hl3)
              | (go_at_call 55; refine HMG.out.mono ?_; rintro e w4 ⟨A4, mo, c4, rfl, hc4, hP4, hJ4, hb4⟩
                 have HB4 := Lib.hid (HB3.out.trans (hb4.mono HB3.out.size))
                 have HP4 := Lib.hid hP4
                 have HJ4 := Lib.hid hJ4
                 have HP24 := Lib.hid ((HP2.out.below HW3.out).below hb4)
                 clear hP4 hJ4 hb4))
            by_cases hle : mo.length = nx.length
            · have HFS := Lib.hid (found_stop HF2.out HE3.out HJ4.out hle)
              have z0 : ((mo.length : Int) == (nx.length : Int)) = true := by rw [hle]; simp
              clear hle
              go_wp2_with fail
              go_meet
              exact ⟨A2, nx, c2, rfl, hc2, HP24.out, many_yes HM.out HFS.out, HB4.out⟩
            · have HFS := Lib.hid (found_step HF2.out HE3.out HJ4.out)
              have z0 : ((mo.length : Int) == (nx.length : Int)) = false := by rw [beq_eq_false_iff_ne]; omega
              clear hle
              go_wp2_with fail
              go_roundw
              case rel => exact ⟨k + 1, A4, mo, c4, by rw [HSL.out]; omega, by go_num, rfl, hc4, HP4.out, HFS.out, HB4.out⟩
              case measure => simp [intOf]; omega
          · obtain rfl : k = s.size := by omega
            have HFS := Lib.hid (found_full (by rw [HSL.out]; exact HF2.out))
            go_wp2_with fail
            go_meet
            exact ⟨A2, nx, c2, rfl, hc2, HP2.out, many_yes HM.out HFS.out, HBr.out⟩
      · have HE := Lib.hid (many_no hm HE1.out)
        rw [decide_eq_false hm]
        clear hm
        go_wp2_with fail
        go_meet
        exact ⟨A1, n1, c1, rfl, hc1, HP1.out, HE.out, HB1.out⟩
    case rest =>
      obtain ⟨A2, n2, c2, rfl, hc2, hP2, hE2, hb2⟩ := hcut
      have hl2 := hE2.le
      rw [HSL.out] at hl2
      have HB2 := Lib.hid hb2
      have HMG := Lib.hid (merge_ref A2 A n2 l c2 c wc hP2 (HA.out.below hb2) hc2 hc hE2.1 HRL.out (by have := rise_len hE2.1 hl2; omega) HLL.out)
      have HE2 := Lib.hid hE2
      have HP2 := Lib.hid hP2
      clear hP2 hE2 hb2 hl2
      by_cases h1 : m = 42
      · have t1 : ((m.toNat : Int) == 42) = true := u8_yes 42 (by omega) h1
        have HQ := Lib.hid (fun out (hj : Joins n2 l out) => show IsEnds (L (markF m r)) (strL s) l out by
          rw [h1] at HE2 ⊢
          exact ends_star HRL.out (by rw [HSL.out]; exact HXL.out) (HE2.out.congr fun x => by unfold Many; rw [if_pos (.inl rfl)]) hj)
        clear h1
        go_wp2_with (go_at_call 55; refine HMG.out.mono ?_; rintro e w4 ⟨A4, mo, c4, rfl, hc4, hP4, hJ4, hb4⟩; have HB4 := Lib.hid (HB2.out.trans (hb4.mono HB2.out.size)); have HP4 := Lib.hid hP4; have HJ4 := Lib.hid (HQ.out mo hJ4); clear hP4 hJ4 hb4)
        go_ret
        exact ⟨A4, mo, c4, rfl, hc4, HP4.out, HJ4.out, HB4.out⟩
      · have t1 : ((m.toNat : Int) == 42) = false := u8_no 42 (by omega) h1
        by_cases h3 : m = 63
        · have t3 : ((m.toNat : Int) == 63) = true := u8_yes 63 (by omega) h3
          have HQ := Lib.hid (fun out (hj : Joins n2 l out) => show IsEnds (L (markF m r)) (strL s) l out by
            rw [h3] at HE2 ⊢
            exact ends_maybe HRL.out (by rw [HSL.out]; exact HXL.out) (HE2.out.congr fun x => by unfold Many; rw [if_neg (by decide)]) hj)
          clear h1 h3
          go_wp2_with (go_at_call 55; refine HMG.out.mono ?_; rintro e w4 ⟨A4, mo, c4, rfl, hc4, hP4, hJ4, hb4⟩; have HB4 := Lib.hid (HB2.out.trans (hb4.mono HB2.out.size)); have HP4 := Lib.hid hP4; have HJ4 := Lib.hid (HQ.out mo hJ4); clear hP4 hJ4 hb4)
          go_ret
          exact ⟨A4, mo, c4, rfl, hc4, HP4.out, HJ4.out, HB4.out⟩
        · have t3 : ((m.toNat : Int) == 63) = false := u8_no 63 (by omega) h3
          have HQ := Lib.hid (show IsEnds (L (markF m r)) (strL s) l n2 by
            unfold markF
            rw [if_neg h1]
            by_cases h2 : m = 43
            · rw [if_pos h2]
              exact ends_plus (HE2.out.congr fun x => by unfold Many; rw [if_pos (.inr h2)])
            · rw [if_neg h2, if_neg h3]
              exact HE2.out.congr fun x => by unfold Many; rw [if_neg (fun h => h.elim h1 h2)])
          clear h1 h3
          go_wp2_with fail
          go_ret
          exact ⟨A2, n2, c2, rfl, hc2, HP2.out, HQ.out, HB2.out⟩
end Go.Proofs.Ytjljfilflajogaa

namespace Go.Proofs.Ytjljfilflajogaa
open Go.RowKit Go.Maps
set_option linter.unusedVariables false

def AltAt (s p : ByteArray) : Prop := ∀ (rs : List Re), AltT (strL p) rs → ∀ (A : Option Addr) (l : List Nat) (c : Nat) (w : World), Pls w A l → l.length ≤ c → Rise l → (∀ x ∈ l, x ≤ s.size) → Calls Try.prog 56 #[.string p, .string s, .slice A l.length c] w (PlsTold w (IsEnds (LRow rs) (strL s) l))
def AlRel (w : World) (s p : ByteArray) (rs : List Re) (l : List Nat) (v i : Value) (wr : World) : Prop := ∃ (k : Nat) (rs' : List Re) (A : Option Addr) (l' : List Nat) (c : Nat), k ≤ p.size ∧ i = .int .i64 (k : Int) ∧ v = .slice A l'.length c ∧ l'.length ≤ c ∧ Pls wr A l' ∧ Rise l' ∧ (∀ x ∈ l', x ≤ s.size) ∧ AltT ((strL p).drop k) rs' ∧ (∀ out, IsEnds (LRow rs') (strL s) l' out → IsEnds (LRow rs) (strL s) l out) ∧ Below w.heap.size w wr
def markB (z : List UInt8) : UInt8 := if MarkP z then z.headD 0 else 0
theorem mark_fr (z : List UInt8) (r : Re) : markR z r = markF (markB z) r := by
  unfold markR markF markB MarkP
  cases z with
  | nil => rfl
  | cons c t =>
    simp only [aheadM, List.contains_cons, List.contains_nil, Bool.or_false, beq_iff_eq, List.headD_cons]
    by_cases h1 : c = 42
    · subst h1; rfl
    · by_cases h2 : c = 43
      · subst h2; rfl
      · by_cases h3 : c = 63
        · subst h3; rfl
        · rw [if_neg h1, if_neg h2, if_neg h3]
          have : ((c == 42) || (c == 43) || (c == 63)) = false := by simp [h1, h2, h3]
          rw [this]
          rfl
set_option maxRecDepth 100000 in
set_option maxHeartbeats 4000000 in
theorem alternative_ref (s p : ByteArray) (hs : s.size ≤ 1000) (hp : p.size ≤ 1000) (hq : ∀ q : ByteArray, q.size ≤ p.size → PieceAt s q) : AltAt s p := by
  intro rs hr A l c w hA hc hl hx
  have HAT := Lib.hid (atom_all _ p (Nat.le_refl _) hp)
  have HPC := Lib.hid hq
  have HSL := Lib.hid (strL_length s)
  have HA := Lib.hid hA
  have HR := Lib.hid (show AltT ((strL p).drop 0) rs from hr)
  have HL := Lib.hid hl
  have HX := Lib.hid hx
  clear hq hA hr hl hx
  go_enter Try.func56, Try.ntmps56
  go_wp2_with fail
  go_loopw [2, 7] (fun v i wr => AlRel w s p rs l v i wr) (fun _ i _ => p.size - (intOf i).toNat)
  case atStart => exact ⟨0, rs, A, l, c, Nat.zero_le _, rfl, rfl, hc, HA.out, HL.out, HX.out, HR.out, fun _ h => h, Below.refl _ _⟩
  case round =>
    obtain ⟨k, rs', A1, l1, c1, hk, rfl, rfl, hc1, hP1, hr1, hx1, hat, hgo, hbr⟩ := hrel
    have HBr := Lib.hid hbr
    have HP1 := Lib.hid hP1
    by_cases hlt : k < p.size
    · have hd := drop_byte p hlt
      obtain ⟨a, r, z, rs2, hxa, hane, hT, hz, hnext, hrs⟩ := alt_open hat (by rw [hd]; simp)
      have hzl := atomP_len hz
      have hzd : (strL p) = ((strL p).take k ++ a) ++ z := by rw [List.append_assoc, ← hxa, List.take_append_drop]
      have hzs := suffix_drop hzd
      rw [strL_length] at hzs
      rw [drop_len] at hzl
      obtain ⟨m, hm⟩ : ∃ m : Nat, p.size - z.length = m := ⟨_, rfl⟩
      rw [hm] at hzs
      have hzle : z.length ≤ p.size := by omega
      have hkm : k < m ∧ m ≤ p.size := by omega
      have HC := Lib.hid (fun W => HAT.out k (m : Int) W hk (.inl ⟨z, hz, by omega⟩))
      have hal : a.length + z.length = p.size - k := by rw [← drop_len p k, hxa, List.length_append]
      have hta : strL (p.extract k m) = a := by rw [ext_txt p _ _ hkm.2, hxa, show m - k = a.length by omega, List.take_left]
      have hsz : (p.extract k m).size ≤ p.size := by rw [← strL_length, hta]; omega
      rw [mark_fr] at hrs
      have HG := Lib.hid (fun (W : World) (hb : Below wr.heap.size wr W) => HPC.out _ hsz r (by rw [hta]; exact hT) (markB z) A1 l1 c1 W (HP1.out.below hb) hc1 hr1 hx1)
      have HGO := Lib.hid (fun (l2 out : List Nat) (h1 : IsEnds (L (markF (markB z) r)) (strL s) l1 l2) (h2 : IsEnds (LRow rs2) (strL s) l2 out) => hgo out (by rw [hrs]; exact ends_row h1 h2))
      rw [hzs, mark_is] at hnext
      rw [hzs] at HG HGO
      have i1 : (k : Int) ≤ (m : Int) := by omega
      have i2 : (m : Int) ≤ (p.size : Int) := by omega
      by_cases hmk : MarkP ((strL p).drop m) = true
      · rw [if_pos hmk] at hnext
        have hms : m < p.size := by
          rcases Nat.lt_or_ge m p.size with h | h
          · exact h
          · rw [mark_end p h] at hmk; cases hmk
        have hmb : markB ((strL p).drop m) = p[m] := by unfold markB; rw [if_pos hmk, drop_byte p hms]; rfl
        rw [hmb] at HG HGO
        rw [mark_at p hms] at hmk
        have HN := Lib.hid hnext
        have q1 := byte_eq p[m] 42 (by omega)
        have q2 := byte_eq p[m] 43 (by omega)
        have q3 := byte_eq p[m] 63 (by omega)
        have z0 : ((p[m].toNat : Int) == 0) = false := by
          have := byte_eq p[m] 0 (by omega)
          refine this.trans (decide_eq_false fun e => ?_)
          rw [e] at hmk
          exact absurd hmk (by decide)
        have z1 : ((p[m].toNat : Int) != 0) = true := by rw [bne, z0]; rfl
        clear hd hat hgo hbr hP1 hr1 hx1 hxa hane hT hz hnext hrs hzl hzd hzs hm hal hta hsz hmb
        cases h1 : decide (p[m] = UInt8.ofNat 42)
        · cases h2 : decide (p[m] = UInt8.ofNat 43)
          · cases h3 : decide (p[m] = UInt8.ofNat 63)
            · rw [h1, h2, h3] at hmk; cases hmk
            · have s1 : ((p[m].toNat : Int) == 42) = false := q1.trans h1
              have s2 : ((p[m].toNat : Int) == 43) = false := q2.trans h2
              have s3 : ((p[m].toNat : Int) == 63) = true := q3.trans h3
              clear q1 q2 q3 h1 h2 h3 hmk
              go_wp2_with (first
                | (go_at_call 66; refine (HC.out _).mono ?_; rintro e w2 ⟨rfl, hb2⟩; have HB2 := Lib.hid (HBr.out.trans (hb2.mono HBr.out.size)); have HG2 := Lib.hid (HG.out _ hb2); clear hb2)
                | (go_at_call 69; refine HG2.out.mono ?_; rintro e w3 ⟨A3, l3, c3, rfl, hc3, hP3, hE3, hb3⟩; have HB3 := Lib.hid (HB2.out.trans (hb3.mono HB2.out.size)); have HP3 := Lib.hid hP3; have HE3 := Lib.hid hE3; have HL3 := Lib.hid (show ∀ x ∈ l3, x ≤ s.size by rw [← HSL.out]; exact hE3.le); clear hP3 hE3 hb3))
              exact ⟨⟨m + 1, rs2, A3, l3, c3, by omega, by go_num, rfl, hc3, HP3.out, HE3.out.1, HL3.out, HN.out, fun out h => HGO.out _ _ HE3.out h, HB3.out⟩, by simp [intOf]; omega⟩
          · have s1 : ((p[m].toNat : Int) == 42) = false := q1.trans h1
            have s2 : ((p[m].toNat : Int) == 43) = true := q2.trans h2
            clear q1 q2 q3 h1 h2 hmk
            go_wp2_with (first
              | (go_at_call 66; refine (HC.out _).mono ?_; rintro e w2 ⟨rfl, hb2⟩; have HB2 := Lib.hid (HBr.out.trans (hb2.mono HBr.out.size)); have HG2 := Lib.hid (HG.out _ hb2); clear hb2)
              | (go_at_call 69; refine HG2.out.mono ?_; rintro e w3 ⟨A3, l3, c3, rfl, hc3, hP3, hE3, hb3⟩; have HB3 := Lib.hid (HB2.out.trans (hb3.mono HB2.out.size)); have HP3 := Lib.hid hP3; have HE3 := Lib.hid hE3; have HL3 := Lib.hid (show ∀ x ∈ l3, x ≤ s.size by rw [← HSL.out]; exact hE3.le); clear hP3 hE3 hb3))
            exact ⟨⟨m + 1, rs2, A3, l3, c3, by omega, by go_num, rfl, hc3, HP3.out, HE3.out.1, HL3.out, HN.out, fun out h => HGO.out _ _ HE3.out h, HB3.out⟩, by simp [intOf]; omega⟩
        · have s1 : ((p[m].toNat : Int) == 42) = true := q1.trans h1
          clear q1 q2 q3 h1 hmk
          go_wp2_with (first
            | (go_at_call 66; refine (HC.out _).mono ?_; rintro e w2 ⟨rfl, hb2⟩; have HB2 := Lib.hid (HBr.out.trans (hb2.mono HBr.out.size)); have HG2 := Lib.hid (HG.out _ hb2); clear hb2)
            | (go_at_call 69; refine HG2.out.mono ?_; rintro e w3 ⟨A3, l3, c3, rfl, hc3, hP3, hE3, hb3⟩; have HB3 := Lib.hid (HB2.out.trans (hb3.mono HB2.out.size)); have HP3 := Lib.hid hP3; have HE3 := Lib.hid hE3; have HL3 := Lib.hid (show ∀ x ∈ l3, x ≤ s.size by rw [← HSL.out]; exact hE3.le); clear hP3 hE3 hb3))
          exact ⟨⟨m + 1, rs2, A3, l3, c3, by omega, by go_num, rfl, hc3, HP3.out, HE3.out.1, HL3.out, HN.out, fun out h => HGO.out _ _ HE3.out h, HB3.out⟩, by simp [intOf]; omega⟩
      · rw [if_neg hmk] at hnext
        have hmb : markB ((strL p).drop m) = 0 := by unfold markB; rw [if_neg hmk]
        rw [hmb] at HG HGO
        have HG' := Lib.hid (fun (W : World) (hb : Below wr.heap.size wr W) => show Calls Try.prog 69 #[.string (p.extract k m), .int .u8 0, .string s, .slice A1 l1.length c1] W (PlsTold W (IsEnds (L (markF 0 r)) (strL s) l1)) from HG.out W hb)
        have HN := Lib.hid hnext
        have hmk' := Bool.eq_false_iff.2 hmk
        clear hd hat hgo hbr hP1 hr1 hx1 hxa hane hT hz hnext hrs hzl hzd hzs hm hal hta hsz hmb hmk HG
        by_cases hms : m < p.size
        · rw [mark_at p hms, Bool.or_eq_false_iff, Bool.or_eq_false_iff] at hmk'
          have s1 : ((p[m].toNat : Int) == 42) = false := (byte_eq p[m] 42 (by omega)).trans hmk'.1
          have s2 : ((p[m].toNat : Int) == 43) = false := (byte_eq p[m] 43 (by omega)).trans hmk'.2.1
          have s3 : ((p[m].toNat : Int) == 63) = false := (byte_eq p[m] 63 (by omega)).trans hmk'.2.2
          clear hmk'
          go_wp2_with (first
            | (go_at_call 66; refine (HC.out _).mono ?_; rintro e w2 ⟨rfl, hb2⟩; have HB2 := Lib.hid (HBr.out.trans (hb2.mono HBr.out.size)); have HG2 := Lib.hid (HG'.out _ hb2); clear hb2)
            | (go_at_call 69; refine HG2.out.mono ?_; rintro e w3 ⟨A3, l3, c3, rfl, hc3, hP3, hE3, hb3⟩; have HB3 := Lib.hid (HB2.out.trans (hb3.mono HB2.out.size)); have HP3 := Lib.hid hP3; have HE3 := Lib.hid hE3; have HL3 := Lib.hid (show ∀ x ∈ l3, x ≤ s.size by rw [← HSL.out]; exact hE3.le); clear hP3 hE3 hb3))
          exact ⟨⟨m, rs2, A3, l3, c3, by omega, rfl, rfl, hc3, HP3.out, HE3.out.1, HL3.out, HN.out, fun out h => HGO.out _ _ HE3.out h, HB3.out⟩, by simp [intOf]; omega⟩
        · clear hmk'
          go_wp2_with (first
            | (go_at_call 66; refine (HC.out _).mono ?_; rintro e w2 ⟨rfl, hb2⟩; have HB2 := Lib.hid (HBr.out.trans (hb2.mono HBr.out.size)); have HG2 := Lib.hid (HG'.out _ hb2); clear hb2)
            | (go_at_call 69; refine HG2.out.mono ?_; rintro e w3 ⟨A3, l3, c3, rfl, hc3, hP3, hE3, hb3⟩; have HB3 := Lib.hid (HB2.out.trans (hb3.mono HB2.out.size)); have HP3 := Lib.hid hP3; have HE3 := Lib.hid hE3; have HL3 := Lib.hid (show ∀ x ∈ l3, x ≤ s.size by rw [← HSL.out]; exact hE3.le); clear hP3 hE3 hb3))
          exact ⟨⟨m, rs2, A3, l3, c3, by omega, rfl, rfl, hc3, HP3.out, HE3.out.1, HL3.out, HN.out, fun out h => HGO.out _ _ HE3.out h, HB3.out⟩, by simp [intOf]; omega⟩
    · obtain rfl : k = p.size := by omega
      rw [drop_end p (Nat.le_refl _)] at hat
      have hrn := alt_void hat
      have HEN := Lib.hid (hgo l1 (by rw [hrn]; exact (ends_nil hr1 (by rw [HSL.out]; exact hx1)).congr fun w => by simp only [LRow]))
      clear hat hgo hbr hP1 hr1 hx1 hrn
      go_wp2_with fail
      go_ret
      exact ⟨A1, l1, c1, rfl, hc1, HP1.out, HEN.out, HBr.out⟩
end Go.Proofs.Ytjljfilflajogaa

namespace Go.Proofs.Ytjljfilflajogaa
open Go.RowKit Go.Maps
set_option linter.unusedVariables false

theorem alts_at : ∀ {us : List (List UInt8)} {ls : List Re}, AltsOf us ls → us.length = ls.length ∧ ∀ k, k < us.length → ∃ rs, AltT (us.getD k []) rs ∧ ls[k]? = some (.row rs) := by
  intro us ls h
  induction h with
  | one u rs h =>
    refine ⟨rfl, fun k hk => ?_⟩
    obtain rfl : k = 0 := by simp at hk; omega
    exact ⟨rs, h, rfl⟩
  | more u rs us ls h h2 ih =>
    refine ⟨by simp [ih.1], fun k hk => ?_⟩
    cases k with
    | zero => exact ⟨rs, h, rfl⟩
    | succ k =>
      obtain ⟨rs', h3, h4⟩ := ih.2 k (by simpa using hk)
      exact ⟨rs', h3, h4⟩
theorem alt_take {ls : List Re} {k : Nat} {r : Re} (h : ls[k]? = some r) (w : List UInt8) : LAlt (ls.take (k + 1)) w ↔ LAlt (ls.take k) w ∨ L r w := by
  rw [List.take_add_one, h, L_app]
  simp only [Option.toList_some, LAlt, or_false]
def EnRel (w0 : World) (s : List UInt8) (ls : List Re) (l : List Nat) (v i : Value) (wr : World) : Prop := ∃ (k : Nat) (A : Option Addr) (o : List Nat) (c : Nat), k ≤ ls.length ∧ i = .int .i64 (k : Int) ∧ v = .slice A o.length c ∧ o.length ≤ c ∧ Pls wr A o ∧ IsEnds (LAlt (ls.take k)) s l o ∧ Below w0.heap.size w0 wr
theorem strs_at {w : World} {A : Option Addr} {us : List (List UInt8)} (h : At w A (us.flatMap strE)) {i : Nat} (hi : i < us.length) :
    ∃ b o, A = some ⟨b, o, none⟩ ∧ b < w.heap.size ∧ w.cell? ⟨b, o + i, none⟩ = some (.string (txt (us.getD i []))) := by
  have hlen := flat_len strE 1 strE_len us
  rcases h with h | ⟨b, o, rfl, hb, hc⟩
  · rw [h] at hlen; simp at hlen; omega
  · refine ⟨b, o, rfl, hb, ?_⟩
    have := hc (i * 1 + 0) _ (flat_get strE 1 strE_len us i _ 0 (getD_some us [] hi) (by omega))
    rw [Nat.mul_one] at this
    exact this
theorem res_size : ∀ (m : Nat) {x : List UInt8} {us : List (List UInt8)}, x.length ≤ m → Res [] x (some us) → ∀ u ∈ us, u.length ≤ x.length := by
  intro m
  induction m with
  | zero =>
    intro x us hm h
    obtain rfl : x = [] := List.eq_nil_of_length_eq_zero (by omega)
    have := res_nil h
    simp only [Option.some.injEq] at this
    rw [this]
    intro u hu
    simp at hu
    rw [hu]
    simp
  | succ m ih =>
    intro x us hm h u hu
    obtain ⟨u1, us', rs, n, y, d, h1, h2, h3, h4⟩ := res_first h us rfl
    rw [List.nil_append] at h1
    rw [h1] at hu
    have hxl : x.length = u1.length + y.length := by rw [h2, List.length_append]
    rcases h4 with ⟨rfl, rfl⟩ | ⟨t, rfl, hr⟩
    · simp at hu; rw [hu]; omega
    · rcases List.mem_cons.1 hu with rfl | hu
      · omega
      · have := ih (x := t) (by rw [List.length_cons] at hxl; omega) hr u hu
        rw [List.length_cons] at hxl
        omega
set_option maxRecDepth 100000 in
set_option maxHeartbeats 4000000 in
theorem ends_ref (s p : ByteArray) (hs : s.size ≤ 1000) (hp : p.size ≤ 1000) (hq : ∀ q : ByteArray, q.size ≤ p.size → AltAt s q) : EndsAt s p := by
  intro ls hls A l c w hA hc hl hx
  obtain ⟨n, d, hpm⟩ := hls
  obtain ⟨r, hres⟩ := res_all _ (strL p) [] (Nat.le_refl _)
  have hsome := (res_right hres).1 ⟨n, ls, d, hpm⟩
  obtain ⟨us, rfl⟩ := Option.isSome_iff_exists.1 hsome
  obtain ⟨ls2, hP2, hAl⟩ := res_alts _ (Nat.le_refl _) hres
  obtain rfl := pat_one_of ⟨n, d, hpm⟩ hP2
  obtain ⟨hlen, hat⟩ := alts_at hAl
  have husz := res_size _ (Nat.le_refl _) hres
  have HC := Lib.hid (show Calls Try.prog 52 #[.string p] w (fun e w' => ∃ P cc, e = .returned (.tuple #[.slice P us.length cc, .bool true]) ∧ us.length ≤ cc ∧ At w' P (us.flatMap strE) ∧ Below w.heap.size w w') from (cut_ref p hp (atom_all _ p (Nat.le_refl _) hp) _ hres w).mono fun e w' h => by
    obtain ⟨v, h1, h2, h3⟩ := h
    obtain ⟨P, cc, h4, h5, h6, _⟩ := ownt_slice h2
    exact ⟨P, cc, by rw [h1, h4], h5, h6, h3⟩)
  have hul : us.length ≤ 1002 := by
    have h1 : ∀ (m : Nat) {x : List UInt8} {us : List (List UInt8)}, x.length ≤ m → Res [] x (some us) → us.length ≤ x.length + 1 := by
      intro m
      induction m with
      | zero =>
        intro x us hm h
        obtain rfl : x = [] := List.eq_nil_of_length_eq_zero (by omega)
        have := res_nil h
        simp only [Option.some.injEq] at this
        rw [this]
        simp
      | succ m ih =>
        intro x us hm h
        obtain ⟨u1, us', rs, n, y, d, h1, h2, h3, h4⟩ := res_first h us rfl
        have hxl : x.length = u1.length + y.length := by rw [h2, List.length_append]
        rcases h4 with ⟨rfl, rfl⟩ | ⟨t, rfl, hr⟩
        · rw [h1]; simp
        · rw [List.length_cons] at hxl
          have := ih (x := t) (by omega) hr
          rw [h1, List.length_cons]
          omega
    have := h1 _ (Nat.le_refl _) hres
    rw [strL_length] at this
    omega
  have HSL := Lib.hid (strL_length s)
  have HA := Lib.hid hA
  have HRL := Lib.hid hl
  have HXL := Lib.hid hx
  have HEA := Lib.hid (fun (k : Nat) (hk : k < us.length) => (show ∃ rs, ls[k]? = some (.row rs) ∧ ∀ W : World, Below w.heap.size w W → Calls Try.prog 56 #[.string (txt (us.getD k [])), .string s, .slice A l.length c] W (PlsTold W (IsEnds (LRow rs) (strL s) l)) from by
    obtain ⟨rs, h1, h2⟩ := hat k hk
    have hmem : us.getD k [] ∈ us := by rw [List.getD_eq_getElem?_getD, List.getElem?_eq_getElem hk]; exact List.getElem_mem _
    have hz := husz _ hmem
    rw [strL_length] at hz
    exact ⟨rs, h2, fun W hb => hq (txt (us.getD k [])) (by rw [← strL_length, strL_txt]; exact hz) rs (by rw [strL_txt]; exact h1) A l c W (HA.out.below hb) hc HRL.out HXL.out⟩))
  have HLE := Lib.hid hlen
  clear hpm hres hsome hP2 hAl hat husz hA hl hx hq hlen
  go_enter Try.func39, Try.ntmps39
  go_wp2_with (go_at_call 52; refine HC.out.mono ?_; rintro e w2 ⟨P, cc, rfl, hcc, hAt, hb2⟩; have HAt := Lib.hid hAt; have HB2 := Lib.hid hb2; clear hAt hb2)
  go_loopw [9, 10] (fun v i wr => EnRel w2 (strL s) ls l v i wr) (fun _ i _ => us.length - (intOf i).toNat)
  case atStart => exact ⟨0, none, [], 0, Nat.zero_le _, rfl, rfl, Nat.le_refl _, Pls.nil _ _, (ends_none (strL s) l).congr fun w => by simp [LAlt], Below.refl _ _⟩
  case round =>
    obtain ⟨k, A1, o, c1, hk, rfl, rfl, hc1, hP1, hE1, hbr⟩ := hrel
    have HBr := Lib.hid hbr
    have HBw := Lib.hid (HB2.out.trans (hbr.mono HB2.out.size))
    have HP1 := Lib.hid hP1
    have HE1 := Lib.hid hE1
    clear hP1 hE1
    rw [← HLE.out] at hk
    by_cases hlt : k < us.length
    · obtain ⟨b, o1, rfl, hb, g0⟩ := strs_at HAt.out hlt
      have e0 : wr.cell? ⟨b, o1 + k, none⟩ = some (.string (txt (us.getD k []))) := (hbr.cell (p := ⟨b, o1 + k, none⟩) hb).trans g0
      obtain ⟨rs, hrs, hcall⟩ := HEA.out k hlt
      have HCL := Lib.hid (hcall wr HBw.out)
      have HTK := Lib.hid (fun (x : List UInt8) => show (LAlt (ls.take k) x ∨ LRow rs x) ↔ LAlt (ls.take (k + 1)) x from by rw [alt_take hrs x]; simp only [L])
      generalize us.getD k [] = u at e0 HCL
      have i1 : (0 : Int) ≤ (k : Int) := by omega
      have i2 : (k : Int) < (us.length : Int) := by omega
      clear hbr g0 hrs hcall
      go_wp2_with (first
        | (go_at_call 56; refine HCL.out.mono ?_; rintro e w3 ⟨A3, l3, c3, rfl, hc3, hP3, hE3, hb3⟩
           have HB3 := Lib.hid (HBr.out.trans (hb3.mono HBr.out.size))
           have HE3 := Lib.hid hE3
           have h3l := hE3.le
           have h1l := HE1.out.le
           rw [HSL.out] at h3l h1l
           have HMG := Lib.hid (merge_ref A1 A3 o l3 c1 c3 w3 (HP1.out.below hb3) hP3 hc1 hc3 HE1.out.1 hE3.1 (by have := rise_len HE1.out.1 h1l; omega) (by have := rise_len hE3.1 h3l; omega))
           clear hP3 hE3 hb3 h3l h1l)
        | (go_at_call 55; refine HMG.out.mono ?_; rintro e w4 ⟨A4, mo, c4, rfl, hc4, hP4, hJ4, hb4⟩
           have HB4 := Lib.hid (HB3.out.trans (hb4.mono HB3.out.size))
           have HP4 := Lib.hid hP4
           have HE4 := Lib.hid ((ends_or HE1.out HE3.out hJ4).congr HTK.out)
           clear hP4 hJ4 hb4))
      go_roundw
      case rel => exact ⟨k + 1, A4, mo, c4, by rw [← HLE.out]; omega, by go_num, rfl, hc4, HP4.out, HE4.out, HB4.out⟩
      case measure => simp [intOf]; omega
    · obtain rfl : k = us.length := by omega
      have HEN := Lib.hid (show IsEnds (LAlt ls) (strL s) l o by have := HE1.out; rw [HLE.out, List.take_of_length_le (Nat.le_refl _)] at this; exact this)
      clear hbr
      go_wp2_with fail
      go_ret
      exact ⟨A1, o, c1, rfl, hc1, HP1.out, HEN.out, HBw.out⟩
theorem ends_all (s : ByteArray) (hs : s.size ≤ 1000) : ∀ (m : Nat) (p : ByteArray), p.size ≤ m → p.size ≤ 1000 → EndsAt s p := by
  intro m
  induction m with
  | zero =>
    intro p h h2
    exact ends_ref s p hs h2 fun q hq => alternative_ref s q hs (by omega) fun a ha => piece_ref s a hs (one_ref s a hs (by omega) fun e he => by omega)
  | succ m ih =>
    intro p h h2
    exact ends_ref s p hs h2 fun q hq => alternative_ref s q hs (by omega) fun a ha => piece_ref s a hs (one_ref s a hs (by omega) fun e he => ih e (by omega) (by omega))
theorem ends_whole {ls : List Re} {s : List UInt8} {out : List Nat} (h : IsEnds (LAlt ls) s [0] out) : s.length ∈ out ↔ LAlt ls s := by
  rw [h.2]
  constructor
  · rintro ⟨i, hi, hs⟩
    simp at hi
    subst hi
    have := hs.2.2
    unfold seg at this
    rw [List.take_of_length_le (Nat.le_refl _), List.drop_zero] at this
    exact this
  · intro hw
    refine ⟨0, by simp, Nat.zero_le _, Nat.le_refl _, ?_⟩
    unfold seg
    rw [List.take_of_length_le (Nat.le_refl _), List.drop_zero]
    exact hw
set_option maxHeartbeats 2000000 in
/-- The document's answer and the program's hang on the same fuel. -/
theorem rfits_ref (p s : ByteArray) : ∃ n : Nat, 260 ≤ n ∧ ∀ W : World, Calls Try.prog 20 #[.string p, .string s] W fun e w' => e = .returned (.tuple #[.bool (fitV n (strL p) (strL s)).1, .int .i64 (fitV n (strL p) (strL s)).2]) ∧ Below W.heap.size W w' := by
  obtain ⟨n, hn, hck⟩ := rchk_ref p
  refine ⟨n, hn, fun w => ?_⟩
  have HC := Lib.hid hck
  have hsl := strL_length s
  have hpl := strL_length p
  by_cases h0 : (parseM n (strL p)).1 = 0
  · rw [h0] at HC
    obtain ⟨ls, d, hpm, _, hp64, heq⟩ := parse_right h0
    by_cases h64 : 64 < s.size
    · have HV := Lib.hid (show fitV n (strL p) (strL s) = (false, 3) by unfold fitV; rw [heq]; simp only [if_true]; rw [if_pos (by omega)])
      rw [HV.out]
      clear hck hsl hpl h0 hpm hp64 heq
      go_enter Try.func20, Try.ntmps20
      go_wp2_with (go_at_call 17; refine (HC.out _).mono ?_; rintro e w2 ⟨rfl, hb2⟩; have HB2 := Lib.hid hb2; clear hb2)
      go_ret2
      exact ⟨rfl, HB2.out⟩
    · obtain ⟨F, hF⟩ : ∃ F, fitsM (.alt ls) (strL s) = F := ⟨_, rfl⟩
      have HV := Lib.hid (show fitV n (strL p) (strL s) = (F, 0) by unfold fitV; rw [heq]; simp only [if_true]; rw [if_neg (by omega), hF])
      have HFI := Lib.hid (show F = true ↔ LAlt ls (strL s) by rw [← hF]; exact fits_iff hpm (strL s))
      have HE := Lib.hid (fun (W : World) g (h : Row W g 3 #[.int .i64 0]) => ends_all s (by omega) _ p (Nat.le_refl _) (by omega) ls ⟨n, d, hpm⟩ (some ⟨g, 0, none⟩) [0] 1 W (pls_cell (n := 0) h) (by simp) (List.pairwise_singleton _ _) (by simp))
      have HE' := Lib.hid (fun (W : World) g (h : Row W g 3 #[.int .i64 0]) => show Calls Try.prog 39 #[.string p, .string s, .slice (some ⟨g, 0, none⟩) 1 1] W (PlsTold W (IsEnds (LAlt ls) (strL s) [0])) from HE.out W g h)
      have HSL := Lib.hid hsl
      rw [HV.out]
      clear hck hsl hpl h0 hpm hp64 heq HE hF
      go_enter Try.func20, Try.ntmps20
      go_upto_region 7 with (first
        | (go_at_call 17; refine (HC.out _).mono ?_; rintro e w2 ⟨rfl, hb2⟩; have HB2 := Lib.hid hb2; clear hb2)
        | (go_at_call 39; refine (HE'.out _ _ (Row.new _ _ _)).mono ?_; rintro e w3 ⟨A3, l3, c3, rfl, hc3, hP3, hE3, hb3⟩
           have HB3 := Lib.hid (below_then HB2.out (below_then (below_one _ _) hb3))
           have hle := hE3.le
           have hme := ends_whole hE3
           have hri := hE3.1
           clear hE3 hb3))
      rw [HSL.out] at hle hme
      by_cases hz : l3.length = 0
      · have HFF := Lib.hid (show F = false by
          rw [Bool.eq_false_iff, Ne, HFI.out, ← hme, List.eq_nil_of_length_eq_zero hz]; simp)
        have z0 : ¬ (0 : Int) < (l3.length : Int) := by omega
        clear hz hle hme hri hP3
        go_wp2_with fail
        go_ret2
        exact ⟨by rw [HFF.out]; rfl, HB3.out⟩
      · obtain ⟨b, o, rfl, hb, g0⟩ := hP3.at_ (i := l3.length - 1) (by omega)
        have hgd : l3.getD (l3.length - 1) 0 = l3[l3.length - 1] := by rw [List.getD_eq_getElem?_getD, List.getElem?_eq_getElem (by omega)]; rfl
        have hlast : l3.getD (l3.length - 1) 0 = s.size ↔ LAlt ls (strL s) := by rw [hgd, ← hme]; exact last_end hri hle (by omega)
        clear hgd
        generalize l3.getD (l3.length - 1) 0 = last at g0 hlast
        have i1 : (1 : Int) ≤ (l3.length : Int) := by omega
        have HFF := Lib.hid (show F = ((last : Int) == (s.size : Int)) by
          rw [Bool.eq_iff_iff, HFI.out, ← hlast, beq_iff_eq]; omega)
        have z0 : (0 : Int) < (l3.length : Int) := by omega
        have z1 : 0 < l3.length := by omega
        have z2 : l3.length ≤ 1001 := by have := rise_len hri hle; omega
        clear hz hle hme hri hP3 hlast
        go_wp2_with fail
        go_ret2
        exact ⟨by rw [HFF.out]; rfl, HB3.out⟩
  · have HV := Lib.hid (show fitV n (strL p) (strL s) = (false, (parseM n (strL p)).1) by
      unfold fitV
      generalize parseM n (strL p) = q at h0
      obtain ⟨c, r⟩ := q
      simp only at h0 ⊢
      rw [if_neg h0])
    rw [HV.out]
    generalize (parseM n (strL p)).1 = ck at HC h0
    have z0 : (ck == 0) = false := beq_eq_false_iff_ne.2 h0
    have z1 : (ck != 0) = true := by rw [bne, z0]; rfl
    clear hck hsl hpl h0
    go_enter Try.func20, Try.ntmps20
    go_wp2_with (go_at_call 17; refine (HC.out _).mono ?_; rintro e w2 ⟨rfl, hb2⟩; have HB2 := Lib.hid hb2; clear hb2)
    go_ret2
    exact ⟨rfl, HB2.out⟩
end Go.Proofs.Ytjljfilflajogaa

namespace Go.Proofs.Ytjljfilflajogaa
open Go.RowKit
set_option linter.unusedVariables false

theorem mget_ref (A : Option Addr) (l : List Lbl) (c : Nat) (name : ByteArray) (w : World) (hA : Lbls w A l) (hl : l.length ≤ 100000000000000) :
    Calls Try.prog 48 #[.slice A l.length c, .string name] w fun e w' => e = .returned (.string (valOf l name)) ∧ w = w' := by
  have HA := Lib.hid hA
  clear hA
  go_enter Try.func48, Try.ntmps48
  go_wp2_with fail
  go_loop [5] (fun i => ∃ k : Nat, k ≤ l.length ∧ i = .int .i64 (k : Int) ∧ valOf (l.drop k) name = valOf l name) (fun i => l.length - (intOf i).toNat)
  case atStart => exact ⟨0, Nat.zero_le _, rfl, rfl⟩
  case round =>
    obtain ⟨k, hk, rfl, he⟩ := hrel
    by_cases hlt : k < l.length
    · obtain ⟨b, o, rfl, hb, g0, g1⟩ := HA.out.at_ hlt
      have i2 : (k : Int) < (l.length : Int) := by omega
      have hq := eqT (nmOf l k) name
      by_cases h : nmOf l k = name
      · have HE := Lib.hid ((val_eq hlt h).symm.trans he)
        rw [decide_eq_true h] at hq
        clear he h
        go_wp2_with fail
        go_ret
        exact ⟨ret_strv HE.out, rfl⟩
      · have HE := Lib.hid ((val_ne hlt h).symm.trans he)
        rw [decide_eq_false h] at hq
        clear he h
        go_wp2_with fail
        exact ⟨⟨k + 1, by omega, by go_num, HE.out⟩, by simp [intOf]; omega⟩
    · obtain rfl : k = l.length := by omega
      rw [List.drop_length] at he
      have HE := Lib.hid (show (⟨#[]⟩ : ByteArray) = valOf l name from he)
      clear he
      go_wp2_with fail
      go_ret
      exact ⟨ret_strv HE.out, rfl⟩
theorem rchk300 (p : ByteArray) (W : World) : Calls Try.prog 17 #[.string p] W fun e w' => e = .returned (.int .i64 (parseM 300 (strL p)).1) ∧ Below W.heap.size W w' := by
  obtain ⟨n, hn, h⟩ := rchk_ref p
  have := h W
  rw [parse_fuel hn (show 260 ≤ 300 by omega)] at this
  exact this
theorem rfits300 (p s : ByteArray) (W : World) : Calls Try.prog 20 #[.string p, .string s] W fun e w' => e = .returned (.tuple #[.bool (fitV 300 (strL p) (strL s)).1, .int .i64 (fitV 300 (strL p) (strL s)).2]) ∧ Below W.heap.size W w' := by
  obtain ⟨n, hn, h⟩ := rfits_ref p s
  have := h W
  rw [fit_fuel hn (show 260 ≤ 300 by omega)] at this
  exact this
set_option maxHeartbeats 2000000 in
theorem mchk_ref (k : Int) (n v : ByteArray) (hn : n.size ≤ 140737488351232) (w : World) : Calls Try.prog 25 #[.agg #[.int .i64 k, .string n, .string v]] w fun e w' => e = .returned (.int .i64 (mchk (k, n, v))) ∧ Below w.heap.size w w' := by
  have HN := Lib.hid (fun W => name_ref n W hn)
  have HB0 := Lib.hid (below_one w (.cells #[.int .i64 k, .string n, .string v] 39))
  cases hk : kindB k with
  | false =>
    rw [mchk_kind hk]
    have hk2 : k < 1 ∨ (¬ k < 1 ∧ 4 < k) := by
      unfold kindB at hk
      rw [Bool.and_eq_false_iff, decide_eq_false_iff_not, decide_eq_false_iff_not] at hk
      omega
    clear hk
    rcases hk2 with h1 | ⟨h1, h2⟩
    all_goals
      go_enter Try.func25, Try.ntmps25
      go_wp2_with fail
      go_ret
      exact ⟨rfl, HB0.out⟩
  | true =>
    have h1 : ¬ k < 1 ∧ ¬ 4 < k := by rcases kind_cases hk with rfl | rfl | rfl | rfl <;> omega
    obtain ⟨k1, k2⟩ := h1
    cases hnm : nameB (strL n) with
    | false =>
      rw [mchk_name hk hnm]
      rw [hnm] at HN
      clear hk hnm
      go_enter Try.func25, Try.ntmps25
      go_wp2_with (go_at_call 43; refine (HN.out _).mono ?_; rintro e w1 ⟨rfl, rfl⟩)
      go_ret
      exact ⟨rfl, HB0.out⟩
    | true =>
      rw [hnm] at HN
      by_cases hv : 64 < v.size
      · rw [mchk_big hk hnm hv]
        clear hk hnm
        go_enter Try.func25, Try.ntmps25
        go_wp2_with (go_at_call 43; refine (HN.out _).mono ?_; rintro e w1 ⟨rfl, rfl⟩)
        go_ret
        exact ⟨rfl, HB0.out⟩
      · by_cases h2 : k ≤ 2
        · rw [mchk_eq hk hnm hv h2]
          have k3 : ¬ 2 < k := by omega
          clear hk hnm
          go_enter Try.func25, Try.ntmps25
          go_wp2_with (go_at_call 43; refine (HN.out _).mono ?_; rintro e w1 ⟨rfl, rfl⟩)
          go_ret
          exact ⟨rfl, HB0.out⟩
        · rw [mchk_re hk hnm hv h2]
          have HC := Lib.hid (fun W => rchk300 v W)
          have k3 : 2 < k := by omega
          clear hk hnm
          go_enter Try.func25, Try.ntmps25
          go_wp2_with (first
            | (go_at_call 43; refine (HN.out _).mono ?_; rintro e w1 ⟨rfl, rfl⟩)
            | (go_at_call 17; refine (HC.out _).mono ?_; rintro e w2 ⟨rfl, hb2⟩; have HB2 := Lib.hid (below_then HB0.out hb2); clear hb2))
          go_ret
          exact ⟨rfl, HB2.out⟩
theorem kind_of_ok {k : Int} {n v : ByteArray} (h : mchk (k, n, v) = 0) : k = 1 ∨ k = 2 ∨ k = 3 ∨ k = 4 := by
  cases hk : kindB k with
  | false => rw [mchk_kind hk] at h; cases h
  | true => exact kind_cases hk
set_option maxHeartbeats 2000000 in
theorem mfits_ref (k : Int) (n v : ByteArray) (hn : n.size ≤ 140737488351232) (A : Option Addr) (l : List Lbl) (c : Nat) (w : World) (hA : Lbls w A l) (hl : l.length ≤ 100000000000000) :
    Calls Try.prog 30 #[.agg #[.int .i64 k, .string n, .string v], .slice A l.length c] w fun e w' => e = .returned (.bool (mfits (k, n, v) l)) ∧ Below w.heap.size w w' := by
  have hb0 := below_one w (.cells #[.int .i64 k, .string n, .string v] 39)
  have HB0 := Lib.hid hb0
  have R1 := Row.new w 39 #[.int .i64 k, .string n, .string v]
  have HR := Lib.hid R1
  have HC := Lib.hid (fun W => mchk_ref k n v hn W)
  have HG := Lib.hid (fun W (h : Lbls W A l) => mget_ref A l c n W h hl)
  have HF := Lib.hid (fun W => rfits300 v (valOf l n) W)
  have HA := Lib.hid hA
  clear R1 hA hb0
  by_cases h0 : mchk (k, n, v) = 0
  · have hk := kind_of_ok h0
    have HM := Lib.hid (show mfits (k, n, v) l = mtake (k, n, v) (valOf l n) by unfold mfits; rw [decide_eq_true h0]; rfl)
    rw [HM.out]
    rw [h0] at HC
    have hq := eqT (valOf l n) v
    have hm1 : mtake (1, n, v) (valOf l n) = decide (valOf l n = v) := rfl
    have hm2 : mtake (2, n, v) (valOf l n) = !decide (valOf l n = v) := rfl
    have hm3 : mtake (3, n, v) (valOf l n) = (fitV 300 (strL v) (strL (valOf l n))).1 := rfl
    have hm4 : mtake (4, n, v) (valOf l n) = !(fitV 300 (strL v) (strL (valOf l n))).1 := rfl
    generalize fitV 300 (strL v) (strL (valOf l n)) = q at HF hm3 hm4
    obtain ⟨b, c0⟩ := q
    generalize decide (valOf l n = v) = d at hq hm1 hm2
    rcases hk with rfl | rfl | rfl | rfl
    · rw [hm1]
      generalize valOf l n = x at HG HF hq
      clear hm1 hm2 hm3 hm4 h0 HM
      cases d
      all_goals
        go_enter Try.func30, Try.ntmps30
        go_wp2_with (first
          | (go_at_call 25; refine (HC.out _).mono ?_; rintro e w1 ⟨rfl, hb1⟩; have HB1 := Lib.hid (below_then HB0.out hb1); have r1 := HR.out.below hb1 HR.out.lt; have r10 := r1.cell 0; have r11 := r1.cell 1; have r12 := r1.cell 2; clear hb1 r1)
          | (go_at_call 48; refine (HG.out _ (HA.out.below HB1.out)).mono ?_; rintro e w2 ⟨rfl, rfl⟩))
        go_ret
        exact ⟨rfl, HB1.out⟩
    · rw [hm2]
      generalize valOf l n = x at HG HF hq
      clear hm1 hm2 hm3 hm4 h0 HM
      cases d
      all_goals
        go_enter Try.func30, Try.ntmps30
        go_wp2_with (first
          | (go_at_call 25; refine (HC.out _).mono ?_; rintro e w1 ⟨rfl, hb1⟩; have HB1 := Lib.hid (below_then HB0.out hb1); have r1 := HR.out.below hb1 HR.out.lt; have r10 := r1.cell 0; have r11 := r1.cell 1; have r12 := r1.cell 2; clear hb1 r1)
          | (go_at_call 48; refine (HG.out _ (HA.out.below HB1.out)).mono ?_; rintro e w2 ⟨rfl, rfl⟩))
        go_ret
        exact ⟨rfl, HB1.out⟩
    · rw [hm3]
      generalize valOf l n = x at HG HF hq
      clear hm1 hm2 hm3 hm4 h0 HM hq
      cases b
      all_goals
        go_enter Try.func30, Try.ntmps30
        go_wp2_with (first
          | (go_at_call 25; refine (HC.out _).mono ?_; rintro e w1 ⟨rfl, hb1⟩; have HB1 := Lib.hid (below_then HB0.out hb1); have r1 := HR.out.below hb1 HR.out.lt; have HR1 := Lib.hid r1; have r10 := r1.cell 0; have r11 := r1.cell 1; have r12 := r1.cell 2; clear hb1 r1)
          | (go_at_call 48; refine (HG.out _ (HA.out.below HB1.out)).mono ?_; rintro e w2 ⟨rfl, rfl⟩)
          | (go_at_call 20; refine (HF.out _).mono ?_; rintro e w3 ⟨rfl, hb3⟩; have HB3 := Lib.hid (HB1.out.trans (hb3.mono HB1.out.size)); have r3 := HR1.out.below hb3 HR1.out.lt; have r30 := r3.cell 0; have r31 := r3.cell 1; have r32 := r3.cell 2; clear hb3 r3))
        go_ret
        exact ⟨rfl, HB3.out⟩
    · rw [hm4]
      generalize valOf l n = x at HG HF hq
      clear hm1 hm2 hm3 hm4 h0 HM hq
      cases b
      all_goals
        go_enter Try.func30, Try.ntmps30
        go_wp2_with (first
          | (go_at_call 25; refine (HC.out _).mono ?_; rintro e w1 ⟨rfl, hb1⟩; have HB1 := Lib.hid (below_then HB0.out hb1); have r1 := HR.out.below hb1 HR.out.lt; have HR1 := Lib.hid r1; have r10 := r1.cell 0; have r11 := r1.cell 1; have r12 := r1.cell 2; clear hb1 r1)
          | (go_at_call 48; refine (HG.out _ (HA.out.below HB1.out)).mono ?_; rintro e w2 ⟨rfl, rfl⟩)
          | (go_at_call 20; refine (HF.out _).mono ?_; rintro e w3 ⟨rfl, hb3⟩; have HB3 := Lib.hid (HB1.out.trans (hb3.mono HB1.out.size)); have r3 := HR1.out.below hb3 HR1.out.lt; have r30 := r3.cell 0; have r31 := r3.cell 1; have r32 := r3.cell 2; clear hb3 r3))
        go_ret
        exact ⟨rfl, HB3.out⟩
  · rw [fits_no h0]
    generalize mchk (k, n, v) = ck at HC h0
    have z0 : (ck == 0) = false := beq_eq_false_iff_ne.2 h0
    have z1 : (ck != 0) = true := by rw [bne, z0]; rfl
    clear h0
    go_enter Try.func30, Try.ntmps30
    go_wp2_with (go_at_call 25; refine (HC.out _).mono ?_; rintro e w1 ⟨rfl, hb1⟩; have HB1 := Lib.hid (below_then HB0.out hb1); clear hb1)
    go_ret
    exact ⟨rfl, HB1.out⟩
end Go.Proofs.Ytjljfilflajogaa

namespace Go.Proofs.Ytjljfilflajogaa
open Go.ChangeShapes Go.WideShapes Go.ChangeAt Go.RowKit Go.Joins
set_option linter.unusedVariables false

section
variable {H : Type}
theorem bulk_one (d : DataW H) : 1 ≤ Rows.uptoBulk d := by
  cases d
  case lit l => cases l <;> simp [Rows.uptoBulk]
  all_goals simp [Rows.uptoBulk]
theorem bulk_count (l : List (DataW H)) : l.length ≤ Rows.uptoBulkAll l := by
  induction l with
  | nil => simp [Rows.uptoBulkAll]
  | cons d r ih =>
    have := bulk_one d
    simp only [Rows.uptoBulkAll, List.length_cons]
    omega
theorem bulk_at {l : List (DataW H)} {j : Nat} {d : DataW H} (h : l[j]? = some d) : Rows.uptoBulk d ≤ Rows.uptoBulkAll l := by
  induction l generalizing j with
  | nil => simp at h
  | cons x r ih =>
    simp only [Rows.uptoBulkAll]
    rcases j with _ | j
    · simp at h
      subst h
      omega
    · have := ih (j := j) (by simpa using h)
      omega
theorem bulk_small {l : List (DataW H)} (hk : Rows.uptoSmall H l = true) : Rows.uptoBulkAll l ≤ 1048576 := of_decide_eq_true hk
theorem small_u8s {l0 : List (DataW H)} (hk : Rows.uptoSmall H l0 = true) {j : Nat} {d : DataW H} {l : List UInt8} (hj : l0[j]? = some d) (h : (d = .nil ∧ l = []) ∨ ∃ elems spare, d = .slice elems spare ∧ elems.length = l.length) : l.length ≤ 1048576 := by
  have h1 := bulk_small hk
  have h2 := bulk_at hj
  rcases h with ⟨_, rfl⟩ | ⟨el, spr, rfl, hel⟩
  · simp
  · have h3 := bulk_count el
    simp only [Rows.uptoBulk] at h2
    omega
theorem small_str {l0 : List (DataW H)} (hk : Rows.uptoSmall H l0 = true) {j : Nat} {s : ByteArray} (hj : l0[j]? = some (.lit (.string s.data.toList))) : s.size ≤ 1048576 := by
  have h1 := bulk_small hk
  have h2 := bulk_at hj
  have h3 : s.data.toList.length = s.size := by
    show s.data.toList.length = s.data.size
    simp
  simp only [Rows.uptoBulk] at h2
  omega
end
end Go.Proofs.Ytjljfilflajogaa

namespace Go.Proofs.Ytjljfilflajogaa
open Go.ChangeShapes Go.WideShapes Go.ChangeAt Go.RowKit Go.Joins Go.Maps
set_option linter.unusedVariables false
section
variable {H : Type} {enc : TypeId × Value → H} {W : World} {base : Nat} {sp : Nat → Bool} {held : Bool}
theorem open_mt_small {l0 : List (DataW H)} (hk : Rows.uptoSmall H l0 = true) {j : Nat} {fuel : Nat} {cs : List Value} {x : DataW H × List MemPlace} (hj : l0[j]? = some x.1)
    (h : DataW.trod enc Try.prog W base sp held fuel 39 cs = some x) : ∃ s : Mt, cs = mtE s ∧ (s.2.1.size ≤ 1048576 ∧ s.2.2.size ≤ 1048576) := by
  obtain ⟨f0, f1, f2, hu, hone, hty⟩ := mt_three
  simp only [List.cons.injEq, and_true] at hty
  obtain ⟨e0, e1, e2⟩ := hty
  obtain ⟨y0, y1, y2, n, hx, hl, h0, h1, h2⟩ := trod_struct3 hu h
  rw [mt_cells] at hl
  obtain ⟨c0, c1, c2, rfl⟩ := three_of hl
  obtain ⟨o0, k0⟩ := Go.Deep.hone_of hone 0 f0 rfl
  obtain ⟨o1, k1⟩ := Go.Deep.hone_of hone 1 f1 rfl
  obtain ⟨o2, k2⟩ := Go.Deep.hone_of hone 2 f2 rfl
  have h0' : DataW.trod enc Try.prog W base sp held n 3 [c0] = some y0 := by rw [← e0]; simpa [o0, k0] using h0
  have h1' : DataW.trod enc Try.prog W base sp held n 9 [c1] = some y1 := by rw [← e1]; simpa [o1, k1] using h1
  have h2' : DataW.trod enc Try.prog W base sp held n 9 [c2] = some y2 := by rw [← e2]; simpa [o2, k2] using h2
  obtain ⟨z0, g0, d0, w0⟩ := DataW.trod_int Try.underlying3 h0'
  obtain ⟨s1, g1, d1, _⟩ := DataW.trod_string Try.underlying9 h1'
  obtain ⟨s2, g2, d2, _⟩ := DataW.trod_string Try.underlying9 h2'
  simp only [List.cons.injEq, and_true] at g0 g1 g2
  subst g0 g1 g2
  have b1 := bulk_small hk
  have b2 := bulk_at hj
  rw [hx] at b2
  have hd1 : y1.1 = .lit (.string s1.data.toList) := by rw [d1]
  have hd2 : y2.1 = .lit (.string s2.data.toList) := by rw [d2]
  rw [hd1, hd2] at b2
  simp only [Rows.uptoBulk, Rows.uptoBulkAll] at b2
  refine ⟨(z0, s1, s2), rfl, ?_, ?_⟩
  · have : s1.data.toList.length = s1.size := Array.length_toList
    show s1.size ≤ 1048576
    omega
  · have : s2.data.toList.length = s2.size := Array.length_toList
    show s2.size ≤ 1048576
    omega
end
end Go.Proofs.Ytjljfilflajogaa

namespace Go.Proofs.Ytjljfilflajogaa
open Go.RowKit
set_option linter.unusedVariables false

def hexL : List UInt8 := [48, 49, 50, 51, 52, 53, 54, 55, 56, 57, 97, 98, 99, 100, 101, 102]
def hexD (q : Nat) : UInt8 := hexL.getD q 0
/-- A byte as it stands between a value's marks. -/
def escB (c : UInt8) : List UInt8 :=
  if c.toNat = 34 ∨ c.toNat = 92 then [92, c]
  else if c.toNat < 32 ∨ 126 < c.toNat then [92, 120, hexD (c.toNat / 16), hexD (c.toNat % 16)]
  else [c]
def escL (s : List UInt8) : List UInt8 := s.flatMap escB
/-- A label as it stands in a set's text. -/
def lblT (x : Lbl) : List UInt8 := strL x.1 ++ [61, 34] ++ escL (strL x.2) ++ [34]
/-- Labels from place i on, n of them: ahead of each but the first one stand a comma and a blank. -/
def lblsT (l : List Lbl) : Nat → List UInt8
  | 0 => []
  | k + 1 => lblsT l k ++ (if 0 < k then [44, 32] else []) ++ lblT (l.getD k lbl0)
/-- The text of labels. -/
def printL (l : List Lbl) : List UInt8 := [123] ++ lblsT l l.length ++ [125]

theorem escB_len (c : UInt8) : (escB c).length ≤ 4 := by
  unfold escB; split
  · simp
  · split <;> simp
theorem escL_len (s : List UInt8) : (escL s).length ≤ 4 * s.length := by
  unfold escL
  induction s with
  | nil => simp
  | cons c r ih => rw [List.flatMap_cons, List.length_append, List.length_cons]; have := escB_len c; omega
theorem escL_snoc (s : ByteArray) {k : Nat} (h : k < s.size) : escL ((strL s).take (k + 1)) = escL ((strL s).take k) ++ escB ((strL s).getD k 0) := by
  unfold escL
  rw [List.take_succ_eq_append_getElem (by rw [strL_length]; exact h), List.flatMap_append, getD_in _ 0 (by rw [strL_length]; exact h)]
  simp
theorem escL_take_len (s : ByteArray) (k : Nat) (h : k ≤ s.size) : (escL ((strL s).take k)).length ≤ 4 * k := by
  have := escL_len ((strL s).take k)
  rw [List.length_take, strL_length] at this
  omega
theorem hex_byte (q : Nat) (h : q < 16) : (hexD q).toNat = (if q < 10 then 48 + q else 87 + q) := by
  have : q = 0 ∨ q = 1 ∨ q = 2 ∨ q = 3 ∨ q = 4 ∨ q = 5 ∨ q = 6 ∨ q = 7 ∨ q = 8 ∨ q = 9 ∨ q = 10 ∨ q = 11 ∨ q = 12 ∨ q = 13 ∨ q = 14 ∨ q = 15 := by omega
  rcases this with rfl | rfl | rfl | rfl | rfl | rfl | rfl | rfl | rfl | rfl | rfl | rfl | rfl | rfl | rfl | rfl <;> rfl

/-- No fewer than the bytes of the text of the first k labels. -/
def costT (l : List Lbl) : Nat → Nat
  | 0 => 1
  | k + 1 => costT l k + (6 + (nmOf l k).size + 4 * (vlOf l k).size)
theorem costT_mono (l : List Lbl) {j k : Nat} (h : j ≤ k) : costT l j ≤ costT l k := by
  induction k with
  | zero => rw [show j = 0 from by omega]; exact Nat.le_refl _
  | succ k ih =>
    rcases Nat.lt_or_ge j (k + 1) with h1 | h1
    · have := ih (by omega); rw [costT]; omega
    · rw [show j = k + 1 from by omega]; exact Nat.le_refl _
theorem lblsT_len (l : List Lbl) (k : Nat) : (lblsT l k).length + 1 ≤ costT l k := by
  induction k with
  | zero => exact Nat.le_refl _
  | succ k ih =>
    rw [lblsT, costT, List.length_append, List.length_append]
    have h1 : (lblT (l.getD k lbl0)).length ≤ 3 + (nmOf l k).size + 4 * (vlOf l k).size := by
      unfold lblT
      have := escL_len (strL (l.getD k lbl0).2)
      rw [strL_length] at this
      simp only [List.length_append, List.length_cons, List.length_nil, strL_length]
      unfold nmOf vlOf
      omega
    have h2 : (if 0 < k then ([44, 32] : List UInt8) else []).length ≤ 2 := by split <;> simp
    omega
end Go.Proofs.Ytjljfilflajogaa

namespace Go.Proofs.Ytjljfilflajogaa
open Go.RowKit
set_option linter.unusedVariables false

theorem row_bys1 {w : World} {g : Nat} {c : UInt8} (h : Row w g 5 #[.int .u8 (c.toNat : Int)]) : Bys w (some ⟨g, 0, none⟩) [c] := Row.bys (l := [c]) h
theorem row_bys2 {w : World} {g : Nat} {c : UInt8} (h : Row w g 5 #[.int .u8 92, .int .u8 (c.toNat : Int)]) : Bys w (some ⟨g, 0, none⟩) [92, c] := Row.bys (l := [92, c]) h
theorem row_bys4 {w : World} {g : Nat} {c d : UInt8} (h : Row w g 5 #[.int .u8 92, .int .u8 120, .int .u8 (c.toNat : Int), .int .u8 (d.toNat : Int)]) : Bys w (some ⟨g, 0, none⟩) [92, 120, c, d] := Row.bys (l := [92, 120, c, d]) h

theorem hex_at (q : Nat) (h : q < 16) : (({ data := #[48, 49, 50, 51, 52, 53, 54, 55, 56, 57, 97, 98, 99, 100, 101, 102] } : ByteArray)[q]'h).toNat = (hexD q).toNat := by
  have : q = 0 ∨ q = 1 ∨ q = 2 ∨ q = 3 ∨ q = 4 ∨ q = 5 ∨ q = 6 ∨ q = 7 ∨ q = 8 ∨ q = 9 ∨ q = 10 ∨ q = 11 ∨ q = 12 ∨ q = 13 ∨ q = 14 ∨ q = 15 := by omega
  rcases this with rfl | rfl | rfl | rfl | rfl | rfl | rfl | rfl | rfl | rfl | rfl | rfl | rfl | rfl | rfl | rfl <;> rfl
theorem esc_prog (base : Nat) (v : Value) (x : List UInt8) (s : ByteArray) (w : World) (hown : Own w base v x) (hbase : base ≤ w.heap.size) (hx : x.length + 4 * s.size ≤ 211106232532992) :
    Calls Try.prog 71 #[v, .string s] w fun e w' => ∃ v', e = .returned v' ∧ Own w' base v' (x ++ escL (strL s)) ∧ Below base w w' := by
  go_enter Try.func71, Try.ntmps71
  go_wp2_with fail
  go_loopw [9, 0] (fun i u wr => ∃ k : Nat, k ≤ s.size ∧ i = .int .i64 (k : Int) ∧ Own wr base u (x ++ escL ((strL s).take k)) ∧ Below base w wr) (fun i _ _ => s.size - (intOf i).toNat)
  case atStart => exact ⟨0, Nat.zero_le _, rfl, by simpa [escL] using hown, Below.refl _ _⟩
  case round =>
    obtain ⟨k, hk, rfl, ho, hbr⟩ := hrel
    by_cases hlt : k < s.size
    · have HT := Lib.hid (escL_snoc s hlt)
      rw [strL_get s hlt] at HT
      have hlen := escL_take_len s k hk
      have hc := s[k].toNat_lt
      by_cases h1 : s[k].toNat = 34 ∨ s[k].toNat = 92
      · have hb : escB s[k] = [92, s[k]] := by unfold escB; rw [if_pos h1]
        rw [hb] at HT
        have HLN := Lib.hid (show (x ++ escL ((strL s).take k)).length + 2 ≤ 211106232532992 by rw [List.length_append]; omega)
        have HBR := Lib.hid hbr
        have hsz := Nat.le_trans hbase hbr.size
        have HOr := Lib.hid ho
        clear hb hlen ho hbr hown
        rcases h1 with h1 | h1
        · have i1 : ((s[k].toNat : Int) == 34) = true := by rw [h1]; rfl
          clear h1
          go_wp2_with (at_builtin; refine app_u8 rfl (.tmp 26) (.tmp 28) rfl base _ _ rfl (own_alloc HOr.out _) _ [92, s[k]] 2 rfl (row_bys2 (Row.new _ _ _)) HLN.out (Nat.le_trans hsz (by simp)) ?_; intro v1 w1 hown1 hb1 _; have HO1 := Lib.hid hown1; have HB1 := Lib.hid ((HBR.out.alloc hsz _).trans hb1); clear hown1 hb1)
          go_roundw
          case rel => exact ⟨k + 1, by omega, by go_num, by rw [HT.out, ← List.append_assoc]; exact HO1.out, HB1.out⟩
          case measure => simp [intOf]; omega
        · have i1 : ((s[k].toNat : Int) == 34) = false := by rw [h1]; rfl
          have i2 : ((s[k].toNat : Int) == 92) = true := by rw [h1]; rfl
          clear h1
          go_wp2_with (at_builtin; refine app_u8 rfl (.tmp 26) (.tmp 28) rfl base _ _ rfl (own_alloc HOr.out _) _ [92, s[k]] 2 rfl (row_bys2 (Row.new _ _ _)) HLN.out (Nat.le_trans hsz (by simp)) ?_; intro v1 w1 hown1 hb1 _; have HO1 := Lib.hid hown1; have HB1 := Lib.hid ((HBR.out.alloc hsz _).trans hb1); clear hown1 hb1)
          go_roundw
          case rel => exact ⟨k + 1, by omega, by go_num, by rw [HT.out, ← List.append_assoc]; exact HO1.out, HB1.out⟩
          case measure => simp [intOf]; omega
      · have i1 : ((s[k].toNat : Int) == 34) = false := by rw [beq_eq_false_iff_ne]; omega
        have i2 : ((s[k].toNat : Int) == 92) = false := by rw [beq_eq_false_iff_ne]; omega
        by_cases h2 : s[k].toNat < 32 ∨ 126 < s[k].toNat
        · have hb : escB s[k] = [92, 120, hexD (s[k].toNat / 16), hexD (s[k].toNat % 16)] := by unfold escB; rw [if_neg h1, if_pos h2]
          rw [hb] at HT
          clear hb
          rcases h2 with h2 | h2
          · have i3 : decide ((s[k].toNat : Int) < 32) = true := by simp; omega
            obtain ⟨q, hq⟩ : ∃ q, s[k].toNat / 16 = q := ⟨_, rfl⟩
            obtain ⟨r, hr⟩ : ∃ r, s[k].toNat % 16 = r := ⟨_, rfl⟩
            rw [hq, hr] at HT
            have j1 : ((s[k].toNat : Int)).tdiv 16 = (q : Int) := by rw [← hq]; rfl
            have j2 : ((s[k].toNat : Int)).tmod 16 = (r : Int) := by rw [← hr]; rfl
            have j3 : IntKind.u8.wrap (q : Int) = q := by rw [IntKind.wrap_u8]; omega
            have j4 : IntKind.u8.wrap (r : Int) = r := by rw [IntKind.wrap_u8]; omega
            have lq : q < 16 := by omega
            have lr : r < 16 := by omega
            have eq1 := hex_at q lq
            have er1 := hex_at r lr
            have lq2 : (q : Int) < 16 := by omega
            have lr2 : (r : Int) < 16 := by omega
            generalize hexD q = hx1 at *
            generalize hexD r = hx2 at *
            have HO : Hid (∀ o, Own ((wr.alloc o).drew) base u0 (x ++ escL ((strL s).take k))) := Lib.hid (fun o => own_below ho ((below_one wr o).drew))
            have HB : Hid (Bys ((wr.alloc (.cells #[.int .u8 92, .int .u8 120, .int .u8 (hx1.toNat : Int), .int .u8 (hx2.toNat : Int)] 5)).drew) (some ⟨wr.heap.size, 0, none⟩) [92, 120, hx1, hx2]) := Lib.hid (row_bys4 (Row.new wr _ _))
            have HBR : Hid (∀ o, Below base w ((wr.alloc o).drew)) := Lib.hid (fun o => (hbr.alloc (Nat.le_trans hbase hbr.size) o).drew)
            have HK : Hid (∀ k, u0.ownBlock = some k → base ≤ k) := Lib.hid (fun k hk => (World.ownsRow.lt ho _ hk).1)
            have HS : Hid (∀ o, base ≤ ((wr.alloc o).drew).heap.size) := Lib.hid (fun o => by have := hbr.size; simp; omega)
            have HLN := Lib.hid (show (x ++ escL ((strL s).take k)).length + [92, 120, hx1, hx2].length ≤ 211106232532992 by rw [List.length_append]; simp only [List.length_cons, List.length_nil]; omega)
            clear h1 h2 hq hr ho hbr hown
            obtain ⟨i0, hi, hz0, hz1, hz2⟩ := info_parts u8_info
            go_upto_region 9 with fail
            go_region_law (refine step_app _ rfl (.tmp 37) (.tmp 44) 36 rfl base i0 Try.underlying36 hi hz0 hz1 hz2 u0 (x ++ escL ((strL s).take k)) rfl (HO.out _) (some ⟨wr.heap.size, 0, none⟩) [92, 120, hx1, hx2] 4 rfl HB.out HLN.out (HS.out _) ?_; intro v1 w1 hown1 hg1 _; have HO1 := Lib.hid hown1; have HB1 := Lib.hid (Below.grown (HBR.out _) hg1 (HS.out _) HK.out); clear hown1 hg1)
            all_goals
              go_wp2_with fail
              go_roundw
              case rel => exact ⟨k + 1, by omega, by go_num, by rw [HT.out, ← List.append_assoc]; exact HO1.out, HB1.out⟩
              case measure => simp [intOf]; omega
          · have i3 : decide ((s[k].toNat : Int) < 32) = false := by simp; omega
            have i4 : decide ((126 : Int) < (s[k].toNat : Int)) = true := by simp; omega
            obtain ⟨q, hq⟩ : ∃ q, s[k].toNat / 16 = q := ⟨_, rfl⟩
            obtain ⟨r, hr⟩ : ∃ r, s[k].toNat % 16 = r := ⟨_, rfl⟩
            rw [hq, hr] at HT
            have j1 : ((s[k].toNat : Int)).tdiv 16 = (q : Int) := by rw [← hq]; rfl
            have j2 : ((s[k].toNat : Int)).tmod 16 = (r : Int) := by rw [← hr]; rfl
            have j3 : IntKind.u8.wrap (q : Int) = q := by rw [IntKind.wrap_u8]; omega
            have j4 : IntKind.u8.wrap (r : Int) = r := by rw [IntKind.wrap_u8]; omega
            have lq : q < 16 := by omega
            have lr : r < 16 := by omega
            have eq1 := hex_at q lq
            have er1 := hex_at r lr
            have lq2 : (q : Int) < 16 := by omega
            have lr2 : (r : Int) < 16 := by omega
            generalize hexD q = hx1 at *
            generalize hexD r = hx2 at *
            have HO : Hid (∀ o, Own ((wr.alloc o).drew) base u0 (x ++ escL ((strL s).take k))) := Lib.hid (fun o => own_below ho ((below_one wr o).drew))
            have HB : Hid (Bys ((wr.alloc (.cells #[.int .u8 92, .int .u8 120, .int .u8 (hx1.toNat : Int), .int .u8 (hx2.toNat : Int)] 5)).drew) (some ⟨wr.heap.size, 0, none⟩) [92, 120, hx1, hx2]) := Lib.hid (row_bys4 (Row.new wr _ _))
            have HBR : Hid (∀ o, Below base w ((wr.alloc o).drew)) := Lib.hid (fun o => (hbr.alloc (Nat.le_trans hbase hbr.size) o).drew)
            have HK : Hid (∀ k, u0.ownBlock = some k → base ≤ k) := Lib.hid (fun k hk => (World.ownsRow.lt ho _ hk).1)
            have HS : Hid (∀ o, base ≤ ((wr.alloc o).drew).heap.size) := Lib.hid (fun o => by have := hbr.size; simp; omega)
            have HLN := Lib.hid (show (x ++ escL ((strL s).take k)).length + [92, 120, hx1, hx2].length ≤ 211106232532992 by rw [List.length_append]; simp only [List.length_cons, List.length_nil]; omega)
            clear h1 h2 hq hr ho hbr hown
            obtain ⟨i0, hi, hz0, hz1, hz2⟩ := info_parts u8_info
            go_upto_region 9 with fail
            go_region_law (refine step_app _ rfl (.tmp 37) (.tmp 44) 36 rfl base i0 Try.underlying36 hi hz0 hz1 hz2 u0 (x ++ escL ((strL s).take k)) rfl (HO.out _) (some ⟨wr.heap.size, 0, none⟩) [92, 120, hx1, hx2] 4 rfl HB.out HLN.out (HS.out _) ?_; intro v1 w1 hown1 hg1 _; have HO1 := Lib.hid hown1; have HB1 := Lib.hid (Below.grown (HBR.out _) hg1 (HS.out _) HK.out); clear hown1 hg1)
            all_goals
              go_wp2_with fail
              go_roundw
              case rel => exact ⟨k + 1, by omega, by go_num, by rw [HT.out, ← List.append_assoc]; exact HO1.out, HB1.out⟩
              case measure => simp [intOf]; omega
        · have hb : escB s[k] = [s[k]] := by unfold escB; rw [if_neg h1, if_neg h2]
          rw [hb] at HT
          have i3 : decide ((s[k].toNat : Int) < 32) = false := by simp; omega
          have i4 : decide ((126 : Int) < (s[k].toNat : Int)) = false := by simp; omega
          have HLN := Lib.hid (show (x ++ escL ((strL s).take k)).length + 1 ≤ 211106232532992 by rw [List.length_append]; omega)
          have HBR := Lib.hid hbr
          have hsz := Nat.le_trans hbase hbr.size
          have HOr := Lib.hid ho
          clear hb hlen ho hbr hown h1 h2
          go_wp2_with (at_builtin; refine app_u8 rfl (.tmp 15) (.tmp 17) rfl base _ _ rfl (own_alloc HOr.out _) _ [s[k]] 1 rfl (row_bys1 (Row.new _ _ _)) HLN.out (Nat.le_trans hsz (by simp)) ?_; intro v1 w1 hown1 hb1 _; have HO1 := Lib.hid hown1; have HB1 := Lib.hid ((HBR.out.alloc hsz _).trans hb1); clear hown1 hb1)
          go_roundw
          case rel => exact ⟨k + 1, by omega, by go_num, by rw [HT.out, ← List.append_assoc]; exact HO1.out, HB1.out⟩
          case measure => simp [intOf]; omega
    · obtain rfl : k = s.size := by omega
      rw [List.take_of_length_le (by rw [strL_length]; exact Nat.le_refl _)] at ho
      go_wp2_with fail
      go_ret
      exact ⟨_, rfl, ho, hbr⟩
end Go.Proofs.Ytjljfilflajogaa

namespace Go.Proofs.Ytjljfilflajogaa
open Go.RowKit
set_option linter.unusedVariables false

/-- A row of bytes of the call's own, or one that was laid for a constant text (full, with its mark behind). -/
def OwnF (w : World) (base : Nat) (v : Value) (x : List UInt8) : Prop :=
  Own w base v x ∨ ∃ g, v = .slice (some ⟨g, 0, none⟩) x.length x.length ∧ base ≤ g ∧ w.heap[g]? = some (.cells (bcells x) 5 (x.length, x.length + 1))
theorem ownf_below {w w' : World} {base : Nat} {v : Value} {x : List UInt8} (h : OwnF w base v x) (hb : Below w.heap.size w w') : OwnF w' base v x := by
  rcases h with h | ⟨g, hv, hg, hh⟩
  · exact .inl (own_below h hb)
  · refine .inr ⟨g, hv, hg, (hb.block g ?_).trans hh⟩
    rcases Nat.lt_or_ge g w.heap.size with h1 | h1
    · exact h1
    · rw [Array.getElem?_eq_none h1] at hh; cases hh
theorem ownf_ne {w : World} {base : Nat} {v : Value} {x : List UInt8} {X : Nat} {t : TypeId} {cs : Array Value} (h : OwnF w base v x) (hX : Row w X t cs) (ht : t ≠ 5) : some X ≠ v.ownBlock := by
  rcases h with h | ⟨g, rfl, _, hh⟩
  · exact own_ne h hX ht
  · simp only [Value.ownBlock]
    rintro e
    injection e with e
    subst e
    unfold Row at hX
    rw [hX] at hh
    injection hh with hh
    injection hh with h1 h2 h3
    exact ht h2
theorem run_app_strF (w : World) (base ty : Nat) (v : Value) (x : List UInt8) (hown : OwnF w base v x) (s : ByteArray) (hn : x.length + s.size ≤ 211106232532992) (hbase : base ≤ w.heap.size) :
    ∃ v' w', (Builtin.append_ #[36, 9] ty #[v, .string s]).run Try.prog w = .ok v' w' ∧ OwnF w' base v' (x ++ strL s) ∧ (0 < s.size → Own w' base v' (x ++ strL s)) ∧ w.grownBy w' v.ownBlock ∧ Below base w w' := by
  rcases hown with hown | ⟨g, rfl, hg, hh⟩
  · obtain ⟨v', w', hr, h2, h3⟩ := run_app_str w base ty v x hown s hn hbase
    exact ⟨v', w', hr, .inl h2, fun _ => h2, h3, Below.grown (Below.refl base w) h3 hbase (fun k hk => (World.ownsRow.lt hown _ hk).1)⟩
  · obtain ⟨i, hi, hz, hs, hby⟩ := info_parts u8_info
    have hll := strL_length s
    have e2 : (Go.Lib.strCells s).toArray = (bcells (strL s)).toList.toArray := by rw [cells_strL]
    have hc : ∀ j u, (bcells x).toList[j]? = some u → w.cell? (Addr.add ⟨g, 0, none⟩ j) = some u := by
      intro j u hj
      rw [add_at, Nat.zero_add]
      simp only [World.cell?, hh]
      simpa using hj
    by_cases hm : s.size = 0
    · have hx : strL s = [] := List.eq_nil_of_length_eq_zero (by rw [hll, hm])
      have hf := Go.Lib.run_firstCells_string (P := Try.prog) w 1 s
      rw [hm, cells_strL, hx] at hf
      refine ⟨_, w, ?_, .inr ⟨g, rfl, hg, by rw [hx, List.append_nil]; exact hh⟩, fun h => absurd h (by omega), World.grownBy.refl w _, Below.refl _ _⟩
      rw [hx, List.append_nil]
      simp [Builtin.append_, run_underlying Try.underlying36, run_underlying Try.underlying9, sizeOf, typeInfo, hi, hs, Builtin.lenOf, hm, hf, storeCells, bcells]
    · have hr := Go.Lib.run_append_grow_string (P := Try.prog) w 36 9 ty 5 i (.int .u8 0) Try.underlying36 Try.underlying9 hi hz ⟨g, 0, none⟩ x.length x.length (bcells x).toList (by simp [bcells, hs]) hc s (by omega) (by omega)
        (by rw [hby]; have := cap_quarter (need := x.length + s.size) (old := x.length) (by omega); omega)
      rw [e2] at hr
      obtain ⟨m1, m2⟩ := own_made w base x (strL s) x.length (by rw [hll]; omega) (by rw [hll]; exact hn) hbase (some g)
      rw [hll] at m1 m2
      exact ⟨_, _, hr, .inl m1, fun _ => m1, m2, Below.grown (Below.refl base w) m2 hbase (fun k hk => by injection hk with hk; omega)⟩
/-- append of a text's bytes to such a row, at a walk's built-in. -/
theorem app_strF {w : World} {ops : Array Oper} {rest : List Oper} {o : Oper} {a : Act} {Q : Exit → Act → World → Prop} (hgd : o.guard = none) (sl y : Operand)
    (ho : o.op = .call { callee := .builtin .append, args := #[sl, y], argTypes := #[36, 9] })
    (base : Nat) (v : Value) (x : List UInt8) (hs : a.eval sl = v) (hown : OwnF w base v x) (s : ByteArray) (hy : a.eval y = .string s) (hn : x.length + s.size ≤ 211106232532992) (hbase : base ≤ w.heap.size)
    (h : ∀ v' w', OwnF w' base v' (x ++ strL s) → (0 < s.size → Own w' base v' (x ++ strL s)) → Below base w w' → w.grownBy w' v.ownBlock → wpList Try.prog ops Q rest (a.put o.dst v') w') : wpList Try.prog ops Q (o :: rest) a w := by
  refine wpList_plain hgd fun K hK => ?_
  obtain ⟨v', w', hr, h2, h3, h4, h5⟩ := run_app_strF w base o.type v x hown s hn hbase
  unfold Oper.wp execOp
  simp only [ho, resolve, invoke, builtin, Sem.run_bind, Sem.run_pure, Result.andThen_ok, List.map_toArray, List.map_cons, List.map_nil, hs, hy, hr]
  exact hK _ _ (h v' w' h2 h3 h5 h4)

theorem print_prog (A : Option Addr) (l : List Lbl) (c : Nat) (w : World) (hA : Lbls w A l) (hl : l.length ≤ 100000000000000) (hc : costT l l.length ≤ 140737488355328) :
    Calls Try.prog 60 #[.slice A l.length c] w fun e w' => e = .returned (.string (txt (printL l))) ∧ Below w.heap.size w w' := by
  have hO0 : OwnF (w.alloc (.cells #[.int .u8 123] 5 (1, 2))) w.heap.size (.slice (some ⟨w.heap.size, 0, none⟩) 1 1) [123] := .inr ⟨w.heap.size, rfl, Nat.le_refl _, heap_alloc_new w _⟩
  have hB0 : Below w.heap.size w (w.alloc (.cells #[.int .u8 123] 5 (1, 2))) := below_one w _
  have HC := Lib.hid hc
  have HO0 := Lib.hid hO0
  have HB0 := Lib.hid hB0
  clear hc hO0 hB0
  have hcv := Go.Lib.run_convert_bytes_const (P := Try.prog) w 36 5 #[.int .u8 123] 1 1 Try.underlying36 Try.underlying5
  go_enter Try.func60, Try.ntmps60
  go_wp2_with fail
  clear hcv
  go_loopw [10, 3] (fun i u wr => ∃ k : Nat, k ≤ l.length ∧ i = .int .i64 (k : Int) ∧ OwnF wr w.heap.size u ([123] ++ lblsT l k) ∧ (0 < k → Own wr w.heap.size u ([123] ++ lblsT l k)) ∧ Below w.heap.size w wr) (fun i _ _ => l.length - (intOf i).toNat)
  case atStart => exact ⟨0, Nat.zero_le _, rfl, by simpa [lblsT] using HO0.out, fun h => absurd h (Nat.lt_irrefl 0), HB0.out⟩
  case round =>
    obtain ⟨k, hk, rfl, ho, ho2, hbr⟩ := hrel
    have hsz := hbr.size
    by_cases hlt : k < l.length
    · obtain ⟨b, o, rfl, hb, g0, g1⟩ := hA.at_ hlt
      have c0 := (hbr.cell (p := ⟨b, o + k * 2, none⟩) hb).trans g0
      have c1 := (hbr.cell (p := ⟨b, o + k * 2 + 1, none⟩) hb).trans g1
      have i2 : (k : Int) < (l.length : Int) := by omega
      have hm := costT_mono l (show k + 1 ≤ l.length from hlt)
      have hm2 := lblsT_len l k
      rw [costT] at hm
      have HT : Hid (lblsT l (k + 1) = lblsT l k ++ (if 0 < k then [44, 32] else []) ++ (strL (nmOf l k) ++ [61, 34] ++ escL (strL (vlOf l k)) ++ [34])) := Lib.hid rfl
      have hn0 := HC.out
      have hnm := strL_length (nmOf l k)
      have hvm := escL_len (strL (vlOf l k))
      rw [strL_length] at hvm
      have hBx := hbr.alloc hsz (.cells #[.string (nmOf l k), .string (vlOf l k)] 63)
      have R0 : Row (wr.alloc (.cells #[.string (nmOf l k), .string (vlOf l k)] 63)) wr.heap.size 63 #[.string (nmOf l k), .string (vlOf l k)] := Row.new wr _ _
      have hox := ownf_below ho (below_one wr (.cells #[.string (nmOf l k), .string (vlOf l k)] 63))
      have hox2 : 0 < k → Own (wr.alloc (.cells #[.string (nmOf l k), .string (vlOf l k)] 63)) w.heap.size u3 ([123] ++ lblsT l k) := fun h => own_alloc (ho2 h) _
      obtain ⟨z, hz⟩ : ∃ z, wr.alloc (.cells #[.string (nmOf l k), .string (vlOf l k)] 63) = z := ⟨_, rfl⟩
      have hlen : (([123] : List UInt8) ++ lblsT l k).length + 8 + (nmOf l k).size + 4 * (vlOf l k).size ≤ 211106232532992 := by rw [List.length_append, List.length_singleton]; omega
      rw [hz] at hBx R0 hox hox2
      have hzs := hBx.size
      have HBZ := Lib.hid hBx
      have HOF := Lib.hid hox
      have HO2F := Lib.hid hox2
      have HR0 := Lib.hid R0
      have HZ := Lib.hid hz
      have HLEN := Lib.hid hlen
      have HVM := Lib.hid hvm
      have HNM := Lib.hid hnm
      have HZS := Lib.hid hzs
      clear hBx hox hox2 R0 hz hlen hvm hnm ho ho2 hbr hm hm2 hn0 hzs
      by_cases hk0 : 0 < k
      · have i3 : decide ((0 : Int) < (k : Int)) = true := by simp; omega
        rw [if_pos hk0] at HT
        have HOZ := Lib.hid (HO2F.out hk0)
        go_upto_region 6 with fail
        rw [HZ.out]
        go_wp2_with (first
          | (at_builtin; refine app_str rfl (.tmp 17) (.const (.string ⟨#[44, 32]⟩)) rfl w.heap.size _ _ rfl HOZ.out ⟨#[44, 32]⟩ rfl (by have := HLEN.out; show _ + 2 ≤ _; omega) HZS.out ?_; intro v1 w1 hown1 hb1 hg1; have HR1 := Lib.hid (grown_row HR0.out hg1 (own_ne HOZ.out HR0.out (by decide))); have r10 := HR1.out.cell 0; have r11 := HR1.out.cell 1; have HO1 := Lib.hid hown1; have HB1 := Lib.hid (HBZ.out.trans hb1); clear hown1 hb1 hg1)
          | (at_builtin; refine app_str rfl (.tmp 19) (.tmp 21) rfl w.heap.size _ _ rfl HO1.out (nmOf l k) rfl (by have := HLEN.out; rw [List.length_append]; show _ + 2 + _ ≤ _; omega) HB1.out.size ?_; intro v2 w2 hown2 hb2 hg2; have HR2 := Lib.hid (grown_row HR1.out hg2 (own_ne HO1.out HR1.out (by decide))); have r20 := HR2.out.cell 0; have r21 := HR2.out.cell 1; have HO2 := Lib.hid hown2; have HB2 := Lib.hid (HB1.out.trans hb2); clear hown2 hb2 hg2)
          | (at_builtin; refine app_str rfl (.tmp 23) (.const (.string ⟨#[61, 34]⟩)) rfl w.heap.size _ _ rfl HO2.out ⟨#[61, 34]⟩ rfl (by have := HLEN.out; have := HNM.out; rw [List.length_append, List.length_append]; show _ + 2 + _ + 2 ≤ _; omega) HB2.out.size ?_; intro v3 w3 hown3 hb3 hg3; have HR3 := Lib.hid (grown_row HR2.out hg3 (own_ne HO2.out HR2.out (by decide))); have r30 := HR3.out.cell 0; have r31 := HR3.out.cell 1; have HO3 := Lib.hid hown3; have HB3 := Lib.hid (HB2.out.trans hb3); clear hown3 hb3 hg3)
          | (go_at_call 71; refine (esc_prog w.heap.size _ _ (vlOf l k) _ HO3.out HB3.out.size (by have := HLEN.out; have := HNM.out; rw [List.length_append, List.length_append, List.length_append]; show _ + 2 + _ + 2 + _ ≤ _; omega)).mono ?_; rintro e w4 ⟨v4, rfl, hown4, hb4⟩; have HO4 := Lib.hid hown4; have HB4 := Lib.hid (HB3.out.trans hb4); clear hown4 hb4)
          | (at_builtin; refine app_u8 rfl (.tmp 29) (.tmp 30) rfl w.heap.size _ _ rfl (own_alloc HO4.out _) _ [34] 1 rfl (row_bys1 (c := 34) (Row.new _ _ _)) (by have := HLEN.out; have := HNM.out; have := HVM.out; rw [List.length_append, List.length_append, List.length_append, List.length_append]; show _ + 2 + _ + 2 + _ + 1 ≤ _; omega) (Nat.le_trans HB4.out.size (by simp)) ?_; intro v5 w5 hown5 hb5 _; have HO5 := Lib.hid hown5; have HB5 := Lib.hid ((HB4.out.alloc HB4.out.size _).trans hb5); clear hown5 hb5))
        go_roundw
        case rel =>
          have hfin : Own w5 w.heap.size v5 ([123] ++ lblsT l (k + 1)) := by have := HO5.out; rw [HT.out]; simpa [strL] using this
          exact ⟨k + 1, by omega, by go_num, .inl hfin, fun _ => hfin, HB5.out⟩
        case measure => simp [intOf]; omega
      · have i3 : decide ((0 : Int) < (k : Int)) = false := by simp; omega
        rw [if_neg hk0] at HT
        go_upto_region 7 with fail
        rw [HZ.out]
        have r00 := HR0.out.cell 0
        have r01 := HR0.out.cell 1
        go_wp2_with (first
          | (at_builtin; refine app_strF rfl (.tmp 19) (.tmp 21) rfl w.heap.size _ _ rfl HOF.out (nmOf l k) rfl (by have := HLEN.out; omega) HZS.out ?_; intro v2 w2 hown2 _ hb2 hg2; have HR2 := Lib.hid (grown_row HR0.out hg2 (ownf_ne HOF.out HR0.out (by decide))); have r20 := HR2.out.cell 0; have r21 := HR2.out.cell 1; have HO2 := Lib.hid hown2; have HB2 := Lib.hid (HBZ.out.trans hb2); clear hown2 hb2 hg2)
          | (at_builtin; refine app_strF rfl (.tmp 23) (.const (.string ⟨#[61, 34]⟩)) rfl w.heap.size _ _ rfl HO2.out ⟨#[61, 34]⟩ rfl (by have := HLEN.out; have := HNM.out; rw [List.length_append]; show _ + _ + 2 ≤ _; omega) HB2.out.size ?_; intro v3 w3 _ hown3' hb3 hg3; have hown3 := hown3' (by decide); have HR3 := Lib.hid (grown_row HR2.out hg3 (ownf_ne HO2.out HR2.out (by decide))); have r30 := HR3.out.cell 0; have r31 := HR3.out.cell 1; have HO3 := Lib.hid hown3; clear hown3'; have HB3 := Lib.hid (HB2.out.trans hb3); clear hown3 hb3 hg3)
          | (go_at_call 71; refine (esc_prog w.heap.size _ _ (vlOf l k) _ HO3.out HB3.out.size (by have := HLEN.out; have := HNM.out; rw [List.length_append, List.length_append]; show _ + _ + 2 + _ ≤ _; omega)).mono ?_; rintro e w4 ⟨v4, rfl, hown4, hb4⟩; have HO4 := Lib.hid hown4; have HB4 := Lib.hid (HB3.out.trans hb4); clear hown4 hb4)
          | (at_builtin; refine app_u8 rfl (.tmp 29) (.tmp 30) rfl w.heap.size _ _ rfl (own_alloc HO4.out _) _ [34] 1 rfl (row_bys1 (c := 34) (Row.new _ _ _)) (by have := HLEN.out; have := HNM.out; have := HVM.out; rw [List.length_append, List.length_append, List.length_append]; show _ + _ + 2 + _ + 1 ≤ _; omega) (Nat.le_trans HB4.out.size (by simp)) ?_; intro v5 w5 hown5 hb5 _; have HO5 := Lib.hid hown5; have HB5 := Lib.hid ((HB4.out.alloc HB4.out.size _).trans hb5); clear hown5 hb5))
        go_roundw
        case rel =>
          have hfin : Own w5 w.heap.size v5 ([123] ++ lblsT l (k + 1)) := by have := HO5.out; rw [HT.out]; simpa [strL] using this
          exact ⟨k + 1, by omega, by go_num, .inl hfin, fun _ => hfin, HB5.out⟩
        case measure => simp [intOf]; omega
    · obtain rfl : k = l.length := by omega
      have HOF := Lib.hid ho
      have HBR := Lib.hid hbr
      have hm2 := lblsT_len l l.length
      have HLEN := Lib.hid (show (([123] : List UInt8) ++ lblsT l l.length).length + 1 ≤ 211106232532992 by rw [List.length_append, List.length_singleton]; have := HC.out; omega)
      have HQ := Lib.hid (show ([123] ++ lblsT l l.length) ++ strL ⟨#[125]⟩ = printL l from rfl)
      clear ho ho2 hbr hm2
      go_wp2_with (at_builtin; refine app_strF rfl (.tmp 33) (.const (.string ⟨#[125]⟩)) rfl w.heap.size _ _ rfl HOF.out ⟨#[125]⟩ rfl HLEN.out HBR.out.size ?_; intro v2 w2 _ hown2' hb2 _; have hown2 := hown2' (by decide); rw [HQ.out] at hown2; obtain ⟨B, d, hv, hB, _⟩ := own_slice' hown2; subst hv; have hcv := conv_bys w2 B (printL l) d hB; have HB2 := Lib.hid (HBR.out.trans hb2); clear hown2 hown2' hb2 hB)
      go_ret
      exact ⟨rfl, HB2.out⟩
end Go.Proofs.Ytjljfilflajogaa

namespace Go.Proofs.Ytjljfilflajogaa
open Go.RowKit
set_option linter.unusedVariables false

/-- A value between its marks. -/
def quoL (s : ByteArray) : List UInt8 := [34] ++ escL (strL s) ++ [34]
attribute [-go_sem] Builtin.append_
set_option maxRecDepth 100000 in
set_option maxHeartbeats 4000000 in
theorem refquo_prog (s : ByteArray) (w : World) (hx : 2 + 4 * s.size ≤ 211106232532992) :
    Calls Try.prog 45 #[.string s] w fun e w' => e = .returned (.string (txt (quoL s))) ∧ Below w.heap.size w w' := by
  have HO0 : Hid (Own (w.alloc (.cells #[.int .u8 34] 5)) w.heap.size (.slice (some ⟨w.heap.size, 0, none⟩) 1 1) ([34] ++ escL ((strL s).take 0))) := Lib.hid (own_whole (x := [34]) (Row.new w 5 (bcells [34])) (Nat.le_refl _) (by decide))
  have HB0 : Hid (Below w.heap.size w (w.alloc (.cells #[.int .u8 34] 5))) := Lib.hid (below_one w _)
  go_enter Try.func45, Try.ntmps45
  go_wp2_with fail
  go_loopw [5, 4] (fun i u wr => ∃ k : Nat, k ≤ s.size ∧ i = .int .i64 (k : Int) ∧ Own wr w.heap.size u ([34] ++ escL ((strL s).take k)) ∧ Below w.heap.size w wr) (fun i _ _ => s.size - (intOf i).toNat)
  case atStart => exact ⟨0, Nat.zero_le _, rfl, HO0.out, HB0.out⟩
  case round =>
    obtain ⟨k, hk, rfl, ho, hbr⟩ := hrel
    by_cases hlt : k < s.size
    · have HT := Lib.hid (escL_snoc s hlt)
      rw [strL_get s hlt] at HT
      have hlen := escL_take_len s k hk
      have hc := s[k].toNat_lt
      by_cases h1 : s[k].toNat = 34 ∨ s[k].toNat = 92
      · have hb : escB s[k] = [92, s[k]] := by unfold escB; rw [if_pos h1]
        rw [hb] at HT
        have HLN := Lib.hid (show ([34] ++ escL ((strL s).take k)).length + 2 ≤ 211106232532992 by rw [List.length_append, List.length_singleton]; omega)
        have HBR := Lib.hid hbr
        have hsz := hbr.size
        have HOr := Lib.hid ho
        clear hb hlen ho hbr
        rcases h1 with h1 | h1
        · have i1 : ((s[k].toNat : Int) == 34) = true := by rw [h1]; rfl
          clear h1
          go_wp2_with (at_builtin; refine app_u8 rfl (.tmp 23) (.tmp 25) rfl w.heap.size _ _ rfl (own_alloc HOr.out _) _ [92, s[k]] 2 rfl (row_bys2 (Row.new _ _ _)) HLN.out (Nat.le_trans hsz (by simp)) ?_; intro v1 w1 hown1 hb1 _; have HO1 := Lib.hid hown1; have HB1 := Lib.hid ((HBR.out.alloc hsz _).trans hb1); clear hown1 hb1)
          go_roundw
          case rel => exact ⟨k + 1, by omega, by go_num, by rw [HT.out, ← List.append_assoc]; exact HO1.out, HB1.out⟩
          case measure => simp [intOf]; omega
        · have i1 : ((s[k].toNat : Int) == 34) = false := by rw [h1]; rfl
          have i2 : ((s[k].toNat : Int) == 92) = true := by rw [h1]; rfl
          clear h1
          go_wp2_with (at_builtin; refine app_u8 rfl (.tmp 23) (.tmp 25) rfl w.heap.size _ _ rfl (own_alloc HOr.out _) _ [92, s[k]] 2 rfl (row_bys2 (Row.new _ _ _)) HLN.out (Nat.le_trans hsz (by simp)) ?_; intro v1 w1 hown1 hb1 _; have HO1 := Lib.hid hown1; have HB1 := Lib.hid ((HBR.out.alloc hsz _).trans hb1); clear hown1 hb1)
          go_roundw
          case rel => exact ⟨k + 1, by omega, by go_num, by rw [HT.out, ← List.append_assoc]; exact HO1.out, HB1.out⟩
          case measure => simp [intOf]; omega
      · have i1 : ((s[k].toNat : Int) == 34) = false := by rw [beq_eq_false_iff_ne]; omega
        have i2 : ((s[k].toNat : Int) == 92) = false := by rw [beq_eq_false_iff_ne]; omega
        by_cases h2 : s[k].toNat < 32 ∨ 126 < s[k].toNat
        · have hb : escB s[k] = [92, 120, hexD (s[k].toNat / 16), hexD (s[k].toNat % 16)] := by unfold escB; rw [if_neg h1, if_pos h2]
          rw [hb] at HT
          clear hb
          rcases h2 with h2 | h2
          · have i3 : decide ((s[k].toNat : Int) < 32) = true := by simp; omega
            obtain ⟨q, hq⟩ : ∃ q, s[k].toNat / 16 = q := ⟨_, rfl⟩
            obtain ⟨r, hr⟩ : ∃ r, s[k].toNat % 16 = r := ⟨_, rfl⟩
            rw [hq, hr] at HT
            have j1 : ((s[k].toNat : Int)).tdiv 16 = (q : Int) := by rw [← hq]; rfl
            have j2 : ((s[k].toNat : Int)).tmod 16 = (r : Int) := by rw [← hr]; rfl
            have j3 : IntKind.u8.wrap (q : Int) = q := by rw [IntKind.wrap_u8]; omega
            have j4 : IntKind.u8.wrap (r : Int) = r := by rw [IntKind.wrap_u8]; omega
            have lq : q < 16 := by omega
            have lr : r < 16 := by omega
            have eq1 := hex_at q lq
            have er1 := hex_at r lr
            have lq2 : (q : Int) < 16 := by omega
            have lr2 : (r : Int) < 16 := by omega
            generalize hexD q = hx1 at *
            generalize hexD r = hx2 at *
            have HO : Hid (∀ o, Own ((wr.alloc o).drew) w.heap.size u4 ([34] ++ escL ((strL s).take k))) := Lib.hid (fun o => own_below ho ((below_one wr o).drew))
            have HB : Hid (Bys ((wr.alloc (.cells #[.int .u8 92, .int .u8 120, .int .u8 (hx1.toNat : Int), .int .u8 (hx2.toNat : Int)] 5)).drew) (some ⟨wr.heap.size, 0, none⟩) [92, 120, hx1, hx2]) := Lib.hid (row_bys4 (Row.new wr _ _))
            have HBR : Hid (∀ o, Below w.heap.size w ((wr.alloc o).drew)) := Lib.hid (fun o => (hbr.alloc (hbr.size) o).drew)
            have HK : Hid (∀ k, u4.ownBlock = some k → w.heap.size ≤ k) := Lib.hid (fun k hk => (World.ownsRow.lt ho _ hk).1)
            have HS : Hid (∀ o, w.heap.size ≤ ((wr.alloc o).drew).heap.size) := Lib.hid (fun o => by have := hbr.size; simp; omega)
            have HLN := Lib.hid (show ([34] ++ escL ((strL s).take k)).length + [92, 120, hx1, hx2].length ≤ 211106232532992 by rw [List.length_append]; simp only [List.length_cons, List.length_nil]; omega)
            clear h1 h2 hq hr ho hbr
            obtain ⟨i0, hi, hz0, hz1, hz2⟩ := info_parts u8_info
            go_upto_region 10 with fail
            go_region_law (refine step_app _ rfl (.tmp 33) (.tmp 42) 36 rfl w.heap.size i0 Try.underlying36 hi hz0 hz1 hz2 u4 ([34] ++ escL ((strL s).take k)) rfl (HO.out _) (some ⟨wr.heap.size, 0, none⟩) [92, 120, hx1, hx2] 4 rfl HB.out HLN.out (HS.out _) ?_; intro v1 w1 hown1 hg1 _; have HO1 := Lib.hid hown1; have HB1 := Lib.hid (Below.grown (HBR.out _) hg1 (HS.out _) HK.out); clear hown1 hg1)
            all_goals
              go_wp2_with fail
              go_roundw
              case rel => exact ⟨k + 1, by omega, by go_num, by rw [HT.out, ← List.append_assoc]; exact HO1.out, HB1.out⟩
              case measure => simp [intOf]; omega
          · have i3 : decide ((s[k].toNat : Int) < 32) = false := by simp; omega
            have i4 : decide ((126 : Int) < (s[k].toNat : Int)) = true := by simp; omega
            obtain ⟨q, hq⟩ : ∃ q, s[k].toNat / 16 = q := ⟨_, rfl⟩
            obtain ⟨r, hr⟩ : ∃ r, s[k].toNat % 16 = r := ⟨_, rfl⟩
            rw [hq, hr] at HT
            have j1 : ((s[k].toNat : Int)).tdiv 16 = (q : Int) := by rw [← hq]; rfl
            have j2 : ((s[k].toNat : Int)).tmod 16 = (r : Int) := by rw [← hr]; rfl
            have j3 : IntKind.u8.wrap (q : Int) = q := by rw [IntKind.wrap_u8]; omega
            have j4 : IntKind.u8.wrap (r : Int) = r := by rw [IntKind.wrap_u8]; omega
            have lq : q < 16 := by omega
            have lr : r < 16 := by omega
            have eq1 := hex_at q lq
            have er1 := hex_at r lr
            have lq2 : (q : Int) < 16 := by omega
            have lr2 : (r : Int) < 16 := by omega
            generalize hexD q = hx1 at *
            generalize hexD r = hx2 at *
            have HO : Hid (∀ o, Own ((wr.alloc o).drew) w.heap.size u4 ([34] ++ escL ((strL s).take k))) := Lib.hid (fun o => own_below ho ((below_one wr o).drew))
            have HB : Hid (Bys ((wr.alloc (.cells #[.int .u8 92, .int .u8 120, .int .u8 (hx1.toNat : Int), .int .u8 (hx2.toNat : Int)] 5)).drew) (some ⟨wr.heap.size, 0, none⟩) [92, 120, hx1, hx2]) := Lib.hid (row_bys4 (Row.new wr _ _))
            have HBR : Hid (∀ o, Below w.heap.size w ((wr.alloc o).drew)) := Lib.hid (fun o => (hbr.alloc (hbr.size) o).drew)
            have HK : Hid (∀ k, u4.ownBlock = some k → w.heap.size ≤ k) := Lib.hid (fun k hk => (World.ownsRow.lt ho _ hk).1)
            have HS : Hid (∀ o, w.heap.size ≤ ((wr.alloc o).drew).heap.size) := Lib.hid (fun o => by have := hbr.size; simp; omega)
            have HLN := Lib.hid (show ([34] ++ escL ((strL s).take k)).length + [92, 120, hx1, hx2].length ≤ 211106232532992 by rw [List.length_append]; simp only [List.length_cons, List.length_nil]; omega)
            clear h1 h2 hq hr ho hbr
            obtain ⟨i0, hi, hz0, hz1, hz2⟩ := info_parts u8_info
            go_upto_region 10 with fail
            go_region_law (refine step_app _ rfl (.tmp 33) (.tmp 42) 36 rfl w.heap.size i0 Try.underlying36 hi hz0 hz1 hz2 u4 ([34] ++ escL ((strL s).take k)) rfl (HO.out _) (some ⟨wr.heap.size, 0, none⟩) [92, 120, hx1, hx2] 4 rfl HB.out HLN.out (HS.out _) ?_; intro v1 w1 hown1 hg1 _; have HO1 := Lib.hid hown1; have HB1 := Lib.hid (Below.grown (HBR.out _) hg1 (HS.out _) HK.out); clear hown1 hg1)
            all_goals
              go_wp2_with fail
              go_roundw
              case rel => exact ⟨k + 1, by omega, by go_num, by rw [HT.out, ← List.append_assoc]; exact HO1.out, HB1.out⟩
              case measure => simp [intOf]; omega
        · have hb : escB s[k] = [s[k]] := by unfold escB; rw [if_neg h1, if_neg h2]
          rw [hb] at HT
          have i3 : decide ((s[k].toNat : Int) < 32) = false := by simp; omega
          have i4 : decide ((126 : Int) < (s[k].toNat : Int)) = false := by simp; omega
          have HLN := Lib.hid (show ([34] ++ escL ((strL s).take k)).length + 1 ≤ 211106232532992 by rw [List.length_append, List.length_singleton]; omega)
          have HBR := Lib.hid hbr
          have hsz := hbr.size
          have HOr := Lib.hid ho
          clear hb hlen ho hbr h1 h2
          go_wp2_with (at_builtin; refine app_u8 rfl (.tmp 44) (.tmp 46) rfl w.heap.size _ _ rfl (own_alloc HOr.out _) _ [s[k]] 1 rfl (row_bys1 (Row.new _ _ _)) HLN.out (Nat.le_trans hsz (by simp)) ?_; intro v1 w1 hown1 hb1 _; have HO1 := Lib.hid hown1; have HB1 := Lib.hid ((HBR.out.alloc hsz _).trans hb1); clear hown1 hb1)
          go_roundw
          case rel => exact ⟨k + 1, by omega, by go_num, by rw [HT.out, ← List.append_assoc]; exact HO1.out, HB1.out⟩
          case measure => simp [intOf]; omega
    · obtain rfl : k = s.size := by omega
      rw [List.take_of_length_le (by rw [strL_length]; exact Nat.le_refl _)] at ho
      have HO := Lib.hid ho
      have HBR := Lib.hid hbr
      have hsz := hbr.size
      have hel := escL_len (strL s)
      rw [strL_length] at hel
      have HLN := Lib.hid (show ([34] ++ escL (strL s)).length + 1 ≤ 211106232532992 by rw [List.length_append]; show 1 + _ + 1 ≤ _; omega)
      have HQ : Hid ([34] ++ escL (strL s) ++ [34] = quoL s) := Lib.hid rfl
      clear ho hbr hel
      go_wp2_with (at_builtin; refine app_u8 rfl (.tmp 48) (.tmp 49) rfl w.heap.size _ _ rfl (own_alloc HO.out _) _ [34] 1 rfl (row_bys1 (c := 34) (Row.new _ _ _)) HLN.out (Nat.le_trans hsz (by simp)) ?_; intro v2 w2 hown2 hb2 _; rw [HQ.out] at hown2; obtain ⟨B, d, hv, hB, _⟩ := own_slice' hown2; subst hv; have hcv := conv_bys w2 B _ d hB; have HB2 := Lib.hid ((HBR.out.alloc hsz _).trans hb2); clear hown2 hb2 hB)
      go_ret
      exact ⟨rfl, HB2.out⟩
end Go.Proofs.Ytjljfilflajogaa

namespace Go.Proofs.Ytjljfilflajogaa
open Go.RowKit
set_option linter.unusedVariables false
theorem trimp_txt (X Y Z : List UInt8) (h : Lib.trimPrefix X Y = Z) (w : World) : Calls Try.prog 62 #[.string (txt X), .string (txt Y)] w fun e w' => e = .returned (.string (txt Z)) ∧ w' = w := by
  have := Try.strings_TrimPrefix (txt X) (txt Y) w
  rw [show (txt X).data.toList = X from strL_txt X, show (txt Y).data.toList = Y from strL_txt Y, h] at this
  exact this
theorem trims_txt (X Y Z : List UInt8) (h : Lib.trimSuffix X Y = Z) (hx : X.length ≤ 9223372036854775807) (w : World) : Calls Try.prog 61 #[.string (txt X), .string (txt Y)] w fun e w' => e = .returned (.string (txt Z)) ∧ w' = w := by
  have := Try.strings_TrimSuffix (txt X) (txt Y) w (by simpa [txt, ByteArray.size] using hx)
  rw [show (txt X).data.toList = X from strL_txt X, show (txt Y).data.toList = Y from strL_txt Y, h] at this
  exact this
theorem cut_front (Z : List UInt8) : Lib.trimPrefix ([123, 61] ++ Z) [123, 61] = Z := by
  simp [Lib.trimPrefix, Lib.hasPrefix]
theorem cut_behind (Z : List UInt8) : Lib.trimSuffix (Z ++ [125]) [125] = Z := by
  simp [Lib.trimSuffix, Lib.hasSuffix]
theorem print_one (s : ByteArray) : printL [(⟨#[]⟩, s)] = [123, 61] ++ (quoL s ++ [125]) := by
  simp [printL, lblsT, lblT, quoL, strL]
theorem quoL_len (s : ByteArray) : (quoL s).length ≤ 2 + 4 * s.size := by
  have hel := escL_len (strL s)
  rw [strL_length] at hel
  simp [quoL]
  omega
set_option maxHeartbeats 1000000 in
theorem quoted_prog (s : ByteArray) (w : World) (hs : 4 * s.size + 7 ≤ 140737488355328) :
    Calls Try.prog 44 #[.string s] w fun e w' => e = .returned (.string (txt (quoL s))) ∧ Below w.heap.size w w' := by
  have HP : Hid (∀ W A, Lbls W A [(⟨#[]⟩, s)] → Calls Try.prog 60 #[.slice A 1 1] W fun e w' => e = .returned (.string (txt ([123, 61] ++ (quoL s ++ [125])))) ∧ Below W.heap.size W w') := Lib.hid (fun W A h => by
    have := print_prog A [(⟨#[]⟩, s)] 1 W h (by simp) (by show 1 + (6 + (⟨#[]⟩ : ByteArray).size + 4 * s.size) ≤ _; show 1 + (6 + 0 + 4 * s.size) ≤ _; omega)
    rw [print_one] at this
    exact this)
  have hq := quoL_len s
  have HT1 := Lib.hid (fun W => trimp_txt ([123, 61] ++ (quoL s ++ [125])) [123, 61] (quoL s ++ [125]) (cut_front _) W)
  have HT2 := Lib.hid (fun W => trims_txt (quoL s ++ [125]) [125] (quoL s) (cut_behind _) (by rw [List.length_append]; show _ + 1 ≤ _; omega) W)
  have HB0 : Hid (Below w.heap.size w (w.alloc (.cells #[.string ⟨#[]⟩, .string s] 63))) := Lib.hid (below_one w _)
  clear hq
  go_enter Try.func44, Try.ntmps44
  go_wp2_with (first
    | (go_at_call 60; refine (HP.out _ _ (lbls_cell (Row.new _ _ _))).mono ?_; rintro e w1 ⟨rfl, hb1⟩; have HB1 := Lib.hid (below_then HB0.out hb1); clear hb1)
    | (go_at_call 62; refine (HT1.out _).mono ?_; rintro e w2 ⟨rfl, hw2⟩; subst hw2)
    | (go_at_call 61; refine (HT2.out _).mono ?_; rintro e w3 ⟨rfl, hw3⟩; subst hw3))
  go_ret
  exact ⟨rfl, HB1.out⟩
end Go.Proofs.Ytjljfilflajogaa

namespace Go.Proofs.Ytjljfilflajogaa
open Go.RowKit
set_option linter.unusedVariables false

theorem signM_size (k : Int) : (signM k).size ≤ 2 := by
  unfold signM
  split; · decide
  split; · decide
  split; · decide
  split; · decide
  decide
set_option maxHeartbeats 2000000 in
theorem mprint_prog (k : Int) (n v : ByteArray) (w : World) (hn : n.size ≤ 140737488351232) (hs : 4 * v.size + 7 ≤ 140737488355328) : Calls Try.prog 26 #[.agg #[.int .i64 k, .string n, .string v]] w fun e w' => e = .returned (.string (n ++ signM k ++ txt (quoL v))) ∧ Below w.heap.size w w' := by
  have HS : Hid (∀ W, Calls Try.prog 41 #[.int .i64 k] W fun e w' => e = .returned (.string (signM k)) ∧ Below W.heap.size W w') := Lib.hid (fun W => (sign_prog k W).mono fun e w' h => ⟨h.1, h.2 ▸ Below.refl _ _⟩)
  have HQ := Lib.hid (fun W => quoted_prog v W hs)
  have HB0 : Hid (Below w.heap.size w ((w.alloc (.cells #[.int .i64 k, .string n, .string v] 39)).drew)) := Lib.hid (below_one w _).drew
  have HR0 : Hid (Row ((w.alloc (.cells #[.int .i64 k, .string n, .string v] 39)).drew) w.heap.size 39 #[.int .i64 k, .string n, .string v]) := Lib.hid (Row.new w _ _)
  have r00 := HR0.out.cell 0
  have r01 := HR0.out.cell 1
  have r02 := HR0.out.cell 2
  have hz1 := signM_size k
  obtain ⟨sg, hsg⟩ : ∃ sg, signM k = sg := ⟨_, rfl⟩
  rw [hsg] at hz1
  have hz2 : (txt (quoL v)).size ≤ 140737488355328 := by have := quoL_len v; show (quoL v).toArray.size ≤ _; rw [List.size_toArray]; omega
  obtain ⟨tq, htq⟩ : ∃ tq, txt (quoL v) = tq := ⟨_, rfl⟩
  rw [htq] at hz2
  rw [hsg] at HS
  rw [htq] at HQ
  rw [hsg, htq]
  clear hsg htq hs
  have hap : (n ++ sg).size = n.size + sg.size := ByteArray.size_append
  have fn0 : ¬ 9223372036854775807 < n.size + sg.size := by omega
  have fn1 : ¬ 9223372036854775807 < (n ++ sg).size + tq.size := by omega
  have fn2 : ¬ 9223372036854775807 < n.size + sg.size + tq.size := by omega
  clear hap
  go_enter Try.func26, Try.ntmps26
  go_upto_region 1 with fail
  go_region_held3 (fun w' => w'.cell? ⟨w.heap.size, 0, none⟩ = some (.int .i64 k) ∧ w'.cell? ⟨w.heap.size, 1, none⟩ = some (.string n) ∧ w'.cell? ⟨w.heap.size, 2, none⟩ = some (.string v)) (go_keep)
    (first
      | (go_at_call 41; (with_reducible refine (HS.out _).mono ?_); rintro e w1 ⟨rfl, hb1⟩
         have HB1 := Lib.hid (HB0.out.trans (hb1.mono HB0.out.size))
         have HR1 := Lib.hid (HR0.out.below hb1 HR0.out.lt)
         have r10 : w1.cell? ⟨w.heap.size, 0, none⟩ = some (.int .i64 k) := HR1.out.cell 0
         have r11 : w1.cell? ⟨w.heap.size, 1, none⟩ = some (.string n) := HR1.out.cell 1
         have r12 : w1.cell? ⟨w.heap.size, 2, none⟩ = some (.string v) := HR1.out.cell 2
         clear hb1)
      | (go_at_call 44; (with_reducible refine (HQ.out _).mono ?_); rintro e w2 ⟨rfl, hb2⟩
         have HB2 := Lib.hid (HB1.out.trans (hb2.mono HB1.out.size))
         have HR2 := Lib.hid (HR1.out.below hb2 HR1.out.lt)
         have r20 : w2.cell? ⟨w.heap.size, 0, none⟩ = some (.int .i64 k) := HR2.out.cell 0
         have r21 : w2.cell? ⟨w.heap.size, 1, none⟩ = some (.string n) := HR2.out.cell 1
         have r22 : w2.cell? ⟨w.heap.size, 2, none⟩ = some (.string v) := HR2.out.cell 2
         clear hb2))
  all_goals
    go_wp2_with fail
    go_ret
    exact ⟨rfl, HB2.out⟩
set_option maxHeartbeats 2000000 in
theorem mprint_ref (k : Int) (n v : ByteArray) (w : World) (hn : n.size ≤ 140737488351232) (hs : 2 + 4 * v.size ≤ 140737488355328) : Calls Try.prog 27 #[.agg #[.int .i64 k, .string n, .string v]] w fun e w' => e = .returned (.string (n ++ signM k ++ txt (quoL v))) ∧ Below w.heap.size w w' := by
  have HQ := Lib.hid (fun W => refquo_prog v W (by omega))
  have HB0 : Hid (Below w.heap.size w ((w.alloc (.cells #[.int .i64 k, .string n, .string v] 39)).drew)) := Lib.hid (below_one w _).drew
  have HR0 : Hid (Row ((w.alloc (.cells #[.int .i64 k, .string n, .string v] 39)).drew) w.heap.size 39 #[.int .i64 k, .string n, .string v]) := Lib.hid (Row.new w _ _)
  have r00 := HR0.out.cell 0
  have r01 := HR0.out.cell 1
  have r02 := HR0.out.cell 2
  have hz2 : (txt (quoL v)).size ≤ 140737488355328 := by have := quoL_len v; show (quoL v).toArray.size ≤ _; rw [List.size_toArray]; omega
  obtain ⟨tq, htq⟩ : ∃ tq, txt (quoL v) = tq := ⟨_, rfl⟩
  rw [htq] at hz2
  rw [htq] at HQ
  rw [htq]
  clear htq hs
  by_cases h1 : k = 1
  · subst h1
    go_enter Try.func27, Try.ntmps27
    have hz1 := signM_size 1
    rw [show signM 1 = ⟨#[61]⟩ from rfl] at hz1
    go_upto_region 11 with fail
    generalize hsg : (⟨#[61]⟩ : ByteArray) = sg at hz1 ⊢
    have hap : (n ++ sg).size = n.size + sg.size := ByteArray.size_append
    have fn0 : ¬ 9223372036854775807 < n.size + sg.size := by omega
    have fn1 : ¬ 9223372036854775807 < (n ++ sg).size + tq.size := by omega
    have fn2 : ¬ 9223372036854775807 < n.size + sg.size + tq.size := by omega
    clear hap
    go_region_held3 (fun w' => w'.cell? ⟨w.heap.size, 0, none⟩ = some (.int .i64 1) ∧ w'.cell? ⟨w.heap.size, 1, none⟩ = some (.string n) ∧ w'.cell? ⟨w.heap.size, 2, none⟩ = some (.string v)) (go_keep)
      (first
        | (go_at_call 45; (with_reducible refine (HQ.out _).mono ?_); rintro e w1 ⟨rfl, hb1⟩
           have HB1 := Lib.hid (HB0.out.trans (hb1.mono HB0.out.size))
           have HR1 := Lib.hid (HR0.out.below hb1 HR0.out.lt)
           have r10 : w1.cell? ⟨w.heap.size, 0, none⟩ = some (.int .i64 1) := HR1.out.cell 0
           have r11 : w1.cell? ⟨w.heap.size, 1, none⟩ = some (.string n) := HR1.out.cell 1
           have r12 : w1.cell? ⟨w.heap.size, 2, none⟩ = some (.string v) := HR1.out.cell 2
           clear hb1))
    all_goals
      go_wp2_with fail
      go_ret
      exact ⟨by rw [show signM 1 = sg from hsg]; rfl, HB1.out⟩
  by_cases h2 : k = 2
  · subst h2
    go_enter Try.func27, Try.ntmps27
    have hz1 := signM_size 2
    rw [show signM 2 = ⟨#[33, 61]⟩ from rfl] at hz1
    go_upto_region 11 with fail
    generalize hsg : (⟨#[33, 61]⟩ : ByteArray) = sg at hz1 ⊢
    have hap : (n ++ sg).size = n.size + sg.size := ByteArray.size_append
    have fn0 : ¬ 9223372036854775807 < n.size + sg.size := by omega
    have fn1 : ¬ 9223372036854775807 < (n ++ sg).size + tq.size := by omega
    have fn2 : ¬ 9223372036854775807 < n.size + sg.size + tq.size := by omega
    clear hap
    go_region_held3 (fun w' => w'.cell? ⟨w.heap.size, 0, none⟩ = some (.int .i64 2) ∧ w'.cell? ⟨w.heap.size, 1, none⟩ = some (.string n) ∧ w'.cell? ⟨w.heap.size, 2, none⟩ = some (.string v)) (go_keep)
      (first
        | (go_at_call 45; (with_reducible refine (HQ.out _).mono ?_); rintro e w1 ⟨rfl, hb1⟩
           have HB1 := Lib.hid (HB0.out.trans (hb1.mono HB0.out.size))
           have HR1 := Lib.hid (HR0.out.below hb1 HR0.out.lt)
           have r10 : w1.cell? ⟨w.heap.size, 0, none⟩ = some (.int .i64 2) := HR1.out.cell 0
           have r11 : w1.cell? ⟨w.heap.size, 1, none⟩ = some (.string n) := HR1.out.cell 1
           have r12 : w1.cell? ⟨w.heap.size, 2, none⟩ = some (.string v) := HR1.out.cell 2
           clear hb1))
    all_goals
      go_wp2_with fail
      go_ret
      exact ⟨by rw [show signM 2 = sg from hsg]; rfl, HB1.out⟩
  by_cases h3 : k = 3
  · subst h3
    go_enter Try.func27, Try.ntmps27
    have hz1 := signM_size 3
    rw [show signM 3 = ⟨#[61, 126]⟩ from rfl] at hz1
    go_upto_region 11 with fail
    generalize hsg : (⟨#[61, 126]⟩ : ByteArray) = sg at hz1 ⊢
    have hap : (n ++ sg).size = n.size + sg.size := ByteArray.size_append
    have fn0 : ¬ 9223372036854775807 < n.size + sg.size := by omega
    have fn1 : ¬ 9223372036854775807 < (n ++ sg).size + tq.size := by omega
    have fn2 : ¬ 9223372036854775807 < n.size + sg.size + tq.size := by omega
    clear hap
    go_region_held3 (fun w' => w'.cell? ⟨w.heap.size, 0, none⟩ = some (.int .i64 3) ∧ w'.cell? ⟨w.heap.size, 1, none⟩ = some (.string n) ∧ w'.cell? ⟨w.heap.size, 2, none⟩ = some (.string v)) (go_keep)
      (first
        | (go_at_call 45; (with_reducible refine (HQ.out _).mono ?_); rintro e w1 ⟨rfl, hb1⟩
           have HB1 := Lib.hid (HB0.out.trans (hb1.mono HB0.out.size))
           have HR1 := Lib.hid (HR0.out.below hb1 HR0.out.lt)
           have r10 : w1.cell? ⟨w.heap.size, 0, none⟩ = some (.int .i64 3) := HR1.out.cell 0
           have r11 : w1.cell? ⟨w.heap.size, 1, none⟩ = some (.string n) := HR1.out.cell 1
           have r12 : w1.cell? ⟨w.heap.size, 2, none⟩ = some (.string v) := HR1.out.cell 2
           clear hb1))
    all_goals
      go_wp2_with fail
      go_ret
      exact ⟨by rw [show signM 3 = sg from hsg]; rfl, HB1.out⟩
  by_cases h4 : k = 4
  · subst h4
    go_enter Try.func27, Try.ntmps27
    have hz1 := signM_size 4
    rw [show signM 4 = ⟨#[33, 126]⟩ from rfl] at hz1
    go_upto_region 11 with fail
    generalize hsg : (⟨#[33, 126]⟩ : ByteArray) = sg at hz1 ⊢
    have hap : (n ++ sg).size = n.size + sg.size := ByteArray.size_append
    have fn0 : ¬ 9223372036854775807 < n.size + sg.size := by omega
    have fn1 : ¬ 9223372036854775807 < (n ++ sg).size + tq.size := by omega
    have fn2 : ¬ 9223372036854775807 < n.size + sg.size + tq.size := by omega
    clear hap
    go_region_held3 (fun w' => w'.cell? ⟨w.heap.size, 0, none⟩ = some (.int .i64 4) ∧ w'.cell? ⟨w.heap.size, 1, none⟩ = some (.string n) ∧ w'.cell? ⟨w.heap.size, 2, none⟩ = some (.string v)) (go_keep)
      (first
        | (go_at_call 45; (with_reducible refine (HQ.out _).mono ?_); rintro e w1 ⟨rfl, hb1⟩
           have HB1 := Lib.hid (HB0.out.trans (hb1.mono HB0.out.size))
           have HR1 := Lib.hid (HR0.out.below hb1 HR0.out.lt)
           have r10 : w1.cell? ⟨w.heap.size, 0, none⟩ = some (.int .i64 4) := HR1.out.cell 0
           have r11 : w1.cell? ⟨w.heap.size, 1, none⟩ = some (.string n) := HR1.out.cell 1
           have r12 : w1.cell? ⟨w.heap.size, 2, none⟩ = some (.string v) := HR1.out.cell 2
           clear hb1))
    all_goals
      go_wp2_with fail
      go_ret
      exact ⟨by rw [show signM 4 = sg from hsg]; rfl, HB1.out⟩
  have d1 : (k == 1) = false := beq_eq_false_iff_ne.2 h1
  have d2 : (k == 2) = false := beq_eq_false_iff_ne.2 h2
  have d3 : (k == 3) = false := beq_eq_false_iff_ne.2 h3
  have d4 : (k == 4) = false := beq_eq_false_iff_ne.2 h4
  rw [show signM k = ⟨#[]⟩ by unfold signM; rw [if_neg h1, if_neg h2, if_neg h3, if_neg h4]]
  clear h1 h2 h3 h4
  go_enter Try.func27, Try.ntmps27
  have hz1 : (⟨#[]⟩ : ByteArray).size ≤ 2 := by decide
  go_upto_region 11 with fail
  generalize hsg : (⟨#[]⟩ : ByteArray) = sg at hz1 ⊢
  have hap : (n ++ sg).size = n.size + sg.size := ByteArray.size_append
  have fn0 : ¬ 9223372036854775807 < n.size + sg.size := by omega
  have fn1 : ¬ 9223372036854775807 < (n ++ sg).size + tq.size := by omega
  have fn2 : ¬ 9223372036854775807 < n.size + sg.size + tq.size := by omega
  clear hap
  go_region_held3 (fun w' => w'.cell? ⟨w.heap.size, 0, none⟩ = some (.int .i64 k) ∧ w'.cell? ⟨w.heap.size, 1, none⟩ = some (.string n) ∧ w'.cell? ⟨w.heap.size, 2, none⟩ = some (.string v)) (go_keep)
    (first
      | (go_at_call 45; (with_reducible refine (HQ.out _).mono ?_); rintro e w1 ⟨rfl, hb1⟩
         have HB1 := Lib.hid (HB0.out.trans (hb1.mono HB0.out.size))
         have HR1 := Lib.hid (HR0.out.below hb1 HR0.out.lt)
         have r10 : w1.cell? ⟨w.heap.size, 0, none⟩ = some (.int .i64 k) := HR1.out.cell 0
         have r11 : w1.cell? ⟨w.heap.size, 1, none⟩ = some (.string n) := HR1.out.cell 1
         have r12 : w1.cell? ⟨w.heap.size, 2, none⟩ = some (.string v) := HR1.out.cell 2
         clear hb1))
  all_goals
    go_wp2_with fail
    go_ret
    exact ⟨by first | rfl | (rw [hsg]; rfl), HB1.out⟩
end Go.Proofs.Ytjljfilflajogaa

namespace Go.Proofs.Ytjljfilflajogaa
open Go.RowKit
set_option linter.unusedVariables false
set_option maxHeartbeats 4000000 in
theorem matcherChecks_go (w : World) (k : Int) (n v : ByteArray) (hn : n.size ≤ 140737488351232) (hs : 4 * v.size + 7 ≤ 140737488355328) :
    Calls Try.prog 10 #[.agg #[.int .i64 k, .string n, .string v]] w fun e w' => e = .returned (.bool true) ∧ Below w.heap.size w w' := by
  have C1 := Lib.hid (fun W => mchk_prog k n v W)
  have C2 := Lib.hid (fun W => mchk_ref k n v hn W)
  have P1 := Lib.hid (fun W => mprint_prog k n v W hn hs)
  have P2 := Lib.hid (fun W => mprint_ref k n v W hn (by omega))
  generalize mchk (k, n, v) = ch at C1 C2
  generalize n ++ signM k ++ txt (quoL v) = tx at P1 P2
  have HB0 : Hid (Below w.heap.size w ((w.alloc (.cells #[.int .i64 k, .string n, .string v] 39)).drew)) := Lib.hid (below_one w _).drew
  have HR0 : Hid (Row ((w.alloc (.cells #[.int .i64 k, .string n, .string v] 39)).drew) w.heap.size 39 #[.int .i64 k, .string n, .string v]) := Lib.hid (Row.new w _ _)
  have r00 := HR0.out.cell 0
  have r01 := HR0.out.cell 1
  have r02 := HR0.out.cell 2
  have tb : (tx.toList == tx.toList) = true := beq_self_eq_true _
  have tc : (ch == ch) = true := beq_self_eq_true _
  have HL := Lib.hid (fun W => mlives_true W)
  clear hn hs
  go_enter Try.func10, Try.ntmps10
  go_upto_region 1 with fail
  go_region_held3 (fun w' => w'.cell? ⟨w.heap.size, 0, none⟩ = some (.int .i64 k) ∧ w'.cell? ⟨w.heap.size, 1, none⟩ = some (.string n) ∧ w'.cell? ⟨w.heap.size, 2, none⟩ = some (.string v)) (go_keep)
    (first
      | (go_at_call 24; (with_reducible refine (C1.out _).mono ?_); rintro e w1 ⟨rfl, hb1⟩
         have HB1 := Lib.hid (HB0.out.trans (hb1.mono HB0.out.size))
         have HR1 := Lib.hid (HR0.out.below hb1 HR0.out.lt)
         have r10 : w1.cell? ⟨w.heap.size, 0, none⟩ = some (.int .i64 k) := HR1.out.cell 0
         have r11 : w1.cell? ⟨w.heap.size, 1, none⟩ = some (.string n) := HR1.out.cell 1
         have r12 : w1.cell? ⟨w.heap.size, 2, none⟩ = some (.string v) := HR1.out.cell 2
         clear hb1)
      | (go_at_call 25; (with_reducible refine (C2.out _).mono ?_); rintro e w2 ⟨rfl, hb2⟩
         have HB2 := Lib.hid (HB1.out.trans (hb2.mono HB1.out.size))
         have HR2 := Lib.hid (HR1.out.below hb2 HR1.out.lt)
         have r20 : w2.cell? ⟨w.heap.size, 0, none⟩ = some (.int .i64 k) := HR2.out.cell 0
         have r21 : w2.cell? ⟨w.heap.size, 1, none⟩ = some (.string n) := HR2.out.cell 1
         have r22 : w2.cell? ⟨w.heap.size, 2, none⟩ = some (.string v) := HR2.out.cell 2
         clear hb2)
      | (go_at_call 26; (with_reducible refine (P1.out _).mono ?_); rintro e w3 ⟨rfl, hb3⟩
         have HB3 := Lib.hid (HB2.out.trans (hb3.mono HB2.out.size))
         have HR3 := Lib.hid (HR2.out.below hb3 HR2.out.lt)
         have r30 : w3.cell? ⟨w.heap.size, 0, none⟩ = some (.int .i64 k) := HR3.out.cell 0
         have r31 : w3.cell? ⟨w.heap.size, 1, none⟩ = some (.string n) := HR3.out.cell 1
         have r32 : w3.cell? ⟨w.heap.size, 2, none⟩ = some (.string v) := HR3.out.cell 2
         clear hb3)
      | (go_at_call 27; (with_reducible refine (P2.out _).mono ?_); rintro e w4 ⟨rfl, hb4⟩
         have HB4 := Lib.hid (HB3.out.trans (hb4.mono HB3.out.size))
         have HR4 := Lib.hid (HR3.out.below hb4 HR3.out.lt)
         have r40 : w4.cell? ⟨w.heap.size, 0, none⟩ = some (.int .i64 k) := HR4.out.cell 0
         have r41 : w4.cell? ⟨w.heap.size, 1, none⟩ = some (.string n) := HR4.out.cell 1
         have r42 : w4.cell? ⟨w.heap.size, 2, none⟩ = some (.string v) := HR4.out.cell 2
         clear hb4)
      | (go_at_call 28; (with_reducible refine (HL.out _).mono ?_); rintro e w5 ⟨rfl, hb5⟩
         have HB5 := Lib.hid (HB4.out.trans (hb5.mono HB4.out.size))
         have HR5 := Lib.hid (HR4.out.below hb5 HR4.out.lt)
         have r50 : w5.cell? ⟨w.heap.size, 0, none⟩ = some (.int .i64 k) := HR5.out.cell 0
         have r51 : w5.cell? ⟨w.heap.size, 1, none⟩ = some (.string n) := HR5.out.cell 1
         have r52 : w5.cell? ⟨w.heap.size, 2, none⟩ = some (.string v) := HR5.out.cell 2
         clear hb5))
  all_goals
    go_wp2_with fail
    go_ret
    exact ⟨rfl, HB5.out⟩
theorem matcherChecks_walk (w : World) (m : Mt) (hm : m.2.1.size ≤ 1048576 ∧ m.2.2.size ≤ 1048576) :
    Calls Try.prog 10 #[.agg #[.int .i64 m.1, .string m.2.1, .string m.2.2]] w fun e w' => e = .returned (.bool true) ∧ Below w.heap.size w w' :=
  matcherChecks_go w m.1 m.2.1 m.2.2 (by omega) (by omega)
end Go.Proofs.Ytjljfilflajogaa
