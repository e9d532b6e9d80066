/- Rows of whole numbers (int): that stand at an address, that are the call's own; append, writing over; how a law's argument of that type is opened. -/
import Derived.Test.YtiepepikbophmaaRowsG
import Derived.Test.YtiepepikbophmaaInts
import Derived.Deep.QuietTactic
import Derived.BigQuiet
import Derived.Deep.DeepCutAuto
import Derived.Deep.Cut
import Derived.Deep.RegionLaw
import Derived.Deep.RegionHeld3
namespace Go.Proofs.Ytiepepikbophmaa
open Go.ChangeShapes Go.WideShapes Go.ChangeAt Go.RowKit Go.Joins Go.Maps
set_option linter.unusedVariables false

def intE (n : Int) : List Value := [.int .i64 n]
theorem intE_len (n : Int) : (intE n).length = 1 := rfl
def Zs (w : World) (A : Option Addr) (l : List Int) : Prop := At w A (l.flatMap intE)
theorem Zs.below {w w' : World} {A : Option Addr} {l : List Int} (h : Zs w A l) (hb : Below w.heap.size w w') : Zs w' A l := At.below h hb
theorem Zs.alloc {w : World} {A : Option Addr} {l : List Int} (h : Zs w A l) (o : Obj) : Zs (w.alloc o) A l := h.below (below_one w o)
theorem Zs.nil (w : World) (A : Option Addr) : Zs w A [] := .inl rfl
theorem Zs.at_ {w : World} {A : Option Addr} {l : List Int} (h : Zs w A l) {i : Nat} (hi : i < l.length) :
    ∃ b o, A = some ⟨b, o, none⟩ ∧ b < w.heap.size ∧ w.cell? ⟨b, o + i, none⟩ = some (.int .i64 (l.getD i 0)) := by
  have hlen := flat_len intE 1 intE_len l
  rcases h with h | ⟨b, o, rfl, hb, hc⟩
  · rw [h] at hlen; simp at hlen; omega
  · refine ⟨b, o, rfl, hb, ?_⟩
    have := hc (i * 1 + 0) _ (flat_get intE 1 intE_len l i _ 0 (getD_some l 0 hi) (by omega))
    rw [Nat.mul_one] at this
    exact this
theorem Zs.cell {w : World} {b o : Nat} {l : List Int} (h : Zs w (some ⟨b, o, none⟩) l) {i : Nat} (hi : i < l.length) : w.cell? ⟨b, o + i, none⟩ = some (.int .i64 (l.getD i 0)) := by
  obtain ⟨b', o', e, _, h2⟩ := h.at_ hi
  injection e with e
  injection e with e1 e2 _
  subst e1 e2
  exact h2
theorem Zs.head {w : World} {A : Option Addr} {n : Int} {l : List Int} (h : Zs w A (n :: l)) : ∃ b o, A = some ⟨b, o, none⟩ ∧ b < w.heap.size ∧ w.cell? ⟨b, o, none⟩ = some (.int .i64 n) ∧ Zs w (some ⟨b, o + 1, none⟩) l := by
  rcases h with h | ⟨b, o, rfl, hb, hc⟩
  · simp [intE] at h
  · refine ⟨b, o, rfl, hb, ?_, .inr ⟨b, o + 1, rfl, hb, fun j u hj => ?_⟩⟩
    · exact hc 0 _ rfl
    · rw [show o + 1 + j = o + (j + 1) by omega]
      refine hc (j + 1) u ?_
      rw [List.flatMap_cons]
      show (Value.int .i64 n :: l.flatMap intE)[j + 1]? = _
      rw [List.getElem?_cons_succ]
      exact hj
theorem Zs.front {w : World} {A : Option Addr} {l m : List Int} (h : Zs w A (l ++ m)) : Zs w A l := by
  rcases h with h | ⟨b, o, rfl, hb, hc⟩
  · rw [List.flatMap_append] at h
    exact .inl (List.append_eq_nil_iff.1 h).1
  · refine .inr ⟨b, o, rfl, hb, fun j u hj => hc j u ?_⟩
    have hlt : j < (l.flatMap intE).length := by
      rcases Nat.lt_or_ge j (l.flatMap intE).length with h2 | h2
      · exact h2
      · rw [List.getElem?_eq_none h2] at hj; cases hj
    rw [List.flatMap_append, List.getElem?_append_left hlt]
    exact hj
theorem zs_of {w : World} {A : Option Addr} {l : List Int} (h : Ints w A l) : Zs w A l := by
  rcases h with rfl | ⟨b, o, rfl, hb, hc⟩
  · exact .inl rfl
  · refine .inr ⟨b, o, rfl, hb, fun j u hj => ?_⟩
    have hlen := flat_len intE 1 intE_len l
    have hlt : j < l.length := by
      rcases Nat.lt_or_ge j (l.flatMap intE).length with h2 | h2
      · omega
      · rw [List.getElem?_eq_none h2] at hj; cases hj
    have e := flat_get intE 1 intE_len l j _ 0 (getD_some l 0 hlt) (by omega)
    rw [Nat.mul_one, Nat.add_zero, hj] at e
    rw [hc j hlt]
    exact e.symm
theorem zs_cell {w : World} {g : Nat} {n : Int} (h : Row w g 3 #[.int .i64 n]) : Zs w (some ⟨g, 0, none⟩) [n] := At.row h
/-- The rest of a row behind its first number: where it is empty, its address does not matter. -/
theorem zs_rest {w : World} {b o c : Nat} {n : Int} {ta : List Int} (h : Zs w (some ⟨b, o + 1, none⟩) ta) (hc : (n :: ta).length ≤ c) : Zs w (if c = 1 then some ⟨b, o, none⟩ else some ⟨b, o + 1, none⟩) ta := by
  split
  · rename_i h1
    obtain rfl : ta = [] := List.eq_nil_of_length_eq_zero (by simp at hc; omega)
    exact Zs.nil _ _
  · exact h
def OwnZ (w : World) (base : Nat) (v : Value) (l : List Int) : Prop := w.ownsRow base 3 1 v l.length (l.flatMap intE)
section
variable {w w' : World} {base : Nat} {v : Value} {l : List Int}
theorem ownz_nil (w : World) (base : Nat) : OwnZ w base (.slice none 0 0) [] := ⟨rfl, .inl ⟨rfl, rfl⟩⟩
theorem ownz_below (h : OwnZ w base v l) (hb : Below w.heap.size w w') : OwnZ w' base v l := rows_below h hb
theorem ownz_lower {base' : Nat} (h : OwnZ w base v l) (hb : base' ≤ base) : OwnZ w base' v l := rows_lower h hb
theorem ownz_slice (h : OwnZ w base v l) : ∃ P c, v = .slice P l.length c ∧ l.length ≤ c ∧ Zs w P l ∧ ∀ ad, P = some ad → base ≤ ad.block := rows_slice h
theorem ownz_empty {g : Nat} (h : Row w g 3 #[]) (hb : base ≤ g) : OwnZ w base (.slice (some ⟨g, 0, none⟩) 0 0) [] :=
  ⟨by simp, .inr ⟨g, 0, #[], rfl, hb, h, Nat.le_refl _, by simp [maxLen], by simp, by simp⟩⟩
/-- A row that is not empty: where it stands, and that it may be written. -/
theorem ownz_form (h : OwnZ w base v l) (hl : 0 < l.length) : ∃ g cap, v = .slice (some ⟨g, 0, none⟩) l.length cap ∧ base ≤ g ∧ g < w.heap.size ∧ l.length ≤ cap ∧ (∀ i, w.frozen? ⟨g, i, none⟩ = false) ∧ ∀ i, i < l.length → w.cell? ⟨g, i, none⟩ = some (.int .i64 (l.getD i 0)) := by
  obtain ⟨P, c, hv, hlc, hP, hb⟩ := ownz_slice h
  rcases h.2 with ⟨rfl, h0⟩ | ⟨g, cap, cur, hv2, hg, hh, hnc, r⟩
  · omega
  · have hr : Row w g 3 cur := hh
    subst hv2
    injection hv with e1 _ e3
    subst e1
    refine ⟨g, cap, rfl, hg, hr.lt, hnc, fun i => hr.frozen i, fun i hi => ?_⟩
    have := Zs.cell hP hi
    rw [Nat.zero_add] at this
    exact this
theorem flat_set (l : List Int) : ∀ (i : Nat) (n : Int), (l.set i n).flatMap intE = (l.flatMap intE).set i (.int .i64 n) := by
  induction l with
  | nil => intro i n; rfl
  | cons x l ih =>
    intro i n
    cases i with
    | zero => rfl
    | succ i =>
      rw [List.set_cons_succ, List.flatMap_cons, ih, List.flatMap_cons]
      rfl
theorem ownz_set {g cap i : Nat} (h : OwnZ w base (.slice (some ⟨g, 0, none⟩) l.length cap) l) (hi : i < l.length) (n : Int) :
    OwnZ (w.setCell ⟨g, i, none⟩ (.int .i64 n)) base (.slice (some ⟨g, 0, none⟩) (l.set i n).length cap) (l.set i n) := by
  have hlen := flat_len intE 1 intE_len l
  rcases h.2 with ⟨e, _⟩ | ⟨g', cap', cur, e, hg, hh, hnc, hcm, hcs, htk⟩
  · cases e
  · injection e with e1 _ e3
    injection e1 with e1
    injection e1 with e1 _ _
    subst e1
    subst e3
    have hrow : Row w g 3 cur := hh
    have h2 : Row _ g 3 _ := hrow.setAt i (.int .i64 n)
    refine ⟨by rw [flat_len intE 1 intE_len], .inr ⟨g, cap, cur.setIfInBounds i (.int .i64 n), rfl, hg, h2, by rw [List.length_set]; exact hnc, hcm, by rw [Array.size_setIfInBounds]; exact hcs, ?_⟩⟩
    rw [List.length_set, Array.toList_setIfInBounds, List.take_set, htk, flat_set]
end
theorem zint_info : (Try.prog.info? 3).map (fun i => (i.zero, i.size, i.bytes)) = some (some (.int .i64 0), 1, 8) := by kernel_rfl
theorem int_one (l : List Int) : ∀ u ∈ l.flatMap intE, u.oneCell' = true := by
  intro u hu
  simp only [List.mem_flatMap, intE, List.mem_cons, List.not_mem_nil, or_false] at hu
  obtain ⟨x, _, rfl⟩ := hu
  rfl
theorem app_zs {w : World} {ops : Array Oper} {rest : List Oper} {o : Oper} {a : Act} {Q : Exit → Act → World → Prop} (hgd : o.guard = none) (s y : Operand)
    (ho : o.op = .call { callee := .builtin .append, args := #[s, y], argTypes := #[38, 38] })
    (base : Nat) (v : Value) (x : List Int) (hs : a.eval s = v) (hown : OwnZ w base v x) (A : Option Addr) (l : List Int) (c : Nat) (hy : a.eval y = .slice A l.length c) (hA : Zs w A l) (hn : (x.length + l.length) * 8 ≤ 140737488355328) (hbase : base ≤ w.heap.size)
    (h : ∀ v' w', OwnZ w' base v' (x ++ l) → Below base w w' → w.grownBy w' v.ownBlock → wpList Try.prog ops Q rest (a.put o.dst v') w') : wpList Try.prog ops Q (o :: rest) a w := by
  obtain ⟨i0, hi, hz0, hz1, hz2⟩ := info_parts zint_info
  refine wpList_app_at hgd s y 38 ho base 3 i0 _ 1 8 Try.underlying38 hi hz0 hz1 hz2 rfl (by omega) v x.length (x.flatMap intE) hs hown A l.length c (l.flatMap intE) hy (flat_len intE 1 intE_len l) hA (int_one l)
    (by simp only [maxLen]; omega) hn hbase ?_
  intro v' w' h1 h2 h3
  refine h v' w' ?_ h2 h3
  unfold OwnZ
  rw [List.flatMap_append, List.length_append]
  exact h1
section
variable {H : Type} {enc : TypeId × Value → H} {W : World} {base : Nat} {sp : Nat → Bool} {held : Bool}
theorem open_zs {fuel : Nat} {v : Value} {x : DataW H × List MemPlace} (hf : DataW.trod enc Try.prog W base sp held fuel 38 [v] = some x) :
    ∃ (A : Option Addr) (l : List Int) (c : Nat), v = .slice A l.length c ∧ Zs W A l ∧ l.length ≤ c ∧ c ≤ maxLen ∧
      ((x.1 = .nil ∧ l = []) ∨ ∃ elems spare, x.1 = .slice elems spare ∧ elems.length = l.length) := by
  obtain ⟨A, l, c, h1, h2, h3, h4, h5⟩ := open_i64s hf
  exact ⟨A, l, c, h1, zs_of h2, h3, h4, h5⟩
theorem reach_zs {ts : List TypeId} {ds : List (DataW H)} (hsz : (DataW.weightsEach Try.prog ts ds).all (· ≤ reachBytes) = true) {j : Nat} {d : DataW H} {l : List Int} (ht : ts[j]? = some 38) (hd : ds[j]? = some d)
    (h : (d = .nil ∧ l = []) ∨ ∃ elems spare, d = .slice elems spare ∧ elems.length = l.length) : l.length ≤ 17592186043904 := by
  rcases h with ⟨_, rfl⟩ | ⟨el, spr, rfl, hel⟩
  · simp
  · have := sized_slice hsz ht hd Try.underlying38
    have hb : Try.prog.bytesOf 3 = 8 := by kernel_rfl
    rw [hb] at this
    have hr : reachBytes = 140737488351232 := rfl
    rw [hr] at this
    omega
end
end Go.Proofs.Ytiepepikbophmaa
