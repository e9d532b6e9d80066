/- In one text, written by lotify.py: PoInts, PoMath, PoMath2, PoCheck, PoOps, PoCat. -/
import Derived.Test.YtmgolnlkepiocaaWaLotC
import Derived.Test.YtmgolnlkepiocaaWaLotD
import Derived.Deep.QuietTactic
import Derived.BigQuiet
import Derived.Deep.DeepCutAuto
import Derived.Deep.Cut
import Derived.Deep.RegionLaw
import Derived.Deep.RegionHeld3
import Derived.Test.YtmgolnlkepiocaaWaLotB
import Derived.Test.YtmgolnlkepiocaaWaLotE
import Derived.Lib.AppendZeros
namespace Go.Proofs.Ytmgolnlkepiocaa
open Go.ChangeShapes Go.WideShapes Go.ChangeAt Go.RowKit Go.Joins Go.Maps
set_option linter.unusedVariables false

def intE (n : Int) : List Value := [.int .i64 n]
theorem intE_len (n : Int) : (intE n).length = 1 := rfl
def Zi (w : World) (A : Option Addr) (l : List Int) : Prop := At w A (l.flatMap intE)
theorem Zi.below {w w' : World} {A : Option Addr} {l : List Int} (h : Zi w A l) (hb : Below w.heap.size w w') : Zi w' A l := At.below h hb
theorem Zi.alloc {w : World} {A : Option Addr} {l : List Int} (h : Zi w A l) (o : Obj) : Zi (w.alloc o) A l := h.below (below_one w o)
theorem Zi.nil (w : World) (A : Option Addr) : Zi w A [] := .inl rfl
theorem Zi.at_ {w : World} {A : Option Addr} {l : List Int} (h : Zi w A l) {i : Nat} (hi : i < l.length) :
    ∃ b o, A = some ⟨b, o, none⟩ ∧ b < w.heap.size ∧ w.cell? ⟨b, o + i, none⟩ = some (.int .i64 (l.getD i 0)) := by
  have hlen := flat_len intE 1 intE_len l
  rcases h with h | ⟨b, o, rfl, hb, hc⟩
  · rw [h] at hlen; simp at hlen; omega
  · refine ⟨b, o, rfl, hb, ?_⟩
    have := hc (i * 1 + 0) _ (flat_get intE 1 intE_len l i _ 0 (getD_some l 0 hi) (by omega))
    rw [Nat.mul_one] at this
    exact this
theorem Zi.cell {w : World} {b o : Nat} {l : List Int} (h : Zi w (some ⟨b, o, none⟩) l) {i : Nat} (hi : i < l.length) : w.cell? ⟨b, o + i, none⟩ = some (.int .i64 (l.getD i 0)) := by
  obtain ⟨b', o', e, _, h2⟩ := h.at_ hi
  injection e with e
  injection e with e1 e2 _
  subst e1 e2
  exact h2
theorem Zi.head {w : World} {A : Option Addr} {n : Int} {l : List Int} (h : Zi w A (n :: l)) : ∃ b o, A = some ⟨b, o, none⟩ ∧ b < w.heap.size ∧ w.cell? ⟨b, o, none⟩ = some (.int .i64 n) ∧ Zi w (some ⟨b, o + 1, none⟩) l := by
  rcases h with h | ⟨b, o, rfl, hb, hc⟩
  · simp [intE] at h
  · refine ⟨b, o, rfl, hb, ?_, .inr ⟨b, o + 1, rfl, hb, fun j u hj => ?_⟩⟩
    · exact hc 0 _ rfl
    · rw [show o + 1 + j = o + (j + 1) by omega]
      refine hc (j + 1) u ?_
      rw [List.flatMap_cons]
      show (Value.int .i64 n :: l.flatMap intE)[j + 1]? = _
      rw [List.getElem?_cons_succ]
      exact hj
theorem Zi.front {w : World} {A : Option Addr} {l m : List Int} (h : Zi w A (l ++ m)) : Zi w A l := by
  rcases h with h | ⟨b, o, rfl, hb, hc⟩
  · rw [List.flatMap_append] at h
    exact .inl (List.append_eq_nil_iff.1 h).1
  · refine .inr ⟨b, o, rfl, hb, fun j u hj => hc j u ?_⟩
    have hlt : j < (l.flatMap intE).length := by
      rcases Nat.lt_or_ge j (l.flatMap intE).length with h2 | h2
      · exact h2
      · rw [List.getElem?_eq_none h2] at hj; cases hj
    rw [List.flatMap_append, List.getElem?_append_left hlt]
    exact hj
theorem zs_of {w : World} {A : Option Addr} {l : List Int} (h : Ints w A l) : Zi w A l := by
  rcases h with rfl | ⟨b, o, rfl, hb, hc⟩
  · exact .inl rfl
  · refine .inr ⟨b, o, rfl, hb, fun j u hj => ?_⟩
    have hlen := flat_len intE 1 intE_len l
    have hlt : j < l.length := by
      rcases Nat.lt_or_ge j (l.flatMap intE).length with h2 | h2
      · omega
      · rw [List.getElem?_eq_none h2] at hj; cases hj
    have e := flat_get intE 1 intE_len l j _ 0 (getD_some l 0 hlt) (by omega)
    rw [Nat.mul_one, Nat.add_zero, hj] at e
    rw [hc j hlt]
    exact e.symm
theorem zs_cell {w : World} {g : Nat} {n : Int} (h : Row w g 3 #[.int .i64 n]) : Zi w (some ⟨g, 0, none⟩) [n] := At.row h
/-- The rest of a row behind its first number: where it is empty, its address does not matter. -/
theorem zs_rest {w : World} {b o c : Nat} {n : Int} {ta : List Int} (h : Zi w (some ⟨b, o + 1, none⟩) ta) (hc : (n :: ta).length ≤ c) : Zi w (if c = 1 then some ⟨b, o, none⟩ else some ⟨b, o + 1, none⟩) ta := by
  split
  · rename_i h1
    obtain rfl : ta = [] := List.eq_nil_of_length_eq_zero (by simp at hc; omega)
    exact Zi.nil _ _
  · exact h
def OwnZ (w : World) (base : Nat) (v : Value) (l : List Int) : Prop := w.ownsRow base 3 1 v l.length (l.flatMap intE)
section
variable {w w' : World} {base : Nat} {v : Value} {l : List Int}
theorem ownz_nil (w : World) (base : Nat) : OwnZ w base (.slice none 0 0) [] := ⟨rfl, .inl ⟨rfl, rfl⟩⟩
theorem ownz_below (h : OwnZ w base v l) (hb : Below w.heap.size w w') : OwnZ w' base v l := rows_below h hb
theorem ownz_lower {base' : Nat} (h : OwnZ w base v l) (hb : base' ≤ base) : OwnZ w base' v l := rows_lower h hb
theorem ownz_slice (h : OwnZ w base v l) : ∃ P c, v = .slice P l.length c ∧ l.length ≤ c ∧ Zi w P l ∧ ∀ ad, P = some ad → base ≤ ad.block := rows_slice h
theorem ownz_empty {g : Nat} (h : Row w g 3 #[]) (hb : base ≤ g) : OwnZ w base (.slice (some ⟨g, 0, none⟩) 0 0) [] :=
  ⟨by simp, .inr ⟨g, 0, #[], rfl, hb, h, Nat.le_refl _, by simp [maxLen], by simp, by simp⟩⟩
/-- A row that is not empty: where it stands, and that it may be written. -/
theorem ownz_form (h : OwnZ w base v l) (hl : 0 < l.length) : ∃ g cap, v = .slice (some ⟨g, 0, none⟩) l.length cap ∧ base ≤ g ∧ g < w.heap.size ∧ l.length ≤ cap ∧ (∀ i, w.frozen? ⟨g, i, none⟩ = false) ∧ ∀ i, i < l.length → w.cell? ⟨g, i, none⟩ = some (.int .i64 (l.getD i 0)) := by
  obtain ⟨P, c, hv, hlc, hP, hb⟩ := ownz_slice h
  rcases h.2 with ⟨rfl, h0⟩ | ⟨g, cap, cur, hv2, hg, hh, hnc, r⟩
  · omega
  · have hr : Row w g 3 cur := hh
    subst hv2
    injection hv with e1 _ e3
    subst e1
    refine ⟨g, cap, rfl, hg, hr.lt, hnc, fun i => hr.frozen i, fun i hi => ?_⟩
    have := Zi.cell hP hi
    rw [Nat.zero_add] at this
    exact this
theorem flat_set (l : List Int) : ∀ (i : Nat) (n : Int), (l.set i n).flatMap intE = (l.flatMap intE).set i (.int .i64 n) := by
  induction l with
  | nil => intro i n; rfl
  | cons x l ih =>
    intro i n
    cases i with
    | zero => rfl
    | succ i =>
      rw [List.set_cons_succ, List.flatMap_cons, ih, List.flatMap_cons]
      rfl
theorem ownz_set {g cap i : Nat} (h : OwnZ w base (.slice (some ⟨g, 0, none⟩) l.length cap) l) (hi : i < l.length) (n : Int) :
    OwnZ (w.setCell ⟨g, i, none⟩ (.int .i64 n)) base (.slice (some ⟨g, 0, none⟩) (l.set i n).length cap) (l.set i n) := by
  have hlen := flat_len intE 1 intE_len l
  rcases h.2 with ⟨e, _⟩ | ⟨g', cap', cur, e, hg, hh, hnc, hcm, hcs, htk⟩
  · cases e
  · injection e with e1 _ e3
    injection e1 with e1
    injection e1 with e1 _ _
    subst e1
    subst e3
    have hrow : Row w g 3 cur := hh
    have h2 : Row _ g 3 _ := hrow.setAt i (.int .i64 n)
    refine ⟨by rw [flat_len intE 1 intE_len], .inr ⟨g, cap, cur.setIfInBounds i (.int .i64 n), rfl, hg, h2, by rw [List.length_set]; exact hnc, hcm, by rw [Array.size_setIfInBounds]; exact hcs, ?_⟩⟩
    rw [List.length_set, Array.toList_setIfInBounds, List.take_set, htk, flat_set]
end
theorem zint_info : (Try.prog.info? 3).map (fun i => (i.zero, i.size, i.bytes)) = some (some (.int .i64 0), 1, 8) := by kernel_rfl
theorem int_one (l : List Int) : ∀ u ∈ l.flatMap intE, u.oneCell' = true := by
  intro u hu
  simp only [List.mem_flatMap, intE, List.mem_cons, List.not_mem_nil, or_false] at hu
  obtain ⟨x, _, rfl⟩ := hu
  rfl
theorem app_zs {w : World} {ops : Array Oper} {rest : List Oper} {o : Oper} {a : Act} {Q : Exit → Act → World → Prop} (hgd : o.guard = none) (s y : Operand)
    (ho : o.op = .call { callee := .builtin .append, args := #[s, y], argTypes := #[24, 24] })
    (base : Nat) (v : Value) (x : List Int) (hs : a.eval s = v) (hown : OwnZ w base v x) (A : Option Addr) (l : List Int) (c : Nat) (hy : a.eval y = .slice A l.length c) (hA : Zi w A l) (hn : (x.length + l.length) * 8 ≤ 140737488355328) (hbase : base ≤ w.heap.size)
    (h : ∀ v' w', OwnZ w' base v' (x ++ l) → Below base w w' → w.grownBy w' v.ownBlock → wpList Try.prog ops Q rest (a.put o.dst v') w') : wpList Try.prog ops Q (o :: rest) a w := by
  obtain ⟨i0, hi, hz0, hz1, hz2⟩ := info_parts zint_info
  refine wpList_app_at hgd s y 24 ho base 3 i0 _ 1 8 Try.underlying24 hi hz0 hz1 hz2 rfl (by omega) v x.length (x.flatMap intE) hs hown A l.length c (l.flatMap intE) hy (flat_len intE 1 intE_len l) hA (int_one l)
    (by simp only [maxLen]; omega) hn hbase ?_
  intro v' w' h1 h2 h3
  refine h v' w' ?_ h2 h3
  unfold OwnZ
  rw [List.flatMap_append, List.length_append]
  exact h1
section
variable {H : Type} {enc : TypeId × Value → H} {W : World} {base : Nat} {sp : Nat → Bool} {held : Bool}
theorem open_zs {fuel : Nat} {v : Value} {x : DataW H × List MemPlace} (hf : DataW.trod enc Try.prog W base sp held fuel 24 [v] = some x) :
    ∃ (A : Option Addr) (l : List Int) (c : Nat), v = .slice A l.length c ∧ Zi W A l ∧ l.length ≤ c ∧ c ≤ maxLen ∧
      ((x.1 = .nil ∧ l = []) ∨ ∃ elems spare, x.1 = .slice elems spare ∧ elems.length = l.length) := by
  obtain ⟨A, l, c, h1, h2, h3, h4, h5⟩ := open_i64s hf
  exact ⟨A, l, c, h1, zs_of h2, h3, h4, h5⟩
theorem reach_zs {ts : List TypeId} {ds : List (DataW H)} (hsz : (DataW.weightsEach Try.prog ts ds).all (· ≤ reachBytes) = true) {j : Nat} {d : DataW H} {l : List Int} (ht : ts[j]? = some 24) (hd : ds[j]? = some d)
    (h : (d = .nil ∧ l = []) ∨ ∃ elems spare, d = .slice elems spare ∧ elems.length = l.length) : l.length ≤ 17592186043904 := by
  rcases h with ⟨_, rfl⟩ | ⟨el, spr, rfl, hel⟩
  · simp
  · have := sized_slice hsz ht hd Try.underlying24
    have hb : Try.prog.bytesOf 3 = 8 := by kernel_rfl
    rw [hb] at this
    have hr : reachBytes = 140737488351232 := rfl
    rw [hr] at this
    omega
end
end Go.Proofs.Ytmgolnlkepiocaa

namespace Go.Proofs.Ytmgolnlkepiocaa
set_option linter.unusedVariables false

/-- What is told of numbers that stand behind a number: 0, or the error of the first one that is wrong. -/
def pchkF : Int → List Int → Int
  | _, [] => 0
  | last, n :: r => if n < 0 ∨ 1099511627776 < n then 2 else if n ≤ last then 13 else pchkF n r
def pchk (l : List Int) : Int := if 1024 < l.length then 3 else pchkF (-1) l
/-- Numbers that rise above a number, and not above the highest one. -/
def Up : Int → List Int → Prop
  | _, [] => True
  | last, n :: r => last < n ∧ n ≤ 1099511627776 ∧ Up n r
theorem Up.lower {l : List Int} {p q : Int} (h : Up p l) (hq : q ≤ p) : Up q l := by
  cases l with
  | nil => trivial
  | cons n r => exact ⟨Int.lt_of_le_of_lt hq h.1, h.2⟩
theorem Up.mem {l : List Int} : ∀ {p : Int}, Up p l → ∀ n, n ∈ l → p < n ∧ n ≤ 1099511627776 := by
  induction l with
  | nil => intro p _ n hn; cases hn
  | cons x r ih =>
    intro p h n hn
    rcases List.mem_cons.1 hn with rfl | hn
    · exact ⟨h.1, h.2.1⟩
    · have := ih h.2.2 n hn
      exact ⟨Int.lt_trans h.1 this.1, this.2⟩
theorem pchkF_zero (l : List Int) : ∀ p : Int, -1 ≤ p → (pchkF p l = 0 ↔ Up p l) := by
  induction l with
  | nil => intro p _; simp [pchkF, Up]
  | cons n r ih =>
    intro p hp
    rw [pchkF, Up]
    by_cases h1 : n < 0 ∨ 1099511627776 < n
    · rw [if_pos h1]
      exact ⟨fun h => absurd h (by decide), fun h => by omega⟩
    · rw [if_neg h1]
      by_cases h2 : n ≤ p
      · rw [if_pos h2]
        exact ⟨fun h => absurd h (by decide), fun h => by omega⟩
      · rw [if_neg h2, ih n (by omega)]
        exact ⟨fun h => ⟨by omega, by omega, h⟩, fun h => h.2.2⟩
theorem pchk_zero {l : List Int} : pchk l = 0 ↔ l.length ≤ 1024 ∧ Up (-1) l := by
  unfold pchk
  by_cases h : 1024 < l.length
  · rw [if_pos h]
    exact ⟨fun h => absurd h (by decide), fun h => by omega⟩
  · rw [if_neg h, pchkF_zero l (-1) (by omega)]
    exact ⟨fun k => ⟨by omega, k⟩, fun k => k.2⟩
/-- The number ahead of a place. -/
def ahead (l : List Int) (k : Nat) : Int := if k = 0 then -1 else l.getD (k - 1) 0
theorem ahead_succ (l : List Int) (k : Nat) : ahead l (k + 1) = l.getD k 0 := by simp [ahead]
theorem drop_cons (l : List Int) {k : Nat} (h : k < l.length) : l.drop k = l.getD k 0 :: l.drop (k + 1) := by
  rw [List.drop_eq_getElem_cons h, getD_in l 0 h]
theorem pchk_end (l : List Int) : pchkF (ahead l l.length) (l.drop l.length) = 0 := by simp [pchkF]
theorem pchk_arg (l : List Int) {k : Nat} (h : k < l.length) (hn : l.getD k 0 < 0 ∨ 1099511627776 < l.getD k 0) : pchkF (ahead l k) (l.drop k) = 2 := by
  rw [drop_cons l h, pchkF, if_pos hn]
theorem pchk_order (l : List Int) {k : Nat} (h : k < l.length) (hn : ¬ (l.getD k 0 < 0 ∨ 1099511627776 < l.getD k 0)) (hk : k ≠ 0) (ho : l.getD k 0 ≤ l.getD (k - 1) 0) : pchkF (ahead l k) (l.drop k) = 13 := by
  rw [drop_cons l h, pchkF, if_neg hn, ahead, if_neg hk, if_pos ho]
theorem pchk_next (l : List Int) {k : Nat} (h : k < l.length) (hn : ¬ (l.getD k 0 < 0 ∨ 1099511627776 < l.getD k 0)) (ho : k = 0 ∨ l.getD (k - 1) 0 < l.getD k 0) : pchkF (ahead l k) (l.drop k) = pchkF (ahead l (k + 1)) (l.drop (k + 1)) := by
  rw [drop_cons l h, pchkF, if_neg hn, ahead_succ, if_neg]
  unfold ahead
  split
  · omega
  · rcases ho with h0 | h0 <;> omega

/-- Two lists of the same numbers that rise are one. -/
theorem up_ext : ∀ {l m : List Int} {p q : Int}, Up p l → Up q m → (∀ n, n ∈ l ↔ n ∈ m) → l = m := by
  intro l
  induction l with
  | nil =>
    intro m p q _ _ h
    cases m with
    | nil => rfl
    | cons y m => exact absurd ((h y).2 (by simp)) (by simp)
  | cons x l ih =>
    intro m p q hl hm h
    cases m with
    | nil => exact absurd ((h x).1 (by simp)) (by simp)
    | cons y m =>
      have e : x = y := by
        rcases List.mem_cons.1 ((h x).1 (by simp)) with h1 | h1
        · exact h1
        · have a1 := (hm.2.2.mem x h1).1
          rcases List.mem_cons.1 ((h y).2 (by simp)) with h2 | h2
          · exact h2.symm
          · have a2 := (hl.2.2.mem y h2).1
            omega
      subst e
      rw [ih hl.2.2 hm.2.2]
      intro n
      constructor
      · intro hn
        have a1 := (hl.2.2.mem n hn).1
        rcases List.mem_cons.1 ((h n).1 (List.mem_cons_of_mem _ hn)) with h2 | h2
        · omega
        · exact h2
      · intro hn
        have a1 := (hm.2.2.mem n hn).1
        rcases List.mem_cons.1 ((h n).2 (List.mem_cons_of_mem _ hn)) with h2 | h2
        · omega
        · exact h2

/-- Two lists that are gone along, and whom to keep. -/
def keepIf (b : Bool) (n : Int) : List Int := if b = true then [n] else []
def mergeF (st : Bool → Bool → Bool) : List Int → List Int → List Int
  | [], [] => []
  | [], y :: b => keepIf (st false true) y ++ mergeF st [] b
  | x :: a, [] => keepIf (st true false) x ++ mergeF st a []
  | x :: a, y :: b => if x < y then keepIf (st true false) x ++ mergeF st a (y :: b) else if y < x then keepIf (st false true) y ++ mergeF st (x :: a) b else keepIf (st true true) x ++ mergeF st a b
termination_by a b => a.length + b.length
theorem keepIf_len (b : Bool) (n : Int) : (keepIf b n).length ≤ 1 := by unfold keepIf; split <;> simp
theorem mem_keepIf (b : Bool) (n m : Int) : m ∈ keepIf b n ↔ m = n ∧ b = true := by
  unfold keepIf
  split
  · rename_i h; simp [h]
  · rename_i h; simp [h]
theorem merge_nil (st : Bool → Bool → Bool) : mergeF st [] [] = [] := by rw [mergeF]
theorem merge_r (st : Bool → Bool → Bool) (y : Int) (b : List Int) : mergeF st [] (y :: b) = keepIf (st false true) y ++ mergeF st [] b := by rw [mergeF]
theorem merge_l (st : Bool → Bool → Bool) (x : Int) (a : List Int) : mergeF st (x :: a) [] = keepIf (st true false) x ++ mergeF st a [] := by rw [mergeF]
theorem merge_lt (st : Bool → Bool → Bool) {x y : Int} (a b : List Int) (h : x < y) : mergeF st (x :: a) (y :: b) = keepIf (st true false) x ++ mergeF st a (y :: b) := by rw [mergeF, if_pos h]
theorem merge_gt (st : Bool → Bool → Bool) {x y : Int} (a b : List Int) (h : y < x) : mergeF st (x :: a) (y :: b) = keepIf (st false true) y ++ mergeF st (x :: a) b := by rw [mergeF, if_neg (by omega), if_pos h]
theorem merge_eq (st : Bool → Bool → Bool) (x : Int) (a b : List Int) : mergeF st (x :: a) (x :: b) = keepIf (st true true) x ++ mergeF st a b := by rw [mergeF, if_neg (by omega), if_neg (by omega)]
theorem merge_len (st : Bool → Bool → Bool) : ∀ (k : Nat) (a b : List Int), a.length + b.length ≤ k → (mergeF st a b).length ≤ a.length + b.length := by
  intro k
  induction k with
  | zero =>
    intro a b h
    obtain rfl := List.eq_nil_of_length_eq_zero (l := a) (by omega)
    obtain rfl := List.eq_nil_of_length_eq_zero (l := b) (by omega)
    simp [merge_nil]
  | succ k ih =>
    intro a b h
    rcases a with _ | ⟨x, a⟩ <;> rcases b with _ | ⟨y, b⟩
    · simp [merge_nil]
    · rw [merge_r, List.length_append]
      have := ih [] b (by simp at h ⊢; omega)
      have := keepIf_len (st false true) y
      simp at *
      omega
    · rw [merge_l, List.length_append]
      have := ih a [] (by simp at h ⊢; omega)
      have := keepIf_len (st true false) x
      simp at *
      omega
    · rcases Int.lt_or_le x y with hxy | hxy
      · rw [merge_lt st a b hxy, List.length_append]
        have := ih a (y :: b) (by simp at h ⊢; omega)
        have := keepIf_len (st true false) x
        simp at *
        omega
      · rcases Int.lt_or_le y x with hyx | hyx
        · rw [merge_gt st a b hyx, List.length_append]
          have := ih (x :: a) b (by simp at h ⊢; omega)
          have := keepIf_len (st false true) y
          simp at *
          omega
        · obtain rfl : x = y := by omega
          rw [merge_eq, List.length_append]
          have := ih a b (by simp at h ⊢; omega)
          have := keepIf_len (st true true) x
          simp at *
          omega
theorem up_keep {b : Bool} {p n : Int} {l : List Int} (h1 : p < n) (h2 : n ≤ 1099511627776) (h : Up n l) : Up p (keepIf b n ++ l) := by
  unfold keepIf
  split
  · exact ⟨h1, h2, h⟩
  · exact h.lower (by omega)
/-- What stays rises, and is just what is to stay. -/
theorem merge_up (st : Bool → Bool → Bool) : ∀ (k : Nat) (a b : List Int) (p : Int), a.length + b.length ≤ k → Up p a → Up p b → Up p (mergeF st a b) := by
  intro k
  induction k with
  | zero =>
    intro a b p h _ _
    obtain rfl := List.eq_nil_of_length_eq_zero (l := a) (by omega)
    obtain rfl := List.eq_nil_of_length_eq_zero (l := b) (by omega)
    rw [merge_nil]
    trivial
  | succ k ih =>
    intro a b p h ha hb
    rcases a with _ | ⟨x, a⟩ <;> rcases b with _ | ⟨y, b⟩
    · rw [merge_nil]; trivial
    · rw [merge_r]
      exact up_keep hb.1 hb.2.1 (ih [] b y (by simp at h ⊢; omega) trivial hb.2.2)
    · rw [merge_l]
      exact up_keep ha.1 ha.2.1 (ih a [] x (by simp at h ⊢; omega) ha.2.2 trivial)
    · rcases Int.lt_or_le x y with hxy | hxy
      · rw [merge_lt st a b hxy]
        exact up_keep ha.1 ha.2.1 (ih a (y :: b) x (by simp at h ⊢; omega) ha.2.2 ⟨hxy, hb.2⟩)
      · rcases Int.lt_or_le y x with hyx | hyx
        · rw [merge_gt st a b hyx]
          exact up_keep hb.1 hb.2.1 (ih (x :: a) b y (by simp at h ⊢; omega) ⟨hyx, ha.2⟩ hb.2.2)
        · obtain rfl : x = y := by omega
          rw [merge_eq]
          exact up_keep ha.1 ha.2.1 (ih a b x (by simp at h ⊢; omega) ha.2.2 hb.2.2)
theorem notin_up {n p : Int} {l : List Int} (h : Up p l) (hn : n ≤ p) : n ∉ l := fun hm => by have := (h.mem n hm).1; omega
theorem dec_cons {n x : Int} (h : n ≠ x) (l : List Int) : decide (n ∈ x :: l) = decide (n ∈ l) := by simp [h]
theorem merge_mem (st : Bool → Bool → Bool) : ∀ (k : Nat) (a b : List Int) (p : Int), a.length + b.length ≤ k → Up p a → Up p b →
    ∀ n, n ∈ mergeF st a b ↔ (n ∈ a ∨ n ∈ b) ∧ st (decide (n ∈ a)) (decide (n ∈ b)) = true := by
  intro k
  induction k with
  | zero =>
    intro a b p h _ _ n
    obtain rfl := List.eq_nil_of_length_eq_zero (l := a) (by omega)
    obtain rfl := List.eq_nil_of_length_eq_zero (l := b) (by omega)
    simp [merge_nil]
  | succ k ih =>
    intro a b p h ha hb n
    rcases a with _ | ⟨x, a⟩ <;> rcases b with _ | ⟨y, b⟩
    · simp [merge_nil]
    · rw [merge_r, List.mem_append, mem_keepIf, ih [] b y (by simp at h ⊢; omega) trivial hb.2.2]
      by_cases e : n = y
      · subst e
        have := notin_up hb.2.2 (Int.le_refl n)
        simp [this]
      · rw [dec_cons e]; simp [e]
    · rw [merge_l, List.mem_append, mem_keepIf, ih a [] x (by simp at h ⊢; omega) ha.2.2 trivial]
      by_cases e : n = x
      · subst e
        have := notin_up ha.2.2 (Int.le_refl n)
        simp [this]
      · rw [dec_cons e]; simp [e]
    · rcases Int.lt_or_le x y with hxy | hxy
      · rw [merge_lt st a b hxy, List.mem_append, mem_keepIf, ih a (y :: b) x (by simp at h ⊢; omega) ha.2.2 ⟨hxy, hb.2⟩]
        by_cases e : n = x
        · subst e
          have h1 := notin_up ha.2.2 (Int.le_refl n)
          have h2 : n ∉ y :: b := notin_up (l := y :: b) (p := n) ⟨hxy, hb.2⟩ (Int.le_refl n)
          simp [h1]
          simp at h2
          simp [h2]
        · rw [dec_cons e a]; simp [e]
      · rcases Int.lt_or_le y x with hyx | hyx
        · rw [merge_gt st a b hyx, List.mem_append, mem_keepIf, ih (x :: a) b y (by simp at h ⊢; omega) ⟨hyx, ha.2⟩ hb.2.2]
          by_cases e : n = y
          · subst e
            have h1 := notin_up hb.2.2 (Int.le_refl n)
            have h2 : n ∉ x :: a := notin_up (l := x :: a) (p := n) ⟨hyx, ha.2⟩ (Int.le_refl n)
            simp at h2
            simp [h1, h2]
          · rw [dec_cons e b]; simp [e]
        · obtain rfl : x = y := by omega
          rw [merge_eq, List.mem_append, mem_keepIf, ih a b x (by simp at h ⊢; omega) ha.2.2 hb.2.2]
          by_cases e : n = x
          · subst e
            have h1 := notin_up ha.2.2 (Int.le_refl n)
            have h2 := notin_up hb.2.2 (Int.le_refl n)
            simp [h1, h2]
          · rw [dec_cons e a, dec_cons e b]; simp [e]

/-- The three of the document. -/
def bothL (a b : List Int) : List Int := mergeF (fun p q => p && q) a b
def eitherL (a b : List Int) : List Int := mergeF (fun p q => p || q) a b
def lessL (a b : List Int) : List Int := mergeF (fun p q => p && !q) a b
theorem merge_up' {st : Bool → Bool → Bool} {a b : List Int} {p : Int} (ha : Up p a) (hb : Up p b) : Up p (mergeF st a b) := merge_up st _ a b p (Nat.le_refl _) ha hb
theorem both_mem {a b : List Int} {p : Int} (ha : Up p a) (hb : Up p b) (n : Int) : n ∈ bothL a b ↔ n ∈ a ∧ n ∈ b := by
  unfold bothL
  rw [merge_mem _ _ a b p (Nat.le_refl _) ha hb]
  simp
  intro h1 h2
  exact .inl h1
theorem either_mem {a b : List Int} {p : Int} (ha : Up p a) (hb : Up p b) (n : Int) : n ∈ eitherL a b ↔ n ∈ a ∨ n ∈ b := by
  unfold eitherL
  rw [merge_mem _ _ a b p (Nat.le_refl _) ha hb]
  simp
theorem less_mem {a b : List Int} {p : Int} (ha : Up p a) (hb : Up p b) (n : Int) : n ∈ lessL a b ↔ n ∈ a ∧ n ∉ b := by
  unfold lessL
  rw [merge_mem _ _ a b p (Nat.le_refl _) ha hb]
  simp
  intro h1 h2
  exact .inl h1
theorem up_filter (f : Int → Bool) : ∀ {l : List Int} {p : Int}, Up p l → Up p (l.filter f) := by
  intro l
  induction l with
  | nil => intro p h; exact h
  | cons x l ih =>
    intro p h
    rw [List.filter_cons]
    split
    · exact ⟨h.1, h.2.1, ih h.2.2⟩
    · exact (ih h.2.2).lower (by have := h.1; omega)
/-- Those of a list that are in another one, or are not. -/
def pickL (a b : List Int) (s : Bool) : List Int := a.filter fun n => decide (n ∈ b) == s
theorem both_pick {a b : List Int} {p : Int} (ha : Up p a) (hb : Up p b) : bothL a b = pickL a b true := by
  refine up_ext (p := p) (q := p) (merge_up' ha hb) (up_filter _ ha) fun n => ?_
  rw [both_mem ha hb]
  simp [pickL]
theorem less_pick {a b : List Int} {p : Int} (ha : Up p a) (hb : Up p b) : lessL a b = pickL a b false := by
  refine up_ext (p := p) (q := p) (merge_up' ha hb) (up_filter _ ha) fun n => ?_
  rw [less_mem ha hb]
  simp [pickL]
/-- Two lists laid into one another, as the document's answer does it. -/
def layF : List Int → List Int → List Int
  | [], r => r
  | x :: a, [] => x :: layF a []
  | x :: a, y :: r => if y < x then y :: layF (x :: a) r else x :: layF a (y :: r)
termination_by a b => a.length + b.length
theorem lay_nil (r : List Int) : layF [] r = r := by rw [layF]
theorem lay_end (x : Int) (a : List Int) : layF (x :: a) [] = x :: layF a [] := by rw [layF]
theorem lay_lt {x y : Int} (a r : List Int) (h : y < x) : layF (x :: a) (y :: r) = y :: layF (x :: a) r := by rw [layF, if_pos h]
theorem lay_ge {x y : Int} (a r : List Int) (h : ¬ y < x) : layF (x :: a) (y :: r) = x :: layF a (y :: r) := by rw [layF, if_neg h]
theorem lay_merge : ∀ (k : Nat) (a r : List Int), a.length + r.length ≤ k → (∀ n, n ∈ a → n ∉ r) → layF a r = eitherL a r := by
  intro k
  induction k with
  | zero =>
    intro a r h _
    obtain rfl := List.eq_nil_of_length_eq_zero (l := a) (by omega)
    obtain rfl := List.eq_nil_of_length_eq_zero (l := r) (by omega)
    rw [lay_nil, eitherL, merge_nil]
  | succ k ih =>
    intro a r h hd
    rcases a with _ | ⟨x, a⟩ <;> rcases r with _ | ⟨y, r⟩
    · rw [lay_nil, eitherL, merge_nil]
    · rw [eitherL, merge_r]
      have := ih [] r (by simp at h ⊢; omega) (fun n hn => by cases hn)
      rw [lay_nil, eitherL] at this
      rw [← this, lay_nil]
      simp [keepIf]
    · rw [lay_end, eitherL, merge_l, ih a [] (by simp at h ⊢; omega) (fun n _ => by simp)]
      simp [keepIf, eitherL]
    · have hxy : x ≠ y := fun e => hd x (by simp) (by simp [e])
      by_cases h1 : y < x
      · rw [lay_lt a r h1, eitherL, merge_gt _ a r h1, ih (x :: a) r (by simp at h ⊢; omega) (fun n hn hr => hd n hn (List.mem_cons_of_mem _ hr))]
        simp [keepIf, eitherL]
      · rw [lay_ge a r h1, eitherL, merge_lt _ a r (by omega), ih a (y :: r) (by simp at h ⊢; omega) (fun n hn => hd n (List.mem_cons_of_mem _ hn))]
        simp [keepIf, eitherL]
theorem either_lay {a b : List Int} {p : Int} (ha : Up p a) (hb : Up p b) : eitherL a b = layF a (pickL b a false) := by
  have hf : Up p (pickL b a false) := up_filter _ hb
  rw [lay_merge _ a (pickL b a false) (Nat.le_refl _) (fun n hn => by simp [pickL, hn])]
  refine up_ext (p := p) (q := p) (merge_up' ha hb) (merge_up' ha hf) fun n => ?_
  show n ∈ eitherL a b ↔ n ∈ eitherL a _
  rw [either_mem ha hb, either_mem ha hf]
  by_cases hn : n ∈ a <;> simp [pickL, hn]
theorem both_turn {a b : List Int} {p : Int} (ha : Up p a) (hb : Up p b) : bothL a b = bothL b a :=
  up_ext (p := p) (q := p) (merge_up' ha hb) (merge_up' hb ha) fun n => by rw [both_mem ha hb, both_mem hb ha]; exact And.comm
theorem either_turn {a b : List Int} {p : Int} (ha : Up p a) (hb : Up p b) : eitherL a b = eitherL b a :=
  up_ext (p := p) (q := p) (merge_up' ha hb) (merge_up' hb ha) fun n => by rw [either_mem ha hb, either_mem hb ha]; exact Or.comm
theorem parts_whole {a b : List Int} {p : Int} (ha : Up p a) (hb : Up p b) : eitherL (bothL a b) (lessL a b) = a := by
  have h1 : Up p (bothL a b) := merge_up' ha hb
  have h2 : Up p (lessL a b) := merge_up' ha hb
  refine up_ext (p := p) (q := p) (merge_up' h1 h2) ha fun n => ?_
  show n ∈ eitherL _ _ ↔ _
  rw [either_mem h1 h2, both_mem ha hb, less_mem ha hb]
  by_cases hn : n ∈ b <;> simp [hn]
theorem pick_len (a b : List Int) (s : Bool) : (pickL a b s).length ≤ a.length := List.length_filter_le _ _
theorem both_len {a b : List Int} {p : Int} (ha : Up p a) (hb : Up p b) : (bothL a b).length ≤ a.length := by rw [both_pick ha hb]; exact pick_len _ _ _
theorem less_len {a b : List Int} {p : Int} (ha : Up p a) (hb : Up p b) : (lessL a b).length ≤ a.length := by rw [less_pick ha hb]; exact pick_len _ _ _
theorem pchk_both {a b : List Int} (ha : pchk a = 0) (hb : pchk b = 0) : pchk (bothL a b) = 0 := by
  obtain ⟨h1, h2⟩ := pchk_zero.1 ha
  obtain ⟨h3, h4⟩ := pchk_zero.1 hb
  exact pchk_zero.2 ⟨Nat.le_trans (both_len h2 h4) h1, merge_up' h2 h4⟩
theorem pchk_less {a b : List Int} (ha : pchk a = 0) (hb : pchk b = 0) : pchk (lessL a b) = 0 := by
  obtain ⟨h1, h2⟩ := pchk_zero.1 ha
  obtain ⟨h3, h4⟩ := pchk_zero.1 hb
  exact pchk_zero.2 ⟨Nat.le_trans (less_len h2 h4) h1, merge_up' h2 h4⟩
end Go.Proofs.Ytmgolnlkepiocaa

namespace Go.Proofs.Ytmgolnlkepiocaa
set_option linter.unusedVariables false

/-- Numbers as bytes: of each how much it is above the one ahead. -/
def riseF : Int → List Int → List UInt8
  | _, [] => []
  | last, n :: r => uintL (n - last).toNat ++ riseF n r
def postL (l : List Int) : List UInt8 := uintL l.length ++ riseF 0 l
/-- The number that a list goes on from at a place. -/
def before (l : List Int) (k : Nat) : Int := if k = 0 then 0 else l.getD (k - 1) 0
theorem before_succ (l : List Int) (k : Nat) : before l (k + 1) = l.getD k 0 := by simp [before]
theorem rise_next (l : List Int) {k : Nat} (h : k < l.length) : riseF (before l k) (l.drop k) = uintL (l.getD k 0 - before l k).toNat ++ riseF (before l (k + 1)) (l.drop (k + 1)) := by
  rw [drop_cons l h, riseF, before_succ]
theorem up_at : ∀ (l : List Int) (p : Int) (k : Nat), Up p l → k < l.length → p < l.getD k 0 ∧ l.getD k 0 ≤ 1099511627776 ∧ (0 < k → l.getD (k - 1) 0 < l.getD k 0) := by
  intro l
  induction l with
  | nil => intro p k _ h; simp at h
  | cons x l ih =>
    intro p k h hk
    cases k with
    | zero => exact ⟨h.1, h.2.1, fun h0 => absurd h0 (by omega)⟩
    | succ k =>
      have h1 := ih x k h.2.2 (by simpa using hk)
      have e : (x :: l).getD (k + 1) 0 = l.getD k 0 := by simp
      rw [e]
      refine ⟨by have := h.1; omega, h1.2.1, fun _ => ?_⟩
      rw [Nat.add_sub_cancel]
      cases k with
      | zero => exact h1.1
      | succ k =>
        have := h1.2.2 (by omega)
        simpa using this
theorem rise_at {l : List Int} (h : pchk l = 0) {k : Nat} (hk : k < l.length) : 0 ≤ before l k ∧ before l k ≤ l.getD k 0 ∧ l.getD k 0 ≤ 1099511627776 := by
  obtain ⟨_, hu⟩ := pchk_zero.1 h
  have h1 := up_at l (-1) k hu hk
  unfold before
  split
  · omega
  · have h2 := up_at l (-1) (k - 1) hu (by omega)
    have h3 := h1.2.2 (by omega)
    omega
theorem before_rng {l : List Int} (h : pchk l = 0) {k : Nat} (hk : k ≤ l.length) : 0 ≤ before l k ∧ before l k ≤ 1099511627776 := by
  unfold before
  split
  · omega
  · have h1 := up_at l (-1) (k - 1) (pchk_zero.1 h).2 (by omega)
    omega
theorem riseF_len (l : List Int) : ∀ p : Int, 0 ≤ p → Up (p - 1) l → (riseF p l).length ≤ 9 * l.length := by
  induction l with
  | nil => intro p _ _; simp [riseF]
  | cons n r ih =>
    intro p h0 h
    rw [riseF, List.length_append, List.length_cons]
    have h1 := uintL_9 (n := (n - p).toNat) (by have := h.2.1; omega)
    have h2 := ih n (by have := h.1; omega) (h.2.2.lower (by omega))
    omega
theorem postL_len {l : List Int} (h : pchk l = 0) : (postL l).length ≤ 9225 := by
  obtain ⟨h1, h2⟩ := pchk_zero.1 h
  unfold postL
  rw [List.length_append]
  have h3 := uintL_9 (n := l.length) (by omega)
  have h4 := riseF_len l 0 (by omega) (h2.lower (by omega))
  omega
theorem postL_pos (l : List Int) : 0 < (postL l).length := by
  unfold postL
  rw [List.length_append]
  have := uintL_pos l.length
  omega

/-- What is read as so many numbers at a place, behind a number (which is the first of all or not): the numbers, the place behind them, and which error. -/
inductive PR (b : List UInt8) : Nat → Bool → Nat → Nat → List Int → Nat → Nat → Prop
  | done (f : Bool) (last a : Nat) : PR b 0 f last a [] a 0
  | bad (k : Nat) (f : Bool) (last a d nx e : Nat) (h : GU b a d nx e) (he : e ≠ 0) : PR b (k + 1) f last a [] 0 e
  | wrong (k : Nat) (f : Bool) (last a d nx : Nat) (h : GU b a d nx 0) (hw : 1099511627776 < last + d ∨ (f = false ∧ d = 0)) : PR b (k + 1) f last a [] 0 5
  | more (k : Nat) (f : Bool) (last a d nx : Nat) (ls : List Int) (p e : Nat) (h : GU b a d nx 0) (hd : last + d ≤ 1099511627776) (hf : f = true ∨ d ≠ 0) (r : PR b k false (last + d) nx ls p e) :
      PR b (k + 1) f last a (((last + d : Nat) : Int) :: ls) p e
theorem gu_behind {l : List UInt8} {a n nx : Nat} (h : GU l a n nx 0) : a < nx ∧ nx ≤ l.length ∧ n < 9223372036854775808 := by
  generalize he : (0 : Nat) = e at h
  cases h with
  | short k hk hc he' => cases he
  | nought k hk h0 hc he' hz => cases he
  | long he' hc => cases he
  | ok k hk hc he' hl hz =>
    have := digN_lt l a (k + 1)
    have h2 : 128 ^ (k + 1) ≤ 128 ^ 9 := Nat.pow_le_pow_right (by omega) (by omega)
    exact ⟨by omega, by omega, by omega⟩
theorem pr_total (b : List UInt8) : ∀ (k : Nat) (f : Bool) (last a : Nat), a ≤ b.length → ∃ ls p e, PR b k f last a ls p e := by
  intro k
  induction k with
  | zero => intro f last a _; exact ⟨_, _, _, .done f last a⟩
  | succ k ih =>
    intro f last a ha
    obtain ⟨d, nx, e, h⟩ := gu_total b a ha
    by_cases he : e = 0
    · subst he
      by_cases hw : 1099511627776 < last + d ∨ (f = false ∧ d = 0)
      · exact ⟨_, _, _, .wrong k f last a d nx h hw⟩
      · obtain ⟨ls, p, e, r⟩ := ih false (last + d) nx (gu_behind h).2.1
        refine ⟨_, _, _, .more k f last a d nx ls p e h (by omega) ?_ r⟩
        cases f
        · exact .inr (fun h => hw (.inr ⟨rfl, h⟩))
        · exact .inl rfl
    · exact ⟨_, _, _, .bad k f last a d nx e h he⟩
theorem pr_err {b : List UInt8} {k : Nat} {f : Bool} {last a : Nat} {ls : List Int} {p e : Nat} (h : PR b k f last a ls p e) : (e ≠ 0 → p = 0) ∧ ls.length ≤ k ∧ (a ≤ b.length → p ≤ b.length) := by
  induction h with
  | done f last a => exact ⟨fun h => absurd rfl h, by simp, fun h => h⟩
  | bad k f last a d nx e h he => exact ⟨fun _ => rfl, by simp, fun _ => Nat.zero_le _⟩
  | wrong k f last a d nx h hw => exact ⟨fun _ => rfl, by simp, fun _ => Nat.zero_le _⟩
  | more k f last a d nx ls p e h hd hf r ih => exact ⟨ih.1, by rw [List.length_cons]; omega, fun _ => ih.2.2 (gu_behind h).2.1⟩
/-- What is read is a list, and its bytes stand there. -/
theorem pr_list {b : List UInt8} {k : Nat} {f : Bool} {last a : Nat} {ls : List Int} {p e : Nat} (h : PR b k f last a ls p e) (he : e = 0) :
    ls.length = k ∧ Up ((last : Int) - (if f = true then 1 else 0)) ls ∧ a ≤ p ∧ riseF last ls = (b.drop a).take (p - a) := by
  induction h with
  | done f last a => exact ⟨rfl, trivial, Nat.le_refl _, by simp [riseF]⟩
  | bad k f last a d nx e h he' => exact absurd he he'
  | wrong k f last a d nx h hw => exact absurd he (by decide)
  | more k f last a d nx ls p e h hd hf r ih =>
    obtain ⟨h1, h2, h3, h4⟩ := ih he
    obtain ⟨g1, g2, g3⟩ := gu_behind h
    obtain ⟨u1, u2⟩ := gu_bytes h
    refine ⟨by rw [List.length_cons, h1], ⟨?_, by omega, by simpa using h2⟩, by omega, ?_⟩
    · cases f
      · have : d ≠ 0 := by rcases hf with h | h; cases h; exact h
        simp
        omega
      · simp
        omega
    · rw [riseF, show (((last + d : Nat) : Int) - (last : Int)).toNat = d from by omega, u1, h4]
      have e1 : b.drop nx = (b.drop a).drop (nx - a) := by rw [List.drop_drop]; congr 1; omega
      rw [e1, ← List.take_add]
      congr 1
      omega
/-- What was laid down is read. -/
theorem pr_of : ∀ (ls : List Int) (f : Bool) (last : Nat) (pre more : List UInt8), Up ((last : Int) - (if f = true then 1 else 0)) ls →
    PR (pre ++ riseF last ls ++ more) ls.length f last pre.length ls (pre.length + (riseF last ls).length) 0 := by
  intro ls
  induction ls with
  | nil => intro f last pre more _; exact PR.done f last pre.length
  | cons n ls ih =>
    intro f last pre more h
    obtain ⟨h1, h2, h3⟩ := h
    have h0 : (last : Int) ≤ n := by split at h1 <;> omega
    obtain ⟨d, hd⟩ : ∃ d : Nat, n = ((last + d : Nat) : Int) := ⟨(n - last).toNat, by omega⟩
    subst hd
    have e0 : (((last + d : Nat) : Int) - (last : Int)).toNat = d := by omega
    have er : riseF last (((last + d : Nat) : Int) :: ls) = uintL d ++ riseF ((last + d : Nat) : Int) ls := by rw [riseF, e0]
    rw [er]
    have hg := gu_of pre (riseF ((last + d : Nat) : Int) ls ++ more) d (by omega)
    have hr := ih false (last + d) (pre ++ uintL d) more (by simpa using h3)
    have eb : pre ++ uintL d ++ riseF ((last + d : Nat) : Int) ls ++ more = pre ++ (uintL d ++ riseF ((last + d : Nat) : Int) ls) ++ more := by simp
    have eb2 : pre ++ uintL d ++ (riseF ((last + d : Nat) : Int) ls ++ more) = pre ++ (uintL d ++ riseF ((last + d : Nat) : Int) ls) ++ more := by simp
    rw [eb] at hr
    rw [eb2] at hg
    rw [List.length_append] at hr
    have := PR.more (b := pre ++ (uintL d ++ riseF ((last + d : Nat) : Int) ls) ++ more) ls.length f last pre.length d (pre.length + (uintL d).length) ls _ 0 hg (by omega) (by
      cases f
      · right; intro hz; subst hz; simp at h1
      · exact .inl rfl) hr
    rw [List.length_append, ← Nat.add_assoc]
    exact this

/-- What is read as a list at a place. -/
inductive PX (b : List UInt8) (a : Nat) : List Int → Nat → Nat → Prop
  | no (n nx e : Nat) (h : GU b a n nx e) (he : e ≠ 0) : PX b a [] 0 e
  | big (n nx : Nat) (h : GU b a n nx 0) (hn : 1024 < n) : PX b a [] 0 3
  | bad (n nx : Nat) (ls : List Int) (p e : Nat) (h : GU b a n nx 0) (hn : n ≤ 1024) (r : PR b n true 0 nx ls p e) (he : e ≠ 0) : PX b a [] 0 e
  | ok (n nx : Nat) (ls : List Int) (p : Nat) (h : GU b a n nx 0) (hn : n ≤ 1024) (r : PR b n true 0 nx ls p 0) : PX b a ls p 0
theorem px_total (b : List UInt8) (a : Nat) (ha : a ≤ b.length) : ∃ ls p e, PX b a ls p e := by
  obtain ⟨n, nx, e, h⟩ := gu_total b a ha
  by_cases he : e = 0
  · subst he
    by_cases hn : n ≤ 1024
    · obtain ⟨ls, p, e, r⟩ := pr_total b n true 0 nx (gu_behind h).2.1
      by_cases he : e = 0
      · subst he
        exact ⟨_, _, _, .ok n nx ls p h hn r⟩
      · exact ⟨_, _, _, .bad n nx ls p e h hn r he⟩
    · exact ⟨_, _, _, .big n nx h (by omega)⟩
  · exact ⟨_, _, _, .no n nx e h he⟩
theorem px_list {b : List UInt8} {a : Nat} {ls : List Int} {p : Nat} (h : PX b a ls p 0) : pchk ls = 0 ∧ a ≤ p ∧ p ≤ b.length ∧ postL ls = (b.drop a).take (p - a) := by
  generalize he : (0 : Nat) = e at h
  cases h with
  | no n nx e h he' => exact absurd he.symm he'
  | big n nx h hn => cases he
  | bad n nx ls' p' e h hn r he' => exact absurd he.symm he'
  | ok n nx ls p h hn r =>
    obtain ⟨h1, h2, h3, h4⟩ := pr_list r rfl
    obtain ⟨g1, g2, g3⟩ := gu_behind h
    obtain ⟨u1, u2⟩ := gu_bytes h
    refine ⟨pchk_zero.2 ⟨by omega, by simpa using h2⟩, by omega, (pr_err r).2.2 g2, ?_⟩
    unfold postL
    rw [h1, u1]
    have h4' : riseF 0 ls = (b.drop nx).take (p - nx) := by simpa using h4
    rw [h4']
    have e1 : b.drop nx = (b.drop a).drop (nx - a) := by rw [List.drop_drop]; congr 1; omega
    rw [e1, ← List.take_add]
    congr 1
    omega
theorem px_err {b : List UInt8} {a : Nat} {ls : List Int} {p e : Nat} (h : PX b a ls p e) : (e ≠ 0 → ls = [] ∧ p = 0) ∧ ls.length ≤ 1024 := by
  cases h with
  | no n nx e h he => exact ⟨fun _ => ⟨rfl, rfl⟩, by simp⟩
  | big n nx h hn => exact ⟨fun _ => ⟨rfl, rfl⟩, by simp⟩
  | bad n nx ls' p' e h hn r he => exact ⟨fun _ => ⟨rfl, rfl⟩, by simp⟩
  | ok n nx ls p h hn r => exact ⟨fun h => absurd rfl h, by have := (pr_err r).2.1; omega⟩
theorem px_of (ls : List Int) (h : pchk ls = 0) (pre more : List UInt8) : PX (pre ++ postL ls ++ more) pre.length ls (pre.length + (postL ls).length) 0 := by
  obtain ⟨h1, h2⟩ := pchk_zero.1 h
  have hg := gu_of pre (riseF 0 ls ++ more) ls.length (by omega)
  have hr := pr_of ls true 0 (pre ++ uintL ls.length) more (by simpa using h2)
  have e1 : pre ++ uintL ls.length ++ (riseF 0 ls ++ more) = pre ++ postL ls ++ more := by simp [postL]
  have e2 : pre ++ uintL ls.length ++ riseF 0 ls ++ more = pre ++ postL ls ++ more := by simp [postL]
  have e3 : ((0 : Nat) : Int) = 0 := rfl
  rw [e3] at hr
  rw [e1] at hg
  rw [e2, List.length_append] at hr
  have := PX.ok _ _ ls _ hg h1 hr
  have e4 : pre.length + (postL ls).length = pre.length + (uintL ls.length).length + (riseF 0 ls).length := by simp [postL]; omega
  rw [e4]
  exact this
end Go.Proofs.Ytmgolnlkepiocaa

namespace Go.Proofs.Ytmgolnlkepiocaa
open Go.RowKit Go.Maps
set_option linter.unusedVariables false

theorem po_ret_int {a b : Int} (h : a = b) : Ending.returned (.int .i64 a) = .returned (.int .i64 b) := by rw [h]
theorem po_check_prog (A : Option Addr) (l : List Int) (c : Nat) (w : World) (hA : Zi w A l) (hl : l.length ≤ 281474976710656) :
    Calls Try.prog 59 #[.slice A l.length c] w fun e w' => e = .returned (.int .i64 (pchk l)) ∧ w = w' := by
  have HA := Lib.hid hA
  clear hA
  by_cases hb : 1024 < l.length
  · have i1 : decide ((1024 : Int) < (l.length : Int)) = true := by simp; omega
    have HE := Lib.hid (show pchk l = 3 by unfold pchk; rw [if_pos hb])
    clear hb
    go_enter Try.func59, Try.ntmps59
    go_wp2_with fail
    go_ret
    exact ⟨po_ret_int HE.out.symm, rfl⟩
  · have i1 : decide ((1024 : Int) < (l.length : Int)) = false := by simp; omega
    have HE := Lib.hid (show pchkF (ahead l 0) (l.drop 0) = pchk l by unfold pchk; rw [if_neg hb]; rfl)
    clear hb
    go_enter Try.func59, Try.ntmps59
    go_wp2_with fail
    go_loop [10] (fun i => ∃ k : Nat, k ≤ l.length ∧ i = .int .i64 (k : Int) ∧ pchkF (ahead l k) (l.drop k) = pchk l) (fun i => l.length - (intOf i).toNat)
    case atStart => exact ⟨0, Nat.zero_le _, rfl, HE.out⟩
    case round =>
      obtain ⟨k, hk, rfl, he⟩ := hrel
      by_cases hlt : k < l.length
      · obtain ⟨b, o, rfl, hbl, g0⟩ := HA.out.at_ hlt
        have i2 : (k : Int) < (l.length : Int) := by omega
        by_cases h1 : l.getD k 0 < 0 ∨ 1099511627776 < l.getD k 0
        · have HR := Lib.hid ((pchk_arg l hlt h1).symm.trans he)
          generalize l.getD k 0 = n at *
          by_cases h0 : n < 0
          · have j1 : decide (n < (0 : Int)) = true := decide_eq_true h0
            clear he h1 h0
            go_wp2_with fail
            go_ret
            exact ⟨po_ret_int HR.out, rfl⟩
          · have j1 : decide (n < (0 : Int)) = false := decide_eq_false h0
            have j2 : decide ((1099511627776 : Int) < n) = true := decide_eq_true (by omega)
            clear he h1 h0
            go_wp2_with fail
            go_ret
            exact ⟨po_ret_int HR.out, rfl⟩
        · have j1 : decide (l.getD k 0 < (0 : Int)) = false := decide_eq_false (by omega)
          have j2 : decide ((1099511627776 : Int) < l.getD k 0) = false := decide_eq_false (by omega)
          by_cases hk0 : k = 0
          · have HN := Lib.hid ((pchk_next l hlt h1 (.inl hk0)).symm.trans he)
            subst hk0
            have g1 : w.cell? ⟨b, o, none⟩ = some (.int .i64 (l.getD 0 0)) := g0
            have i3 : (0 : Int) < (l.length : Int) := i2
            clear he h1 g0 i2
            generalize l.getD 0 0 = n at *
            go_wp2_with fail
            exact ⟨⟨1, by omega, by go_num, HN.out⟩, by simp [intOf]; omega⟩
          · have g1 := HA.out.cell (i := k - 1) (by omega)
            have i3 : (1 : Int) ≤ (k : Int) := by omega
            have i4 : decide ((0 : Int) < (k : Int)) = true := decide_eq_true (by omega)
            by_cases ho : l.getD k 0 ≤ l.getD (k - 1) 0
            · have HR := Lib.hid ((pchk_order l hlt h1 hk0 ho).symm.trans he)
              have j3 : decide (l.getD k 0 ≤ l.getD (k - 1) 0) = true := decide_eq_true ho
              clear he h1 ho
              generalize l.getD k 0 = n at *
              generalize l.getD (k - 1) 0 = m at *
              go_wp2_with fail
              go_ret
              exact ⟨po_ret_int HR.out, rfl⟩
            · have HN := Lib.hid ((pchk_next l hlt h1 (.inr (by omega))).symm.trans he)
              have j3 : decide (l.getD k 0 ≤ l.getD (k - 1) 0) = false := decide_eq_false ho
              clear he h1 ho
              generalize l.getD k 0 = n at *
              generalize l.getD (k - 1) 0 = m at *
              go_wp2_with fail
              exact ⟨⟨k + 1, by omega, by go_num, HN.out⟩, by simp [intOf]; omega⟩
      · obtain rfl : k = l.length := by omega
        have HR := Lib.hid ((pchk_end l).symm.trans he)
        clear he
        go_wp2_with fail
        go_ret
        exact ⟨po_ret_int HR.out, rfl⟩
theorem check_ref (A : Option Addr) (l : List Int) (c : Nat) (w : World) (hA : Zi w A l) (hl : l.length ≤ 281474976710656) :
    Calls Try.prog 40 #[.slice A l.length c] w fun e w' => e = .returned (.int .i64 (pchk l)) ∧ Below w.heap.size w w' := by
  have HA := Lib.hid hA
  clear hA
  by_cases hb : 1024 < l.length
  · have i1 : decide ((1024 : Int) < (l.length : Int)) = true := by simp; omega
    have HE := Lib.hid (show pchk l = 3 by unfold pchk; rw [if_pos hb])
    clear hb
    go_enter Try.func40, Try.ntmps40
    go_wp2_with fail
    go_ret
    exact ⟨po_ret_int HE.out.symm, Below.refl _ _⟩
  · have i1 : decide ((1024 : Int) < (l.length : Int)) = false := by simp; omega
    have HE := Lib.hid (show pchkF (ahead l 0) (l.drop 0) = pchk l by unfold pchk; rw [if_neg hb]; rfl)
    clear hb
    go_enter Try.func40, Try.ntmps40
    go_wp2_with fail
    go_loopw [3] (fun i wr => ∃ k : Nat, k ≤ l.length ∧ i = .int .i64 (k : Int) ∧ pchkF (ahead l k) (l.drop k) = pchk l ∧ Below w.heap.size w wr) (fun i _ => l.length - (intOf i).toNat)
    case atStart => exact ⟨0, Nat.zero_le _, rfl, HE.out, Below.refl _ _⟩
    case round =>
      obtain ⟨k, hk, rfl, he, hbr⟩ := hrel
      have HBR := Lib.hid hbr
      by_cases hlt : k < l.length
      · obtain ⟨b, o, rfl, hbl, g00⟩ := HA.out.at_ hlt
        have g0 := (hbr.cell (p := ⟨b, o + k, none⟩) hbl).trans g00
        have i2 : (k : Int) < (l.length : Int) := by omega
        clear g00
        by_cases h1 : l.getD k 0 < 0 ∨ 1099511627776 < l.getD k 0
        · have HR := Lib.hid ((pchk_arg l hlt h1).symm.trans he)
          generalize l.getD k 0 = n at *
          by_cases h0 : n < 0
          · have j1 : decide (n < (0 : Int)) = true := decide_eq_true h0
            clear he h1 h0 hbr
            go_wp2_with fail
            go_ret
            exact ⟨po_ret_int HR.out, HBR.out⟩
          · have j1 : decide (n < (0 : Int)) = false := decide_eq_false h0
            have j2 : decide ((1099511627776 : Int) < n) = true := decide_eq_true (by omega)
            clear he h1 h0 hbr
            go_wp2_with fail
            go_ret
            exact ⟨po_ret_int HR.out, HBR.out⟩
        · have j1 : decide (l.getD k 0 < (0 : Int)) = false := decide_eq_false (by omega)
          have j2 : decide ((1099511627776 : Int) < l.getD k 0) = false := decide_eq_false (by omega)
          by_cases hk0 : k = 0
          · have HN := Lib.hid ((pchk_next l hlt h1 (.inl hk0)).symm.trans he)
            have i4 : decide ((0 : Int) < (k : Int)) = false := decide_eq_false (by omega)
            have i5 : ¬ 0 < k := by omega
            clear he h1 hbr hk0
            generalize l.getD k 0 = n at *
            go_upto_region 8 with fail
            go_quiet (fail)
            go_wp2_with fail
            go_roundw
            case rel => exact ⟨k + 1, by omega, by go_num, HN.out, below_drewN' HBR.out _⟩
            case measure => simp [intOf]; omega
          · have g1 := (hbr.cell (p := ⟨b, o + (k - 1), none⟩) hbl).trans (HA.out.cell (i := k - 1) (by omega))
            have i3 : (1 : Int) ≤ (k : Int) := by omega
            have i4 : decide ((0 : Int) < (k : Int)) = true := decide_eq_true (by omega)
            have i5 : 0 < k := by omega
            by_cases ho : l.getD k 0 ≤ l.getD (k - 1) 0
            · have HR := Lib.hid ((pchk_order l hlt h1 hk0 ho).symm.trans he)
              have j3 : decide (l.getD k 0 ≤ l.getD (k - 1) 0) = true := decide_eq_true ho
              clear he h1 ho hbr hk0
              generalize l.getD k 0 = n at *
              generalize l.getD (k - 1) 0 = m at *
              go_upto_region 8 with fail
              go_quiet (fail)
              go_wp2_with fail
              go_ret
              exact ⟨po_ret_int HR.out, below_drewN' HBR.out _⟩
            · have HN := Lib.hid ((pchk_next l hlt h1 (.inr (by omega))).symm.trans he)
              have j3 : decide (l.getD k 0 ≤ l.getD (k - 1) 0) = false := decide_eq_false ho
              clear he h1 ho hbr hk0
              generalize l.getD k 0 = n at *
              generalize l.getD (k - 1) 0 = m at *
              go_upto_region 8 with fail
              go_quiet (fail)
              go_wp2_with fail
              go_roundw
              case rel => exact ⟨k + 1, by omega, by go_num, HN.out, below_drewN' HBR.out _⟩
              case measure => simp [intOf]; omega
      · obtain rfl : k = l.length := by omega
        have HR := Lib.hid ((pchk_end l).symm.trans he)
        clear he hbr
        go_wp2_with fail
        go_ret
        exact ⟨po_ret_int HR.out, HBR.out⟩
end Go.Proofs.Ytmgolnlkepiocaa

namespace Go.Proofs.Ytmgolnlkepiocaa
open Go.RowKit Go.Maps
set_option linter.unusedVariables false

theorem ext_getD {a b : List Int} (hl : a.length = b.length) (h : ∀ j, j < a.length → a.getD j 0 = b.getD j 0) : a = b := by
  refine List.ext_getElem hl fun i h1 h2 => ?_
  have := h i h1
  rwa [getD_in a 0 h1, getD_in b 0 h2] at this
theorem po_ret_bool {a b : Bool} (h : a = b) : Ending.returned (.bool a) = .returned (.bool b) := by rw [h]
set_option maxHeartbeats 1000000 in
theorem po_same_ref (A B : Option Addr) (a b : List Int) (c d : Nat) (w : World) (hA : Zi w A a) (hB : Zi w B b) (hl : a.length ≤ 281474976710656) :
    Calls Try.prog 41 #[.slice A a.length c, .slice B b.length d] w fun e w' => e = .returned (.bool (decide (a = b))) ∧ Below w.heap.size w w' := by
  have HA := Lib.hid hA
  have HB := Lib.hid hB
  clear hA hB
  by_cases hlen : a.length = b.length
  · have i1 : ((a.length : Int) != (b.length : Int)) = false := by rw [hlen]; simp
    have i0 : ((a.length : Int) == (b.length : Int)) = true := by rw [hlen]; simp
    have HL := Lib.hid hlen
    rw [← hlen] at i1 i0 ⊢
    clear hlen
    go_enter Try.func41, Try.ntmps41
    go_wp2_with fail
    go_loopw [5] (fun i wr => ∃ k : Nat, k ≤ a.length ∧ i = .int .i64 (k : Int) ∧ (∀ j, j < k → a.getD j 0 = b.getD j 0) ∧ Below w.heap.size w wr) (fun i _ => a.length - (intOf i).toNat)
    case atStart => exact ⟨0, Nat.zero_le _, rfl, fun j hj => absurd hj (Nat.not_lt_zero j), Below.refl _ _⟩
    case round =>
      obtain ⟨k, hk, rfl, hs, hbr⟩ := hrel
      have HBR := Lib.hid hbr
      have HS := Lib.hid hs
      by_cases hlt : k < a.length
      · obtain ⟨b1, o1, rfl, hb1, g0⟩ := HA.out.at_ hlt
        obtain ⟨b2, o2, rfl, hb2, g1⟩ := HB.out.at_ (i := k) (by have := HL.out; omega)
        have c0 := (hbr.cell (p := ⟨b1, o1 + k, none⟩) hb1).trans g0
        have c1 := (hbr.cell (p := ⟨b2, o2 + k, none⟩) hb2).trans g1
        have i2 : (k : Int) < (a.length : Int) := by omega
        clear g0 g1 hs hbr
        by_cases he : a.getD k 0 = b.getD k 0
        · have HN := Lib.hid (show ∀ j, j < k + 1 → a.getD j 0 = b.getD j 0 from fun j hj => by
            rcases Nat.lt_or_ge j k with h | h
            · exact HS.out j h
            · rw [show j = k from by omega]; exact he)
          rw [← he] at c1
          clear he
          generalize a.getD k 0 = n at *
          have j1 : (n != n) = false := by simp
          go_upto_region 6 with fail
          go_quiet (fail)
          go_wp2_with fail
          go_roundw
          case rel => exact ⟨k + 1, by omega, by go_num, HN.out, below_drewN' HBR.out _⟩
          case measure => simp [intOf]; omega
        · have HR := Lib.hid (show decide (a = b) = false by
            rw [decide_eq_false_iff_not]; rintro rfl; exact he rfl)
          have j1 : (a.getD k 0 != b.getD k 0) = true := bne_iff_ne.2 he
          have j2 : (a.getD k 0 == b.getD k 0) = false := beq_eq_false_iff_ne.2 he
          clear he
          generalize a.getD k 0 = n at *
          generalize b.getD k 0 = m at *
          go_upto_region 6 with fail
          go_quiet (fail)
          go_wp2_with fail
          go_ret
          exact ⟨po_ret_bool HR.out.symm, below_drewN' HBR.out _⟩
      · have HR := Lib.hid (show decide (a = b) = true from decide_eq_true (ext_getD HL.out (fun j hj => hs j (by omega))))
        clear hs hbr
        go_wp2_with fail
        go_ret
        exact ⟨po_ret_bool HR.out.symm, HBR.out⟩
  · have i1 : ((a.length : Int) != (b.length : Int)) = true := bne_iff_ne.2 (by omega)
    have i0 : ((a.length : Int) == (b.length : Int)) = false := beq_eq_false_iff_ne.2 (by omega)
    have HR := Lib.hid (show decide (a = b) = false by rw [decide_eq_false_iff_not]; rintro rfl; exact hlen rfl)
    clear hlen
    go_enter Try.func41, Try.ntmps41
    go_wp2_with fail
    go_ret
    exact ⟨po_ret_bool HR.out.symm, Below.refl _ _⟩
theorem same_yes (A B : Option Addr) (a : List Int) (c d : Nat) (w : World) (hA : Zi w A a) (hB : Zi w B a) (hl : a.length ≤ 281474976710656) :
    Calls Try.prog 41 #[.slice A a.length c, .slice B a.length d] w fun e w' => e = .returned (.bool true) ∧ Below w.heap.size w w' := by
  refine (po_same_ref A B a a c d w hA hB hl).mono ?_
  rintro e w' ⟨rfl, h⟩
  exact ⟨po_ret_bool (decide_eq_true rfl), h⟩

theorem pick_next (a b : List Int) (s : Bool) {k : Nat} (h : k < a.length) : pickL (a.take (k + 1)) b s = pickL (a.take k) b s ++ (if (decide (a.getD k 0 ∈ b) == s) = true then [a.getD k 0] else []) := by
  unfold pickL
  rw [List.take_succ_eq_append_getElem h, List.filter_append, getD_in a 0 h, List.filter_cons, List.filter_nil]
theorem pick_take_len (a b : List Int) (s : Bool) (k : Nat) : (pickL (a.take k) b s).length ≤ k := by
  have h1 := pick_len (a.take k) b s
  rw [List.length_take] at h1
  omega
def refE (a b : List Int) : Int := if pchk a = 0 then pchk b else pchk a
end Go.Proofs.Ytmgolnlkepiocaa

namespace Go.Proofs.Ytmgolnlkepiocaa
open Go.RowKit Go.Maps
set_option linter.unusedVariables false

theorem po_grow_prog (n : Nat) (w : World) (h0 : 0 < n) (hn : n ≤ 211106232532992) :
    Calls Try.prog 90 #[.slice none 0 0, .int .i64 n] w fun e w' => ∃ v, e = .returned v ∧ Own w' w.heap.size v [] ∧ Below w.heap.size w w' := by
  obtain ⟨i0, hi, hz0, hz1, hz2⟩ := info_parts u8_info
  have hr := Go.Lib.run_append_nil_zeros (P := Try.prog) w 27 3 27 5 i0 (.int .u8 0) .i64 .i64 Try.underlying27 Try.underlying3 hi hz0 n h0 (by omega) (by omega) (by rw [hz2]; omega)
  have HG := Lib.hid (grownCap_ge w n 0 5)
  have HM := Lib.hid (grownCap_le_maxLen w n 0 5 (by simp only [maxLen]; omega))
  have HR := Lib.hid hr
  have i1 : decide ((n : Int) < 0) = false := by simp
  have i2 : decide ((0 : Int) < (n : Int)) = true := by simp; omega
  have i3 : IntKind.i64.wrap (n : Int) = n := IntWalk.i64_in _ (by omega)
  clear hr hi hz0 hz1 hz2
  go_enter Try.func90, Try.ntmps90
  go_wp2_with (at_builtin; refine Go.Lib.wpList_append_run _ rfl (.tmp 20) (.tmp 21) 27 3 rfl _ _ rfl rfl _ _ HR.out ?_)
  go_ret
  refine ⟨_, rfl, ⟨by simp [bcells], .inr ⟨w.heap.size, _, _, rfl, Nat.le_refl _, heap_alloc_new w.drew _, Nat.zero_le _, HM.out, ?_, by simp [bcells]⟩⟩, ((Below.refl _ _).drew.alloc (Nat.le_refl _) _)⟩
  have := HG.out
  simp only [Array.size_append, size_zeroCells]
  simp
  omega
theorem po_concat_prog (g : Nat) (A B : Option Addr) (x y : List UInt8) (c d : Nat) (w : World) (hg : Row w g 27 #[.slice A x.length c, .slice B y.length d]) (hA : Bys w A x) (hB : Bys w B y) (hx : x.length ≤ 140737488351300) (hy : 0 < y.length) (hy2 : y.length ≤ 20000) :
    Calls Try.prog 58 #[.slice (some ⟨g, 0, none⟩) 2 2] w fun e w' => ∃ v, e = .returned v ∧ Own w' w.heap.size v (x ++ y) ∧ Below w.heap.size w w' := by
  have HG := Lib.hid hg
  have HA := Lib.hid hA
  have HB := Lib.hid hB
  have c0 : w.cell? ⟨g, 0, none⟩ = some (.slice A x.length c) := hg.cell 0
  have c1 : w.cell? ⟨g, 1, none⟩ = some (.slice B y.length d) := hg.cell 1
  have hgl := hg.lt
  clear hg hA hB
  go_enter Try.func58, Try.ntmps58
  go_wp2_with fail
  go_loop [11, 3] (fun i u => (i = .int .i64 0 ∧ u = .int .i64 0) ∨ (i = .int .i64 1 ∧ u = .int .i64 x.length) ∨ (i = .int .i64 2 ∧ u = .int .i64 (x.length + y.length : Nat))) (fun i _ => 2 - (intOf i).toNat)
  case atStart => exact .inl ⟨rfl, rfl⟩
  case round =>
    rcases hrel with ⟨rfl, rfl⟩ | ⟨rfl, rfl⟩ | ⟨rfl, rfl⟩
    · have i1 : decide ((x.length : Int) < 0) = false := by simp
      have i2 : IntKind.i64.wrap (x.length : Int) = x.length := IntWalk.i64_in _ (by omega)
      go_wp2_with fail
      exact ⟨by simp, by simp [intOf]⟩
    · have i2 : IntKind.i64.wrap ((x.length : Int) + (y.length : Int)) = (x.length : Int) + (y.length : Int) := IntWalk.i64_in _ (by omega)
      have i1 : decide ((x.length : Int) + (y.length : Int) < 0) = false := by simp; omega
      go_wp2_with fail
      exact ⟨by simp, by simp [intOf]⟩
    · have HGR := Lib.hid (po_grow_prog (x.length + y.length) w (by omega) (by omega))
      have HC := Lib.hid (fun W (h : Below w.heap.size w W) => (show W.cell? ⟨g, 0, none⟩ = some (.slice A x.length c) ∧ W.cell? ⟨g, 1, none⟩ = some (.slice B y.length d) from ⟨(h.cell hgl).trans c0, (h.cell hgl).trans c1⟩))
      go_wp2_with (first | (go_at_call 90; refine HGR.out.mono ?_; rintro e w1 ⟨v1, rfl, ho1, hb1⟩; have HO1 := Lib.hid ho1; have HB1 := Lib.hid hb1; clear ho1 hb1))
      clear c0 c1
      go_loopw [27, 6] (fun i u wr => ((i = .int .i64 0 ∧ Own wr w.heap.size u []) ∨ (i = .int .i64 1 ∧ Own wr w.heap.size u x) ∨ (i = .int .i64 2 ∧ Own wr w.heap.size u (x ++ y))) ∧ Below w.heap.size w wr) (fun i _ _ => 2 - (intOf i).toNat)
      case atStart => exact ⟨.inl ⟨rfl, HO1.out⟩, HB1.out⟩
      case round =>
        obtain ⟨hrel, hbr⟩ := hrel
        have HBR := Lib.hid hbr
        obtain ⟨q0, q1⟩ := HC.out _ hbr
        clear hbr
        rcases hrel with ⟨rfl, ho⟩ | ⟨rfl, ho⟩ | ⟨rfl, ho⟩
        · have HO := Lib.hid ho
          clear ho
          go_wp2_with (at_builtin; refine app_u8 rfl (.tmp 31) (.tmp 32) rfl w.heap.size _ [] rfl HO.out A x c rfl (HA.out.below HBR.out) (by simp only [List.length_nil]; omega) HBR.out.size ?_; intro v2 w2 hown2 hb2 _; have HO2 := Lib.hid hown2; have HB2 := Lib.hid (HBR.out.trans hb2); clear hown2 hb2)
          go_roundw
          case rel => exact ⟨.inr (.inl ⟨rfl, by simpa using HO2.out⟩), HB2.out⟩
          case measure => simp [intOf]
        · have HO := Lib.hid ho
          clear ho
          go_wp2_with (at_builtin; refine app_u8 rfl (.tmp 31) (.tmp 32) rfl w.heap.size _ x rfl HO.out B y d rfl (HB.out.below HBR.out) (by omega) HBR.out.size ?_; intro v2 w2 hown2 hb2 _; have HO2 := Lib.hid hown2; have HB2 := Lib.hid (HBR.out.trans hb2); clear hown2 hb2)
          go_roundw
          case rel => exact ⟨.inr (.inr ⟨rfl, HO2.out⟩), HB2.out⟩
          case measure => simp [intOf]
        · go_wp2_with fail
          go_ret
          exact ⟨_, rfl, ho, HBR.out⟩

end Go.Proofs.Ytmgolnlkepiocaa
