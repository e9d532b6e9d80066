/- In one text, written by lotify.py: ReNat, ReByte. -/
import Derived.Test.YtpcjnagdanmdpaaGreatHdLotRO
namespace Go.Proofs.YtpcjnagdanmdpaaGreat
open Go.RowKit Go.Maps
set_option linter.unusedVariables false
def natE (n : Nat) : List Value := [.int .i64 (n : Int)]
theorem natE_len (n : Nat) : (natE n).length = 1 := rfl
def Pls (w : World) (A : Option Addr) (l : List Nat) : Prop := At w A (l.flatMap natE)
theorem Pls.below {w w' : World} {A : Option Addr} {l : List Nat} (h : Pls w A l) (hb : Below w.heap.size w w') : Pls w' A l := At.below h hb
theorem Pls.nil (w : World) (A : Option Addr) : Pls w A [] := .inl rfl
theorem Pls.at_ {w : World} {A : Option Addr} {l : List Nat} (h : Pls w A l) {i : Nat} (hi : i < l.length) :
    ∃ b o, A = some ⟨b, o, none⟩ ∧ b < w.heap.size ∧ w.cell? ⟨b, o + i, none⟩ = some (.int .i64 ((l.getD i 0 : Nat) : Int)) := by
  have hlen := flat_len natE 1 natE_len l
  rcases h with h | ⟨b, o, rfl, hb, hc⟩
  · rw [h] at hlen; simp at hlen; omega
  · refine ⟨b, o, rfl, hb, ?_⟩
    have := hc (i * 1 + 0) _ (flat_get natE 1 natE_len l i _ 0 (getD_some l 0 hi) (by omega))
    rw [Nat.mul_one] at this
    exact this
theorem Pls.head {w : World} {A : Option Addr} {n : Nat} {l : List Nat} (h : Pls w A (n :: l)) : ∃ b o, A = some ⟨b, o, none⟩ ∧ b < w.heap.size ∧ w.cell? ⟨b, o, none⟩ = some (.int .i64 (n : Int)) ∧ Pls w (some ⟨b, o + 1, none⟩) l := by
  rcases h with h | ⟨b, o, rfl, hb, hc⟩
  · simp [natE] at h
  · refine ⟨b, o, rfl, hb, ?_, .inr ⟨b, o + 1, rfl, hb, fun j u hj => ?_⟩⟩
    · exact hc 0 _ rfl
    · rw [show o + 1 + j = o + (j + 1) by omega]
      refine hc (j + 1) u ?_
      rw [List.flatMap_cons]
      show (Value.int .i64 (n : Int) :: l.flatMap natE)[j + 1]? = _
      rw [List.getElem?_cons_succ]
      exact hj
theorem pls_cell {w : World} {g : Nat} {n : Nat} (h : Row w g 3 #[.int .i64 (n : Int)]) : Pls w (some ⟨g, 0, none⟩) [n] := At.row h
def OwnP (w : World) (base : Nat) (v : Value) (l : List Nat) : Prop := w.ownsRow base 3 1 v l.length (l.flatMap natE)
section
variable {w w' : World} {base : Nat} {v : Value} {l : List Nat}
theorem ownp_nil (w : World) (base : Nat) : OwnP w base (.slice none 0 0) [] := ⟨rfl, .inl ⟨rfl, rfl⟩⟩
theorem ownp_below (h : OwnP w base v l) (hb : Below w.heap.size w w') : OwnP w' base v l := rows_below h hb
theorem ownp_slice (h : OwnP w base v l) : ∃ P c, v = .slice P l.length c ∧ l.length ≤ c ∧ Pls w P l ∧ ∀ ad, P = some ad → base ≤ ad.block := rows_slice h
end
theorem nat_info : (Tryz.prog.info? 3).map (fun i => (i.zero, i.size, i.bytes)) = some (some (.int .i64 0), 1, 8) := by kernel_rfl
theorem nat_one (l : List Nat) : ∀ u ∈ l.flatMap natE, u.oneCell' = true := by
  intro u hu
  simp only [List.mem_flatMap, natE, List.mem_cons, List.not_mem_nil, or_false] at hu
  obtain ⟨x, _, rfl⟩ := hu
  rfl
theorem app_nats {w : World} {ops : Array Oper} {rest : List Oper} {o : Oper} {a : Act} {Q : Exit → Act → World → Prop} (hgd : o.guard = none) (s y : Operand)
    (ho : o.op = .call { callee := .builtin .append, args := #[s, y], argTypes := #[31, 31] })
    (base : Nat) (v : Value) (x : List Nat) (hs : a.eval s = v) (hown : OwnP w base v x) (A : Option Addr) (l : List Nat) (c : Nat) (hy : a.eval y = .slice A l.length c) (hA : Pls w A l) (hn : (x.length + l.length) * 8 ≤ 140737488355328) (hbase : base ≤ w.heap.size)
    (h : ∀ v' w', OwnP w' base v' (x ++ l) → Below base w w' → w.grownBy w' v.ownBlock → wpList Tryz.prog ops Q rest (a.put o.dst v') w') : wpList Tryz.prog ops Q (o :: rest) a w := by
  obtain ⟨i0, hi, hz0, hz1, hz2⟩ := info_parts nat_info
  refine wpList_app_at hgd s y 31 ho base 3 i0 _ 1 8 Tryz.underlying31 hi hz0 hz1 hz2 rfl (by omega) v x.length (x.flatMap natE) hs hown A l.length c (l.flatMap natE) hy (flat_len natE 1 natE_len l) hA (nat_one l)
    (by simp only [maxLen]; omega) hn hbase ?_
  intro v' w' h1 h2 h3
  refine h v' w' ?_ h2 h3
  unfold OwnP
  rw [List.flatMap_append, List.length_append]
  exact h1
theorem rise_len : ∀ {l : List Nat} {n : Nat}, Rise l → (∀ x ∈ l, x ≤ n) → l.length ≤ n + 1
  | [], n, _, _ => by simp
  | [x], n, _, _ => by simp
  | x :: y :: l, n, hr, hl => by
    have h2 := List.pairwise_cons.1 hr
    have := rise_len (l := (y :: l).map (· - 1)) (n := n - 1) ?_ ?_
    · rw [List.length_map] at this
      have hy := h2.1 y (by simp)
      have hn := hl y (by simp)
      simp only [List.length_cons] at this ⊢
      omega
    · have h3 : ∀ a ∈ y :: l, 1 ≤ a := fun a ha => by have := h2.1 a ha; omega
      have hp := h2.2
      unfold Rise at hp ⊢
      rw [List.pairwise_map]
      refine hp.imp_of_mem fun {a b} ha hb hab => ?_
      have := h3 a ha
      omega
    · intro a ha
      obtain ⟨b, hb, rfl⟩ := List.mem_map.1 ha
      have := hl b (List.mem_cons_of_mem _ hb)
      omega
  termination_by l => l.length
/-! ### joining -/
/-- Of la and lb xa and xb are still to come; out has all else. -/
structure MInv (la lb xa xb out : List Nat) : Prop where
  ro : Rise out
  ra : Rise xa
  rb : Rise xb
  mem : ∀ x, (x ∈ la ∨ x ∈ lb) ↔ (x ∈ out ∨ x ∈ xa ∨ x ∈ xb)
  le : ∀ x ∈ out, ∀ y, y ∈ xa ∨ y ∈ xb → x ≤ y
theorem minv_start {la lb : List Nat} (ha : Rise la) (hb : Rise lb) : MInv la lb la lb [] := ⟨List.Pairwise.nil, ha, hb, fun x => by simp, fun x hx => by cases hx⟩
theorem minv_end {la lb out : List Nat} (h : MInv la lb [] [] out) : Joins la lb out := ⟨h.ro, fun j => by rw [h.mem]; simp⟩
def addN (out : List Nat) (n : Nat) : List Nat := if out.getLast? = some n then out else out ++ [n]
theorem addN_mem (out : List Nat) (n x : Nat) : x ∈ addN out n ↔ x ∈ out ∨ x = n := by
  unfold addN
  split
  · rename_i h
    constructor
    · exact .inl
    · rintro (h2 | rfl)
      · exact h2
      · exact List.mem_of_getLast? h
  · simp
theorem rise_last {out : List Nat} (h : Rise out) {n x : Nat} (hl : out.getLast? = some n) (hx : x ∈ out) : x ≤ n := by
  obtain ⟨ys, rfl⟩ := List.getLast?_eq_some_iff.1 hl
  unfold Rise at h
  rw [List.pairwise_append] at h
  rcases List.mem_append.1 hx with h1 | h1
  · exact Nat.le_of_lt (h.2.2 x h1 n (by simp))
  · simp at h1; omega
theorem addN_rise {out : List Nat} {n : Nat} (h : Rise out) (hle : ∀ x ∈ out, x ≤ n) : Rise (addN out n) := by
  unfold addN
  split
  · exact h
  · rename_i hne
    unfold Rise at h ⊢
    rw [List.pairwise_append]
    refine ⟨h, List.pairwise_singleton _ _, fun a ha b hb => ?_⟩
    simp at hb
    subst hb
    cases hl : out.getLast? with
    | none => rw [List.getLast?_eq_none_iff] at hl; rw [hl] at ha; cases ha
    | some m =>
      have h1 := rise_last h hl ha
      have h2 := hle m (List.mem_of_getLast? hl)
      rw [hl] at hne
      have h3 : m ≠ b := fun e => hne (by rw [e])
      omega
theorem minv_a {la lb xa xb out : List Nat} {n : Nat} (h : MInv la lb (n :: xa) xb out) (hn : ∀ y ∈ xb, n ≤ y) : MInv la lb xa xb (addN out n) := by
  have ha := List.pairwise_cons.1 h.ra
  refine ⟨addN_rise h.ro fun x hx => h.le x hx n (by simp), ha.2, h.rb, fun x => ?_, fun x hx y hy => ?_⟩
  · rw [h.mem, addN_mem, List.mem_cons]
    constructor
    · rintro (h1 | (h1 | h1) | h1)
      · exact .inl (.inl h1)
      · exact .inl (.inr h1)
      · exact .inr (.inl h1)
      · exact .inr (.inr h1)
    · rintro ((h1 | h1) | h1 | h1)
      · exact .inl h1
      · exact .inr (.inl (.inl h1))
      · exact .inr (.inl (.inr h1))
      · exact .inr (.inr h1)
  · rcases (addN_mem _ _ _).1 hx with h1 | rfl
    · exact h.le x h1 y (hy.imp (List.mem_cons_of_mem _) id)
    · rcases hy with h1 | h1
      · exact Nat.le_of_lt (ha.1 y h1)
      · exact hn y h1
theorem minv_b {la lb xa xb out : List Nat} {n : Nat} (h : MInv la lb xa (n :: xb) out) (hn : ∀ y ∈ xa, n ≤ y) : MInv la lb xa xb (addN out n) := by
  have hb := List.pairwise_cons.1 h.rb
  refine ⟨addN_rise h.ro fun x hx => h.le x hx n (by simp), h.ra, hb.2, fun x => ?_, fun x hx y hy => ?_⟩
  · rw [h.mem, addN_mem, List.mem_cons]
    constructor
    · rintro (h1 | h1 | (h1 | h1))
      · exact .inl (.inl h1)
      · exact .inr (.inl h1)
      · exact .inl (.inr h1)
      · exact .inr (.inr h1)
    · rintro ((h1 | h1) | h1 | h1)
      · exact .inl h1
      · exact .inr (.inr (.inl h1))
      · exact .inr (.inl h1)
      · exact .inr (.inr (.inr h1))
  · rcases (addN_mem _ _ _).1 hx with h1 | rfl
    · exact h.le x h1 y (hy.imp id (List.mem_cons_of_mem _))
    · rcases hy with h1 | h1
      · exact hn y h1
      · exact Nat.le_of_lt (hb.1 y h1)
end Go.Proofs.YtpcjnagdanmdpaaGreat

namespace Go.Proofs.YtpcjnagdanmdpaaGreat
open Go.RowKit
set_option linter.unusedVariables false
/-- The text of an atom that is no group, and what it has. -/
inductive Leaf : List UInt8 → List (UInt8 × UInt8) → Bool → Prop
  | dot : Leaf [46] [] true
  | esc (d : UInt8) : Leaf [92, d] [(d, d)] false
  | cls (t : List UInt8) (ss : List (UInt8 × UInt8)) : clsV t = some (ss, []) → Leaf (91 :: t) ss (aheadM [94] t)
  | one (c : UInt8) : marksL.contains c = false → Leaf [c] [(c, c)] false
/-- The text of a group. -/
def GrpText (a u : List UInt8) (ls : List Re) : Prop := a = 40 :: (u ++ [41]) ∧ ∃ n d, patM n u = some (ls, [], d)
theorem atom_text {n : Nat} {a : List UInt8} {r : Re} {d : Nat} (h : atomM n a = some (r, [], d)) : (∃ ss neg, r = .atom ss neg false ∧ Leaf a ss neg) ∨ (∃ u ls, r = .alt ls ∧ GrpText a u ls) := by
  cases n with
  | zero => simp [atomM] at h
  | succ n =>
    simp only [atomM] at h
    split at h
    · rename_i h40
      cases hp : patM n a.tail with
      | none => rw [hp] at h; cases h
      | some q =>
        obtain ⟨ls, y, d0⟩ := q
        rw [hp] at h
        simp only at h
        split at h
        · rename_i hb
          simp only [Option.some.injEq, Prod.mk.injEq] at h
          obtain ⟨rfl, hy, _⟩ := h
          have e := ahead_one hb
          rw [hy] at e
          obtain ⟨u, h1, h2⟩ := pat_cut hp
          have h3 := h2 [] (.inl rfl)
          rw [List.append_nil] at h3
          refine .inr ⟨u, ls, rfl, ?_, n, d0, h3⟩
          rw [ahead_one h40, h1, e]
        · cases h
    · split at h
      · rename_i h91
        cases hc : classM n a.tail with
        | none => rw [hc] at h; cases h
        | some q =>
          obtain ⟨r0, y⟩ := q
          rw [hc] at h
          simp only [Option.some.injEq, Prod.mk.injEq] at h
          obtain ⟨rfl, rfl, _⟩ := h
          obtain ⟨ss, h1, h2⟩ := class_of hc
          refine .inl ⟨ss, aheadM [94] a.tail, h2, ?_⟩
          rw [ahead_one h91]
          exact .cls _ _ h1
      · split at h
        · rename_i h46
          simp only [Option.some.injEq, Prod.mk.injEq] at h
          obtain ⟨rfl, hy, _⟩ := h
          refine .inl ⟨[], true, rfl, ?_⟩
          rw [ahead_one h46, hy]
          exact .dot
        · split at h
          · rename_i h92
            have e := ahead_one h92
            cases ht : a.tail with
            | nil => rw [ht] at h; cases h
            | cons c y =>
              rw [ht] at h e
              simp only at h
              split at h
              · simp only [Option.some.injEq, Prod.mk.injEq] at h
                obtain ⟨rfl, hy, _⟩ := h
                refine .inl ⟨[(c, c)], false, rfl, ?_⟩
                rw [e, hy]
                exact .esc c
              · cases h
          · cases ht : takeButM marksL a with
            | none => rw [ht] at h; cases h
            | some q =>
              obtain ⟨c, y⟩ := q
              rw [ht] at h
              simp only [Option.some.injEq, Prod.mk.injEq] at h
              obtain ⟨rfl, hy, _⟩ := h
              obtain ⟨h1, h2⟩ := takeBut_some ht
              refine .inl ⟨[(c, c)], false, rfl, ?_⟩
              rw [h1, hy]
              exact .one c h2
theorem leaf_head {a : List UInt8} {ss : List (UInt8 × UInt8)} {neg : Bool} (h : Leaf a ss neg) : ∃ c t, a = c :: t ∧ c ≠ 40 := by
  cases h with
  | dot => exact ⟨46, [], rfl, by decide⟩
  | esc d => exact ⟨92, [d], rfl, by decide⟩
  | cls t ss h => exact ⟨91, t, rfl, by decide⟩
  | one c h => exact ⟨c, [], rfl, by rintro rfl; exact absurd h (by decide)⟩
theorem one_has (d c : UInt8) : hasB [(d, d)] false c = decide (c = d) := by
  rw [has_ne]
  simp only [List.any_cons, List.any_nil, Bool.or_false, spanHas, Bool.bne_false]
  rw [← Bool.decide_and, decide_eq_decide]
  constructor
  · rintro ⟨h1, h2⟩; exact UInt8.le_antisymm h2 h1
  · rintro rfl; exact ⟨UInt8.le_refl _, UInt8.le_refl _⟩
set_option maxHeartbeats 1000000 in
theorem byteof_ref (a : ByteArray) (ha : a.size ≤ 1000) {ss : List (UInt8 × UInt8)} {neg : Bool} (h : Leaf (strL a) ss neg) (c : UInt8) (w : World) :
    Calls Tryz.prog 139 #[.string a, .int .u8 (c.toNat : Int)] w fun e w' => e = .returned (.bool (hasB ss neg c)) ∧ Below w.heap.size w w' := by
  have hl := strL_length a
  generalize hx : strL a = x at h
  cases h with
  | dot =>
    have i2 : 0 < a.size := by rw [← hl, hx]; simp
    have h0 : a[0] = 46 := by have := strG a (k := 0) (by omega); rw [hx] at this; simpa using this.symm
    have t1 : ((a[0].toNat : Int) == 92) = false := test_no 92 (by omega) (show a[0] ≠ UInt8.ofNat 92 by rw [h0]; decide)
    have t2 : ((a[0].toNat : Int) == 91) = false := test_no 91 (by omega) (show a[0] ≠ UInt8.ofNat 91 by rw [h0]; decide)
    have t3 : ((a[0].toNat : Int) == 46) = true := test_yes 46 (by omega) h0
    have i1 : (0 : Int) < (a.size : Int) := by omega
    rw [show hasB [] true c = true from rfl]
    clear hx hl h0
    go_enter Tryz.func139, Tryz.ntmps139
    go_wp2_with fail
    go_ret
    exact ⟨rfl, Below.refl _ _⟩
  | esc d =>
    have i4 : 1 < a.size := by rw [← hl, hx]; simp
    have i2 : 0 < a.size := by omega
    have h0 : a[0] = 92 := by have := strG a (k := 0) (by omega); rw [hx] at this; simpa using this.symm
    have h1 : a[1] = d := by have := strG a (k := 1) (by omega); rw [hx] at this; simpa using this.symm
    have t1 : ((a[0].toNat : Int) == 92) = true := test_yes 92 (by omega) h0
    have t2 := byte_two a[1] c
    rw [one_has, ← h1, ← t2]
    have i1 : (0 : Int) < (a.size : Int) := by omega
    have i3 : (1 : Int) < (a.size : Int) := by omega
    clear hx hl h0 h1 t2
    go_enter Tryz.func139, Tryz.ntmps139
    go_wp2_with fail
    go_ret
    exact ⟨rfl, Below.refl _ _⟩
  | cls t ss hc =>
    have i2 : 0 < a.size := by rw [← hl, hx]; simp
    have h0 : a[0] = 91 := by have := strG a (k := 0) (by omega); rw [hx] at this; simpa using this.symm
    have t1 : ((a[0].toNat : Int) == 92) = false := test_no 92 (by omega) (show a[0] ≠ UInt8.ofNat 92 by rw [h0]; decide)
    have t2 : ((a[0].toNat : Int) == 91) = true := test_yes 91 (by omega) h0
    have HC := Lib.hid (class_ref a 0 ha (by omega) c)
    have hd : (strL a).drop (0 + 1) = t := by rw [hx]; rfl
    rw [hd, (cls_some (N := a.size) (c := c) hc).2, ← has_ne] at HC
    generalize clsE a.size t = z at HC
    have i1 : (0 : Int) < (a.size : Int) := by omega
    generalize hasB ss (aheadM [94] t) c = b at HC ⊢
    clear hx hl h0 hd hc
    go_enter Tryz.func139, Tryz.ntmps139
    go_wp2_with (go_at_call 120; refine (HC.out _).mono ?_; rintro e w2 ⟨rfl, hb2⟩; have HB2 := Lib.hid hb2; clear hb2)
    go_ret
    exact ⟨rfl, HB2.out⟩
  | one d hd =>
    have i2 : 0 < a.size := by rw [← hl, hx]; simp
    have h0 : a[0] = d := by have := strG a (k := 0) (by omega); rw [hx] at this; simpa using this.symm
    have t1 : ((a[0].toNat : Int) == 92) = false := test_no 92 (by omega) (show a[0] ≠ UInt8.ofNat 92 by rw [h0]; rintro rfl; exact absurd hd (by decide))
    have t2 : ((a[0].toNat : Int) == 91) = false := test_no 91 (by omega) (show a[0] ≠ UInt8.ofNat 91 by rw [h0]; rintro rfl; exact absurd hd (by decide))
    have t3 : ((a[0].toNat : Int) == 46) = false := test_no 46 (by omega) (show a[0] ≠ UInt8.ofNat 46 by rw [h0]; rintro rfl; exact absurd hd (by decide))
    have t4 := byte_two a[0] c
    rw [one_has, ← h0, ← t4]
    have i1 : (0 : Int) < (a.size : Int) := by omega
    clear hx hl h0 t4
    go_enter Tryz.func139, Tryz.ntmps139
    go_wp2_with fail
    go_ret
    exact ⟨rfl, Below.refl _ _⟩
end Go.Proofs.YtpcjnagdanmdpaaGreat
