/- The document's own answer for patterns: whether an atom that is no group fits a byte. -/
import Derived.Test.YtjljfilflajogaaReNat
namespace Go.Proofs.Ytjljfilflajogaa
open Go.RowKit
set_option linter.unusedVariables false

/-- The text of an atom that is no group, and what it has. -/
inductive Leaf : List UInt8 → List (UInt8 × UInt8) → Bool → Prop
  | dot : Leaf [46] [] true
  | esc (d : UInt8) : Leaf [92, d] [(d, d)] false
  | cls (t : List UInt8) (ss : List (UInt8 × UInt8)) : clsV t = some (ss, []) → Leaf (91 :: t) ss (aheadM [94] t)
  | one (c : UInt8) : marksL.contains c = false → Leaf [c] [(c, c)] false
/-- The text of a group. -/
def GrpText (a u : List UInt8) (ls : List Re) : Prop := a = 40 :: (u ++ [41]) ∧ ∃ n d, patM n u = some (ls, [], d)
theorem atom_text {n : Nat} {a : List UInt8} {r : Re} {d : Nat} (h : atomM n a = some (r, [], d)) : (∃ ss neg, r = .atom ss neg false ∧ Leaf a ss neg) ∨ (∃ u ls, r = .alt ls ∧ GrpText a u ls) := by
  cases n with
  | zero => simp [atomM] at h
  | succ n =>
    simp only [atomM] at h
    split at h
    · rename_i h40
      cases hp : patM n a.tail with
      | none => rw [hp] at h; cases h
      | some q =>
        obtain ⟨ls, y, d0⟩ := q
        rw [hp] at h
        simp only at h
        split at h
        · rename_i hb
          simp only [Option.some.injEq, Prod.mk.injEq] at h
          obtain ⟨rfl, hy, _⟩ := h
          have e := ahead_one hb
          rw [hy] at e
          obtain ⟨u, h1, h2⟩ := pat_cut hp
          have h3 := h2 [] (.inl rfl)
          rw [List.append_nil] at h3
          refine .inr ⟨u, ls, rfl, ?_, n, d0, h3⟩
          rw [ahead_one h40, h1, e]
        · cases h
    · split at h
      · rename_i h91
        cases hc : classM n a.tail with
        | none => rw [hc] at h; cases h
        | some q =>
          obtain ⟨r0, y⟩ := q
          rw [hc] at h
          simp only [Option.some.injEq, Prod.mk.injEq] at h
          obtain ⟨rfl, rfl, _⟩ := h
          obtain ⟨ss, h1, h2⟩ := class_of hc
          refine .inl ⟨ss, aheadM [94] a.tail, h2, ?_⟩
          rw [ahead_one h91]
          exact .cls _ _ h1
      · split at h
        · rename_i h46
          simp only [Option.some.injEq, Prod.mk.injEq] at h
          obtain ⟨rfl, hy, _⟩ := h
          refine .inl ⟨[], true, rfl, ?_⟩
          rw [ahead_one h46, hy]
          exact .dot
        · split at h
          · rename_i h92
            have e := ahead_one h92
            cases ht : a.tail with
            | nil => rw [ht] at h; cases h
            | cons c y =>
              rw [ht] at h e
              simp only at h
              split at h
              · simp only [Option.some.injEq, Prod.mk.injEq] at h
                obtain ⟨rfl, hy, _⟩ := h
                refine .inl ⟨[(c, c)], false, rfl, ?_⟩
                rw [e, hy]
                exact .esc c
              · cases h
          · cases ht : takeButM marksL a with
            | none => rw [ht] at h; cases h
            | some q =>
              obtain ⟨c, y⟩ := q
              rw [ht] at h
              simp only [Option.some.injEq, Prod.mk.injEq] at h
              obtain ⟨rfl, hy, _⟩ := h
              obtain ⟨h1, h2⟩ := takeBut_some ht
              refine .inl ⟨[(c, c)], false, rfl, ?_⟩
              rw [h1, hy]
              exact .one c h2
theorem leaf_head {a : List UInt8} {ss : List (UInt8 × UInt8)} {neg : Bool} (h : Leaf a ss neg) : ∃ c t, a = c :: t ∧ c ≠ 40 := by
  cases h with
  | dot => exact ⟨46, [], rfl, by decide⟩
  | esc d => exact ⟨92, [d], rfl, by decide⟩
  | cls t ss h => exact ⟨91, t, rfl, by decide⟩
  | one c h => exact ⟨c, [], rfl, by rintro rfl; exact absurd h (by decide)⟩
theorem one_has (d c : UInt8) : hasB [(d, d)] false c = decide (c = d) := by
  rw [has_ne]
  simp only [List.any_cons, List.any_nil, Bool.or_false, spanHas, Bool.bne_false]
  rw [← Bool.decide_and, decide_eq_decide]
  constructor
  · rintro ⟨h1, h2⟩; exact UInt8.le_antisymm h2 h1
  · rintro rfl; exact ⟨UInt8.le_refl _, UInt8.le_refl _⟩
set_option maxHeartbeats 1000000 in
theorem byteof_ref (a : ByteArray) (ha : a.size ≤ 1000) {ss : List (UInt8 × UInt8)} {neg : Bool} (h : Leaf (strL a) ss neg) (c : UInt8) (w : World) :
    Calls Try.prog 84 #[.string a, .int .u8 (c.toNat : Int)] w fun e w' => e = .returned (.bool (hasB ss neg c)) ∧ Below w.heap.size w w' := by
  have hl := strL_length a
  generalize hx : strL a = x at h
  cases h with
  | dot =>
    have i2 : 0 < a.size := by rw [← hl, hx]; simp
    have h0 : a[0] = 46 := by have := strG a (k := 0) (by omega); rw [hx] at this; simpa using this.symm
    have t1 : ((a[0].toNat : Int) == 92) = false := test_no 92 (by omega) (show a[0] ≠ UInt8.ofNat 92 by rw [h0]; decide)
    have t2 : ((a[0].toNat : Int) == 91) = false := test_no 91 (by omega) (show a[0] ≠ UInt8.ofNat 91 by rw [h0]; decide)
    have t3 : ((a[0].toNat : Int) == 46) = true := test_yes 46 (by omega) h0
    have i1 : (0 : Int) < (a.size : Int) := by omega
    rw [show hasB [] true c = true from rfl]
    clear hx hl h0
    go_enter Try.func84, Try.ntmps84
    go_wp2_with fail
    go_ret
    exact ⟨rfl, Below.refl _ _⟩
  | esc d =>
    have i4 : 1 < a.size := by rw [← hl, hx]; simp
    have i2 : 0 < a.size := by omega
    have h0 : a[0] = 92 := by have := strG a (k := 0) (by omega); rw [hx] at this; simpa using this.symm
    have h1 : a[1] = d := by have := strG a (k := 1) (by omega); rw [hx] at this; simpa using this.symm
    have t1 : ((a[0].toNat : Int) == 92) = true := test_yes 92 (by omega) h0
    have t2 := byte_two a[1] c
    rw [one_has, ← h1, ← t2]
    have i1 : (0 : Int) < (a.size : Int) := by omega
    have i3 : (1 : Int) < (a.size : Int) := by omega
    clear hx hl h0 h1 t2
    go_enter Try.func84, Try.ntmps84
    go_wp2_with fail
    go_ret
    exact ⟨rfl, Below.refl _ _⟩
  | cls t ss hc =>
    have i2 : 0 < a.size := by rw [← hl, hx]; simp
    have h0 : a[0] = 91 := by have := strG a (k := 0) (by omega); rw [hx] at this; simpa using this.symm
    have t1 : ((a[0].toNat : Int) == 92) = false := test_no 92 (by omega) (show a[0] ≠ UInt8.ofNat 92 by rw [h0]; decide)
    have t2 : ((a[0].toNat : Int) == 91) = true := test_yes 91 (by omega) h0
    have HC := Lib.hid (class_ref a 0 ha (by omega) c)
    have hd : (strL a).drop (0 + 1) = t := by rw [hx]; rfl
    rw [hd, (cls_some (N := a.size) (c := c) hc).2, ← has_ne] at HC
    generalize clsE a.size t = z at HC
    have i1 : (0 : Int) < (a.size : Int) := by omega
    generalize hasB ss (aheadM [94] t) c = b at HC ⊢
    clear hx hl h0 hd hc
    go_enter Try.func84, Try.ntmps84
    go_wp2_with (go_at_call 53; refine (HC.out _).mono ?_; rintro e w2 ⟨rfl, hb2⟩; have HB2 := Lib.hid hb2; clear hb2)
    go_ret
    exact ⟨rfl, HB2.out⟩
  | one d hd =>
    have i2 : 0 < a.size := by rw [← hl, hx]; simp
    have h0 : a[0] = d := by have := strG a (k := 0) (by omega); rw [hx] at this; simpa using this.symm
    have t1 : ((a[0].toNat : Int) == 92) = false := test_no 92 (by omega) (show a[0] ≠ UInt8.ofNat 92 by rw [h0]; rintro rfl; exact absurd hd (by decide))
    have t2 : ((a[0].toNat : Int) == 91) = false := test_no 91 (by omega) (show a[0] ≠ UInt8.ofNat 91 by rw [h0]; rintro rfl; exact absurd hd (by decide))
    have t3 : ((a[0].toNat : Int) == 46) = false := test_no 46 (by omega) (show a[0] ≠ UInt8.ofNat 46 by rw [h0]; rintro rfl; exact absurd hd (by decide))
    have t4 := byte_two a[0] c
    rw [one_has, ← h0, ← t4]
    have i1 : (0 : Int) < (a.size : Int) := by omega
    clear hx hl h0 t4
    go_enter Try.func84, Try.ntmps84
    go_wp2_with fail
    go_ret
    exact ⟨rfl, Below.refl _ _⟩
end Go.Proofs.Ytjljfilflajogaa
