/- Reading a pattern: the text that was read is a pattern alone; how its parentheses are passed over, and counted. Of no program. -/
import Derived.Test.YtjljfilflajogaaReParse3
namespace Go.Proofs.Ytjljfilflajogaa
set_option linter.unusedVariables false

/-- What may stand in the place of y: nothing, or what begins alike. -/
def Ag (y y1 : List UInt8) : Prop := y1 = [] ∨ ∃ c t t', y = c :: t ∧ y1 = c :: t'
theorem Ag.ahead {q y y1 : List UInt8} (h : Ag y y1) (ha : aheadM q y = false) : aheadM q y1 = false := by
  rcases h with rfl | ⟨c, t, t', rfl, rfl⟩
  · rfl
  · exact ha
theorem Ag.refl (y : List UInt8) : Ag y y := by
  cases y with
  | nil => exact .inl rfl
  | cons c t => exact .inr ⟨c, t, t, rfl, rfl⟩
theorem ahead_one {k : UInt8} {x : List UInt8} (h : aheadM [k] x = true) : x = k :: x.tail := by
  cases x with
  | nil => simp [aheadM] at h
  | cons c t =>
    simp [aheadM] at h
    rw [h]; rfl
theorem item_cut {x y : List UInt8} {s : UInt8 × UInt8} (h : itemM x = some (s, y)) : ∃ u, x = u ++ y ∧ ∀ y1, Ag y y1 → itemM (u ++ y1) = some (s, y1) := by
  unfold itemM at h
  cases h0 : takeButM unlistedL x with
  | none => simp [h0] at h
  | some r =>
    obtain ⟨lo, y0⟩ := r
    simp only [h0] at h
    obtain ⟨rfl, hq⟩ := takeBut_some h0
    split at h
    · rename_i ha
      cases h1 : takeButM unlistedL y0.tail with
      | none => simp [h1] at h
      | some r =>
        obtain ⟨hi, z0⟩ := r
        obtain ⟨e1, hq1⟩ := takeBut_some h1
        simp only [h1] at h
        split at h
        · rename_i hl
          simp only [Option.some.injEq, Prod.mk.injEq] at h
          obtain ⟨rfl, rfl⟩ := h
          refine ⟨[lo, 45, hi], by rw [ahead_one ha, e1]; rfl, fun y1 _ => ?_⟩
          unfold itemM
          simp only [List.cons_append, List.nil_append, takeButM, hq, Bool.false_eq_true, if_false]
          rw [if_pos (by rfl)]
          simp only [List.tail_cons, hq1, Bool.false_eq_true, if_false]
          rw [if_pos hl]
        · cases h
    · rename_i ha
      simp only [Option.some.injEq, Prod.mk.injEq] at h
      obtain ⟨rfl, rfl⟩ := h
      refine ⟨[lo], rfl, fun y1 hy => ?_⟩
      unfold itemM
      simp only [List.cons_append, List.nil_append, takeButM, hq, Bool.false_eq_true, if_false]
      rw [if_neg (by rw [hy.ahead (by simpa using ha)]; simp)]
theorem items_cut : ∀ {n : Nat} {x y : List UInt8} {ss : List (UInt8 × UInt8)}, itemsM n x = some (ss, y) → ∃ u, x = u ++ y ∧ (u ≠ []) ∧ ∀ y1, itemsM n (u ++ y1) = some (ss, y1)
  | 0, x, y, ss, h => by simp [itemsM] at h
  | n + 1, x, y, ss, h => by
    simp only [itemsM] at h
    cases h0 : itemM x with
    | none => simp [h0] at h
    | some r =>
      obtain ⟨s, y0⟩ := r
      obtain ⟨u0, rfl, k0⟩ := item_cut h0
      simp only [h0] at h
      split at h
      · rename_i ha
        simp only [Option.some.injEq, Prod.mk.injEq] at h
        obtain ⟨rfl, rfl⟩ := h
        have e := ahead_one ha
        refine ⟨u0 ++ [93], by rw [List.append_assoc, List.singleton_append, ← e], by simp, fun y1 => ?_⟩
        simp only [itemsM, List.append_assoc, List.singleton_append]
        rw [k0 (93 :: y1) (.inr ⟨93, _, _, e, rfl⟩)]
        rfl
      · rename_i ha
        cases h1 : itemsM n y0 with
        | none => simp [h1] at h
        | some r =>
          obtain ⟨ss', z'⟩ := r
          obtain ⟨u1, rfl, hn, k1⟩ := items_cut h1
          simp only [h1, Option.some.injEq, Prod.mk.injEq] at h
          obtain ⟨rfl, rfl⟩ := h
          refine ⟨u0 ++ u1, by simp, by simp [hn], fun y1 => ?_⟩
          have hag : Ag (u1 ++ z') (u1 ++ y1) := by
            cases u1 with
            | nil => exact absurd rfl hn
            | cons c t => exact .inr ⟨c, _, _, rfl, rfl⟩
          simp only [itemsM, List.append_assoc]
          rw [k0 _ hag]
          simp only
          rw [if_neg (by rw [hag.ahead (by simpa using ha)]; simp), k1 y1]
theorem class_cut {n : Nat} {x y : List UInt8} {r : Re} (h : classM n x = some (r, y)) : ∃ u, x = u ++ y ∧ ∀ y1, classM n (u ++ y1) = some (r, y1) := by
  unfold classM at h
  cases h0 : itemsM n (if aheadM [94] x = true then x.tail else x) with
  | none => simp [h0] at h
  | some q =>
    obtain ⟨ss, y0⟩ := q
    obtain ⟨u, e, hn, k⟩ := items_cut h0
    simp only [h0, Option.some.injEq, Prod.mk.injEq] at h
    obtain ⟨rfl, rfl⟩ := h
    cases ha : aheadM [94] x
    · rw [ha] at e
      simp only [Bool.false_eq_true, if_false] at e
      subst e
      refine ⟨u, rfl, fun y1 => ?_⟩
      rw [ahead_app hn] at ha
      unfold classM
      rw [ahead_app hn, ha]
      simp only [Bool.false_eq_true, if_false, k]
    · rw [ha] at e
      simp only [if_true] at e
      refine ⟨94 :: u, by rw [List.cons_append, ← e]; exact ahead_one ha, fun y1 => ?_⟩
      unfold classM
      rw [show aheadM [94] (94 :: u ++ y1) = true from rfl]
      simp only [if_true, List.cons_append, List.tail_cons, k]
mutual
theorem pat_cut : ∀ {n : Nat} {x y : List UInt8} {ls : List Re} {d : Nat}, patM n x = some (ls, y, d) → ∃ u, x = u ++ y ∧ ∀ y1, Ag y y1 → patM n (u ++ y1) = some (ls, y1, d)
  | 0, x, y, ls, d, h => by simp [patM] at h
  | n + 1, x, y, ls, d, h => by
    simp only [patM] at h
    cases h0 : altM n x with
    | none => simp [h0] at h
    | some q =>
      obtain ⟨l, y0, d0⟩ := q
      obtain ⟨u0, rfl, k0⟩ := alt_cut h0
      simp only [h0] at h
      split at h
      · rename_i ha
        have e := ahead_one ha
        cases h1 : patM n y0.tail with
        | none => simp [h1] at h
        | some q =>
          obtain ⟨ls', z', e'⟩ := q
          obtain ⟨u1, e1, k1⟩ := pat_cut h1
          simp only [h1, Option.some.injEq, Prod.mk.injEq] at h
          obtain ⟨rfl, rfl, rfl⟩ := h
          refine ⟨u0 ++ 124 :: u1, by rw [List.append_assoc, List.cons_append, ← e1, ← e], fun y1 hy => ?_⟩
          simp only [patM, List.append_assoc, List.cons_append]
          rw [k0 _ (.inr ⟨124, _, _, e, rfl⟩)]
          simp only
          rw [if_pos (by rfl), List.tail_cons, k1 y1 hy]
      · rename_i ha
        simp only [Option.some.injEq, Prod.mk.injEq] at h
        obtain ⟨rfl, rfl, rfl⟩ := h
        refine ⟨u0, rfl, fun y1 hy => ?_⟩
        simp only [patM]
        rw [k0 y1 hy]
        simp only
        rw [if_neg (by rw [hy.ahead (by simpa using ha)]; simp)]
theorem alt_cut : ∀ {n : Nat} {x y : List UInt8} {l : List Re} {d : Nat}, altM n x = some (l, y, d) → ∃ u, x = u ++ y ∧ ∀ y1, Ag y y1 → altM n (u ++ y1) = some (l, y1, d)
  | 0, x, y, l, d, h => by simp [altM] at h
  | n + 1, x, y, l, d, h => by
    simp only [altM] at h
    split at h
    · rename_i ha
      simp only [Option.some.injEq, Prod.mk.injEq] at h
      obtain ⟨rfl, rfl, rfl⟩ := h
      refine ⟨[], rfl, fun y1 hy => ?_⟩
      simp only [altM, List.nil_append]
      rw [if_pos]
      rcases hy with rfl | ⟨c, t, t', rfl, rfl⟩
      · rfl
      · simpa [aheadM] using ha
    · rename_i ha
      cases h0 : pieceM n x with
      | none => simp [h0] at h
      | some q =>
        obtain ⟨r, y0, d0⟩ := q
        obtain ⟨u0, rfl, hn, k0⟩ := piece_cut h0
        simp only [h0] at h
        cases h1 : altM n y0 with
        | none => simp [h1] at h
        | some q =>
          obtain ⟨rs, z', e⟩ := q
          obtain ⟨u1, rfl, k1⟩ := alt_cut h1
          simp only [h1, Option.some.injEq, Prod.mk.injEq] at h
          obtain ⟨rfl, rfl, rfl⟩ := h
          refine ⟨u0 ++ u1, by simp, fun y1 hy => ?_⟩
          have hag : Ag (u1 ++ z') (u1 ++ y1) := by
            cases u1 with
            | nil => exact hy
            | cons c t => exact .inr ⟨c, _, _, rfl, rfl⟩
          simp only [altM, List.append_assoc]
          rw [if_neg, k0 _ hag]
          · simp only
            rw [k1 y1 hy]
          · cases u0 with
            | nil => exact absurd rfl hn
            | cons c t => simpa [aheadM] using ha
theorem piece_cut : ∀ {n : Nat} {x y : List UInt8} {r : Re} {d : Nat}, pieceM n x = some (r, y, d) → ∃ u, x = u ++ y ∧ u ≠ [] ∧ ∀ y1, Ag y y1 → pieceM n (u ++ y1) = some (r, y1, d)
  | 0, x, y, r, d, h => by simp [pieceM] at h
  | n + 1, x, y, r, d, h => by
    simp only [pieceM] at h
    cases h0 : atomM n x with
    | none => simp [h0] at h
    | some q =>
      obtain ⟨r0, y0, d0⟩ := q
      obtain ⟨u0, rfl, hn, k0⟩ := atom_cut h0
      simp only [h0] at h
      have mark : ∀ (k : UInt8), aheadM [k] y0 = true → u0 ++ y0 = (u0 ++ [k]) ++ y0.tail := fun k hk => by rw [List.append_assoc, List.singleton_append, ← ahead_one hk]
      split at h
      · rename_i ha
        simp only [Option.some.injEq, Prod.mk.injEq] at h
        obtain ⟨rfl, rfl, rfl⟩ := h
        refine ⟨u0 ++ [42], mark _ ha, by simp, fun y1 hy => ?_⟩
        simp only [pieceM, List.append_assoc, List.singleton_append]
        rw [k0]
        rfl
      · rename_i ha
        split at h
        · rename_i hb
          simp only [Option.some.injEq, Prod.mk.injEq] at h
          obtain ⟨rfl, rfl, rfl⟩ := h
          refine ⟨u0 ++ [43], mark _ hb, by simp, fun y1 hy => ?_⟩
          simp only [pieceM, List.append_assoc, List.singleton_append]
          rw [k0]
          rfl
        · rename_i hb
          split at h
          · rename_i hc
            simp only [Option.some.injEq, Prod.mk.injEq] at h
            obtain ⟨rfl, rfl, rfl⟩ := h
            refine ⟨u0 ++ [63], mark _ hc, by simp, fun y1 hy => ?_⟩
            simp only [pieceM, List.append_assoc, List.singleton_append]
            rw [k0]
            rfl
          · rename_i hc
            simp only [Option.some.injEq, Prod.mk.injEq] at h
            obtain ⟨rfl, rfl, rfl⟩ := h
            refine ⟨u0, rfl, hn, fun y1 hy => ?_⟩
            simp only [pieceM]
            rw [k0]
            simp only
            rw [hy.ahead (by simpa using ha), hy.ahead (by simpa using hb), hy.ahead (by simpa using hc)]
            rfl
theorem atom_cut : ∀ {n : Nat} {x y : List UInt8} {r : Re} {d : Nat}, atomM n x = some (r, y, d) → ∃ u, x = u ++ y ∧ u ≠ [] ∧ ∀ y1, atomM n (u ++ y1) = some (r, y1, d)
  | 0, x, y, r, d, h => by simp [atomM] at h
  | n + 1, [], y, r, d, h => by simp [atomM, aheadM, takeButM] at h
  | n + 1, c :: x, y, r, d, h => by
    simp only [atomM, List.tail_cons] at h
    split at h
    · rename_i ha
      cases h0 : patM n x with
      | none => simp [h0] at h
      | some q =>
        obtain ⟨ls, y0, d0⟩ := q
        obtain ⟨u0, rfl, k0⟩ := pat_cut h0
        simp only [h0] at h
        split at h
        · rename_i hb
          simp only [Option.some.injEq, Prod.mk.injEq] at h
          obtain ⟨rfl, rfl, rfl⟩ := h
          refine ⟨c :: (u0 ++ [41]), by rw [List.cons_append, List.append_assoc, List.singleton_append, ← ahead_one hb], by simp, fun y1 => ?_⟩
          simp only [atomM, List.cons_append, List.append_assoc, List.nil_append, List.tail_cons]
          rw [if_pos ((fun (t : List UInt8) => show aheadM [40] (c :: t) = true from ha) _), k0 (41 :: y1) (.inr ⟨41, _, _, ahead_one hb, rfl⟩)]
          rfl
        · cases h
    · rename_i ha
      split at h
      · rename_i hb
        cases h0 : classM n x with
        | none => simp [h0] at h
        | some q =>
          obtain ⟨r0, y0⟩ := q
          obtain ⟨u0, rfl, k0⟩ := class_cut h0
          simp only [h0, Option.some.injEq, Prod.mk.injEq] at h
          obtain ⟨rfl, rfl, rfl⟩ := h
          refine ⟨c :: u0, rfl, by simp, fun y1 => ?_⟩
          simp only [atomM, List.cons_append, List.tail_cons]
          rw [if_neg ((fun (t : List UInt8) => show ¬ aheadM [40] (c :: t) = true from ha) _), if_pos ((fun (t : List UInt8) => show aheadM [91] (c :: t) = true from hb) _), k0]
      · rename_i hb
        split at h
        · rename_i hc
          simp only [Option.some.injEq, Prod.mk.injEq] at h
          obtain ⟨rfl, rfl, rfl⟩ := h
          refine ⟨[c], rfl, by simp, fun y1 => ?_⟩
          simp only [atomM, List.cons_append, List.nil_append, List.tail_cons]
          rw [if_neg ((fun (t : List UInt8) => show ¬ aheadM [40] (c :: t) = true from ha) _), if_neg ((fun (t : List UInt8) => show ¬ aheadM [91] (c :: t) = true from hb) _), if_pos ((fun (t : List UInt8) => show aheadM [46] (c :: t) = true from hc) _)]
        · rename_i hc
          split at h
          · rename_i he
            cases x with
            | nil => simp at h
            | cons c2 x =>
              simp only at h
              split at h
              · rename_i hf
                simp only [Option.some.injEq, Prod.mk.injEq] at h
                obtain ⟨rfl, rfl, rfl⟩ := h
                refine ⟨[c, c2], rfl, by simp, fun y1 => ?_⟩
                simp only [atomM, List.cons_append, List.nil_append, List.tail_cons]
                rw [if_neg ((fun (t : List UInt8) => show ¬ aheadM [40] (c :: t) = true from ha) _), if_neg ((fun (t : List UInt8) => show ¬ aheadM [91] (c :: t) = true from hb) _), if_neg ((fun (t : List UInt8) => show ¬ aheadM [46] (c :: t) = true from hc) _), if_pos ((fun (t : List UInt8) => show aheadM [92] (c :: t) = true from he) _), if_pos hf]
              · cases h
          · rename_i he
            cases h0 : takeButM marksL (c :: x) with
            | none => simp [h0] at h
            | some q =>
              obtain ⟨c', y0⟩ := q
              obtain ⟨e, hq⟩ := takeBut_some h0
              simp only [List.cons.injEq] at e
              obtain ⟨rfl, rfl⟩ := e
              simp only [h0, Option.some.injEq, Prod.mk.injEq] at h
              obtain ⟨rfl, rfl, rfl⟩ := h
              refine ⟨[c], rfl, by simp, fun y1 => ?_⟩
              simp only [atomM, List.cons_append, List.nil_append, List.tail_cons]
              rw [if_neg ((fun (t : List UInt8) => show ¬ aheadM [40] (c :: t) = true from ha) _), if_neg ((fun (t : List UInt8) => show ¬ aheadM [91] (c :: t) = true from hb) _), if_neg ((fun (t : List UInt8) => show ¬ aheadM [46] (c :: t) = true from hc) _), if_neg ((fun (t : List UInt8) => show ¬ aheadM [92] (c :: t) = true from he) _)]
              simp only [takeButM, hq, Bool.false_eq_true, if_false]
end
end Go.Proofs.Ytjljfilflajogaa
