/- Reading a pattern: more fuel does not turn it; what stands behind it does not either; patterns of patterns; a quoted text. Of no program. -/
import Derived.Test.YtjljfilflajogaaReParse
namespace Go.Proofs.Ytjljfilflajogaa
set_option linter.unusedVariables false

theorem items_mono : ∀ {n m : Nat} {x : List UInt8} {q}, n ≤ m → itemsM n x = some q → itemsM m x = some q
  | 0, m, x, q, _, h => by simp [itemsM] at h
  | n + 1, 0, x, q, hle, h => by omega
  | n + 1, m + 1, x, q, hle, h => by
    simp only [itemsM] at h ⊢
    cases h0 : itemM x with
    | none => simp [h0] at h
    | some r =>
      obtain ⟨s, y⟩ := r
      simp only [h0] at h ⊢
      split at h
      · rename_i ha
        rw [if_pos ha]; exact h
      · rename_i ha
        rw [if_neg ha]
        cases h1 : itemsM n y with
        | none => simp [h1] at h
        | some r =>
          rw [items_mono (by omega) h1]
          simpa [h1] using h
theorem class_mono {n m : Nat} {x : List UInt8} {q} (hle : n ≤ m) (h : classM n x = some q) : classM m x = some q := by
  unfold classM at h ⊢
  cases h1 : itemsM n (if aheadM [94] x = true then x.tail else x) with
  | none => simp [h1] at h
  | some r =>
    rw [items_mono hle h1]
    simpa [h1] using h
mutual
theorem pat_mono : ∀ {n m : Nat} {x : List UInt8} {q}, n ≤ m → patM n x = some q → patM m x = some q
  | 0, m, x, q, _, h => by simp [patM] at h
  | n + 1, 0, x, q, hle, h => by omega
  | n + 1, m + 1, x, q, hle, h => by
    simp only [patM] at h ⊢
    cases h0 : altM n x with
    | none => simp [h0] at h
    | some r =>
      obtain ⟨l, y, d⟩ := r
      rw [alt_mono (by omega) h0]
      simp only [h0] at h ⊢
      split at h
      · rename_i ha
        rw [if_pos ha]
        cases h1 : patM n y.tail with
        | none => simp [h1] at h
        | some r =>
          rw [pat_mono (by omega) h1]
          simpa [h1] using h
      · rename_i ha
        rw [if_neg ha]; exact h
theorem alt_mono : ∀ {n m : Nat} {x : List UInt8} {q}, n ≤ m → altM n x = some q → altM m x = some q
  | 0, m, x, q, _, h => by simp [altM] at h
  | n + 1, 0, x, q, hle, h => by omega
  | n + 1, m + 1, x, q, hle, h => by
    simp only [altM] at h ⊢
    split at h
    · rename_i ha
      rw [if_pos ha]; exact h
    · rename_i ha
      rw [if_neg ha]
      cases h0 : pieceM n x with
      | none => simp [h0] at h
      | some r =>
        obtain ⟨r, y, d⟩ := r
        rw [piece_mono (by omega) h0]
        simp only [h0] at h ⊢
        cases h1 : altM n y with
        | none => simp [h1] at h
        | some r =>
          rw [alt_mono (by omega) h1]
          simpa [h1] using h
theorem piece_mono : ∀ {n m : Nat} {x : List UInt8} {q}, n ≤ m → pieceM n x = some q → pieceM m x = some q
  | 0, m, x, q, _, h => by simp [pieceM] at h
  | n + 1, 0, x, q, hle, h => by omega
  | n + 1, m + 1, x, q, hle, h => by
    simp only [pieceM] at h ⊢
    cases h0 : atomM n x with
    | none => simp [h0] at h
    | some r =>
      rw [atom_mono (by omega) h0]
      simpa only [h0] using h
theorem atom_mono : ∀ {n m : Nat} {x : List UInt8} {q}, n ≤ m → atomM n x = some q → atomM m x = some q
  | 0, m, x, q, _, h => by simp [atomM] at h
  | n + 1, 0, x, q, hle, h => by omega
  | n + 1, m + 1, x, q, hle, h => by
    simp only [atomM] at h ⊢
    split at h
    · rename_i ha
      rw [if_pos ha]
      cases h0 : patM n x.tail with
      | none => simp [h0] at h
      | some r =>
        rw [pat_mono (by omega) h0]
        simpa only [h0] using h
    · rename_i ha
      rw [if_neg ha]
      split at h
      · rename_i hb
        rw [if_pos hb]
        cases h0 : classM n x.tail with
        | none => simp [h0] at h
        | some r =>
          rw [class_mono (by omega) h0]
          simpa only [h0] using h
      · rename_i hb
        rw [if_neg hb]
        exact h
end

theorem ahead_app {q y z : List UInt8} (h : y ≠ []) : aheadM q (y ++ z) = aheadM q y := by
  cases y with
  | nil => exact absurd rfl h
  | cons c y => rfl
theorem ahead_ne {q x : List UInt8} (h : aheadM q x = true) : x ≠ [] := by
  rintro rfl
  simp [aheadM] at h
theorem tail_app {y z : List UInt8} (h : y ≠ []) : (y ++ z).tail = y.tail ++ z := by
  cases y with
  | nil => exact absurd rfl h
  | cons c y => rfl
/-- What stands behind does not go on with a pattern, or something is left ahead of it. -/
def Zr (y z : List UInt8) : Prop := y ≠ [] ∨ z = [] ∨ ∃ t, z = 41 :: t
def Zs (y z : List UInt8) : Prop := y ≠ [] ∨ z = [] ∨ ∃ c t, z = c :: t ∧ (c = 41 ∨ c = 124)
theorem Zr.s {y z : List UInt8} (h : Zr y z) : Zs y z := by
  rcases h with h | h | ⟨t, h⟩
  · exact .inl h
  · exact .inr (.inl h)
  · exact .inr (.inr ⟨41, t, h, .inl rfl⟩)
theorem item_nil : itemM [] = none := rfl
theorem items_nil (n : Nat) : itemsM n [] = none := by cases n <;> rfl
theorem takeBut_app {q x y z : List UInt8} {c : UInt8} (h : takeButM q x = some (c, y)) : takeButM q (x ++ z) = some (c, y ++ z) := by
  obtain ⟨rfl, hq⟩ := takeBut_some h
  simp only [List.cons_append, takeButM, hq]
  rfl
theorem item_app {x y z : List UInt8} {s : UInt8 × UInt8} (h : itemM x = some (s, y)) (hy : y ≠ []) : itemM (x ++ z) = some (s, y ++ z) := by
  unfold itemM at h ⊢
  cases h0 : takeButM unlistedL x with
  | none => simp [h0] at h
  | some r =>
    obtain ⟨lo, y0⟩ := r
    rw [takeBut_app h0]
    simp only [h0] at h ⊢
    split at h
    · rename_i ha
      rw [ahead_app (ahead_ne ha), if_pos ha, tail_app (ahead_ne ha)]
      cases h1 : takeButM unlistedL y0.tail with
      | none => simp [h1] at h
      | some r =>
        obtain ⟨hi, z0⟩ := r
        rw [takeBut_app h1]
        simp only [h1] at h ⊢
        split at h
        · rename_i hl
          simp only [Option.some.injEq, Prod.mk.injEq] at h
          obtain ⟨rfl, rfl⟩ := h
          rw [if_pos hl]
        · cases h
    · rename_i ha
      simp only [Option.some.injEq, Prod.mk.injEq] at h
      obtain ⟨rfl, rfl⟩ := h
      rw [ahead_app hy, if_neg ha]
theorem items_app {z : List UInt8} : ∀ {n : Nat} {x y : List UInt8} {ss : List (UInt8 × UInt8)}, itemsM n x = some (ss, y) → itemsM n (x ++ z) = some (ss, y ++ z)
  | 0, x, y, ss, h => by simp [itemsM] at h
  | n + 1, x, y, ss, h => by
    simp only [itemsM] at h ⊢
    cases h0 : itemM x with
    | none => simp [h0] at h
    | some r =>
      obtain ⟨s, y0⟩ := r
      simp only [h0] at h
      split at h
      · rename_i ha
        have hn := ahead_ne ha
        rw [item_app h0 hn]
        simp only [Option.some.injEq, Prod.mk.injEq] at h
        obtain ⟨rfl, rfl⟩ := h
        simp only
        rw [ahead_app hn, if_pos ha, tail_app hn]
      · rename_i ha
        cases h1 : itemsM n y0 with
        | none => simp [h1] at h
        | some r =>
          obtain ⟨ss', z'⟩ := r
          have hn : y0 ≠ [] := by rintro rfl; rw [items_nil] at h1; cases h1
          rw [item_app h0 hn]
          simp only [h1, Option.some.injEq, Prod.mk.injEq] at h
          obtain ⟨rfl, rfl⟩ := h
          simp only
          rw [ahead_app hn, if_neg ha, items_app h1]
theorem class_app {z : List UInt8} {n : Nat} {x y : List UInt8} {r : Re} (h : classM n x = some (r, y)) : classM n (x ++ z) = some (r, y ++ z) := by
  unfold classM at h ⊢
  have hx : x ≠ [] := by
    rintro rfl
    simp [aheadM, items_nil] at h
  rw [ahead_app hx, tail_app hx]
  cases h0 : itemsM n (if aheadM [94] x = true then x.tail else x) with
  | none => simp [h0] at h
  | some q =>
    obtain ⟨ss, y0⟩ := q
    have h1 := items_app (z := z) h0
    rw [show (if aheadM [94] x = true then x.tail ++ z else x ++ z) = (if aheadM [94] x = true then x.tail else x) ++ z by split <;> rfl, h1]
    simp only [h0, Option.some.injEq, Prod.mk.injEq] at h
    obtain ⟨rfl, rfl⟩ := h
    rfl
theorem zs_ahead {q z : List UInt8} (h : z = [] ∨ ∃ c t, z = c :: t ∧ (c = 41 ∨ c = 124)) (h1 : q.contains 41 = false) (h2 : q.contains 124 = false) : aheadM q z = false := by
  rcases h with rfl | ⟨c, t, rfl, rfl | rfl⟩
  · rfl
  · exact h1
  · exact h2
mutual
theorem pat_app {z : List UInt8} : ∀ {n : Nat} {x y : List UInt8} {ls : List Re} {d : Nat}, patM n x = some (ls, y, d) → Zr y z → patM n (x ++ z) = some (ls, y ++ z, d)
  | 0, x, y, ls, d, h, _ => by simp [patM] at h
  | n + 1, x, y, ls, d, h, hz => by
    simp only [patM] at h ⊢
    cases h0 : altM n x with
    | none => simp [h0] at h
    | some q =>
      obtain ⟨l, y0, d0⟩ := q
      simp only [h0] at h
      split at h
      · rename_i ha
        have hn := ahead_ne ha
        rw [alt_app h0 (.inl hn)]
        simp only
        rw [ahead_app hn, if_pos ha, tail_app hn]
        cases h1 : patM n y0.tail with
        | none => simp [h1] at h
        | some q =>
          obtain ⟨ls', z', e⟩ := q
          simp only [h1, Option.some.injEq, Prod.mk.injEq] at h
          obtain ⟨rfl, rfl, rfl⟩ := h
          rw [pat_app h1 hz]
      · rename_i ha
        simp only [Option.some.injEq, Prod.mk.injEq] at h
        obtain ⟨rfl, rfl, rfl⟩ := h
        rw [alt_app h0 hz.s]
        simp only
        rw [if_neg]
        by_cases hn : y0 = []
        · subst hn
          rcases hz with hz | rfl | ⟨t, rfl⟩
          · exact absurd rfl hz
          · simp [aheadM]
          · show ¬ ([124] : List UInt8).contains 41 = true
            decide
        · rw [ahead_app hn]; exact ha
theorem alt_app {z : List UInt8} : ∀ {n : Nat} {x y : List UInt8} {l : List Re} {d : Nat}, altM n x = some (l, y, d) → Zs y z → altM n (x ++ z) = some (l, y ++ z, d)
  | 0, x, y, l, d, h, _ => by simp [altM] at h
  | n + 1, x, y, l, d, h, hz => by
    simp only [altM] at h ⊢
    split at h
    · rename_i ha
      simp only [Option.some.injEq, Prod.mk.injEq] at h
      obtain ⟨rfl, rfl, rfl⟩ := h
      rw [if_pos]
      cases x with
      | cons c t => simpa [aheadM] using ha
      | nil =>
        rcases hz with hz | rfl | ⟨c, t, rfl, rfl | rfl⟩
        · exact absurd rfl hz
        · rfl
        · rfl
        · rfl
    · rename_i ha
      have hx : x ≠ [] := by rintro rfl; exact ha rfl
      rw [if_neg (by cases x with | nil => exact absurd rfl hx | cons c t => simpa [aheadM] using ha)]
      cases h0 : pieceM n x with
      | none => simp [h0] at h
      | some q =>
        obtain ⟨r, y0, d0⟩ := q
        simp only [h0] at h
        cases h1 : altM n y0 with
        | none => simp [h1] at h
        | some q =>
          obtain ⟨rs, z', e⟩ := q
          simp only [h1, Option.some.injEq, Prod.mk.injEq] at h
          obtain ⟨rfl, rfl, rfl⟩ := h
          have hz0 : Zs y0 z := by
            by_cases hn : y0 = []
            · have := alt_len h1
              subst hn
              have e2 : z' = [] := by simp at this; exact this.2
              rw [← e2]; exact hz
            · exact .inl hn
          rw [piece_app h0 hz0]
          simp only
          rw [alt_app h1 hz]
theorem piece_app {z : List UInt8} : ∀ {n : Nat} {x y : List UInt8} {r : Re} {d : Nat}, pieceM n x = some (r, y, d) → Zs y z → pieceM n (x ++ z) = some (r, y ++ z, d)
  | 0, x, y, r, d, h, _ => by simp [pieceM] at h
  | n + 1, x, y, r, d, h, hz => by
    simp only [pieceM] at h ⊢
    cases h0 : atomM n x with
    | none => simp [h0] at h
    | some q =>
      obtain ⟨r0, y0, d0⟩ := q
      simp only [h0] at h
      by_cases hn : y0 = []
      · subst hn
        simp only [aheadM, Bool.false_eq_true, if_false, Option.some.injEq, Prod.mk.injEq] at h
        obtain ⟨rfl, rfl, rfl⟩ := h
        rw [atom_app h0 hz]
        rcases hz with hz | hz
        · exact absurd rfl hz
        · simp only [List.nil_append]
          rw [zs_ahead hz (by decide) (by decide), zs_ahead hz (by decide) (by decide), zs_ahead hz (by decide) (by decide)]
          rfl
      · rw [atom_app h0 (.inl hn)]
        simp only
        rw [ahead_app hn, ahead_app hn, ahead_app hn, tail_app hn]
        split at h
        · rename_i ha
          simp only [Option.some.injEq, Prod.mk.injEq] at h
          obtain ⟨rfl, rfl, rfl⟩ := h
          rw [if_pos ha]
        · rename_i ha
          rw [if_neg ha]
          split at h
          · rename_i hb
            simp only [Option.some.injEq, Prod.mk.injEq] at h
            obtain ⟨rfl, rfl, rfl⟩ := h
            rw [if_pos hb]
          · rename_i hb
            rw [if_neg hb]
            split at h
            · rename_i hc
              simp only [Option.some.injEq, Prod.mk.injEq] at h
              obtain ⟨rfl, rfl, rfl⟩ := h
              rw [if_pos hc]
            · rename_i hc
              simp only [Option.some.injEq, Prod.mk.injEq] at h
              obtain ⟨rfl, rfl, rfl⟩ := h
              rw [if_neg hc]
theorem atom_app {z : List UInt8} : ∀ {n : Nat} {x y : List UInt8} {r : Re} {d : Nat}, atomM n x = some (r, y, d) → Zs y z → atomM n (x ++ z) = some (r, y ++ z, d)
  | 0, x, y, r, d, h, _ => by simp [atomM] at h
  | n + 1, [], y, r, d, h, hz => by
    simp [atomM, aheadM, takeButM] at h
  | n + 1, c :: x, y, r, d, h, hz => by
    have hn : c :: x ≠ [] := by simp
    simp only [atomM] at h ⊢
    rw [ahead_app hn, ahead_app hn, ahead_app hn, ahead_app hn, tail_app hn]
    simp only [List.tail_cons] at h ⊢
    split at h
    · rename_i ha
      rw [if_pos ha]
      cases h0 : patM n x with
      | none => simp [h0] at h
      | some q =>
        obtain ⟨ls, y0, d0⟩ := q
        simp only [h0] at h
        split at h
        · rename_i hb
          have hm := ahead_ne hb
          simp only [Option.some.injEq, Prod.mk.injEq] at h
          obtain ⟨rfl, rfl, rfl⟩ := h
          rw [pat_app h0 (.inl hm)]
          simp only
          rw [ahead_app hm, if_pos hb, tail_app hm]
        · cases h
    · rename_i ha
      rw [if_neg ha]
      split at h
      · rename_i hb
        rw [if_pos hb]
        cases h0 : classM n x with
        | none => simp [h0] at h
        | some q =>
          obtain ⟨r0, y0⟩ := q
          simp only [h0, Option.some.injEq, Prod.mk.injEq] at h
          obtain ⟨rfl, rfl, rfl⟩ := h
          rw [class_app h0]
      · rename_i hb
        rw [if_neg hb]
        split at h
        · rename_i hc
          rw [if_pos hc]
          simp only [Option.some.injEq, Prod.mk.injEq] at h
          obtain ⟨rfl, rfl, rfl⟩ := h
          rfl
        · rename_i hc
          rw [if_neg hc]
          split at h
          · rename_i he
            rw [if_pos he]
            cases x with
            | nil => simp at h
            | cons c2 x =>
              simp only [List.cons_append] at h ⊢
              split at h
              · rename_i hf
                rw [if_pos hf]
                simp only [Option.some.injEq, Prod.mk.injEq] at h
                obtain ⟨rfl, rfl, rfl⟩ := h
                rfl
              · cases h
          · rename_i he
            rw [if_neg he]
            cases h0 : takeButM marksL (c :: x) with
            | none => simp [h0] at h
            | some q =>
              obtain ⟨c', y0⟩ := q
              rw [takeBut_app h0]
              simp only [h0, Option.some.injEq, Prod.mk.injEq] at h
              obtain ⟨rfl, rfl, rfl⟩ := h
              rfl
end
end Go.Proofs.Ytjljfilflajogaa
