/- How the document's own answer passes over a pattern: to the end of a group, and for the depth. Of no program. -/
import Derived.Test.YtjljfilflajogaaReParse4
namespace Go.Proofs.Ytjljfilflajogaa
set_option linter.unusedVariables false

/-- From a place at which k groups are open on to the end of the first one: what stands from there on. -/
inductive Scan : Nat → List UInt8 → Option (List UInt8) → Prop
  | nil (k : Nat) : Scan k [] none
  | esc (k : Nat) (t : List UInt8) (q : Option (List UInt8)) : Scan k t.tail q → Scan k (92 :: t) q
  | cls (k n : Nat) (x y : List UInt8) (r : Re) (q : Option (List UInt8)) : classM n x = some (r, y) → Scan k y q → Scan k (91 :: x) q
  | ncl (k : Nat) (x : List UInt8) : (∀ n, classM n x = none) → Scan k (91 :: x) none
  | opn (k : Nat) (t : List UInt8) (q : Option (List UInt8)) : Scan (k + 1) t q → Scan k (40 :: t) q
  | stop (t : List UInt8) : Scan 1 (41 :: t) (some (41 :: t))
  | cl (k : Nat) (t : List UInt8) (q : Option (List UInt8)) : Scan (k + 1) t q → Scan (k + 2) (41 :: t) q
  | oth (k : Nat) (c : UInt8) (t : List UInt8) (q : Option (List UInt8)) : c ≠ 92 → c ≠ 91 → c ≠ 40 → c ≠ 41 → Scan k t q → Scan k (c :: t) q
theorem scan_all : ∀ (m : Nat) (x : List UInt8) (k : Nat), x.length ≤ m → ∃ q, Scan (k + 1) x q := by
  intro m
  induction m with
  | zero =>
    intro x k h
    obtain rfl : x = [] := List.eq_nil_of_length_eq_zero (by omega)
    exact ⟨none, .nil _⟩
  | succ m ih =>
    intro x k h
    cases x with
    | nil => exact ⟨none, .nil _⟩
    | cons c t =>
      simp at h
      by_cases h1 : c = 92
      · subst h1
        obtain ⟨q, hq⟩ := ih t.tail k (by rw [List.length_tail]; omega)
        exact ⟨q, .esc _ _ _ hq⟩
      · by_cases h2 : c = 91
        · subst h2
          by_cases he : ∃ n r y, classM n t = some (r, y)
          · obtain ⟨n, r, y, he⟩ := he
            obtain ⟨q, hq⟩ := ih y k (by have := class_len he; omega)
            exact ⟨q, .cls _ n _ _ r _ he hq⟩
          · exact ⟨none, .ncl _ _ fun n => by
              cases hc : classM n t with
              | none => rfl
              | some r => exact absurd ⟨n, r.1, r.2, hc⟩ he⟩
        · by_cases h3 : c = 40
          · subst h3
            obtain ⟨q, hq⟩ := ih t (k + 1) (by omega)
            exact ⟨q, .opn _ _ _ hq⟩
          · by_cases h4 : c = 41
            · subst h4
              cases k with
              | zero => exact ⟨_, .stop t⟩
              | succ k =>
                obtain ⟨q, hq⟩ := ih t k (by omega)
                exact ⟨q, .cl _ _ _ hq⟩
            · obtain ⟨q, hq⟩ := ih t k (by omega)
              exact ⟨q, .oth _ _ _ _ h1 h2 h3 h4 hq⟩
theorem plain_mark {c : UInt8} (h : marksL.contains c = false) : c ≠ 92 ∧ c ≠ 91 ∧ c ≠ 40 ∧ c ≠ 41 := by
  refine ⟨?_, ?_, ?_, ?_⟩ <;> rintro rfl <;> exact absurd h (by decide)
mutual
theorem pat_scan {q : Option (List UInt8)} : ∀ {n k : Nat} {x y : List UInt8} {ls : List Re} {d : Nat}, patM n x = some (ls, y, d) → Scan (k + 1) y q → Scan (k + 1) x q
  | 0, k, x, y, ls, d, h, hs => by simp [patM] at h
  | n + 1, k, x, y, ls, d, h, hs => by
    simp only [patM] at h
    split at h
    · cases h
    · rename_i l y0 d0 h0
      split at h
      · rename_i ha
        split at h
        · cases h
        · rename_i ls' z e h3
          simp only [Option.some.injEq, Prod.mk.injEq] at h
          obtain ⟨rfl, rfl, rfl⟩ := h
          refine alt_scan h0 ?_
          rw [ahead_one ha]
          exact .oth _ _ _ _ (by decide) (by decide) (by decide) (by decide) (pat_scan h3 hs)
      · simp only [Option.some.injEq, Prod.mk.injEq] at h
        obtain ⟨rfl, rfl, rfl⟩ := h
        exact alt_scan h0 hs
theorem alt_scan {q : Option (List UInt8)} : ∀ {n k : Nat} {x y : List UInt8} {l : List Re} {d : Nat}, altM n x = some (l, y, d) → Scan (k + 1) y q → Scan (k + 1) x q
  | 0, k, x, y, l, d, h, hs => by simp [altM] at h
  | n + 1, k, x, y, l, d, h, hs => by
    simp only [altM] at h
    split at h
    · simp only [Option.some.injEq, Prod.mk.injEq] at h
      obtain ⟨rfl, rfl, rfl⟩ := h
      exact hs
    · split at h
      · cases h
      · rename_i r y0 d0 h0
        split at h
        · cases h
        · rename_i rs z e h2
          simp only [Option.some.injEq, Prod.mk.injEq] at h
          obtain ⟨rfl, rfl, rfl⟩ := h
          exact piece_scan h0 (alt_scan h2 hs)
theorem piece_scan {q : Option (List UInt8)} : ∀ {n k : Nat} {x y : List UInt8} {r : Re} {d : Nat}, pieceM n x = some (r, y, d) → Scan (k + 1) y q → Scan (k + 1) x q
  | 0, k, x, y, r, d, h, hs => by simp [pieceM] at h
  | n + 1, k, x, y, r, d, h, hs => by
    simp only [pieceM] at h
    split at h
    · cases h
    · rename_i r0 y0 d0 h0
      split at h
      · rename_i ha
        simp only [Option.some.injEq, Prod.mk.injEq] at h
        obtain ⟨rfl, rfl, rfl⟩ := h
        refine atom_scan h0 ?_
        rw [ahead_one ha]
        exact .oth _ _ _ _ (by decide) (by decide) (by decide) (by decide) hs
      · split at h
        · rename_i ha
          simp only [Option.some.injEq, Prod.mk.injEq] at h
          obtain ⟨rfl, rfl, rfl⟩ := h
          refine atom_scan h0 ?_
          rw [ahead_one ha]
          exact .oth _ _ _ _ (by decide) (by decide) (by decide) (by decide) hs
        · split at h
          · rename_i ha
            simp only [Option.some.injEq, Prod.mk.injEq] at h
            obtain ⟨rfl, rfl, rfl⟩ := h
            refine atom_scan h0 ?_
            rw [ahead_one ha]
            exact .oth _ _ _ _ (by decide) (by decide) (by decide) (by decide) hs
          · simp only [Option.some.injEq, Prod.mk.injEq] at h
            obtain ⟨rfl, rfl, rfl⟩ := h
            exact atom_scan h0 hs
theorem atom_scan {q : Option (List UInt8)} : ∀ {n k : Nat} {x y : List UInt8} {r : Re} {d : Nat}, atomM n x = some (r, y, d) → Scan (k + 1) y q → Scan (k + 1) x q
  | 0, k, x, y, r, d, h, hs => by simp [atomM] at h
  | n + 1, k, x, y, r, d, h, hs => by
    simp only [atomM] at h
    split at h
    · rename_i ha
      split at h
      · cases h
      · rename_i ls y0 d0 h0
        split at h
        · rename_i hb
          simp only [Option.some.injEq, Prod.mk.injEq] at h
          obtain ⟨rfl, rfl, rfl⟩ := h
          rw [ahead_one ha]
          refine .opn _ _ _ (pat_scan h0 ?_)
          rw [ahead_one hb]
          exact .cl _ _ _ hs
        · cases h
    · split at h
      · rename_i ha
        split at h
        · cases h
        · rename_i r0 y0 h0
          simp only [Option.some.injEq, Prod.mk.injEq] at h
          obtain ⟨rfl, rfl, rfl⟩ := h
          rw [ahead_one ha]
          exact .cls _ _ _ _ _ _ h0 hs
      · split at h
        · rename_i ha
          simp only [Option.some.injEq, Prod.mk.injEq] at h
          obtain ⟨rfl, rfl, rfl⟩ := h
          rw [ahead_one ha]
          exact .oth _ _ _ _ (by decide) (by decide) (by decide) (by decide) hs
        · split at h
          · rename_i ha
            split at h
            · cases h
            · rename_i c y0 hx
              split at h
              · simp only [Option.some.injEq, Prod.mk.injEq] at h
                obtain ⟨rfl, rfl, rfl⟩ := h
                rw [ahead_one ha]
                refine .esc _ _ _ ?_
                rw [hx]
                exact hs
              · cases h
          · split at h
            · cases h
            · rename_i c y0 h0
              obtain ⟨rfl, hc⟩ := takeBut_some h0
              simp only [Option.some.injEq, Prod.mk.injEq] at h
              obtain ⟨rfl, rfl, rfl⟩ := h
              obtain ⟨a1, a2, a3, a4⟩ := plain_mark hc
              exact .oth _ _ _ _ a1 a2 a3 a4 hs
end

/-- From a place at which o groups are open, the most so far m: the most of all. -/
inductive Dep : Nat → Nat → List UInt8 → Nat → Prop
  | nil (o m : Nat) : Dep o m [] m
  | esc (o m out : Nat) (t : List UInt8) : Dep o m t.tail out → Dep o m (92 :: t) out
  | cls (o m out n : Nat) (x y : List UInt8) (r : Re) : classM n x = some (r, y) → Dep o m y out → Dep o m (91 :: x) out
  | opn (o m out : Nat) (t : List UInt8) : Dep (o + 1) (max m (o + 1)) t out → Dep o m (40 :: t) out
  | cl (o m out : Nat) (t : List UInt8) : Dep o m t out → Dep (o + 1) m (41 :: t) out
  | oth (o m out : Nat) (c : UInt8) (t : List UInt8) : c ≠ 92 → c ≠ 91 → c ≠ 40 → c ≠ 41 → Dep o m t out → Dep o m (c :: t) out
theorem Dep.as {o m m' out : Nat} {x : List UInt8} (h : Dep o m x out) (e : m = m') : Dep o m' x out := e ▸ h
mutual
theorem pat_dep {out : Nat} : ∀ {n o m : Nat} {x y : List UInt8} {ls : List Re} {d : Nat}, patM n x = some (ls, y, d) → o ≤ m → Dep o (max m (o + d)) y out → Dep o m x out
  | 0, o, m, x, y, ls, d, h, hm, hs => by simp [patM] at h
  | n + 1, o, m, x, y, ls, d, h, hm, hs => by
    simp only [patM] at h
    split at h
    · cases h
    · rename_i l y0 d0 h0
      split at h
      · rename_i ha
        split at h
        · cases h
        · rename_i ls' z e h3
          simp only [Option.some.injEq, Prod.mk.injEq] at h
          obtain ⟨rfl, rfl, rfl⟩ := h
          refine alt_dep h0 hm ?_
          rw [ahead_one ha]
          exact .oth _ _ _ _ _ (by decide) (by decide) (by decide) (by decide) (pat_dep h3 (by omega) (hs.as (by omega)))
      · simp only [Option.some.injEq, Prod.mk.injEq] at h
        obtain ⟨rfl, rfl, rfl⟩ := h
        exact alt_dep h0 hm hs
theorem alt_dep {out : Nat} : ∀ {n o m : Nat} {x y : List UInt8} {l : List Re} {d : Nat}, altM n x = some (l, y, d) → o ≤ m → Dep o (max m (o + d)) y out → Dep o m x out
  | 0, o, m, x, y, l, d, h, hm, hs => by simp [altM] at h
  | n + 1, o, m, x, y, l, d, h, hm, hs => by
    simp only [altM] at h
    split at h
    · simp only [Option.some.injEq, Prod.mk.injEq] at h
      obtain ⟨rfl, rfl, rfl⟩ := h
      exact hs.as (by omega)
    · split at h
      · cases h
      · rename_i r y0 d0 h0
        split at h
        · cases h
        · rename_i rs z e h2
          simp only [Option.some.injEq, Prod.mk.injEq] at h
          obtain ⟨rfl, rfl, rfl⟩ := h
          exact piece_dep h0 hm (alt_dep h2 (by omega) (hs.as (by omega)))
theorem piece_dep {out : Nat} : ∀ {n o m : Nat} {x y : List UInt8} {r : Re} {d : Nat}, pieceM n x = some (r, y, d) → o ≤ m → Dep o (max m (o + d)) y out → Dep o m x out
  | 0, o, m, x, y, r, d, h, hm, hs => by simp [pieceM] at h
  | n + 1, o, m, x, y, r, d, h, hm, hs => by
    simp only [pieceM] at h
    split at h
    · cases h
    · rename_i r0 y0 d0 h0
      split at h
      · rename_i ha
        simp only [Option.some.injEq, Prod.mk.injEq] at h
        obtain ⟨rfl, rfl, rfl⟩ := h
        refine atom_dep h0 hm ?_
        rw [ahead_one ha]
        exact .oth _ _ _ _ _ (by decide) (by decide) (by decide) (by decide) hs
      · split at h
        · rename_i ha
          simp only [Option.some.injEq, Prod.mk.injEq] at h
          obtain ⟨rfl, rfl, rfl⟩ := h
          refine atom_dep h0 hm ?_
          rw [ahead_one ha]
          exact .oth _ _ _ _ _ (by decide) (by decide) (by decide) (by decide) hs
        · split at h
          · rename_i ha
            simp only [Option.some.injEq, Prod.mk.injEq] at h
            obtain ⟨rfl, rfl, rfl⟩ := h
            refine atom_dep h0 hm ?_
            rw [ahead_one ha]
            exact .oth _ _ _ _ _ (by decide) (by decide) (by decide) (by decide) hs
          · simp only [Option.some.injEq, Prod.mk.injEq] at h
            obtain ⟨rfl, rfl, rfl⟩ := h
            exact atom_dep h0 hm hs
theorem atom_dep {out : Nat} : ∀ {n o m : Nat} {x y : List UInt8} {r : Re} {d : Nat}, atomM n x = some (r, y, d) → o ≤ m → Dep o (max m (o + d)) y out → Dep o m x out
  | 0, o, m, x, y, r, d, h, hm, hs => by simp [atomM] at h
  | n + 1, o, m, x, y, r, d, h, hm, hs => by
    simp only [atomM] at h
    split at h
    · rename_i ha
      split at h
      · cases h
      · rename_i ls y0 d0 h0
        split at h
        · rename_i hb
          simp only [Option.some.injEq, Prod.mk.injEq] at h
          obtain ⟨rfl, rfl, rfl⟩ := h
          rw [ahead_one ha]
          refine .opn _ _ _ _ (pat_dep h0 (by omega) ?_)
          rw [ahead_one hb]
          exact .cl _ _ _ _ (hs.as (by omega))
        · cases h
    · split at h
      · rename_i ha
        split at h
        · cases h
        · rename_i r0 y0 h0
          simp only [Option.some.injEq, Prod.mk.injEq] at h
          obtain ⟨rfl, rfl, rfl⟩ := h
          rw [ahead_one ha]
          exact .cls _ _ _ _ _ _ _ h0 (hs.as (by omega))
      · split at h
        · rename_i ha
          simp only [Option.some.injEq, Prod.mk.injEq] at h
          obtain ⟨rfl, rfl, rfl⟩ := h
          rw [ahead_one ha]
          exact .oth _ _ _ _ _ (by decide) (by decide) (by decide) (by decide) (hs.as (by omega))
        · split at h
          · rename_i ha
            split at h
            · cases h
            · rename_i c y0 hx
              split at h
              · simp only [Option.some.injEq, Prod.mk.injEq] at h
                obtain ⟨rfl, rfl, rfl⟩ := h
                rw [ahead_one ha]
                refine .esc _ _ _ _ ?_
                rw [hx]
                exact hs.as (by omega)
              · cases h
          · split at h
            · cases h
            · rename_i c y0 h0
              obtain ⟨rfl, hc⟩ := takeBut_some h0
              simp only [Option.some.injEq, Prod.mk.injEq] at h
              obtain ⟨rfl, rfl, rfl⟩ := h
              obtain ⟨a1, a2, a3, a4⟩ := plain_mark hc
              exact .oth _ _ _ _ _ a1 a2 a3 a4 (hs.as (by omega))
end
end Go.Proofs.Ytjljfilflajogaa
