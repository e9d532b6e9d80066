/- Patterns made of patterns: alternatives, groups behind one another, groups again; a quoted text; all trees that are read are fresh. Of no program. -/
import Derived.Test.YtjljfilflajogaaReParse2
namespace Go.Proofs.Ytjljfilflajogaa
set_option linter.unusedVariables false

theorem class_fresh {n : Nat} {x y : List UInt8} {r : Re} (h : classM n x = some (r, y)) : freshM r = true := by
  unfold classM at h
  split at h
  · cases h
  · simp only [Option.some.injEq, Prod.mk.injEq] at h
    obtain ⟨rfl, _⟩ := h
    rfl
mutual
theorem pat_fresh : ∀ {n : Nat} {x y : List UInt8} {ls : List Re} {d : Nat}, patM n x = some (ls, y, d) → freshAll ls = true
  | 0, x, y, ls, d, h => by simp [patM] at h
  | n + 1, x, y, ls, d, h => by
    simp only [patM] at h
    split at h
    · cases h
    · rename_i l y0 d0 h0
      have h1 := alt_fresh h0
      split at h
      · split at h
        · cases h
        · rename_i ls' z e h3
          have h4 := pat_fresh h3
          simp only [Option.some.injEq, Prod.mk.injEq] at h
          obtain ⟨rfl, rfl, rfl⟩ := h
          simp only [freshAll, freshM, h1, h4, Bool.and_self]
      · simp only [Option.some.injEq, Prod.mk.injEq] at h
        obtain ⟨rfl, rfl, rfl⟩ := h
        simp only [freshAll, freshM, h1, Bool.and_self]
theorem alt_fresh : ∀ {n : Nat} {x y : List UInt8} {l : List Re} {d : Nat}, altM n x = some (l, y, d) → freshAll l = true
  | 0, x, y, l, d, h => by simp [altM] at h
  | n + 1, x, y, l, d, h => by
    simp only [altM] at h
    split at h
    · simp only [Option.some.injEq, Prod.mk.injEq] at h
      obtain ⟨rfl, rfl, rfl⟩ := h
      rfl
    · split at h
      · cases h
      · rename_i r y0 d0 h0
        have h1 := piece_fresh h0
        split at h
        · cases h
        · rename_i rs z e h2
          have h3 := alt_fresh h2
          simp only [Option.some.injEq, Prod.mk.injEq] at h
          obtain ⟨rfl, rfl, rfl⟩ := h
          simp only [freshAll, h1, h3, Bool.and_self]
theorem piece_fresh : ∀ {n : Nat} {x y : List UInt8} {r : Re} {d : Nat}, pieceM n x = some (r, y, d) → freshM r = true
  | 0, x, y, r, d, h => by simp [pieceM] at h
  | n + 1, x, y, r, d, h => by
    simp only [pieceM] at h
    split at h
    · cases h
    · rename_i r0 y0 d0 h0
      have h1 := atom_fresh h0
      split at h
      · simp only [Option.some.injEq, Prod.mk.injEq] at h
        obtain ⟨rfl, rfl, rfl⟩ := h
        simp only [freshM, h1]
      · split at h
        · simp only [Option.some.injEq, Prod.mk.injEq] at h
          obtain ⟨rfl, rfl, rfl⟩ := h
          simp only [freshM, h1]
        · split at h
          · simp only [Option.some.injEq, Prod.mk.injEq] at h
            obtain ⟨rfl, rfl, rfl⟩ := h
            simp only [freshM, h1]
          · simp only [Option.some.injEq, Prod.mk.injEq] at h
            obtain ⟨rfl, rfl, rfl⟩ := h
            exact h1
theorem atom_fresh : ∀ {n : Nat} {x y : List UInt8} {r : Re} {d : Nat}, atomM n x = some (r, y, d) → freshM r = true
  | 0, x, y, r, d, h => by simp [atomM] at h
  | n + 1, x, y, r, d, h => by
    simp only [atomM] at h
    split at h
    · split at h
      · cases h
      · rename_i ls y0 d0 h0
        have h2 := pat_fresh h0
        split at h
        · simp only [Option.some.injEq, Prod.mk.injEq] at h
          obtain ⟨rfl, rfl, rfl⟩ := h
          simp only [freshM, h2]
        · cases h
    · split at h
      · split at h
        · cases h
        · rename_i r0 y0 h0
          have h2 := class_fresh h0
          simp only [Option.some.injEq, Prod.mk.injEq] at h
          obtain ⟨rfl, rfl, rfl⟩ := h
          exact h2
      · split at h
        · simp only [Option.some.injEq, Prod.mk.injEq] at h
          obtain ⟨rfl, rfl, rfl⟩ := h
          rfl
        · split at h
          · split at h
            · cases h
            · split at h
              · simp only [Option.some.injEq, Prod.mk.injEq] at h
                obtain ⟨rfl, rfl, rfl⟩ := h
                rfl
              · cases h
          · split at h
            · cases h
            · simp only [Option.some.injEq, Prod.mk.injEq] at h
              obtain ⟨rfl, rfl, rfl⟩ := h
              rfl
end

theorem pat_or {m : Nat} {b y : List UInt8} {ms : List Re} {e : Nat} (hb : patM m b = some (ms, y, e)) : ∀ {n : Nat} {a : List UInt8} {ls : List Re} {d : Nat}, patM n a = some (ls, [], d) → patM (n + m) (a ++ 124 :: b) = some (ls ++ ms, y, max d e)
  | 0, a, ls, d, h => by simp [patM] at h
  | n + 1, a, ls, d, h => by
    rw [show n + 1 + m = (n + m) + 1 by omega]
    simp only [patM] at h ⊢
    cases h0 : altM n a with
    | none => simp [h0] at h
    | some q =>
      obtain ⟨l, y0, d0⟩ := q
      simp only [h0] at h
      split at h
      · rename_i ha
        have hn := ahead_ne ha
        rw [alt_mono (show n ≤ n + m by omega) (alt_app (z := 124 :: b) h0 (.inl hn))]
        simp only
        rw [ahead_app hn, if_pos ha, tail_app hn]
        cases h1 : patM n y0.tail with
        | none => simp [h1] at h
        | some q =>
          obtain ⟨ls', z', e'⟩ := q
          simp only [h1, Option.some.injEq, Prod.mk.injEq] at h
          obtain ⟨rfl, rfl, rfl⟩ := h
          rw [pat_or hb h1]
          simp [Nat.max_assoc]
      · rename_i ha
        simp only [Option.some.injEq, Prod.mk.injEq] at h
        obtain ⟨rfl, rfl, rfl⟩ := h
        rw [alt_mono (show n ≤ n + m by omega) (alt_app (z := 124 :: b) h0 (.inr (.inr ⟨124, b, rfl, .inr rfl⟩)))]
        simp only [List.nil_append]
        rw [if_pos (by rfl), List.tail_cons, pat_mono (show m ≤ n + m by omega) hb]
        rfl
theorem atom_group {n : Nat} {a z : List UInt8} {ls : List Re} {d : Nat} (h : patM n a = some (ls, [], d)) : atomM (n + 1) (40 :: (a ++ 41 :: z)) = some (.alt ls, z, d + 1) := by
  have h1 := pat_app (z := 41 :: z) h (.inr (.inr ⟨z, rfl⟩))
  simp only [atomM]
  rw [if_pos (by rfl), List.tail_cons, h1]
  simp only [List.nil_append]
  rw [if_pos (by rfl)]
  rfl
theorem alt_step {n : Nat} {x y z : List UInt8} {r : Re} {rs : List Re} {d e : Nat} (hx : aheadM [124, 41] x = false) (hn : x ≠ []) (h : pieceM n x = some (r, y, d)) (h2 : altM n y = some (rs, z, e)) : altM (n + 1) x = some (r :: rs, z, max d e) := by
  simp only [altM]
  rw [if_neg (by rw [hx]; cases x with | nil => exact absurd rfl hn | cons c t => simp), h]
  simp only
  rw [h2]
theorem pat_one {n : Nat} {x : List UInt8} {l : List Re} {d : Nat} (h : altM n x = some (l, [], d)) : patM (n + 1) x = some ([.row l], [], d) := by
  simp only [patM]
  rw [h]
  rfl
theorem piece_plain {n : Nat} {x y : List UInt8} {r : Re} {d : Nat} (h : atomM n x = some (r, y, d)) (h1 : aheadM [42] y = false) (h2 : aheadM [43] y = false) (h3 : aheadM [63] y = false) : pieceM (n + 1) x = some (r, y, d) := by
  simp only [pieceM]
  rw [h]
  simp [h1, h2, h3]
theorem alt_nil (n : Nat) : altM (n + 1) [] = some ([], [], 0) := rfl
theorem pat_then {n m : Nat} {a b : List UInt8} {ls ms : List Re} {d e : Nat} (ha : patM n a = some (ls, [], d)) (hb : patM m b = some (ms, [], e)) :
    patM (n + m + 6) (40 :: (a ++ 41 :: 40 :: (b ++ [41]))) = some ([.row [.alt ls, .alt ms]], [], max (d + 1) (max (e + 1) 0)) := by
  have p1 : pieceM (n + m + 4) (40 :: (a ++ 41 :: 40 :: (b ++ [41]))) = some (.alt ls, 40 :: (b ++ [41]), d + 1) := piece_mono (by omega) (piece_plain (atom_group (z := 40 :: (b ++ [41])) ha) (by rfl) (by rfl) (by rfl))
  have p2 : pieceM (n + m + 3) (40 :: (b ++ [41])) = some (.alt ms, [], e + 1) := piece_mono (by omega) (piece_plain (atom_group (z := []) hb) (by rfl) (by rfl) (by rfl))
  exact pat_one (alt_step (by rfl) (by simp) p1 (alt_step (by rfl) (by simp) p2 (alt_nil _)))
def repM (c : UInt8) (r : Re) : Re := .rep r (c == 42 || c == 63) (c == 42 || c == 43)
theorem pat_again {n : Nat} {a : List UInt8} {ls : List Re} {d : Nat} {c : UInt8} (ha : patM n a = some (ls, [], d)) (hc : c = 42 ∨ c = 43 ∨ c = 63) :
    patM (n + 4) (40 :: (a ++ [41, c])) = some ([.row [repM c (.alt ls)]], [], max (d + 1) 0) := by
  have p1 : pieceM (n + 2) (40 :: (a ++ [41, c])) = some (repM c (.alt ls), [], d + 1) := by
    simp only [pieceM]
    rw [atom_group (z := [c]) ha]
    rcases hc with rfl | rfl | rfl <;> rfl
  exact pat_one (alt_step (by rfl) (by simp) p1 (alt_nil _))

def quoteL (s : List UInt8) : List UInt8 := s.flatMap fun c => if marksL.contains c then [92, c] else [c]
theorem quote_cons (c : UInt8) (s : List UInt8) : quoteL (c :: s) = (if marksL.contains c then [92, c] else [c]) ++ quoteL s := rfl
theorem quote_ahead {k : UInt8} (hk : marksL.contains k = true) (h92 : k ≠ 92) (s : List UInt8) : aheadM [k] (quoteL s) = false := by
  cases s with
  | nil => rfl
  | cons c s =>
    rw [quote_cons]
    split
    · simp [aheadM]; exact fun e => h92 e.symm
    · rename_i h
      simp [aheadM]
      rintro rfl
      exact h hk
theorem quote_ahead2 (s : List UInt8) : aheadM [124, 41] (quoteL s) = false := by
  have h1 := quote_ahead (k := 124) (by decide) (by decide) s
  have h2 := quote_ahead (k := 41) (by decide) (by decide) s
  cases hx : quoteL s with
  | nil => rfl
  | cons c t =>
    rw [hx] at h1 h2
    simp [aheadM] at h1 h2 ⊢
    exact ⟨h1, h2⟩
theorem plain_ne {c k : UInt8} {t : List UInt8} (hk : marksL.contains k = true) (h : marksL.contains c = false) : aheadM [k] (c :: t) = false := by
  simp [aheadM]
  rintro rfl
  rw [hk] at h
  cases h
theorem atom_plain {n : Nat} {c : UInt8} {t : List UInt8} (h : marksL.contains c = false) : atomM (n + 1) (c :: t) = some (oneM c, t, 0) := by
  simp only [atomM]
  rw [plain_ne (by decide) h, plain_ne (by decide) h, plain_ne (by decide) h, plain_ne (by decide) h]
  simp only [Bool.false_eq_true, if_false, takeButM, h]
theorem atom_escaped {n : Nat} {c : UInt8} {t : List UInt8} (h : marksL.contains c = true) : atomM (n + 1) (92 :: c :: t) = some (oneM c, t, 0) := by
  simp only [atomM]
  rw [show aheadM [40] (92 :: c :: t) = false from rfl, show aheadM [91] (92 :: c :: t) = false from rfl, show aheadM [46] (92 :: c :: t) = false from rfl, show aheadM [92] (92 :: c :: t) = true from rfl]
  simp only [Bool.false_eq_true, if_false, if_true, List.tail_cons]
  rw [if_pos h]
theorem alt_quoted : ∀ (s : List UInt8), altM (s.length + 3) (quoteL s) = some (s.map oneM, [], 0)
  | [] => rfl
  | c :: s => by
    have h1 := quote_ahead (k := 42) (by decide) (by decide) s
    have h2 := quote_ahead (k := 43) (by decide) (by decide) s
    have h3 := quote_ahead (k := 63) (by decide) (by decide) s
    have h4 := quote_ahead2 (c :: s)
    rw [quote_cons] at h4 ⊢
    split
    · rename_i h
      rw [if_pos h] at h4
      exact alt_step h4 (by simp) (piece_plain (atom_escaped h) h1 h2 h3) (alt_quoted s)
    · rename_i h
      rw [if_neg h] at h4
      exact alt_step h4 (by simp) (piece_plain (atom_plain (by simpa using h)) h1 h2 h3) (alt_quoted s)

theorem le_anti {a b : UInt8} : (a ≤ b ∧ b ≤ a) ↔ a = b := by
  constructor
  · rintro ⟨h, k⟩
    rw [UInt8.le_iff_toNat_le] at h k
    exact UInt8.toNat_inj.1 (by omega)
  · rintro rfl
    exact ⟨UInt8.le_refl _, UInt8.le_refl _⟩
theorem has_one (c x : UInt8) : hasB [(c, c)] false x = true ↔ x = c := by
  unfold hasB
  have : ([(c, c)] : List (UInt8 × UInt8)).any (spanHas x) = decide (x = c) := by
    rw [Bool.eq_iff_iff]
    simp only [List.any_cons, List.any_nil, Bool.or_false, spanHas, Bool.and_eq_true, decide_eq_true_eq]
    rw [le_anti]
    exact eq_comm
  rw [this]
  by_cases h : x = c <;> simp [h]
theorem L_one (c : UInt8) (w : List UInt8) : L (oneM c) w ↔ w = [c] := by
  simp only [oneM, L, has_one]
  constructor
  · rintro ⟨x, rfl, rfl⟩; rfl
  · intro h; exact ⟨c, h, rfl⟩
theorem L_ones : ∀ (s w : List UInt8), LRow (s.map oneM) w ↔ w = s
  | [], w => by simp [LRow]
  | c :: s, w => by
    simp only [List.map_cons, LRow, L_one]
    constructor
    · rintro ⟨u, v, rfl, rfl, h⟩
      rw [(L_ones s v).1 h]; rfl
    · rintro rfl
      exact ⟨[c], s, rfl, rfl, (L_ones s s).2 rfl⟩
theorem L_app : ∀ (ls ms : List Re) (w : List UInt8), LAlt (ls ++ ms) w ↔ LAlt ls w ∨ LAlt ms w
  | [], ms, w => by simp [LAlt]
  | r :: ls, ms, w => by simp only [List.cons_append, LAlt, L_app ls ms w, or_assoc]
theorem L_row1 (r : Re) (w : List UInt8) : L (.alt [.row [r]]) w ↔ L r w := by
  simp only [L, LAlt, LRow, or_false]
  constructor
  · rintro ⟨u, v, rfl, h, rfl⟩; simpa using h
  · intro h; exact ⟨w, [], by simp, h, rfl⟩
theorem L_then (ls ms : List Re) (w : List UInt8) : L (.alt [.row [.alt ls, .alt ms]]) w ↔ ∃ k, k ≤ w.length ∧ LAlt ls (w.take k) ∧ LAlt ms (w.drop k) := by
  simp only [L, LAlt, LRow, or_false]
  constructor
  · rintro ⟨u, v, rfl, h, u', v', rfl, h2, rfl⟩
    refine ⟨u.length, by simp, by simpa using h, by simpa using h2⟩
  · rintro ⟨k, hk, h, h2⟩
    exact ⟨w.take k, w.drop k, by simp, h, w.drop k, [], by simp, h2, rfl⟩
theorem rep_star (A : Re) (w : List UInt8) : L (.rep A true true) w ↔ Star (L A) w := by
  simp only [L, Sv, if_true, true_and]
  constructor
  · rintro (rfl | ⟨u, v, rfl, h, hs⟩)
    · exact .nil
    · cases u with
      | nil => simpa using hs
      | cons c u => exact .more c u v h hs
  · intro h
    cases h with
    | nil => exact .inl rfl
    | more c u v hp hs => exact .inr ⟨c :: u, v, rfl, hp, hs⟩
/-- One more, behind which it goes on. -/
def MoreP (A : Re) (w : List UInt8) : Prop := ∃ i, 1 ≤ i ∧ i ≤ w.length ∧ L A (w.take i) ∧ L (.rep A true true) (w.drop i)
theorem star_more (A : Re) (w : List UInt8) : L (.rep A true true) w ↔ w = [] ∨ MoreP A w := by
  rw [rep_star]
  unfold MoreP
  simp only [rep_star]
  cases w with
  | nil => simp; exact .nil
  | cons c t =>
    rw [star_cons]
    simp only [reduceCtorEq, false_or]
    constructor
    · rintro ⟨u, v, rfl, h, hs⟩
      exact ⟨u.length + 1, by omega, by simp, by simpa using h, by simpa using hs⟩
    · rintro ⟨i, h1, h2, h, hs⟩
      obtain ⟨j, rfl⟩ : ∃ j, i = j + 1 := ⟨i - 1, by omega⟩
      exact ⟨t.take j, t.drop j, by simp, by simpa using h, by simpa using hs⟩
theorem plus_more (A : Re) (w : List UInt8) : L (.rep A false true) w ↔ MoreP A w ∨ L A w := by
  have hS := star_more A w
  rw [rep_star] at hS
  simp only [L, Sv, if_true, Bool.false_eq_true, false_and, false_or]
  constructor
  · rintro ⟨u, v, rfl, h, hs⟩
    cases u with
    | nil =>
      rcases hS.1 (by simpa using hs) with e | h2
      · right; rw [e]; exact h
      · exact .inl h2
    | cons c u => exact .inl ⟨u.length + 1, by omega, by simp, by simpa using h, (rep_star _ _).2 (by simpa using hs)⟩
  · rintro (⟨i, h1, h2, h, hs⟩ | h)
    · exact ⟨w.take i, w.drop i, by simp, h, (rep_star _ _).1 hs⟩
    · exact ⟨w, [], by simp, h, .nil⟩
theorem maybe_one (A : Re) (w : List UInt8) : L (.rep A true false) w ↔ w = [] ∨ L A w := by
  simp only [L, Sv, Bool.false_eq_true, if_false, true_and]
  constructor
  · rintro (h | ⟨u, v, rfl, h, rfl⟩)
    · exact .inl h
    · exact .inr (by simpa using h)
  · rintro (h | h)
    · exact .inl h
    · exact .inr ⟨w, [], by simp, h, rfl⟩
end Go.Proofs.Ytjljfilflajogaa
