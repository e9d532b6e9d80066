/- The text of a pattern as a tree, read from its front; what stands behind it does not turn what was read. Of no program. -/
import Derived.Test.YtjljfilflajogaaReMath
namespace Go.Proofs.Ytjljfilflajogaa
set_option linter.unusedVariables false

def marksL : List UInt8 := [92, 40, 41, 91, 93, 124, 42, 43, 63, 46]
def unlistedL : List UInt8 := [92, 91, 93, 94, 45]
def aheadM (q : List UInt8) : List UInt8 → Bool
  | [] => false
  | c :: _ => q.contains c
def takeButM (q : List UInt8) : List UInt8 → Option (UInt8 × List UInt8)
  | [] => none
  | c :: y => if q.contains c then none else some (c, y)
def itemM (x : List UInt8) : Option ((UInt8 × UInt8) × List UInt8) :=
  match takeButM unlistedL x with
  | none => none
  | some (lo, y) => if aheadM [45] y then
      match takeButM unlistedL y.tail with
      | none => none
      | some (hi, z) => if lo ≤ hi then some ((lo, hi), z) else none
    else some ((lo, lo), y)
def itemsM : Nat → List UInt8 → Option (List (UInt8 × UInt8) × List UInt8)
  | 0, _ => none
  | n + 1, x => match itemM x with
    | none => none
    | some (s, y) => if aheadM [93] y then some ([s], y.tail) else
      match itemsM n y with
      | none => none
      | some (ss, z) => some (s :: ss, z)
def classM (n : Nat) (x : List UInt8) : Option (Re × List UInt8) :=
  match itemsM n (if aheadM [94] x then x.tail else x) with
  | none => none
  | some (ss, y) => some (.atom ss (aheadM [94] x) false, y)
def oneM (c : UInt8) : Re := .atom [(c, c)] false false
mutual
/-- Alternatives; what is left; how deep they nest. -/
def patM : Nat → List UInt8 → Option (List Re × List UInt8 × Nat)
  | 0, _ => none
  | n + 1, x => match altM n x with
    | none => none
    | some (l, y, d) => if aheadM [124] y then
        match patM n y.tail with
        | none => none
        | some (ls, z, e) => some (.row l :: ls, z, max d e)
      else some ([.row l], y, d)
def altM : Nat → List UInt8 → Option (List Re × List UInt8 × Nat)
  | 0, _ => none
  | n + 1, x => if x.isEmpty || aheadM [124, 41] x then some ([], x, 0) else
    match pieceM n x with
    | none => none
    | some (r, y, d) => match altM n y with
      | none => none
      | some (rs, z, e) => some (r :: rs, z, max d e)
def pieceM : Nat → List UInt8 → Option (Re × List UInt8 × Nat)
  | 0, _ => none
  | n + 1, x => match atomM n x with
    | none => none
    | some (r, y, d) => if aheadM [42] y then some (.rep r true true, y.tail, d)
      else if aheadM [43] y then some (.rep r false true, y.tail, d)
      else if aheadM [63] y then some (.rep r true false, y.tail, d)
      else some (r, y, d)
def atomM : Nat → List UInt8 → Option (Re × List UInt8 × Nat)
  | 0, _ => none
  | n + 1, x => if aheadM [40] x then
      match patM n x.tail with
      | none => none
      | some (ls, y, d) => if aheadM [41] y then some (.alt ls, y.tail, d + 1) else none
    else if aheadM [91] x then
      match classM n x.tail with
      | none => none
      | some (r, y) => some (r, y, 0)
    else if aheadM [46] x then some (.atom [] true false, x.tail, 0)
    else if aheadM [92] x then
      match x.tail with
      | [] => none
      | c :: y => if marksL.contains c then some (oneM c, y, 0) else none
    else match takeButM marksL x with
      | none => none
      | some (c, y) => some (oneM c, y, 0)
end
/-- What refuses a pattern (0: nothing), and its tree. -/
def parseM (n : Nat) (p : List UInt8) : Int × Re :=
  if 64 < p.length then (3, .row []) else
  match patM n p with
  | none => (14, .row [])
  | some (ls, y, d) => if y.isEmpty then (if 8 < d then (15, .row []) else (0, .alt ls)) else (14, .row [])

theorem tail_len {q x : List UInt8} (h : aheadM q x = true) : x.tail.length + 1 = x.length := by
  cases x with
  | nil => simp [aheadM] at h
  | cons c y => rfl
theorem takeBut_some {q x y : List UInt8} {c : UInt8} (h : takeButM q x = some (c, y)) : x = c :: y ∧ q.contains c = false := by
  cases x with
  | nil => simp [takeButM] at h
  | cons c' y' =>
    simp only [takeButM] at h
    split at h
    · cases h
    · rename_i hq
      simp only [Option.some.injEq, Prod.mk.injEq] at h
      obtain ⟨rfl, rfl⟩ := h
      exact ⟨rfl, by simpa using hq⟩
theorem item_len {x y : List UInt8} {s : UInt8 × UInt8} (h : itemM x = some (s, y)) : y.length < x.length := by
  unfold itemM at h
  split at h
  · cases h
  · rename_i lo y0 h0
    obtain ⟨rfl, _⟩ := takeBut_some h0
    split at h
    · rename_i ha
      have hl := tail_len ha
      split at h
      · cases h
      · rename_i hi z h1
        have hz := (takeBut_some h1).1
        split at h
        · simp only [Option.some.injEq, Prod.mk.injEq] at h
          obtain ⟨_, rfl⟩ := h
          rw [hz] at hl
          simp at hl ⊢
          omega
        · cases h
    · simp only [Option.some.injEq, Prod.mk.injEq] at h
      obtain ⟨_, rfl⟩ := h
      simp
theorem items_len : ∀ {n : Nat} {x y : List UInt8} {ss : List (UInt8 × UInt8)}, itemsM n x = some (ss, y) → ss.length + y.length ≤ x.length
  | 0, x, y, ss, h => by simp [itemsM] at h
  | n + 1, x, y, ss, h => by
    simp only [itemsM] at h
    split at h
    · cases h
    · rename_i s y0 h0
      have h1 := item_len h0
      split at h
      · rename_i ha
        have := tail_len ha
        simp only [Option.some.injEq, Prod.mk.injEq] at h
        obtain ⟨rfl, rfl⟩ := h
        simp
        omega
      · split at h
        · cases h
        · rename_i ss' z h2
          have := items_len h2
          simp only [Option.some.injEq, Prod.mk.injEq] at h
          obtain ⟨rfl, rfl⟩ := h
          simp
          omega
theorem class_len {n : Nat} {x y : List UInt8} {r : Re} (h : classM n x = some (r, y)) : y.length ≤ x.length := by
  unfold classM at h
  split at h
  · cases h
  · rename_i ss y0 h0
    simp only [Option.some.injEq, Prod.mk.injEq] at h
    obtain ⟨_, rfl⟩ := h
    have := items_len h0
    split at this
    · rename_i ha
      have := tail_len ha
      omega
    · omega
mutual
theorem pat_len : ∀ {n : Nat} {x y : List UInt8} {ls : List Re} {d : Nat}, patM n x = some (ls, y, d) → y.length ≤ x.length ∧ ls.length + y.length ≤ x.length + 1
  | 0, x, y, ls, d, h => by simp [patM] at h
  | n + 1, x, y, ls, d, h => by
    simp only [patM] at h
    split at h
    · cases h
    · rename_i l y0 d0 h0
      have h1 := alt_len h0
      split at h
      · rename_i ha
        have h2 := tail_len ha
        split at h
        · cases h
        · rename_i ls' z e h3
          have h4 := pat_len h3
          simp only [Option.some.injEq, Prod.mk.injEq] at h
          obtain ⟨rfl, rfl, rfl⟩ := h
          simp
          omega
      · simp only [Option.some.injEq, Prod.mk.injEq] at h
        obtain ⟨rfl, rfl, rfl⟩ := h
        simp
        omega
theorem alt_len : ∀ {n : Nat} {x y : List UInt8} {l : List Re} {d : Nat}, altM n x = some (l, y, d) → l.length + y.length ≤ x.length
  | 0, x, y, l, d, h => by simp [altM] at h
  | n + 1, x, y, l, d, h => by
    simp only [altM] at h
    split at h
    · simp only [Option.some.injEq, Prod.mk.injEq] at h
      obtain ⟨rfl, rfl, rfl⟩ := h
      simp
    · split at h
      · cases h
      · rename_i r y0 d0 h0
        have h1 := piece_len h0
        split at h
        · cases h
        · rename_i rs z e h2
          have h3 := alt_len h2
          simp only [Option.some.injEq, Prod.mk.injEq] at h
          obtain ⟨rfl, rfl, rfl⟩ := h
          simp
          omega
theorem piece_len : ∀ {n : Nat} {x y : List UInt8} {r : Re} {d : Nat}, pieceM n x = some (r, y, d) → y.length < x.length
  | 0, x, y, r, d, h => by simp [pieceM] at h
  | n + 1, x, y, r, d, h => by
    simp only [pieceM] at h
    split at h
    · cases h
    · rename_i r0 y0 d0 h0
      have h1 := atom_len h0
      split at h
      · rename_i ha
        have := tail_len ha
        simp only [Option.some.injEq, Prod.mk.injEq] at h
        obtain ⟨rfl, rfl, rfl⟩ := h
        omega
      · split at h
        · rename_i ha
          have := tail_len ha
          simp only [Option.some.injEq, Prod.mk.injEq] at h
          obtain ⟨rfl, rfl, rfl⟩ := h
          omega
        · split at h
          · rename_i ha
            have := tail_len ha
            simp only [Option.some.injEq, Prod.mk.injEq] at h
            obtain ⟨rfl, rfl, rfl⟩ := h
            omega
          · simp only [Option.some.injEq, Prod.mk.injEq] at h
            obtain ⟨rfl, rfl, rfl⟩ := h
            omega
theorem atom_len : ∀ {n : Nat} {x y : List UInt8} {r : Re} {d : Nat}, atomM n x = some (r, y, d) → y.length < x.length
  | 0, x, y, r, d, h => by simp [atomM] at h
  | n + 1, x, y, r, d, h => by
    simp only [atomM] at h
    split at h
    · rename_i ha
      have h1 := tail_len ha
      split at h
      · cases h
      · rename_i ls y0 d0 h0
        have h2 := pat_len h0
        split at h
        · rename_i hb
          have h3 := tail_len hb
          simp only [Option.some.injEq, Prod.mk.injEq] at h
          obtain ⟨rfl, rfl, rfl⟩ := h
          omega
        · cases h
    · split at h
      · rename_i ha
        have h1 := tail_len ha
        split at h
        · cases h
        · rename_i r0 y0 h0
          have h2 := class_len h0
          simp only [Option.some.injEq, Prod.mk.injEq] at h
          obtain ⟨rfl, rfl, rfl⟩ := h
          omega
      · split at h
        · rename_i ha
          have h1 := tail_len ha
          simp only [Option.some.injEq, Prod.mk.injEq] at h
          obtain ⟨rfl, rfl, rfl⟩ := h
          omega
        · split at h
          · rename_i ha
            have h1 := tail_len ha
            split at h
            · cases h
            · rename_i c y0 hx
              split at h
              · simp only [Option.some.injEq, Prod.mk.injEq] at h
                obtain ⟨rfl, rfl, rfl⟩ := h
                rw [hx] at h1
                simp at h1
                omega
              · cases h
          · split at h
            · cases h
            · rename_i c y0 h0
              obtain ⟨rfl, _⟩ := takeBut_some h0
              simp only [Option.some.injEq, Prod.mk.injEq] at h
              obtain ⟨rfl, rfl, rfl⟩ := h
              simp
end
end Go.Proofs.Ytjljfilflajogaa
