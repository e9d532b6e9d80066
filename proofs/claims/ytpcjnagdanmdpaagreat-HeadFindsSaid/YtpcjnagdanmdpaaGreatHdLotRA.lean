/- In one text, written by lotify.py: ReMath, ReParse, ReParse2, ReParse3, ReParse4, ReParse6. -/

namespace Go.Proofs.YtpcjnagdanmdpaaGreat
set_option linter.unusedVariables false
/-- A tree: an atom has spans, may turn them round, and may have taken the last byte; parts behind one another; parts of which one fits; a part that may come again, or not at all. -/
inductive Re where
  | atom (sp : List (UInt8 × UInt8)) (neg taken : Bool)
  | row (l : List Re)
  | alt (l : List Re)
  | rep (r : Re) (no many : Bool)
def spanHas (c : UInt8) (s : UInt8 × UInt8) : Bool := decide (s.1 ≤ c) && decide (c ≤ s.2)
def hasB (sp : List (UInt8 × UInt8)) (neg : Bool) (c : UInt8) : Bool := if sp.any (spanHas c) then !neg else neg
mutual
def emptyM : Re → Bool
  | .atom _ _ _ => false
  | .row l => emptyAll l
  | .alt l => emptyAny l
  | .rep r no _ => no || emptyM r
def emptyAll : List Re → Bool
  | [] => true
  | r :: l => emptyM r && emptyAll l
def emptyAny : List Re → Bool
  | [] => false
  | r :: l => emptyM r || emptyAny l
end
mutual
def doneM : Re → Bool
  | .atom _ _ tk => tk
  | .row l => doneRow false l
  | .alt l => doneAny l
  | .rep r _ _ => doneM r
def doneRow : Bool → List Re → Bool
  | d, [] => d
  | d, r :: l => doneRow (doneM r || (d && emptyM r)) l
def doneAny : List Re → Bool
  | [] => false
  | r :: l => doneM r || doneAny l
end
mutual
def feedM (c : UInt8) : Bool → Re → Re
  | b, .atom sp neg _ => .atom sp neg (b && hasB sp neg c)
  | b, .row l => .row (feedRow c b l)
  | b, .alt l => .alt (feedAll c b l)
  | b, .rep r no many => .rep (feedM c (b || (many && doneM r)) r) no many
def feedRow (c : UInt8) : Bool → List Re → List Re
  | _, [] => []
  | b, r :: l => feedM c b r :: feedRow c (doneM r || (b && emptyM r)) l
def feedAll (c : UInt8) : Bool → List Re → List Re
  | _, [] => []
  | b, r :: l => feedM c b r :: feedAll c b l
end
/-- The bytes go through the tree, the first one as its first. -/
def feeds : Bool → Re → List UInt8 → Re
  | _, r, [] => r
  | b, r, c :: s => feeds false (feedM c b r) s
def fitsM (r : Re) (s : List UInt8) : Bool := if s.isEmpty then emptyM r else doneM (feeds true r s)
/-- Texts of P behind one another, none of them empty. -/
inductive Star (P : List UInt8 → Prop) : List UInt8 → Prop
  | nil : Star P []
  | more (c : UInt8) (u v : List UInt8) : P (c :: u) → Star P v → Star P (c :: u ++ v)
def Sv (P : List UInt8 → Prop) (many : Bool) (v : List UInt8) : Prop := if many then Star P v else v = []
mutual
def L : Re → List UInt8 → Prop
  | .atom sp neg _, w => ∃ c, w = [c] ∧ hasB sp neg c = true
  | .row l, w => LRow l w
  | .alt l, w => LAlt l w
  | .rep r no many, w => (no = true ∧ w = []) ∨ ∃ u v, w = u ++ v ∧ L r u ∧ Sv (L r) many v
def LRow : List Re → List UInt8 → Prop
  | [], w => w = []
  | r :: l, w => ∃ u v, w = u ++ v ∧ L r u ∧ LRow l v
def LAlt : List Re → List UInt8 → Prop
  | [], _ => False
  | r :: l, w => L r w ∨ LAlt l w
end
mutual
def C : Re → List UInt8 → Prop
  | .atom _ _ tk, w => tk = true ∧ w = []
  | .row l, w => CRow l w
  | .alt l, w => CAlt l w
  | .rep r _ many, w => ∃ u v, w = u ++ v ∧ C r u ∧ Sv (L r) many v
def CRow : List Re → List UInt8 → Prop
  | [], _ => False
  | r :: l, w => (∃ u v, w = u ++ v ∧ C r u ∧ LRow l v) ∨ CRow l w
def CAlt : List Re → List UInt8 → Prop
  | [], _ => False
  | r :: l, w => C r w ∨ CAlt l w
end
mutual
def freshM : Re → Bool
  | .atom _ _ tk => !tk
  | .row l => freshAll l
  | .alt l => freshAll l
  | .rep r _ _ => freshM r
def freshAll : List Re → Bool
  | [] => true
  | r :: l => freshM r && freshAll l
end
theorem nil_app {u v : List UInt8} : ([] = u ++ v) ↔ u = [] ∧ v = [] := by
  constructor
  · intro h; exact List.append_eq_nil_iff.1 h.symm
  · rintro ⟨rfl, rfl⟩; rfl
theorem Sv.nil (P : List UInt8 → Prop) (many : Bool) : Sv P many [] := by
  unfold Sv
  cases many
  · rfl
  · exact .nil
theorem cons_app {c : UInt8} {w u v : List UInt8} : (c :: w = u ++ v) ↔ (u = [] ∧ v = c :: w) ∨ ∃ u', u = c :: u' ∧ w = u' ++ v := by
  cases u with
  | nil => simp [eq_comm]
  | cons a u =>
    simp only [List.cons_append, List.cons.injEq]
    constructor
    · rintro ⟨rfl, rfl⟩; exact .inr ⟨u, ⟨rfl, rfl⟩, rfl⟩
    · rintro (⟨h, _⟩ | ⟨u', ⟨rfl, rfl⟩, rfl⟩)
      · cases h
      · exact ⟨rfl, rfl⟩
mutual
theorem empty_L : ∀ (r : Re), emptyM r = true ↔ L r []
  | .atom sp neg tk => by simp [emptyM, L]
  | .row l => by simp only [emptyM, L]; exact empty_row l
  | .alt l => by simp only [emptyM, L]; exact empty_alt l
  | .rep r no many => by
    simp only [emptyM, L, Bool.or_eq_true, empty_L r]
    constructor
    · rintro (h | h)
      · exact .inl ⟨h, trivial⟩
      · exact .inr ⟨[], [], rfl, h, Sv.nil _ _⟩
    · rintro (⟨h, _⟩ | ⟨u, v, e, h, _⟩)
      · exact .inl h
      · obtain ⟨rfl, rfl⟩ := nil_app.1 e
        exact .inr h
theorem empty_row : ∀ (l : List Re), emptyAll l = true ↔ LRow l []
  | [] => by simp [emptyAll, LRow]
  | r :: l => by
    simp only [emptyAll, LRow, Bool.and_eq_true, empty_L r, empty_row l]
    constructor
    · rintro ⟨h, k⟩; exact ⟨[], [], rfl, h, k⟩
    · rintro ⟨u, v, e, h, k⟩
      obtain ⟨rfl, rfl⟩ := nil_app.1 e
      exact ⟨h, k⟩
theorem empty_alt : ∀ (l : List Re), emptyAny l = true ↔ LAlt l []
  | [] => by simp [emptyAny, LAlt]
  | r :: l => by simp only [emptyAny, LAlt, Bool.or_eq_true, empty_L r, empty_alt l]
end
mutual
theorem done_C : ∀ (r : Re), doneM r = true ↔ C r []
  | .atom sp neg tk => by simp [doneM, C]
  | .row l => by simp only [doneM, C]; rw [done_row false l]; simp
  | .alt l => by simp only [doneM, C]; exact done_alt l
  | .rep r no many => by
    simp only [doneM, C, done_C r]
    constructor
    · intro h; exact ⟨[], [], rfl, h, Sv.nil _ _⟩
    · rintro ⟨u, v, e, h, _⟩
      obtain ⟨rfl, rfl⟩ := nil_app.1 e
      exact h
theorem done_row : ∀ (d : Bool) (l : List Re), doneRow d l = true ↔ (d = true ∧ LRow l []) ∨ CRow l []
  | d, [] => by simp [doneRow, LRow, CRow]
  | d, r :: l => by
    simp only [doneRow, LRow, CRow]
    rw [done_row _ l]
    simp only [Bool.or_eq_true, Bool.and_eq_true, done_C r, empty_L r]
    constructor
    · rintro (⟨h | ⟨h, h2⟩, k⟩ | k)
      · exact .inr (.inl ⟨[], [], rfl, h, k⟩)
      · exact .inl ⟨h, [], [], rfl, h2, k⟩
      · exact .inr (.inr k)
    · rintro (⟨h, u, v, e, h2, k⟩ | ⟨u, v, e, h, k⟩ | k)
      · obtain ⟨rfl, rfl⟩ := nil_app.1 e
        exact .inl ⟨.inr ⟨h, h2⟩, k⟩
      · obtain ⟨rfl, rfl⟩ := nil_app.1 e
        exact .inl ⟨.inl h, k⟩
      · exact .inr k
theorem done_alt : ∀ (l : List Re), doneAny l = true ↔ CAlt l []
  | [] => by simp [doneAny, CAlt]
  | r :: l => by simp only [doneAny, CAlt, Bool.or_eq_true, done_C r, done_alt l]
end
mutual
theorem feed_L (c : UInt8) : ∀ (b : Bool) (r : Re), L (feedM c b r) = L r
  | b, .atom sp neg tk => by simp only [feedM]; funext w; simp only [L]
  | b, .row l => by simp only [feedM]; funext w; simp only [L]; rw [feed_LRow c b l]
  | b, .alt l => by simp only [feedM]; funext w; simp only [L]; rw [feed_LAlt c b l]
  | b, .rep r no many => by simp only [feedM]; funext w; simp only [L]; rw [feed_L c _ r]
theorem feed_LRow (c : UInt8) : ∀ (b : Bool) (l : List Re), LRow (feedRow c b l) = LRow l
  | b, [] => rfl
  | b, r :: l => by simp only [feedRow]; funext w; simp only [LRow]; rw [feed_L c b r, feed_LRow c _ l]
theorem feed_LAlt (c : UInt8) : ∀ (b : Bool) (l : List Re), LAlt (feedAll c b l) = LAlt l
  | b, [] => rfl
  | b, r :: l => by simp only [feedAll]; funext w; simp only [LAlt]; rw [feed_L c b r, feed_LAlt c _ l]
end
theorem star_cons {P : List UInt8 → Prop} {c : UInt8} {w : List UInt8} : Star P (c :: w) ↔ ∃ u v, w = u ++ v ∧ P (c :: u) ∧ Star P v := by
  constructor
  · intro h
    generalize hx : c :: w = x at h
    cases h with
    | nil => cases hx
    | more c' u v hp hs =>
      simp only [List.cons_append, List.cons.injEq] at hx
      obtain ⟨rfl, rfl⟩ := hx
      exact ⟨u, v, rfl, hp, hs⟩
  · rintro ⟨u, v, rfl, hp, hs⟩
    exact .more c u v hp hs
theorem sv_cons {P : List UInt8 → Prop} {many : Bool} {c : UInt8} {w : List UInt8} : Sv P many (c :: w) ↔ many = true ∧ ∃ u v, w = u ++ v ∧ P (c :: u) ∧ Sv P many v := by
  unfold Sv
  cases many
  · simp
  · simp only [if_true, true_and]
    exact star_cons
mutual
theorem feed_C (c : UInt8) : ∀ (b : Bool) (r : Re) (w : List UInt8), C (feedM c b r) w ↔ C r (c :: w) ∨ (b = true ∧ L r (c :: w))
  | b, .atom sp neg tk, w => by
    simp only [feedM, C, L, Bool.and_eq_true]
    constructor
    · rintro ⟨⟨hb, hh⟩, rfl⟩; exact .inr ⟨hb, c, rfl, hh⟩
    · rintro (⟨_, h⟩ | ⟨hb, c', e, hh⟩)
      · cases h
      · simp only [List.cons.injEq] at e
        obtain ⟨rfl, rfl⟩ := e
        exact ⟨⟨hb, hh⟩, rfl⟩
  | b, .row l, w => by simp only [feedM, C, L]; exact feed_CRow c b l w
  | b, .alt l, w => by simp only [feedM, C, L]; exact feed_CAlt c b l w
  | b, .rep r no many, w => by
    simp only [feedM, C, L, feed_L]
    constructor
    · rintro ⟨u, v, rfl, h, hs⟩
      rcases (feed_C c _ r u).1 h with h | ⟨hb, h⟩
      · exact .inl ⟨c :: u, v, rfl, h, hs⟩
      · rcases Bool.or_eq_true _ _ ▸ hb with hb | hb
        · exact .inr ⟨hb, .inr ⟨c :: u, v, rfl, h, hs⟩⟩
        · rw [Bool.and_eq_true] at hb
          exact .inl ⟨[], c :: (u ++ v), rfl, (done_C r).1 hb.2, sv_cons.2 ⟨hb.1, u, v, rfl, h, hs⟩⟩
    · rintro (⟨u, v, e, h, hs⟩ | ⟨hb, ⟨_, e⟩ | ⟨u, v, e, h, hs⟩⟩)
      · rcases cons_app.1 e with ⟨rfl, rfl⟩ | ⟨u', rfl, rfl⟩
        · obtain ⟨hm, x, y, rfl, hx, hy⟩ := sv_cons.1 hs
          exact ⟨x, y, rfl, (feed_C c _ r x).2 (.inr ⟨by rw [Bool.or_eq_true, Bool.and_eq_true]; exact .inr ⟨hm, (done_C r).2 h⟩, hx⟩), hy⟩
        · exact ⟨u', v, rfl, (feed_C c _ r u').2 (.inl h), hs⟩
      · cases e
      · rcases cons_app.1 e with ⟨rfl, rfl⟩ | ⟨u', rfl, rfl⟩
        · obtain ⟨hm, x, y, rfl, hx, hy⟩ := sv_cons.1 hs
          exact ⟨x, y, rfl, (feed_C c _ r x).2 (.inr ⟨by rw [Bool.or_eq_true]; exact .inl hb, hx⟩), hy⟩
        · exact ⟨u', v, rfl, (feed_C c _ r u').2 (.inr ⟨by rw [Bool.or_eq_true]; exact .inl hb, h⟩), hs⟩
theorem feed_CRow (c : UInt8) : ∀ (b : Bool) (l : List Re) (w : List UInt8), CRow (feedRow c b l) w ↔ CRow l (c :: w) ∨ (b = true ∧ LRow l (c :: w))
  | b, [], w => by simp [feedRow, CRow, LRow]
  | b, r :: l, w => by
    simp only [feedRow, CRow, LRow, feed_LRow]
    rw [feed_CRow c _ l w]
    simp only [Bool.or_eq_true, Bool.and_eq_true]
    constructor
    · rintro (⟨u, v, rfl, h, k⟩ | h | ⟨h | ⟨hb, h⟩, k⟩)
      · rcases (feed_C c b r u).1 h with h | ⟨hb, h⟩
        · exact .inl (.inl ⟨c :: u, v, rfl, h, k⟩)
        · exact .inr ⟨hb, c :: u, v, rfl, h, k⟩
      · exact .inl (.inr h)
      · exact .inl (.inl ⟨[], c :: w, rfl, (done_C r).1 h, k⟩)
      · exact .inr ⟨hb, [], c :: w, rfl, (empty_L r).1 h, k⟩
    · rintro ((⟨u, v, e, h, k⟩ | h) | ⟨hb, u, v, e, h, k⟩)
      · rcases cons_app.1 e with ⟨rfl, rfl⟩ | ⟨u', rfl, rfl⟩
        · exact .inr (.inr ⟨.inl ((done_C r).2 h), k⟩)
        · exact .inl ⟨u', v, rfl, (feed_C c b r u').2 (.inl h), k⟩
      · exact .inr (.inl h)
      · rcases cons_app.1 e with ⟨rfl, rfl⟩ | ⟨u', rfl, rfl⟩
        · exact .inr (.inr ⟨.inr ⟨hb, (empty_L r).2 h⟩, k⟩)
        · exact .inl ⟨u', v, rfl, (feed_C c b r u').2 (.inr ⟨hb, h⟩), k⟩
theorem feed_CAlt (c : UInt8) : ∀ (b : Bool) (l : List Re) (w : List UInt8), CAlt (feedAll c b l) w ↔ CAlt l (c :: w) ∨ (b = true ∧ LAlt l (c :: w))
  | b, [], w => by simp [feedAll, CAlt, LAlt]
  | b, r :: l, w => by
    simp only [feedAll, CAlt, LAlt]
    rw [feed_C c b r w, feed_CAlt c b l w]
    constructor
    · rintro ((h | ⟨hb, h⟩) | h | ⟨hb, h⟩)
      · exact .inl (.inl h)
      · exact .inr ⟨hb, .inl h⟩
      · exact .inl (.inr h)
      · exact .inr ⟨hb, .inr h⟩
    · rintro ((h | h) | ⟨hb, h | h⟩)
      · exact .inl (.inl h)
      · exact .inr (.inl h)
      · exact .inl (.inr ⟨hb, h⟩)
      · exact .inr (.inr ⟨hb, h⟩)
end
mutual
theorem fresh_C : ∀ (r : Re), freshM r = true → ∀ w, ¬ C r w
  | .atom sp neg tk, h, w => by simp only [freshM] at h; simp only [C]; cases tk <;> simp at h ⊢
  | .row l, h, w => by simp only [freshM] at h; simp only [C]; exact fresh_CRow l h w
  | .alt l, h, w => by simp only [freshM] at h; simp only [C]; exact fresh_CAlt l h w
  | .rep r no many, h, w => by
    simp only [freshM] at h
    simp only [C]
    rintro ⟨u, v, _, k, _⟩
    exact fresh_C r h u k
theorem fresh_CRow : ∀ (l : List Re), freshAll l = true → ∀ w, ¬ CRow l w
  | [], h, w => by simp [CRow]
  | r :: l, h, w => by
    simp only [freshAll, Bool.and_eq_true] at h
    simp only [CRow]
    rintro (⟨u, v, _, k, _⟩ | k)
    · exact fresh_C r h.1 u k
    · exact fresh_CRow l h.2 w k
theorem fresh_CAlt : ∀ (l : List Re), freshAll l = true → ∀ w, ¬ CAlt l w
  | [], h, w => by simp [CAlt]
  | r :: l, h, w => by
    simp only [freshAll, Bool.and_eq_true] at h
    simp only [CAlt]
    rintro (k | k)
    · exact fresh_C r h.1 w k
    · exact fresh_CAlt l h.2 w k
end
theorem feeds_C : ∀ (s : List UInt8) (r : Re) (w : List UInt8), C (feeds false r s) w ↔ C r (s ++ w)
  | [], r, w => by simp [feeds]
  | c :: s, r, w => by
    rw [feeds, feeds_C s, feed_C]
    simp
/-- What the marks tell is what the tree fits. -/
theorem fits_L {r : Re} (h : freshM r = true) (s : List UInt8) : fitsM r s = true ↔ L r s := by
  unfold fitsM
  cases s with
  | nil => simp only [List.isEmpty_nil, if_true]; exact empty_L r
  | cons c s =>
    simp only [List.isEmpty_cons, Bool.false_eq_true, if_false, feeds]
    rw [done_C, feeds_C, List.append_nil, feed_C]
    simp [fresh_C r h]
theorem feeds_snoc : ∀ (s : List UInt8) (b : Bool) (r : Re) (c : UInt8), feeds b r (s ++ [c]) = feedM c (b && s.isEmpty) (feeds b r s)
  | [], b, r, c => by simp [feeds]
  | d :: s, b, r, c => by
    simp only [List.cons_append, feeds]
    rw [feeds_snoc s]
    simp
def marksL : List UInt8 := [92, 40, 41, 91, 93, 124, 42, 43, 63, 46]
def unlistedL : List UInt8 := [92, 91, 93, 94, 45]
def aheadM (q : List UInt8) : List UInt8 → Bool
  | [] => false
  | c :: _ => q.contains c
def takeButM (q : List UInt8) : List UInt8 → Option (UInt8 × List UInt8)
  | [] => none
  | c :: y => if q.contains c then none else some (c, y)
def itemM (x : List UInt8) : Option ((UInt8 × UInt8) × List UInt8) :=
  match takeButM unlistedL x with
  | none => none
  | some (lo, y) => if aheadM [45] y then
      match takeButM unlistedL y.tail with
      | none => none
      | some (hi, z) => if lo ≤ hi then some ((lo, hi), z) else none
    else some ((lo, lo), y)
def itemsM : Nat → List UInt8 → Option (List (UInt8 × UInt8) × List UInt8)
  | 0, _ => none
  | n + 1, x => match itemM x with
    | none => none
    | some (s, y) => if aheadM [93] y then some ([s], y.tail) else
      match itemsM n y with
      | none => none
      | some (ss, z) => some (s :: ss, z)
def classM (n : Nat) (x : List UInt8) : Option (Re × List UInt8) :=
  match itemsM n (if aheadM [94] x then x.tail else x) with
  | none => none
  | some (ss, y) => some (.atom ss (aheadM [94] x) false, y)
def oneM (c : UInt8) : Re := .atom [(c, c)] false false
mutual
/-- Alternatives; what is left; how deep they nest. -/
def patM : Nat → List UInt8 → Option (List Re × List UInt8 × Nat)
  | 0, _ => none
  | n + 1, x => match altM n x with
    | none => none
    | some (l, y, d) => if aheadM [124] y then
        match patM n y.tail with
        | none => none
        | some (ls, z, e) => some (.row l :: ls, z, max d e)
      else some ([.row l], y, d)
def altM : Nat → List UInt8 → Option (List Re × List UInt8 × Nat)
  | 0, _ => none
  | n + 1, x => if x.isEmpty || aheadM [124, 41] x then some ([], x, 0) else
    match pieceM n x with
    | none => none
    | some (r, y, d) => match altM n y with
      | none => none
      | some (rs, z, e) => some (r :: rs, z, max d e)
def pieceM : Nat → List UInt8 → Option (Re × List UInt8 × Nat)
  | 0, _ => none
  | n + 1, x => match atomM n x with
    | none => none
    | some (r, y, d) => if aheadM [42] y then some (.rep r true true, y.tail, d)
      else if aheadM [43] y then some (.rep r false true, y.tail, d)
      else if aheadM [63] y then some (.rep r true false, y.tail, d)
      else some (r, y, d)
def atomM : Nat → List UInt8 → Option (Re × List UInt8 × Nat)
  | 0, _ => none
  | n + 1, x => if aheadM [40] x then
      match patM n x.tail with
      | none => none
      | some (ls, y, d) => if aheadM [41] y then some (.alt ls, y.tail, d + 1) else none
    else if aheadM [91] x then
      match classM n x.tail with
      | none => none
      | some (r, y) => some (r, y, 0)
    else if aheadM [46] x then some (.atom [] true false, x.tail, 0)
    else if aheadM [92] x then
      match x.tail with
      | [] => none
      | c :: y => if marksL.contains c then some (oneM c, y, 0) else none
    else match takeButM marksL x with
      | none => none
      | some (c, y) => some (oneM c, y, 0)
end
/-- What refuses a pattern (0: nothing), and its tree. -/
def parseM (n : Nat) (p : List UInt8) : Int × Re :=
  if 64 < p.length then (3, .row []) else
  match patM n p with
  | none => (14, .row [])
  | some (ls, y, d) => if y.isEmpty then (if 8 < d then (15, .row []) else (0, .alt ls)) else (14, .row [])
theorem tail_len {q x : List UInt8} (h : aheadM q x = true) : x.tail.length + 1 = x.length := by
  cases x with
  | nil => simp [aheadM] at h
  | cons c y => rfl
theorem takeBut_some {q x y : List UInt8} {c : UInt8} (h : takeButM q x = some (c, y)) : x = c :: y ∧ q.contains c = false := by
  cases x with
  | nil => simp [takeButM] at h
  | cons c' y' =>
    simp only [takeButM] at h
    split at h
    · cases h
    · rename_i hq
      simp only [Option.some.injEq, Prod.mk.injEq] at h
      obtain ⟨rfl, rfl⟩ := h
      exact ⟨rfl, by simpa using hq⟩
theorem item_len {x y : List UInt8} {s : UInt8 × UInt8} (h : itemM x = some (s, y)) : y.length < x.length := by
  unfold itemM at h
  split at h
  · cases h
  · rename_i lo y0 h0
    obtain ⟨rfl, _⟩ := takeBut_some h0
    split at h
    · rename_i ha
      have hl := tail_len ha
      split at h
      · cases h
      · rename_i hi z h1
        have hz := (takeBut_some h1).1
        split at h
        · simp only [Option.some.injEq, Prod.mk.injEq] at h
          obtain ⟨_, rfl⟩ := h
          rw [hz] at hl
          simp at hl ⊢
          omega
        · cases h
    · simp only [Option.some.injEq, Prod.mk.injEq] at h
      obtain ⟨_, rfl⟩ := h
      simp
theorem items_len : ∀ {n : Nat} {x y : List UInt8} {ss : List (UInt8 × UInt8)}, itemsM n x = some (ss, y) → ss.length + y.length ≤ x.length
  | 0, x, y, ss, h => by simp [itemsM] at h
  | n + 1, x, y, ss, h => by
    simp only [itemsM] at h
    split at h
    · cases h
    · rename_i s y0 h0
      have h1 := item_len h0
      split at h
      · rename_i ha
        have := tail_len ha
        simp only [Option.some.injEq, Prod.mk.injEq] at h
        obtain ⟨rfl, rfl⟩ := h
        simp
        omega
      · split at h
        · cases h
        · rename_i ss' z h2
          have := items_len h2
          simp only [Option.some.injEq, Prod.mk.injEq] at h
          obtain ⟨rfl, rfl⟩ := h
          simp
          omega
theorem class_len {n : Nat} {x y : List UInt8} {r : Re} (h : classM n x = some (r, y)) : y.length ≤ x.length := by
  unfold classM at h
  split at h
  · cases h
  · rename_i ss y0 h0
    simp only [Option.some.injEq, Prod.mk.injEq] at h
    obtain ⟨_, rfl⟩ := h
    have := items_len h0
    split at this
    · rename_i ha
      have := tail_len ha
      omega
    · omega
mutual
theorem pat_len : ∀ {n : Nat} {x y : List UInt8} {ls : List Re} {d : Nat}, patM n x = some (ls, y, d) → y.length ≤ x.length ∧ ls.length + y.length ≤ x.length + 1
  | 0, x, y, ls, d, h => by simp [patM] at h
  | n + 1, x, y, ls, d, h => by
    simp only [patM] at h
    split at h
    · cases h
    · rename_i l y0 d0 h0
      have h1 := alt_len h0
      split at h
      · rename_i ha
        have h2 := tail_len ha
        split at h
        · cases h
        · rename_i ls' z e h3
          have h4 := pat_len h3
          simp only [Option.some.injEq, Prod.mk.injEq] at h
          obtain ⟨rfl, rfl, rfl⟩ := h
          simp
          omega
      · simp only [Option.some.injEq, Prod.mk.injEq] at h
        obtain ⟨rfl, rfl, rfl⟩ := h
        simp
        omega
theorem alt_len : ∀ {n : Nat} {x y : List UInt8} {l : List Re} {d : Nat}, altM n x = some (l, y, d) → l.length + y.length ≤ x.length
  | 0, x, y, l, d, h => by simp [altM] at h
  | n + 1, x, y, l, d, h => by
    simp only [altM] at h
    split at h
    · simp only [Option.some.injEq, Prod.mk.injEq] at h
      obtain ⟨rfl, rfl, rfl⟩ := h
      simp
    · split at h
      · cases h
      · rename_i r y0 d0 h0
        have h1 := piece_len h0
        split at h
        · cases h
        · rename_i rs z e h2
          have h3 := alt_len h2
          simp only [Option.some.injEq, Prod.mk.injEq] at h
          obtain ⟨rfl, rfl, rfl⟩ := h
          simp
          omega
theorem piece_len : ∀ {n : Nat} {x y : List UInt8} {r : Re} {d : Nat}, pieceM n x = some (r, y, d) → y.length < x.length
  | 0, x, y, r, d, h => by simp [pieceM] at h
  | n + 1, x, y, r, d, h => by
    simp only [pieceM] at h
    split at h
    · cases h
    · rename_i r0 y0 d0 h0
      have h1 := atom_len h0
      split at h
      · rename_i ha
        have := tail_len ha
        simp only [Option.some.injEq, Prod.mk.injEq] at h
        obtain ⟨rfl, rfl, rfl⟩ := h
        omega
      · split at h
        · rename_i ha
          have := tail_len ha
          simp only [Option.some.injEq, Prod.mk.injEq] at h
          obtain ⟨rfl, rfl, rfl⟩ := h
          omega
        · split at h
          · rename_i ha
            have := tail_len ha
            simp only [Option.some.injEq, Prod.mk.injEq] at h
            obtain ⟨rfl, rfl, rfl⟩ := h
            omega
          · simp only [Option.some.injEq, Prod.mk.injEq] at h
            obtain ⟨rfl, rfl, rfl⟩ := h
            omega
theorem atom_len : ∀ {n : Nat} {x y : List UInt8} {r : Re} {d : Nat}, atomM n x = some (r, y, d) → y.length < x.length
  | 0, x, y, r, d, h => by simp [atomM] at h
  | n + 1, x, y, r, d, h => by
    simp only [atomM] at h
    split at h
    · rename_i ha
      have h1 := tail_len ha
      split at h
      · cases h
      · rename_i ls y0 d0 h0
        have h2 := pat_len h0
        split at h
        · rename_i hb
          have h3 := tail_len hb
          simp only [Option.some.injEq, Prod.mk.injEq] at h
          obtain ⟨rfl, rfl, rfl⟩ := h
          omega
        · cases h
    · split at h
      · rename_i ha
        have h1 := tail_len ha
        split at h
        · cases h
        · rename_i r0 y0 h0
          have h2 := class_len h0
          simp only [Option.some.injEq, Prod.mk.injEq] at h
          obtain ⟨rfl, rfl, rfl⟩ := h
          omega
      · split at h
        · rename_i ha
          have h1 := tail_len ha
          simp only [Option.some.injEq, Prod.mk.injEq] at h
          obtain ⟨rfl, rfl, rfl⟩ := h
          omega
        · split at h
          · rename_i ha
            have h1 := tail_len ha
            split at h
            · cases h
            · rename_i c y0 hx
              split at h
              · simp only [Option.some.injEq, Prod.mk.injEq] at h
                obtain ⟨rfl, rfl, rfl⟩ := h
                rw [hx] at h1
                simp at h1
                omega
              · cases h
          · split at h
            · cases h
            · rename_i c y0 h0
              obtain ⟨rfl, _⟩ := takeBut_some h0
              simp only [Option.some.injEq, Prod.mk.injEq] at h
              obtain ⟨rfl, rfl, rfl⟩ := h
              simp
end
theorem items_mono : ∀ {n m : Nat} {x : List UInt8} {q}, n ≤ m → itemsM n x = some q → itemsM m x = some q
  | 0, m, x, q, _, h => by simp [itemsM] at h
  | n + 1, 0, x, q, hle, h => by omega
  | n + 1, m + 1, x, q, hle, h => by
    simp only [itemsM] at h ⊢
    cases h0 : itemM x with
    | none => simp [h0] at h
    | some r =>
      obtain ⟨s, y⟩ := r
      simp only [h0] at h ⊢
      split at h
      · rename_i ha
        rw [if_pos ha]; exact h
      · rename_i ha
        rw [if_neg ha]
        cases h1 : itemsM n y with
        | none => simp [h1] at h
        | some r =>
          rw [items_mono (by omega) h1]
          simpa [h1] using h
theorem class_mono {n m : Nat} {x : List UInt8} {q} (hle : n ≤ m) (h : classM n x = some q) : classM m x = some q := by
  unfold classM at h ⊢
  cases h1 : itemsM n (if aheadM [94] x = true then x.tail else x) with
  | none => simp [h1] at h
  | some r =>
    rw [items_mono hle h1]
    simpa [h1] using h
mutual
theorem pat_mono : ∀ {n m : Nat} {x : List UInt8} {q}, n ≤ m → patM n x = some q → patM m x = some q
  | 0, m, x, q, _, h => by simp [patM] at h
  | n + 1, 0, x, q, hle, h => by omega
  | n + 1, m + 1, x, q, hle, h => by
    simp only [patM] at h ⊢
    cases h0 : altM n x with
    | none => simp [h0] at h
    | some r =>
      obtain ⟨l, y, d⟩ := r
      rw [alt_mono (by omega) h0]
      simp only [h0] at h ⊢
      split at h
      · rename_i ha
        rw [if_pos ha]
        cases h1 : patM n y.tail with
        | none => simp [h1] at h
        | some r =>
          rw [pat_mono (by omega) h1]
          simpa [h1] using h
      · rename_i ha
        rw [if_neg ha]; exact h
theorem alt_mono : ∀ {n m : Nat} {x : List UInt8} {q}, n ≤ m → altM n x = some q → altM m x = some q
  | 0, m, x, q, _, h => by simp [altM] at h
  | n + 1, 0, x, q, hle, h => by omega
  | n + 1, m + 1, x, q, hle, h => by
    simp only [altM] at h ⊢
    split at h
    · rename_i ha
      rw [if_pos ha]; exact h
    · rename_i ha
      rw [if_neg ha]
      cases h0 : pieceM n x with
      | none => simp [h0] at h
      | some r =>
        obtain ⟨r, y, d⟩ := r
        rw [piece_mono (by omega) h0]
        simp only [h0] at h ⊢
        cases h1 : altM n y with
        | none => simp [h1] at h
        | some r =>
          rw [alt_mono (by omega) h1]
          simpa [h1] using h
theorem piece_mono : ∀ {n m : Nat} {x : List UInt8} {q}, n ≤ m → pieceM n x = some q → pieceM m x = some q
  | 0, m, x, q, _, h => by simp [pieceM] at h
  | n + 1, 0, x, q, hle, h => by omega
  | n + 1, m + 1, x, q, hle, h => by
    simp only [pieceM] at h ⊢
    cases h0 : atomM n x with
    | none => simp [h0] at h
    | some r =>
      rw [atom_mono (by omega) h0]
      simpa only [h0] using h
theorem atom_mono : ∀ {n m : Nat} {x : List UInt8} {q}, n ≤ m → atomM n x = some q → atomM m x = some q
  | 0, m, x, q, _, h => by simp [atomM] at h
  | n + 1, 0, x, q, hle, h => by omega
  | n + 1, m + 1, x, q, hle, h => by
    simp only [atomM] at h ⊢
    split at h
    · rename_i ha
      rw [if_pos ha]
      cases h0 : patM n x.tail with
      | none => simp [h0] at h
      | some r =>
        rw [pat_mono (by omega) h0]
        simpa only [h0] using h
    · rename_i ha
      rw [if_neg ha]
      split at h
      · rename_i hb
        rw [if_pos hb]
        cases h0 : classM n x.tail with
        | none => simp [h0] at h
        | some r =>
          rw [class_mono (by omega) h0]
          simpa only [h0] using h
      · rename_i hb
        rw [if_neg hb]
        exact h
end
theorem ahead_app {q y z : List UInt8} (h : y ≠ []) : aheadM q (y ++ z) = aheadM q y := by
  cases y with
  | nil => exact absurd rfl h
  | cons c y => rfl
theorem ahead_ne {q x : List UInt8} (h : aheadM q x = true) : x ≠ [] := by
  rintro rfl
  simp [aheadM] at h
theorem tail_app {y z : List UInt8} (h : y ≠ []) : (y ++ z).tail = y.tail ++ z := by
  cases y with
  | nil => exact absurd rfl h
  | cons c y => rfl
/-- What stands behind does not go on with a pattern, or something is left ahead of it. -/
def Zr (y z : List UInt8) : Prop := y ≠ [] ∨ z = [] ∨ ∃ t, z = 41 :: t
def Zs (y z : List UInt8) : Prop := y ≠ [] ∨ z = [] ∨ ∃ c t, z = c :: t ∧ (c = 41 ∨ c = 124)
theorem Zr.s {y z : List UInt8} (h : Zr y z) : Zs y z := by
  rcases h with h | h | ⟨t, h⟩
  · exact .inl h
  · exact .inr (.inl h)
  · exact .inr (.inr ⟨41, t, h, .inl rfl⟩)
theorem items_nil (n : Nat) : itemsM n [] = none := by cases n <;> rfl
theorem takeBut_app {q x y z : List UInt8} {c : UInt8} (h : takeButM q x = some (c, y)) : takeButM q (x ++ z) = some (c, y ++ z) := by
  obtain ⟨rfl, hq⟩ := takeBut_some h
  simp only [List.cons_append, takeButM, hq]
  rfl
theorem item_app {x y z : List UInt8} {s : UInt8 × UInt8} (h : itemM x = some (s, y)) (hy : y ≠ []) : itemM (x ++ z) = some (s, y ++ z) := by
  unfold itemM at h ⊢
  cases h0 : takeButM unlistedL x with
  | none => simp [h0] at h
  | some r =>
    obtain ⟨lo, y0⟩ := r
    rw [takeBut_app h0]
    simp only [h0] at h ⊢
    split at h
    · rename_i ha
      rw [ahead_app (ahead_ne ha), if_pos ha, tail_app (ahead_ne ha)]
      cases h1 : takeButM unlistedL y0.tail with
      | none => simp [h1] at h
      | some r =>
        obtain ⟨hi, z0⟩ := r
        rw [takeBut_app h1]
        simp only [h1] at h ⊢
        split at h
        · rename_i hl
          simp only [Option.some.injEq, Prod.mk.injEq] at h
          obtain ⟨rfl, rfl⟩ := h
          rw [if_pos hl]
        · cases h
    · rename_i ha
      simp only [Option.some.injEq, Prod.mk.injEq] at h
      obtain ⟨rfl, rfl⟩ := h
      rw [ahead_app hy, if_neg ha]
theorem items_app {z : List UInt8} : ∀ {n : Nat} {x y : List UInt8} {ss : List (UInt8 × UInt8)}, itemsM n x = some (ss, y) → itemsM n (x ++ z) = some (ss, y ++ z)
  | 0, x, y, ss, h => by simp [itemsM] at h
  | n + 1, x, y, ss, h => by
    simp only [itemsM] at h ⊢
    cases h0 : itemM x with
    | none => simp [h0] at h
    | some r =>
      obtain ⟨s, y0⟩ := r
      simp only [h0] at h
      split at h
      · rename_i ha
        have hn := ahead_ne ha
        rw [item_app h0 hn]
        simp only [Option.some.injEq, Prod.mk.injEq] at h
        obtain ⟨rfl, rfl⟩ := h
        simp only
        rw [ahead_app hn, if_pos ha, tail_app hn]
      · rename_i ha
        cases h1 : itemsM n y0 with
        | none => simp [h1] at h
        | some r =>
          obtain ⟨ss', z'⟩ := r
          have hn : y0 ≠ [] := by rintro rfl; rw [items_nil] at h1; cases h1
          rw [item_app h0 hn]
          simp only [h1, Option.some.injEq, Prod.mk.injEq] at h
          obtain ⟨rfl, rfl⟩ := h
          simp only
          rw [ahead_app hn, if_neg ha, items_app h1]
theorem class_app {z : List UInt8} {n : Nat} {x y : List UInt8} {r : Re} (h : classM n x = some (r, y)) : classM n (x ++ z) = some (r, y ++ z) := by
  unfold classM at h ⊢
  have hx : x ≠ [] := by
    rintro rfl
    simp [aheadM, items_nil] at h
  rw [ahead_app hx, tail_app hx]
  cases h0 : itemsM n (if aheadM [94] x = true then x.tail else x) with
  | none => simp [h0] at h
  | some q =>
    obtain ⟨ss, y0⟩ := q
    have h1 := items_app (z := z) h0
    rw [show (if aheadM [94] x = true then x.tail ++ z else x ++ z) = (if aheadM [94] x = true then x.tail else x) ++ z by split <;> rfl, h1]
    simp only [h0, Option.some.injEq, Prod.mk.injEq] at h
    obtain ⟨rfl, rfl⟩ := h
    rfl
theorem zs_ahead {q z : List UInt8} (h : z = [] ∨ ∃ c t, z = c :: t ∧ (c = 41 ∨ c = 124)) (h1 : q.contains 41 = false) (h2 : q.contains 124 = false) : aheadM q z = false := by
  rcases h with rfl | ⟨c, t, rfl, rfl | rfl⟩
  · rfl
  · exact h1
  · exact h2
mutual
theorem pat_app {z : List UInt8} : ∀ {n : Nat} {x y : List UInt8} {ls : List Re} {d : Nat}, patM n x = some (ls, y, d) → Zr y z → patM n (x ++ z) = some (ls, y ++ z, d)
  | 0, x, y, ls, d, h, _ => by simp [patM] at h
  | n + 1, x, y, ls, d, h, hz => by
    simp only [patM] at h ⊢
    cases h0 : altM n x with
    | none => simp [h0] at h
    | some q =>
      obtain ⟨l, y0, d0⟩ := q
      simp only [h0] at h
      split at h
      · rename_i ha
        have hn := ahead_ne ha
        rw [alt_app h0 (.inl hn)]
        simp only
        rw [ahead_app hn, if_pos ha, tail_app hn]
        cases h1 : patM n y0.tail with
        | none => simp [h1] at h
        | some q =>
          obtain ⟨ls', z', e⟩ := q
          simp only [h1, Option.some.injEq, Prod.mk.injEq] at h
          obtain ⟨rfl, rfl, rfl⟩ := h
          rw [pat_app h1 hz]
      · rename_i ha
        simp only [Option.some.injEq, Prod.mk.injEq] at h
        obtain ⟨rfl, rfl, rfl⟩ := h
        rw [alt_app h0 hz.s]
        simp only
        rw [if_neg]
        by_cases hn : y0 = []
        · subst hn
          rcases hz with hz | rfl | ⟨t, rfl⟩
          · exact absurd rfl hz
          · simp [aheadM]
          · show ¬ ([124] : List UInt8).contains 41 = true
            decide
        · rw [ahead_app hn]; exact ha
theorem alt_app {z : List UInt8} : ∀ {n : Nat} {x y : List UInt8} {l : List Re} {d : Nat}, altM n x = some (l, y, d) → Zs y z → altM n (x ++ z) = some (l, y ++ z, d)
  | 0, x, y, l, d, h, _ => by simp [altM] at h
  | n + 1, x, y, l, d, h, hz => by
    simp only [altM] at h ⊢
    split at h
    · rename_i ha
      simp only [Option.some.injEq, Prod.mk.injEq] at h
      obtain ⟨rfl, rfl, rfl⟩ := h
      rw [if_pos]
      cases x with
      | cons c t => simpa [aheadM] using ha
      | nil =>
        rcases hz with hz | rfl | ⟨c, t, rfl, rfl | rfl⟩
        · exact absurd rfl hz
        · rfl
        · rfl
        · rfl
    · rename_i ha
      have hx : x ≠ [] := by rintro rfl; exact ha rfl
      rw [if_neg (by cases x with | nil => exact absurd rfl hx | cons c t => simpa [aheadM] using ha)]
      cases h0 : pieceM n x with
      | none => simp [h0] at h
      | some q =>
        obtain ⟨r, y0, d0⟩ := q
        simp only [h0] at h
        cases h1 : altM n y0 with
        | none => simp [h1] at h
        | some q =>
          obtain ⟨rs, z', e⟩ := q
          simp only [h1, Option.some.injEq, Prod.mk.injEq] at h
          obtain ⟨rfl, rfl, rfl⟩ := h
          have hz0 : Zs y0 z := by
            by_cases hn : y0 = []
            · have := alt_len h1
              subst hn
              have e2 : z' = [] := by simp at this; exact this.2
              rw [← e2]; exact hz
            · exact .inl hn
          rw [piece_app h0 hz0]
          simp only
          rw [alt_app h1 hz]
theorem piece_app {z : List UInt8} : ∀ {n : Nat} {x y : List UInt8} {r : Re} {d : Nat}, pieceM n x = some (r, y, d) → Zs y z → pieceM n (x ++ z) = some (r, y ++ z, d)
  | 0, x, y, r, d, h, _ => by simp [pieceM] at h
  | n + 1, x, y, r, d, h, hz => by
    simp only [pieceM] at h ⊢
    cases h0 : atomM n x with
    | none => simp [h0] at h
    | some q =>
      obtain ⟨r0, y0, d0⟩ := q
      simp only [h0] at h
      by_cases hn : y0 = []
      · subst hn
        simp only [aheadM, Bool.false_eq_true, if_false, Option.some.injEq, Prod.mk.injEq] at h
        obtain ⟨rfl, rfl, rfl⟩ := h
        rw [atom_app h0 hz]
        rcases hz with hz | hz
        · exact absurd rfl hz
        · simp only [List.nil_append]
          rw [zs_ahead hz (by decide) (by decide), zs_ahead hz (by decide) (by decide), zs_ahead hz (by decide) (by decide)]
          rfl
      · rw [atom_app h0 (.inl hn)]
        simp only
        rw [ahead_app hn, ahead_app hn, ahead_app hn, tail_app hn]
        split at h
        · rename_i ha
          simp only [Option.some.injEq, Prod.mk.injEq] at h
          obtain ⟨rfl, rfl, rfl⟩ := h
          rw [if_pos ha]
        · rename_i ha
          rw [if_neg ha]
          split at h
          · rename_i hb
            simp only [Option.some.injEq, Prod.mk.injEq] at h
            obtain ⟨rfl, rfl, rfl⟩ := h
            rw [if_pos hb]
          · rename_i hb
            rw [if_neg hb]
            split at h
            · rename_i hc
              simp only [Option.some.injEq, Prod.mk.injEq] at h
              obtain ⟨rfl, rfl, rfl⟩ := h
              rw [if_pos hc]
            · rename_i hc
              simp only [Option.some.injEq, Prod.mk.injEq] at h
              obtain ⟨rfl, rfl, rfl⟩ := h
              rw [if_neg hc]
theorem atom_app {z : List UInt8} : ∀ {n : Nat} {x y : List UInt8} {r : Re} {d : Nat}, atomM n x = some (r, y, d) → Zs y z → atomM n (x ++ z) = some (r, y ++ z, d)
  | 0, x, y, r, d, h, _ => by simp [atomM] at h
  | n + 1, [], y, r, d, h, hz => by
    simp [atomM, aheadM, takeButM] at h
  | n + 1, c :: x, y, r, d, h, hz => by
    have hn : c :: x ≠ [] := by simp
    simp only [atomM] at h ⊢
    rw [ahead_app hn, ahead_app hn, ahead_app hn, ahead_app hn, tail_app hn]
    simp only [List.tail_cons] at h ⊢
    split at h
    · rename_i ha
      rw [if_pos ha]
      cases h0 : patM n x with
      | none => simp [h0] at h
      | some q =>
        obtain ⟨ls, y0, d0⟩ := q
        simp only [h0] at h
        split at h
        · rename_i hb
          have hm := ahead_ne hb
          simp only [Option.some.injEq, Prod.mk.injEq] at h
          obtain ⟨rfl, rfl, rfl⟩ := h
          rw [pat_app h0 (.inl hm)]
          simp only
          rw [ahead_app hm, if_pos hb, tail_app hm]
        · cases h
    · rename_i ha
      rw [if_neg ha]
      split at h
      · rename_i hb
        rw [if_pos hb]
        cases h0 : classM n x with
        | none => simp [h0] at h
        | some q =>
          obtain ⟨r0, y0⟩ := q
          simp only [h0, Option.some.injEq, Prod.mk.injEq] at h
          obtain ⟨rfl, rfl, rfl⟩ := h
          rw [class_app h0]
      · rename_i hb
        rw [if_neg hb]
        split at h
        · rename_i hc
          rw [if_pos hc]
          simp only [Option.some.injEq, Prod.mk.injEq] at h
          obtain ⟨rfl, rfl, rfl⟩ := h
          rfl
        · rename_i hc
          rw [if_neg hc]
          split at h
          · rename_i he
            rw [if_pos he]
            cases x with
            | nil => simp at h
            | cons c2 x =>
              simp only [List.cons_append] at h ⊢
              split at h
              · rename_i hf
                rw [if_pos hf]
                simp only [Option.some.injEq, Prod.mk.injEq] at h
                obtain ⟨rfl, rfl, rfl⟩ := h
                rfl
              · cases h
          · rename_i he
            rw [if_neg he]
            cases h0 : takeButM marksL (c :: x) with
            | none => simp [h0] at h
            | some q =>
              obtain ⟨c', y0⟩ := q
              rw [takeBut_app h0]
              simp only [h0, Option.some.injEq, Prod.mk.injEq] at h
              obtain ⟨rfl, rfl, rfl⟩ := h
              rfl
end
theorem class_fresh {n : Nat} {x y : List UInt8} {r : Re} (h : classM n x = some (r, y)) : freshM r = true := by
  unfold classM at h
  split at h
  · cases h
  · simp only [Option.some.injEq, Prod.mk.injEq] at h
    obtain ⟨rfl, _⟩ := h
    rfl
mutual
theorem pat_fresh : ∀ {n : Nat} {x y : List UInt8} {ls : List Re} {d : Nat}, patM n x = some (ls, y, d) → freshAll ls = true
  | 0, x, y, ls, d, h => by simp [patM] at h
  | n + 1, x, y, ls, d, h => by
    simp only [patM] at h
    split at h
    · cases h
    · rename_i l y0 d0 h0
      have h1 := alt_fresh h0
      split at h
      · split at h
        · cases h
        · rename_i ls' z e h3
          have h4 := pat_fresh h3
          simp only [Option.some.injEq, Prod.mk.injEq] at h
          obtain ⟨rfl, rfl, rfl⟩ := h
          simp only [freshAll, freshM, h1, h4, Bool.and_self]
      · simp only [Option.some.injEq, Prod.mk.injEq] at h
        obtain ⟨rfl, rfl, rfl⟩ := h
        simp only [freshAll, freshM, h1, Bool.and_self]
theorem alt_fresh : ∀ {n : Nat} {x y : List UInt8} {l : List Re} {d : Nat}, altM n x = some (l, y, d) → freshAll l = true
  | 0, x, y, l, d, h => by simp [altM] at h
  | n + 1, x, y, l, d, h => by
    simp only [altM] at h
    split at h
    · simp only [Option.some.injEq, Prod.mk.injEq] at h
      obtain ⟨rfl, rfl, rfl⟩ := h
      rfl
    · split at h
      · cases h
      · rename_i r y0 d0 h0
        have h1 := piece_fresh h0
        split at h
        · cases h
        · rename_i rs z e h2
          have h3 := alt_fresh h2
          simp only [Option.some.injEq, Prod.mk.injEq] at h
          obtain ⟨rfl, rfl, rfl⟩ := h
          simp only [freshAll, h1, h3, Bool.and_self]
theorem piece_fresh : ∀ {n : Nat} {x y : List UInt8} {r : Re} {d : Nat}, pieceM n x = some (r, y, d) → freshM r = true
  | 0, x, y, r, d, h => by simp [pieceM] at h
  | n + 1, x, y, r, d, h => by
    simp only [pieceM] at h
    split at h
    · cases h
    · rename_i r0 y0 d0 h0
      have h1 := atom_fresh h0
      split at h
      · simp only [Option.some.injEq, Prod.mk.injEq] at h
        obtain ⟨rfl, rfl, rfl⟩ := h
        simp only [freshM, h1]
      · split at h
        · simp only [Option.some.injEq, Prod.mk.injEq] at h
          obtain ⟨rfl, rfl, rfl⟩ := h
          simp only [freshM, h1]
        · split at h
          · simp only [Option.some.injEq, Prod.mk.injEq] at h
            obtain ⟨rfl, rfl, rfl⟩ := h
            simp only [freshM, h1]
          · simp only [Option.some.injEq, Prod.mk.injEq] at h
            obtain ⟨rfl, rfl, rfl⟩ := h
            exact h1
theorem atom_fresh : ∀ {n : Nat} {x y : List UInt8} {r : Re} {d : Nat}, atomM n x = some (r, y, d) → freshM r = true
  | 0, x, y, r, d, h => by simp [atomM] at h
  | n + 1, x, y, r, d, h => by
    simp only [atomM] at h
    split at h
    · split at h
      · cases h
      · rename_i ls y0 d0 h0
        have h2 := pat_fresh h0
        split at h
        · simp only [Option.some.injEq, Prod.mk.injEq] at h
          obtain ⟨rfl, rfl, rfl⟩ := h
          simp only [freshM, h2]
        · cases h
    · split at h
      · split at h
        · cases h
        · rename_i r0 y0 h0
          have h2 := class_fresh h0
          simp only [Option.some.injEq, Prod.mk.injEq] at h
          obtain ⟨rfl, rfl, rfl⟩ := h
          exact h2
      · split at h
        · simp only [Option.some.injEq, Prod.mk.injEq] at h
          obtain ⟨rfl, rfl, rfl⟩ := h
          rfl
        · split at h
          · split at h
            · cases h
            · split at h
              · simp only [Option.some.injEq, Prod.mk.injEq] at h
                obtain ⟨rfl, rfl, rfl⟩ := h
                rfl
              · cases h
          · split at h
            · cases h
            · simp only [Option.some.injEq, Prod.mk.injEq] at h
              obtain ⟨rfl, rfl, rfl⟩ := h
              rfl
end
theorem pat_or {m : Nat} {b y : List UInt8} {ms : List Re} {e : Nat} (hb : patM m b = some (ms, y, e)) : ∀ {n : Nat} {a : List UInt8} {ls : List Re} {d : Nat}, patM n a = some (ls, [], d) → patM (n + m) (a ++ 124 :: b) = some (ls ++ ms, y, max d e)
  | 0, a, ls, d, h => by simp [patM] at h
  | n + 1, a, ls, d, h => by
    rw [show n + 1 + m = (n + m) + 1 by omega]
    simp only [patM] at h ⊢
    cases h0 : altM n a with
    | none => simp [h0] at h
    | some q =>
      obtain ⟨l, y0, d0⟩ := q
      simp only [h0] at h
      split at h
      · rename_i ha
        have hn := ahead_ne ha
        rw [alt_mono (show n ≤ n + m by omega) (alt_app (z := 124 :: b) h0 (.inl hn))]
        simp only
        rw [ahead_app hn, if_pos ha, tail_app hn]
        cases h1 : patM n y0.tail with
        | none => simp [h1] at h
        | some q =>
          obtain ⟨ls', z', e'⟩ := q
          simp only [h1, Option.some.injEq, Prod.mk.injEq] at h
          obtain ⟨rfl, rfl, rfl⟩ := h
          rw [pat_or hb h1]
          simp [Nat.max_assoc]
      · rename_i ha
        simp only [Option.some.injEq, Prod.mk.injEq] at h
        obtain ⟨rfl, rfl, rfl⟩ := h
        rw [alt_mono (show n ≤ n + m by omega) (alt_app (z := 124 :: b) h0 (.inr (.inr ⟨124, b, rfl, .inr rfl⟩)))]
        simp only [List.nil_append]
        rw [if_pos (by rfl), List.tail_cons, pat_mono (show m ≤ n + m by omega) hb]
        rfl
theorem atom_group {n : Nat} {a z : List UInt8} {ls : List Re} {d : Nat} (h : patM n a = some (ls, [], d)) : atomM (n + 1) (40 :: (a ++ 41 :: z)) = some (.alt ls, z, d + 1) := by
  have h1 := pat_app (z := 41 :: z) h (.inr (.inr ⟨z, rfl⟩))
  simp only [atomM]
  rw [if_pos (by rfl), List.tail_cons, h1]
  simp only [List.nil_append]
  rw [if_pos (by rfl)]
  rfl
theorem alt_step {n : Nat} {x y z : List UInt8} {r : Re} {rs : List Re} {d e : Nat} (hx : aheadM [124, 41] x = false) (hn : x ≠ []) (h : pieceM n x = some (r, y, d)) (h2 : altM n y = some (rs, z, e)) : altM (n + 1) x = some (r :: rs, z, max d e) := by
  simp only [altM]
  rw [if_neg (by rw [hx]; cases x with | nil => exact absurd rfl hn | cons c t => simp), h]
  simp only
  rw [h2]
theorem L_app : ∀ (ls ms : List Re) (w : List UInt8), LAlt (ls ++ ms) w ↔ LAlt ls w ∨ LAlt ms w
  | [], ms, w => by simp [LAlt]
  | r :: ls, ms, w => by simp only [List.cons_append, LAlt, L_app ls ms w, or_assoc]
/-- What may stand in the place of y: nothing, or what begins alike. -/
def Ag (y y1 : List UInt8) : Prop := y1 = [] ∨ ∃ c t t', y = c :: t ∧ y1 = c :: t'
theorem Ag.ahead {q y y1 : List UInt8} (h : Ag y y1) (ha : aheadM q y = false) : aheadM q y1 = false := by
  rcases h with rfl | ⟨c, t, t', rfl, rfl⟩
  · rfl
  · exact ha
theorem ahead_one {k : UInt8} {x : List UInt8} (h : aheadM [k] x = true) : x = k :: x.tail := by
  cases x with
  | nil => simp [aheadM] at h
  | cons c t =>
    simp [aheadM] at h
    rw [h]; rfl
theorem item_cut {x y : List UInt8} {s : UInt8 × UInt8} (h : itemM x = some (s, y)) : ∃ u, x = u ++ y ∧ ∀ y1, Ag y y1 → itemM (u ++ y1) = some (s, y1) := by
  unfold itemM at h
  cases h0 : takeButM unlistedL x with
  | none => simp [h0] at h
  | some r =>
    obtain ⟨lo, y0⟩ := r
    simp only [h0] at h
    obtain ⟨rfl, hq⟩ := takeBut_some h0
    split at h
    · rename_i ha
      cases h1 : takeButM unlistedL y0.tail with
      | none => simp [h1] at h
      | some r =>
        obtain ⟨hi, z0⟩ := r
        obtain ⟨e1, hq1⟩ := takeBut_some h1
        simp only [h1] at h
        split at h
        · rename_i hl
          simp only [Option.some.injEq, Prod.mk.injEq] at h
          obtain ⟨rfl, rfl⟩ := h
          refine ⟨[lo, 45, hi], by rw [ahead_one ha, e1]; rfl, fun y1 _ => ?_⟩
          unfold itemM
          simp only [List.cons_append, List.nil_append, takeButM, hq, Bool.false_eq_true, if_false]
          rw [if_pos (by rfl)]
          simp only [List.tail_cons, hq1, Bool.false_eq_true, if_false]
          rw [if_pos hl]
        · cases h
    · rename_i ha
      simp only [Option.some.injEq, Prod.mk.injEq] at h
      obtain ⟨rfl, rfl⟩ := h
      refine ⟨[lo], rfl, fun y1 hy => ?_⟩
      unfold itemM
      simp only [List.cons_append, List.nil_append, takeButM, hq, Bool.false_eq_true, if_false]
      rw [if_neg (by rw [hy.ahead (by simpa using ha)]; simp)]
theorem items_cut : ∀ {n : Nat} {x y : List UInt8} {ss : List (UInt8 × UInt8)}, itemsM n x = some (ss, y) → ∃ u, x = u ++ y ∧ (u ≠ []) ∧ ∀ y1, itemsM n (u ++ y1) = some (ss, y1)
  | 0, x, y, ss, h => by simp [itemsM] at h
  | n + 1, x, y, ss, h => by
    simp only [itemsM] at h
    cases h0 : itemM x with
    | none => simp [h0] at h
    | some r =>
      obtain ⟨s, y0⟩ := r
      obtain ⟨u0, rfl, k0⟩ := item_cut h0
      simp only [h0] at h
      split at h
      · rename_i ha
        simp only [Option.some.injEq, Prod.mk.injEq] at h
        obtain ⟨rfl, rfl⟩ := h
        have e := ahead_one ha
        refine ⟨u0 ++ [93], by rw [List.append_assoc, List.singleton_append, ← e], by simp, fun y1 => ?_⟩
        simp only [itemsM, List.append_assoc, List.singleton_append]
        rw [k0 (93 :: y1) (.inr ⟨93, _, _, e, rfl⟩)]
        rfl
      · rename_i ha
        cases h1 : itemsM n y0 with
        | none => simp [h1] at h
        | some r =>
          obtain ⟨ss', z'⟩ := r
          obtain ⟨u1, rfl, hn, k1⟩ := items_cut h1
          simp only [h1, Option.some.injEq, Prod.mk.injEq] at h
          obtain ⟨rfl, rfl⟩ := h
          refine ⟨u0 ++ u1, by simp, by simp [hn], fun y1 => ?_⟩
          have hag : Ag (u1 ++ z') (u1 ++ y1) := by
            cases u1 with
            | nil => exact absurd rfl hn
            | cons c t => exact .inr ⟨c, _, _, rfl, rfl⟩
          simp only [itemsM, List.append_assoc]
          rw [k0 _ hag]
          simp only
          rw [if_neg (by rw [hag.ahead (by simpa using ha)]; simp), k1 y1]
theorem class_cut {n : Nat} {x y : List UInt8} {r : Re} (h : classM n x = some (r, y)) : ∃ u, x = u ++ y ∧ ∀ y1, classM n (u ++ y1) = some (r, y1) := by
  unfold classM at h
  cases h0 : itemsM n (if aheadM [94] x = true then x.tail else x) with
  | none => simp [h0] at h
  | some q =>
    obtain ⟨ss, y0⟩ := q
    obtain ⟨u, e, hn, k⟩ := items_cut h0
    simp only [h0, Option.some.injEq, Prod.mk.injEq] at h
    obtain ⟨rfl, rfl⟩ := h
    cases ha : aheadM [94] x
    · rw [ha] at e
      simp only [Bool.false_eq_true, if_false] at e
      subst e
      refine ⟨u, rfl, fun y1 => ?_⟩
      rw [ahead_app hn] at ha
      unfold classM
      rw [ahead_app hn, ha]
      simp only [Bool.false_eq_true, if_false, k]
    · rw [ha] at e
      simp only [if_true] at e
      refine ⟨94 :: u, by rw [List.cons_append, ← e]; exact ahead_one ha, fun y1 => ?_⟩
      unfold classM
      rw [show aheadM [94] (94 :: u ++ y1) = true from rfl]
      simp only [if_true, List.cons_append, List.tail_cons, k]
mutual
theorem pat_cut : ∀ {n : Nat} {x y : List UInt8} {ls : List Re} {d : Nat}, patM n x = some (ls, y, d) → ∃ u, x = u ++ y ∧ ∀ y1, Ag y y1 → patM n (u ++ y1) = some (ls, y1, d)
  | 0, x, y, ls, d, h => by simp [patM] at h
  | n + 1, x, y, ls, d, h => by
    simp only [patM] at h
    cases h0 : altM n x with
    | none => simp [h0] at h
    | some q =>
      obtain ⟨l, y0, d0⟩ := q
      obtain ⟨u0, rfl, k0⟩ := alt_cut h0
      simp only [h0] at h
      split at h
      · rename_i ha
        have e := ahead_one ha
        cases h1 : patM n y0.tail with
        | none => simp [h1] at h
        | some q =>
          obtain ⟨ls', z', e'⟩ := q
          obtain ⟨u1, e1, k1⟩ := pat_cut h1
          simp only [h1, Option.some.injEq, Prod.mk.injEq] at h
          obtain ⟨rfl, rfl, rfl⟩ := h
          refine ⟨u0 ++ 124 :: u1, by rw [List.append_assoc, List.cons_append, ← e1, ← e], fun y1 hy => ?_⟩
          simp only [patM, List.append_assoc, List.cons_append]
          rw [k0 _ (.inr ⟨124, _, _, e, rfl⟩)]
          simp only
          rw [if_pos (by rfl), List.tail_cons, k1 y1 hy]
      · rename_i ha
        simp only [Option.some.injEq, Prod.mk.injEq] at h
        obtain ⟨rfl, rfl, rfl⟩ := h
        refine ⟨u0, rfl, fun y1 hy => ?_⟩
        simp only [patM]
        rw [k0 y1 hy]
        simp only
        rw [if_neg (by rw [hy.ahead (by simpa using ha)]; simp)]
theorem alt_cut : ∀ {n : Nat} {x y : List UInt8} {l : List Re} {d : Nat}, altM n x = some (l, y, d) → ∃ u, x = u ++ y ∧ ∀ y1, Ag y y1 → altM n (u ++ y1) = some (l, y1, d)
  | 0, x, y, l, d, h => by simp [altM] at h
  | n + 1, x, y, l, d, h => by
    simp only [altM] at h
    split at h
    · rename_i ha
      simp only [Option.some.injEq, Prod.mk.injEq] at h
      obtain ⟨rfl, rfl, rfl⟩ := h
      refine ⟨[], rfl, fun y1 hy => ?_⟩
      simp only [altM, List.nil_append]
      rw [if_pos]
      rcases hy with rfl | ⟨c, t, t', rfl, rfl⟩
      · rfl
      · simpa [aheadM] using ha
    · rename_i ha
      cases h0 : pieceM n x with
      | none => simp [h0] at h
      | some q =>
        obtain ⟨r, y0, d0⟩ := q
        obtain ⟨u0, rfl, hn, k0⟩ := piece_cut h0
        simp only [h0] at h
        cases h1 : altM n y0 with
        | none => simp [h1] at h
        | some q =>
          obtain ⟨rs, z', e⟩ := q
          obtain ⟨u1, rfl, k1⟩ := alt_cut h1
          simp only [h1, Option.some.injEq, Prod.mk.injEq] at h
          obtain ⟨rfl, rfl, rfl⟩ := h
          refine ⟨u0 ++ u1, by simp, fun y1 hy => ?_⟩
          have hag : Ag (u1 ++ z') (u1 ++ y1) := by
            cases u1 with
            | nil => exact hy
            | cons c t => exact .inr ⟨c, _, _, rfl, rfl⟩
          simp only [altM, List.append_assoc]
          rw [if_neg, k0 _ hag]
          · simp only
            rw [k1 y1 hy]
          · cases u0 with
            | nil => exact absurd rfl hn
            | cons c t => simpa [aheadM] using ha
theorem piece_cut : ∀ {n : Nat} {x y : List UInt8} {r : Re} {d : Nat}, pieceM n x = some (r, y, d) → ∃ u, x = u ++ y ∧ u ≠ [] ∧ ∀ y1, Ag y y1 → pieceM n (u ++ y1) = some (r, y1, d)
  | 0, x, y, r, d, h => by simp [pieceM] at h
  | n + 1, x, y, r, d, h => by
    simp only [pieceM] at h
    cases h0 : atomM n x with
    | none => simp [h0] at h
    | some q =>
      obtain ⟨r0, y0, d0⟩ := q
      obtain ⟨u0, rfl, hn, k0⟩ := atom_cut h0
      simp only [h0] at h
      have mark : ∀ (k : UInt8), aheadM [k] y0 = true → u0 ++ y0 = (u0 ++ [k]) ++ y0.tail := fun k hk => by rw [List.append_assoc, List.singleton_append, ← ahead_one hk]
      split at h
      · rename_i ha
        simp only [Option.some.injEq, Prod.mk.injEq] at h
        obtain ⟨rfl, rfl, rfl⟩ := h
        refine ⟨u0 ++ [42], mark _ ha, by simp, fun y1 hy => ?_⟩
        simp only [pieceM, List.append_assoc, List.singleton_append]
        rw [k0]
        rfl
      · rename_i ha
        split at h
        · rename_i hb
          simp only [Option.some.injEq, Prod.mk.injEq] at h
          obtain ⟨rfl, rfl, rfl⟩ := h
          refine ⟨u0 ++ [43], mark _ hb, by simp, fun y1 hy => ?_⟩
          simp only [pieceM, List.append_assoc, List.singleton_append]
          rw [k0]
          rfl
        · rename_i hb
          split at h
          · rename_i hc
            simp only [Option.some.injEq, Prod.mk.injEq] at h
            obtain ⟨rfl, rfl, rfl⟩ := h
            refine ⟨u0 ++ [63], mark _ hc, by simp, fun y1 hy => ?_⟩
            simp only [pieceM, List.append_assoc, List.singleton_append]
            rw [k0]
            rfl
          · rename_i hc
            simp only [Option.some.injEq, Prod.mk.injEq] at h
            obtain ⟨rfl, rfl, rfl⟩ := h
            refine ⟨u0, rfl, hn, fun y1 hy => ?_⟩
            simp only [pieceM]
            rw [k0]
            simp only
            rw [hy.ahead (by simpa using ha), hy.ahead (by simpa using hb), hy.ahead (by simpa using hc)]
            rfl
theorem atom_cut : ∀ {n : Nat} {x y : List UInt8} {r : Re} {d : Nat}, atomM n x = some (r, y, d) → ∃ u, x = u ++ y ∧ u ≠ [] ∧ ∀ y1, atomM n (u ++ y1) = some (r, y1, d)
  | 0, x, y, r, d, h => by simp [atomM] at h
  | n + 1, [], y, r, d, h => by simp [atomM, aheadM, takeButM] at h
  | n + 1, c :: x, y, r, d, h => by
    simp only [atomM, List.tail_cons] at h
    split at h
    · rename_i ha
      cases h0 : patM n x with
      | none => simp [h0] at h
      | some q =>
        obtain ⟨ls, y0, d0⟩ := q
        obtain ⟨u0, rfl, k0⟩ := pat_cut h0
        simp only [h0] at h
        split at h
        · rename_i hb
          simp only [Option.some.injEq, Prod.mk.injEq] at h
          obtain ⟨rfl, rfl, rfl⟩ := h
          refine ⟨c :: (u0 ++ [41]), by rw [List.cons_append, List.append_assoc, List.singleton_append, ← ahead_one hb], by simp, fun y1 => ?_⟩
          simp only [atomM, List.cons_append, List.append_assoc, List.nil_append, List.tail_cons]
          rw [if_pos ((fun (t : List UInt8) => show aheadM [40] (c :: t) = true from ha) _), k0 (41 :: y1) (.inr ⟨41, _, _, ahead_one hb, rfl⟩)]
          rfl
        · cases h
    · rename_i ha
      split at h
      · rename_i hb
        cases h0 : classM n x with
        | none => simp [h0] at h
        | some q =>
          obtain ⟨r0, y0⟩ := q
          obtain ⟨u0, rfl, k0⟩ := class_cut h0
          simp only [h0, Option.some.injEq, Prod.mk.injEq] at h
          obtain ⟨rfl, rfl, rfl⟩ := h
          refine ⟨c :: u0, rfl, by simp, fun y1 => ?_⟩
          simp only [atomM, List.cons_append, List.tail_cons]
          rw [if_neg ((fun (t : List UInt8) => show ¬ aheadM [40] (c :: t) = true from ha) _), if_pos ((fun (t : List UInt8) => show aheadM [91] (c :: t) = true from hb) _), k0]
      · rename_i hb
        split at h
        · rename_i hc
          simp only [Option.some.injEq, Prod.mk.injEq] at h
          obtain ⟨rfl, rfl, rfl⟩ := h
          refine ⟨[c], rfl, by simp, fun y1 => ?_⟩
          simp only [atomM, List.cons_append, List.nil_append, List.tail_cons]
          rw [if_neg ((fun (t : List UInt8) => show ¬ aheadM [40] (c :: t) = true from ha) _), if_neg ((fun (t : List UInt8) => show ¬ aheadM [91] (c :: t) = true from hb) _), if_pos ((fun (t : List UInt8) => show aheadM [46] (c :: t) = true from hc) _)]
        · rename_i hc
          split at h
          · rename_i he
            cases x with
            | nil => simp at h
            | cons c2 x =>
              simp only at h
              split at h
              · rename_i hf
                simp only [Option.some.injEq, Prod.mk.injEq] at h
                obtain ⟨rfl, rfl, rfl⟩ := h
                refine ⟨[c, c2], rfl, by simp, fun y1 => ?_⟩
                simp only [atomM, List.cons_append, List.nil_append, List.tail_cons]
                rw [if_neg ((fun (t : List UInt8) => show ¬ aheadM [40] (c :: t) = true from ha) _), if_neg ((fun (t : List UInt8) => show ¬ aheadM [91] (c :: t) = true from hb) _), if_neg ((fun (t : List UInt8) => show ¬ aheadM [46] (c :: t) = true from hc) _), if_pos ((fun (t : List UInt8) => show aheadM [92] (c :: t) = true from he) _), if_pos hf]
              · cases h
          · rename_i he
            cases h0 : takeButM marksL (c :: x) with
            | none => simp [h0] at h
            | some q =>
              obtain ⟨c', y0⟩ := q
              obtain ⟨e, hq⟩ := takeBut_some h0
              simp only [List.cons.injEq] at e
              obtain ⟨rfl, rfl⟩ := e
              simp only [h0, Option.some.injEq, Prod.mk.injEq] at h
              obtain ⟨rfl, rfl, rfl⟩ := h
              refine ⟨[c], rfl, by simp, fun y1 => ?_⟩
              simp only [atomM, List.cons_append, List.nil_append, List.tail_cons]
              rw [if_neg ((fun (t : List UInt8) => show ¬ aheadM [40] (c :: t) = true from ha) _), if_neg ((fun (t : List UInt8) => show ¬ aheadM [91] (c :: t) = true from hb) _), if_neg ((fun (t : List UInt8) => show ¬ aheadM [46] (c :: t) = true from hc) _), if_neg ((fun (t : List UInt8) => show ¬ aheadM [92] (c :: t) = true from he) _)]
              simp only [takeButM, hq, Bool.false_eq_true, if_false]
end
/-- From a place at which k groups are open on to the end of the first one: what stands from there on. -/
inductive Scan : Nat → List UInt8 → Option (List UInt8) → Prop
  | nil (k : Nat) : Scan k [] none
  | esc (k : Nat) (t : List UInt8) (q : Option (List UInt8)) : Scan k t.tail q → Scan k (92 :: t) q
  | cls (k n : Nat) (x y : List UInt8) (r : Re) (q : Option (List UInt8)) : classM n x = some (r, y) → Scan k y q → Scan k (91 :: x) q
  | ncl (k : Nat) (x : List UInt8) : (∀ n, classM n x = none) → Scan k (91 :: x) none
  | opn (k : Nat) (t : List UInt8) (q : Option (List UInt8)) : Scan (k + 1) t q → Scan k (40 :: t) q
  | stop (t : List UInt8) : Scan 1 (41 :: t) (some (41 :: t))
  | cl (k : Nat) (t : List UInt8) (q : Option (List UInt8)) : Scan (k + 1) t q → Scan (k + 2) (41 :: t) q
  | oth (k : Nat) (c : UInt8) (t : List UInt8) (q : Option (List UInt8)) : c ≠ 92 → c ≠ 91 → c ≠ 40 → c ≠ 41 → Scan k t q → Scan k (c :: t) q
theorem scan_all : ∀ (m : Nat) (x : List UInt8) (k : Nat), x.length ≤ m → ∃ q, Scan (k + 1) x q := by
  intro m
  induction m with
  | zero =>
    intro x k h
    obtain rfl : x = [] := List.eq_nil_of_length_eq_zero (by omega)
    exact ⟨none, .nil _⟩
  | succ m ih =>
    intro x k h
    cases x with
    | nil => exact ⟨none, .nil _⟩
    | cons c t =>
      simp at h
      by_cases h1 : c = 92
      · subst h1
        obtain ⟨q, hq⟩ := ih t.tail k (by rw [List.length_tail]; omega)
        exact ⟨q, .esc _ _ _ hq⟩
      · by_cases h2 : c = 91
        · subst h2
          by_cases he : ∃ n r y, classM n t = some (r, y)
          · obtain ⟨n, r, y, he⟩ := he
            obtain ⟨q, hq⟩ := ih y k (by have := class_len he; omega)
            exact ⟨q, .cls _ n _ _ r _ he hq⟩
          · exact ⟨none, .ncl _ _ fun n => by
              cases hc : classM n t with
              | none => rfl
              | some r => exact absurd ⟨n, r.1, r.2, hc⟩ he⟩
        · by_cases h3 : c = 40
          · subst h3
            obtain ⟨q, hq⟩ := ih t (k + 1) (by omega)
            exact ⟨q, .opn _ _ _ hq⟩
          · by_cases h4 : c = 41
            · subst h4
              cases k with
              | zero => exact ⟨_, .stop t⟩
              | succ k =>
                obtain ⟨q, hq⟩ := ih t k (by omega)
                exact ⟨q, .cl _ _ _ hq⟩
            · obtain ⟨q, hq⟩ := ih t k (by omega)
              exact ⟨q, .oth _ _ _ _ h1 h2 h3 h4 hq⟩
theorem plain_mark {c : UInt8} (h : marksL.contains c = false) : c ≠ 92 ∧ c ≠ 91 ∧ c ≠ 40 ∧ c ≠ 41 := by
  refine ⟨?_, ?_, ?_, ?_⟩ <;> rintro rfl <;> exact absurd h (by decide)
mutual
theorem pat_scan {q : Option (List UInt8)} : ∀ {n k : Nat} {x y : List UInt8} {ls : List Re} {d : Nat}, patM n x = some (ls, y, d) → Scan (k + 1) y q → Scan (k + 1) x q
  | 0, k, x, y, ls, d, h, hs => by simp [patM] at h
  | n + 1, k, x, y, ls, d, h, hs => by
    simp only [patM] at h
    split at h
    · cases h
    · rename_i l y0 d0 h0
      split at h
      · rename_i ha
        split at h
        · cases h
        · rename_i ls' z e h3
          simp only [Option.some.injEq, Prod.mk.injEq] at h
          obtain ⟨rfl, rfl, rfl⟩ := h
          refine alt_scan h0 ?_
          rw [ahead_one ha]
          exact .oth _ _ _ _ (by decide) (by decide) (by decide) (by decide) (pat_scan h3 hs)
      · simp only [Option.some.injEq, Prod.mk.injEq] at h
        obtain ⟨rfl, rfl, rfl⟩ := h
        exact alt_scan h0 hs
theorem alt_scan {q : Option (List UInt8)} : ∀ {n k : Nat} {x y : List UInt8} {l : List Re} {d : Nat}, altM n x = some (l, y, d) → Scan (k + 1) y q → Scan (k + 1) x q
  | 0, k, x, y, l, d, h, hs => by simp [altM] at h
  | n + 1, k, x, y, l, d, h, hs => by
    simp only [altM] at h
    split at h
    · simp only [Option.some.injEq, Prod.mk.injEq] at h
      obtain ⟨rfl, rfl, rfl⟩ := h
      exact hs
    · split at h
      · cases h
      · rename_i r y0 d0 h0
        split at h
        · cases h
        · rename_i rs z e h2
          simp only [Option.some.injEq, Prod.mk.injEq] at h
          obtain ⟨rfl, rfl, rfl⟩ := h
          exact piece_scan h0 (alt_scan h2 hs)
theorem piece_scan {q : Option (List UInt8)} : ∀ {n k : Nat} {x y : List UInt8} {r : Re} {d : Nat}, pieceM n x = some (r, y, d) → Scan (k + 1) y q → Scan (k + 1) x q
  | 0, k, x, y, r, d, h, hs => by simp [pieceM] at h
  | n + 1, k, x, y, r, d, h, hs => by
    simp only [pieceM] at h
    split at h
    · cases h
    · rename_i r0 y0 d0 h0
      split at h
      · rename_i ha
        simp only [Option.some.injEq, Prod.mk.injEq] at h
        obtain ⟨rfl, rfl, rfl⟩ := h
        refine atom_scan h0 ?_
        rw [ahead_one ha]
        exact .oth _ _ _ _ (by decide) (by decide) (by decide) (by decide) hs
      · split at h
        · rename_i ha
          simp only [Option.some.injEq, Prod.mk.injEq] at h
          obtain ⟨rfl, rfl, rfl⟩ := h
          refine atom_scan h0 ?_
          rw [ahead_one ha]
          exact .oth _ _ _ _ (by decide) (by decide) (by decide) (by decide) hs
        · split at h
          · rename_i ha
            simp only [Option.some.injEq, Prod.mk.injEq] at h
            obtain ⟨rfl, rfl, rfl⟩ := h
            refine atom_scan h0 ?_
            rw [ahead_one ha]
            exact .oth _ _ _ _ (by decide) (by decide) (by decide) (by decide) hs
          · simp only [Option.some.injEq, Prod.mk.injEq] at h
            obtain ⟨rfl, rfl, rfl⟩ := h
            exact atom_scan h0 hs
theorem atom_scan {q : Option (List UInt8)} : ∀ {n k : Nat} {x y : List UInt8} {r : Re} {d : Nat}, atomM n x = some (r, y, d) → Scan (k + 1) y q → Scan (k + 1) x q
  | 0, k, x, y, r, d, h, hs => by simp [atomM] at h
  | n + 1, k, x, y, r, d, h, hs => by
    simp only [atomM] at h
    split at h
    · rename_i ha
      split at h
      · cases h
      · rename_i ls y0 d0 h0
        split at h
        · rename_i hb
          simp only [Option.some.injEq, Prod.mk.injEq] at h
          obtain ⟨rfl, rfl, rfl⟩ := h
          rw [ahead_one ha]
          refine .opn _ _ _ (pat_scan h0 ?_)
          rw [ahead_one hb]
          exact .cl _ _ _ hs
        · cases h
    · split at h
      · rename_i ha
        split at h
        · cases h
        · rename_i r0 y0 h0
          simp only [Option.some.injEq, Prod.mk.injEq] at h
          obtain ⟨rfl, rfl, rfl⟩ := h
          rw [ahead_one ha]
          exact .cls _ _ _ _ _ _ h0 hs
      · split at h
        · rename_i ha
          simp only [Option.some.injEq, Prod.mk.injEq] at h
          obtain ⟨rfl, rfl, rfl⟩ := h
          rw [ahead_one ha]
          exact .oth _ _ _ _ (by decide) (by decide) (by decide) (by decide) hs
        · split at h
          · rename_i ha
            split at h
            · cases h
            · rename_i c y0 hx
              split at h
              · simp only [Option.some.injEq, Prod.mk.injEq] at h
                obtain ⟨rfl, rfl, rfl⟩ := h
                rw [ahead_one ha]
                refine .esc _ _ _ ?_
                rw [hx]
                exact hs
              · cases h
          · split at h
            · cases h
            · rename_i c y0 h0
              obtain ⟨rfl, hc⟩ := takeBut_some h0
              simp only [Option.some.injEq, Prod.mk.injEq] at h
              obtain ⟨rfl, rfl, rfl⟩ := h
              obtain ⟨a1, a2, a3, a4⟩ := plain_mark hc
              exact .oth _ _ _ _ a1 a2 a3 a4 hs
end
/-- From a place at which o groups are open, the most so far m: the most of all. -/
inductive Dep : Nat → Nat → List UInt8 → Nat → Prop
  | nil (o m : Nat) : Dep o m [] m
  | esc (o m out : Nat) (t : List UInt8) : Dep o m t.tail out → Dep o m (92 :: t) out
  | cls (o m out n : Nat) (x y : List UInt8) (r : Re) : classM n x = some (r, y) → Dep o m y out → Dep o m (91 :: x) out
  | opn (o m out : Nat) (t : List UInt8) : Dep (o + 1) (max m (o + 1)) t out → Dep o m (40 :: t) out
  | cl (o m out : Nat) (t : List UInt8) : Dep o m t out → Dep (o + 1) m (41 :: t) out
  | oth (o m out : Nat) (c : UInt8) (t : List UInt8) : c ≠ 92 → c ≠ 91 → c ≠ 40 → c ≠ 41 → Dep o m t out → Dep o m (c :: t) out
theorem Dep.as {o m m' out : Nat} {x : List UInt8} (h : Dep o m x out) (e : m = m') : Dep o m' x out := e ▸ h
mutual
theorem pat_dep {out : Nat} : ∀ {n o m : Nat} {x y : List UInt8} {ls : List Re} {d : Nat}, patM n x = some (ls, y, d) → o ≤ m → Dep o (max m (o + d)) y out → Dep o m x out
  | 0, o, m, x, y, ls, d, h, hm, hs => by simp [patM] at h
  | n + 1, o, m, x, y, ls, d, h, hm, hs => by
    simp only [patM] at h
    split at h
    · cases h
    · rename_i l y0 d0 h0
      split at h
      · rename_i ha
        split at h
        · cases h
        · rename_i ls' z e h3
          simp only [Option.some.injEq, Prod.mk.injEq] at h
          obtain ⟨rfl, rfl, rfl⟩ := h
          refine alt_dep h0 hm ?_
          rw [ahead_one ha]
          exact .oth _ _ _ _ _ (by decide) (by decide) (by decide) (by decide) (pat_dep h3 (by omega) (hs.as (by omega)))
      · simp only [Option.some.injEq, Prod.mk.injEq] at h
        obtain ⟨rfl, rfl, rfl⟩ := h
        exact alt_dep h0 hm hs
theorem alt_dep {out : Nat} : ∀ {n o m : Nat} {x y : List UInt8} {l : List Re} {d : Nat}, altM n x = some (l, y, d) → o ≤ m → Dep o (max m (o + d)) y out → Dep o m x out
  | 0, o, m, x, y, l, d, h, hm, hs => by simp [altM] at h
  | n + 1, o, m, x, y, l, d, h, hm, hs => by
    simp only [altM] at h
    split at h
    · simp only [Option.some.injEq, Prod.mk.injEq] at h
      obtain ⟨rfl, rfl, rfl⟩ := h
      exact hs.as (by omega)
    · split at h
      · cases h
      · rename_i r y0 d0 h0
        split at h
        · cases h
        · rename_i rs z e h2
          simp only [Option.some.injEq, Prod.mk.injEq] at h
          obtain ⟨rfl, rfl, rfl⟩ := h
          exact piece_dep h0 hm (alt_dep h2 (by omega) (hs.as (by omega)))
theorem piece_dep {out : Nat} : ∀ {n o m : Nat} {x y : List UInt8} {r : Re} {d : Nat}, pieceM n x = some (r, y, d) → o ≤ m → Dep o (max m (o + d)) y out → Dep o m x out
  | 0, o, m, x, y, r, d, h, hm, hs => by simp [pieceM] at h
  | n + 1, o, m, x, y, r, d, h, hm, hs => by
    simp only [pieceM] at h
    split at h
    · cases h
    · rename_i r0 y0 d0 h0
      split at h
      · rename_i ha
        simp only [Option.some.injEq, Prod.mk.injEq] at h
        obtain ⟨rfl, rfl, rfl⟩ := h
        refine atom_dep h0 hm ?_
        rw [ahead_one ha]
        exact .oth _ _ _ _ _ (by decide) (by decide) (by decide) (by decide) hs
      · split at h
        · rename_i ha
          simp only [Option.some.injEq, Prod.mk.injEq] at h
          obtain ⟨rfl, rfl, rfl⟩ := h
          refine atom_dep h0 hm ?_
          rw [ahead_one ha]
          exact .oth _ _ _ _ _ (by decide) (by decide) (by decide) (by decide) hs
        · split at h
          · rename_i ha
            simp only [Option.some.injEq, Prod.mk.injEq] at h
            obtain ⟨rfl, rfl, rfl⟩ := h
            refine atom_dep h0 hm ?_
            rw [ahead_one ha]
            exact .oth _ _ _ _ _ (by decide) (by decide) (by decide) (by decide) hs
          · simp only [Option.some.injEq, Prod.mk.injEq] at h
            obtain ⟨rfl, rfl, rfl⟩ := h
            exact atom_dep h0 hm hs
theorem atom_dep {out : Nat} : ∀ {n o m : Nat} {x y : List UInt8} {r : Re} {d : Nat}, atomM n x = some (r, y, d) → o ≤ m → Dep o (max m (o + d)) y out → Dep o m x out
  | 0, o, m, x, y, r, d, h, hm, hs => by simp [atomM] at h
  | n + 1, o, m, x, y, r, d, h, hm, hs => by
    simp only [atomM] at h
    split at h
    · rename_i ha
      split at h
      · cases h
      · rename_i ls y0 d0 h0
        split at h
        · rename_i hb
          simp only [Option.some.injEq, Prod.mk.injEq] at h
          obtain ⟨rfl, rfl, rfl⟩ := h
          rw [ahead_one ha]
          refine .opn _ _ _ _ (pat_dep h0 (by omega) ?_)
          rw [ahead_one hb]
          exact .cl _ _ _ _ (hs.as (by omega))
        · cases h
    · split at h
      · rename_i ha
        split at h
        · cases h
        · rename_i r0 y0 h0
          simp only [Option.some.injEq, Prod.mk.injEq] at h
          obtain ⟨rfl, rfl, rfl⟩ := h
          rw [ahead_one ha]
          exact .cls _ _ _ _ _ _ _ h0 (hs.as (by omega))
      · split at h
        · rename_i ha
          simp only [Option.some.injEq, Prod.mk.injEq] at h
          obtain ⟨rfl, rfl, rfl⟩ := h
          rw [ahead_one ha]
          exact .oth _ _ _ _ _ (by decide) (by decide) (by decide) (by decide) (hs.as (by omega))
        · split at h
          · rename_i ha
            split at h
            · cases h
            · rename_i c y0 hx
              split at h
              · simp only [Option.some.injEq, Prod.mk.injEq] at h
                obtain ⟨rfl, rfl, rfl⟩ := h
                rw [ahead_one ha]
                refine .esc _ _ _ _ ?_
                rw [hx]
                exact hs.as (by omega)
              · cases h
          · split at h
            · cases h
            · rename_i c y0 h0
              obtain ⟨rfl, hc⟩ := takeBut_some h0
              simp only [Option.some.injEq, Prod.mk.injEq] at h
              obtain ⟨rfl, rfl, rfl⟩ := h
              obtain ⟨a1, a2, a3, a4⟩ := plain_mark hc
              exact .oth _ _ _ _ _ a1 a2 a3 a4 (hs.as (by omega))
end
end Go.Proofs.YtpcjnagdanmdpaaGreat
