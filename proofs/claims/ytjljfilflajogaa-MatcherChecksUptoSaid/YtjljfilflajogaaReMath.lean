/- Patterns as trees: what a tree fits; the marks that a text leaves in it; that the marks tell just what it fits. Of no program. -/
namespace Go.Proofs.Ytjljfilflajogaa
set_option linter.unusedVariables false

/-- A tree: an atom has spans, may turn them round, and may have taken the last byte; parts behind one another; parts of which one fits; a part that may come again, or not at all. -/
inductive Re where
  | atom (sp : List (UInt8 × UInt8)) (neg taken : Bool)
  | row (l : List Re)
  | alt (l : List Re)
  | rep (r : Re) (no many : Bool)

def spanHas (c : UInt8) (s : UInt8 × UInt8) : Bool := decide (s.1 ≤ c) && decide (c ≤ s.2)
def hasB (sp : List (UInt8 × UInt8)) (neg : Bool) (c : UInt8) : Bool := if sp.any (spanHas c) then !neg else neg

mutual
def emptyM : Re → Bool
  | .atom _ _ _ => false
  | .row l => emptyAll l
  | .alt l => emptyAny l
  | .rep r no _ => no || emptyM r
def emptyAll : List Re → Bool
  | [] => true
  | r :: l => emptyM r && emptyAll l
def emptyAny : List Re → Bool
  | [] => false
  | r :: l => emptyM r || emptyAny l
end
mutual
def doneM : Re → Bool
  | .atom _ _ tk => tk
  | .row l => doneRow false l
  | .alt l => doneAny l
  | .rep r _ _ => doneM r
def doneRow : Bool → List Re → Bool
  | d, [] => d
  | d, r :: l => doneRow (doneM r || (d && emptyM r)) l
def doneAny : List Re → Bool
  | [] => false
  | r :: l => doneM r || doneAny l
end
mutual
def feedM (c : UInt8) : Bool → Re → Re
  | b, .atom sp neg _ => .atom sp neg (b && hasB sp neg c)
  | b, .row l => .row (feedRow c b l)
  | b, .alt l => .alt (feedAll c b l)
  | b, .rep r no many => .rep (feedM c (b || (many && doneM r)) r) no many
def feedRow (c : UInt8) : Bool → List Re → List Re
  | _, [] => []
  | b, r :: l => feedM c b r :: feedRow c (doneM r || (b && emptyM r)) l
def feedAll (c : UInt8) : Bool → List Re → List Re
  | _, [] => []
  | b, r :: l => feedM c b r :: feedAll c b l
end
/-- The bytes go through the tree, the first one as its first. -/
def feeds : Bool → Re → List UInt8 → Re
  | _, r, [] => r
  | b, r, c :: s => feeds false (feedM c b r) s
def fitsM (r : Re) (s : List UInt8) : Bool := if s.isEmpty then emptyM r else doneM (feeds true r s)

/-- Texts of P behind one another, none of them empty. -/
inductive Star (P : List UInt8 → Prop) : List UInt8 → Prop
  | nil : Star P []
  | more (c : UInt8) (u v : List UInt8) : P (c :: u) → Star P v → Star P (c :: u ++ v)
def Sv (P : List UInt8 → Prop) (many : Bool) (v : List UInt8) : Prop := if many then Star P v else v = []

mutual
def L : Re → List UInt8 → Prop
  | .atom sp neg _, w => ∃ c, w = [c] ∧ hasB sp neg c = true
  | .row l, w => LRow l w
  | .alt l, w => LAlt l w
  | .rep r no many, w => (no = true ∧ w = []) ∨ ∃ u v, w = u ++ v ∧ L r u ∧ Sv (L r) many v
def LRow : List Re → List UInt8 → Prop
  | [], w => w = []
  | r :: l, w => ∃ u v, w = u ++ v ∧ L r u ∧ LRow l v
def LAlt : List Re → List UInt8 → Prop
  | [], _ => False
  | r :: l, w => L r w ∨ LAlt l w
end
mutual
def C : Re → List UInt8 → Prop
  | .atom _ _ tk, w => tk = true ∧ w = []
  | .row l, w => CRow l w
  | .alt l, w => CAlt l w
  | .rep r _ many, w => ∃ u v, w = u ++ v ∧ C r u ∧ Sv (L r) many v
def CRow : List Re → List UInt8 → Prop
  | [], _ => False
  | r :: l, w => (∃ u v, w = u ++ v ∧ C r u ∧ LRow l v) ∨ CRow l w
def CAlt : List Re → List UInt8 → Prop
  | [], _ => False
  | r :: l, w => C r w ∨ CAlt l w
end
mutual
def freshM : Re → Bool
  | .atom _ _ tk => !tk
  | .row l => freshAll l
  | .alt l => freshAll l
  | .rep r _ _ => freshM r
def freshAll : List Re → Bool
  | [] => true
  | r :: l => freshM r && freshAll l
end

theorem nil_app {u v : List UInt8} : ([] = u ++ v) ↔ u = [] ∧ v = [] := by
  constructor
  · intro h; exact List.append_eq_nil_iff.1 h.symm
  · rintro ⟨rfl, rfl⟩; rfl
theorem Sv.nil (P : List UInt8 → Prop) (many : Bool) : Sv P many [] := by
  unfold Sv
  cases many
  · rfl
  · exact .nil
theorem cons_app {c : UInt8} {w u v : List UInt8} : (c :: w = u ++ v) ↔ (u = [] ∧ v = c :: w) ∨ ∃ u', u = c :: u' ∧ w = u' ++ v := by
  cases u with
  | nil => simp [eq_comm]
  | cons a u =>
    simp only [List.cons_append, List.cons.injEq]
    constructor
    · rintro ⟨rfl, rfl⟩; exact .inr ⟨u, ⟨rfl, rfl⟩, rfl⟩
    · rintro (⟨h, _⟩ | ⟨u', ⟨rfl, rfl⟩, rfl⟩)
      · cases h
      · exact ⟨rfl, rfl⟩

mutual
theorem empty_L : ∀ (r : Re), emptyM r = true ↔ L r []
  | .atom sp neg tk => by simp [emptyM, L]
  | .row l => by simp only [emptyM, L]; exact empty_row l
  | .alt l => by simp only [emptyM, L]; exact empty_alt l
  | .rep r no many => by
    simp only [emptyM, L, Bool.or_eq_true, empty_L r]
    constructor
    · rintro (h | h)
      · exact .inl ⟨h, trivial⟩
      · exact .inr ⟨[], [], rfl, h, Sv.nil _ _⟩
    · rintro (⟨h, _⟩ | ⟨u, v, e, h, _⟩)
      · exact .inl h
      · obtain ⟨rfl, rfl⟩ := nil_app.1 e
        exact .inr h
theorem empty_row : ∀ (l : List Re), emptyAll l = true ↔ LRow l []
  | [] => by simp [emptyAll, LRow]
  | r :: l => by
    simp only [emptyAll, LRow, Bool.and_eq_true, empty_L r, empty_row l]
    constructor
    · rintro ⟨h, k⟩; exact ⟨[], [], rfl, h, k⟩
    · rintro ⟨u, v, e, h, k⟩
      obtain ⟨rfl, rfl⟩ := nil_app.1 e
      exact ⟨h, k⟩
theorem empty_alt : ∀ (l : List Re), emptyAny l = true ↔ LAlt l []
  | [] => by simp [emptyAny, LAlt]
  | r :: l => by simp only [emptyAny, LAlt, Bool.or_eq_true, empty_L r, empty_alt l]
end
mutual
theorem done_C : ∀ (r : Re), doneM r = true ↔ C r []
  | .atom sp neg tk => by simp [doneM, C]
  | .row l => by simp only [doneM, C]; rw [done_row false l]; simp
  | .alt l => by simp only [doneM, C]; exact done_alt l
  | .rep r no many => by
    simp only [doneM, C, done_C r]
    constructor
    · intro h; exact ⟨[], [], rfl, h, Sv.nil _ _⟩
    · rintro ⟨u, v, e, h, _⟩
      obtain ⟨rfl, rfl⟩ := nil_app.1 e
      exact h
theorem done_row : ∀ (d : Bool) (l : List Re), doneRow d l = true ↔ (d = true ∧ LRow l []) ∨ CRow l []
  | d, [] => by simp [doneRow, LRow, CRow]
  | d, r :: l => by
    simp only [doneRow, LRow, CRow]
    rw [done_row _ l]
    simp only [Bool.or_eq_true, Bool.and_eq_true, done_C r, empty_L r]
    constructor
    · rintro (⟨h | ⟨h, h2⟩, k⟩ | k)
      · exact .inr (.inl ⟨[], [], rfl, h, k⟩)
      · exact .inl ⟨h, [], [], rfl, h2, k⟩
      · exact .inr (.inr k)
    · rintro (⟨h, u, v, e, h2, k⟩ | ⟨u, v, e, h, k⟩ | k)
      · obtain ⟨rfl, rfl⟩ := nil_app.1 e
        exact .inl ⟨.inr ⟨h, h2⟩, k⟩
      · obtain ⟨rfl, rfl⟩ := nil_app.1 e
        exact .inl ⟨.inl h, k⟩
      · exact .inr k
theorem done_alt : ∀ (l : List Re), doneAny l = true ↔ CAlt l []
  | [] => by simp [doneAny, CAlt]
  | r :: l => by simp only [doneAny, CAlt, Bool.or_eq_true, done_C r, done_alt l]
end
mutual
theorem feed_L (c : UInt8) : ∀ (b : Bool) (r : Re), L (feedM c b r) = L r
  | b, .atom sp neg tk => by simp only [feedM]; funext w; simp only [L]
  | b, .row l => by simp only [feedM]; funext w; simp only [L]; rw [feed_LRow c b l]
  | b, .alt l => by simp only [feedM]; funext w; simp only [L]; rw [feed_LAlt c b l]
  | b, .rep r no many => by simp only [feedM]; funext w; simp only [L]; rw [feed_L c _ r]
theorem feed_LRow (c : UInt8) : ∀ (b : Bool) (l : List Re), LRow (feedRow c b l) = LRow l
  | b, [] => rfl
  | b, r :: l => by simp only [feedRow]; funext w; simp only [LRow]; rw [feed_L c b r, feed_LRow c _ l]
theorem feed_LAlt (c : UInt8) : ∀ (b : Bool) (l : List Re), LAlt (feedAll c b l) = LAlt l
  | b, [] => rfl
  | b, r :: l => by simp only [feedAll]; funext w; simp only [LAlt]; rw [feed_L c b r, feed_LAlt c _ l]
end
theorem star_cons {P : List UInt8 → Prop} {c : UInt8} {w : List UInt8} : Star P (c :: w) ↔ ∃ u v, w = u ++ v ∧ P (c :: u) ∧ Star P v := by
  constructor
  · intro h
    generalize hx : c :: w = x at h
    cases h with
    | nil => cases hx
    | more c' u v hp hs =>
      simp only [List.cons_append, List.cons.injEq] at hx
      obtain ⟨rfl, rfl⟩ := hx
      exact ⟨u, v, rfl, hp, hs⟩
  · rintro ⟨u, v, rfl, hp, hs⟩
    exact .more c u v hp hs
theorem sv_cons {P : List UInt8 → Prop} {many : Bool} {c : UInt8} {w : List UInt8} : Sv P many (c :: w) ↔ many = true ∧ ∃ u v, w = u ++ v ∧ P (c :: u) ∧ Sv P many v := by
  unfold Sv
  cases many
  · simp
  · simp only [if_true, true_and]
    exact star_cons
mutual
theorem feed_C (c : UInt8) : ∀ (b : Bool) (r : Re) (w : List UInt8), C (feedM c b r) w ↔ C r (c :: w) ∨ (b = true ∧ L r (c :: w))
  | b, .atom sp neg tk, w => by
    simp only [feedM, C, L, Bool.and_eq_true]
    constructor
    · rintro ⟨⟨hb, hh⟩, rfl⟩; exact .inr ⟨hb, c, rfl, hh⟩
    · rintro (⟨_, h⟩ | ⟨hb, c', e, hh⟩)
      · cases h
      · simp only [List.cons.injEq] at e
        obtain ⟨rfl, rfl⟩ := e
        exact ⟨⟨hb, hh⟩, rfl⟩
  | b, .row l, w => by simp only [feedM, C, L]; exact feed_CRow c b l w
  | b, .alt l, w => by simp only [feedM, C, L]; exact feed_CAlt c b l w
  | b, .rep r no many, w => by
    simp only [feedM, C, L, feed_L]
    constructor
    · rintro ⟨u, v, rfl, h, hs⟩
      rcases (feed_C c _ r u).1 h with h | ⟨hb, h⟩
      · exact .inl ⟨c :: u, v, rfl, h, hs⟩
      · rcases Bool.or_eq_true _ _ ▸ hb with hb | hb
        · exact .inr ⟨hb, .inr ⟨c :: u, v, rfl, h, hs⟩⟩
        · rw [Bool.and_eq_true] at hb
          exact .inl ⟨[], c :: (u ++ v), rfl, (done_C r).1 hb.2, sv_cons.2 ⟨hb.1, u, v, rfl, h, hs⟩⟩
    · rintro (⟨u, v, e, h, hs⟩ | ⟨hb, ⟨_, e⟩ | ⟨u, v, e, h, hs⟩⟩)
      · rcases cons_app.1 e with ⟨rfl, rfl⟩ | ⟨u', rfl, rfl⟩
        · obtain ⟨hm, x, y, rfl, hx, hy⟩ := sv_cons.1 hs
          exact ⟨x, y, rfl, (feed_C c _ r x).2 (.inr ⟨by rw [Bool.or_eq_true, Bool.and_eq_true]; exact .inr ⟨hm, (done_C r).2 h⟩, hx⟩), hy⟩
        · exact ⟨u', v, rfl, (feed_C c _ r u').2 (.inl h), hs⟩
      · cases e
      · rcases cons_app.1 e with ⟨rfl, rfl⟩ | ⟨u', rfl, rfl⟩
        · obtain ⟨hm, x, y, rfl, hx, hy⟩ := sv_cons.1 hs
          exact ⟨x, y, rfl, (feed_C c _ r x).2 (.inr ⟨by rw [Bool.or_eq_true]; exact .inl hb, hx⟩), hy⟩
        · exact ⟨u', v, rfl, (feed_C c _ r u').2 (.inr ⟨by rw [Bool.or_eq_true]; exact .inl hb, h⟩), hs⟩
theorem feed_CRow (c : UInt8) : ∀ (b : Bool) (l : List Re) (w : List UInt8), CRow (feedRow c b l) w ↔ CRow l (c :: w) ∨ (b = true ∧ LRow l (c :: w))
  | b, [], w => by simp [feedRow, CRow, LRow]
  | b, r :: l, w => by
    simp only [feedRow, CRow, LRow, feed_LRow]
    rw [feed_CRow c _ l w]
    simp only [Bool.or_eq_true, Bool.and_eq_true]
    constructor
    · rintro (⟨u, v, rfl, h, k⟩ | h | ⟨h | ⟨hb, h⟩, k⟩)
      · rcases (feed_C c b r u).1 h with h | ⟨hb, h⟩
        · exact .inl (.inl ⟨c :: u, v, rfl, h, k⟩)
        · exact .inr ⟨hb, c :: u, v, rfl, h, k⟩
      · exact .inl (.inr h)
      · exact .inl (.inl ⟨[], c :: w, rfl, (done_C r).1 h, k⟩)
      · exact .inr ⟨hb, [], c :: w, rfl, (empty_L r).1 h, k⟩
    · rintro ((⟨u, v, e, h, k⟩ | h) | ⟨hb, u, v, e, h, k⟩)
      · rcases cons_app.1 e with ⟨rfl, rfl⟩ | ⟨u', rfl, rfl⟩
        · exact .inr (.inr ⟨.inl ((done_C r).2 h), k⟩)
        · exact .inl ⟨u', v, rfl, (feed_C c b r u').2 (.inl h), k⟩
      · exact .inr (.inl h)
      · rcases cons_app.1 e with ⟨rfl, rfl⟩ | ⟨u', rfl, rfl⟩
        · exact .inr (.inr ⟨.inr ⟨hb, (empty_L r).2 h⟩, k⟩)
        · exact .inl ⟨u', v, rfl, (feed_C c b r u').2 (.inr ⟨hb, h⟩), k⟩
theorem feed_CAlt (c : UInt8) : ∀ (b : Bool) (l : List Re) (w : List UInt8), CAlt (feedAll c b l) w ↔ CAlt l (c :: w) ∨ (b = true ∧ LAlt l (c :: w))
  | b, [], w => by simp [feedAll, CAlt, LAlt]
  | b, r :: l, w => by
    simp only [feedAll, CAlt, LAlt]
    rw [feed_C c b r w, feed_CAlt c b l w]
    constructor
    · rintro ((h | ⟨hb, h⟩) | h | ⟨hb, h⟩)
      · exact .inl (.inl h)
      · exact .inr ⟨hb, .inl h⟩
      · exact .inl (.inr h)
      · exact .inr ⟨hb, .inr h⟩
    · rintro ((h | h) | ⟨hb, h | h⟩)
      · exact .inl (.inl h)
      · exact .inr (.inl h)
      · exact .inl (.inr ⟨hb, h⟩)
      · exact .inr (.inr ⟨hb, h⟩)
end
mutual
theorem fresh_C : ∀ (r : Re), freshM r = true → ∀ w, ¬ C r w
  | .atom sp neg tk, h, w => by simp only [freshM] at h; simp only [C]; cases tk <;> simp at h ⊢
  | .row l, h, w => by simp only [freshM] at h; simp only [C]; exact fresh_CRow l h w
  | .alt l, h, w => by simp only [freshM] at h; simp only [C]; exact fresh_CAlt l h w
  | .rep r no many, h, w => by
    simp only [freshM] at h
    simp only [C]
    rintro ⟨u, v, _, k, _⟩
    exact fresh_C r h u k
theorem fresh_CRow : ∀ (l : List Re), freshAll l = true → ∀ w, ¬ CRow l w
  | [], h, w => by simp [CRow]
  | r :: l, h, w => by
    simp only [freshAll, Bool.and_eq_true] at h
    simp only [CRow]
    rintro (⟨u, v, _, k, _⟩ | k)
    · exact fresh_C r h.1 u k
    · exact fresh_CRow l h.2 w k
theorem fresh_CAlt : ∀ (l : List Re), freshAll l = true → ∀ w, ¬ CAlt l w
  | [], h, w => by simp [CAlt]
  | r :: l, h, w => by
    simp only [freshAll, Bool.and_eq_true] at h
    simp only [CAlt]
    rintro (k | k)
    · exact fresh_C r h.1 w k
    · exact fresh_CAlt l h.2 w k
end
theorem feeds_C : ∀ (s : List UInt8) (r : Re) (w : List UInt8), C (feeds false r s) w ↔ C r (s ++ w)
  | [], r, w => by simp [feeds]
  | c :: s, r, w => by
    rw [feeds, feeds_C s, feed_C]
    simp
/-- What the marks tell is what the tree fits. -/
theorem fits_L {r : Re} (h : freshM r = true) (s : List UInt8) : fitsM r s = true ↔ L r s := by
  unfold fitsM
  cases s with
  | nil => simp only [List.isEmpty_nil, if_true]; exact empty_L r
  | cons c s =>
    simp only [List.isEmpty_cons, Bool.false_eq_true, if_false, feeds]
    rw [done_C, feeds_C, List.append_nil, feed_C]
    simp [fresh_C r h]
theorem feeds_snoc : ∀ (s : List UInt8) (b : Bool) (r : Re) (c : UInt8), feeds b r (s ++ [c]) = feedM c (b && s.isEmpty) (feeds b r s)
  | [], b, r, c => by simp [feeds]
  | d :: s, b, r, c => by
    simp only [List.cons_append, feeds]
    rw [feeds_snoc s]
    simp
end Go.Proofs.Ytjljfilflajogaa
