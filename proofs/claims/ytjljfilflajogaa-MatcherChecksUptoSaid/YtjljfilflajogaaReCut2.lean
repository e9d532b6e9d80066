/- The document's own answer for patterns: which atom stands at a text's front; what a text's alternatives are, read backwards. Of no program. -/
import Derived.Test.YtjljfilflajogaaReCut
import Derived.Test.YtjljfilflajogaaReParse5
namespace Go.Proofs.Ytjljfilflajogaa
set_option linter.unusedVariables false

theorem atomP_one {x z z' : List UInt8} (h : AtomP x z) (h' : AtomP x z') : z = z' := by
  obtain ⟨n, r, d, h⟩ := h
  obtain ⟨m, r', d', h'⟩ := h'
  have := atom_unique h h'
  simp only [Prod.mk.injEq] at this
  exact this.2.1
theorem no_nil : NoAtom [] := by
  intro n
  cases n with
  | zero => rfl
  | succ n => simp [atomM, aheadM, takeButM]
theorem at_dot (t : List UInt8) : AtomP (46 :: t) t := ⟨1, .atom [] true false, 0, by simp [atomM, aheadM]⟩
theorem at_plain {c : UInt8} {t : List UInt8} (h : marksL.contains c = false) : AtomP (c :: t) t := by
  have h1 : aheadM [40] (c :: t) = false := by simp only [aheadM, List.contains_cons, List.contains_nil, Bool.or_false, beq_eq_false_iff_ne]; rintro rfl; exact absurd h (by decide)
  have h2 : aheadM [91] (c :: t) = false := by simp only [aheadM, List.contains_cons, List.contains_nil, Bool.or_false, beq_eq_false_iff_ne]; rintro rfl; exact absurd h (by decide)
  have h3 : aheadM [46] (c :: t) = false := by simp only [aheadM, List.contains_cons, List.contains_nil, Bool.or_false, beq_eq_false_iff_ne]; rintro rfl; exact absurd h (by decide)
  have h4 : aheadM [92] (c :: t) = false := by simp only [aheadM, List.contains_cons, List.contains_nil, Bool.or_false, beq_eq_false_iff_ne]; rintro rfl; exact absurd h (by decide)
  refine ⟨1, oneM c, 0, ?_⟩
  simp only [atomM, h1, h2, h3, h4, Bool.false_eq_true, if_false]
  rw [show takeButM marksL (c :: t) = some (c, t) by simp only [takeButM]; rw [if_neg (by rw [h]; simp)]]
theorem at_esc {d : UInt8} {t : List UInt8} (h : marksL.contains d = true) : AtomP (92 :: d :: t) t := by
  refine ⟨1, oneM d, 0, ?_⟩
  simp only [atomM]
  rw [if_neg (by simp [aheadM]), if_neg (by simp [aheadM]), if_neg (by simp [aheadM]), if_pos (by simp [aheadM])]
  simp only [List.tail_cons]
  rw [if_pos h]
theorem no_esc1 : NoAtom [92] := by
  intro n
  cases n with
  | zero => rfl
  | succ n =>
    simp only [atomM]
    rw [if_neg (by simp [aheadM]), if_neg (by simp [aheadM]), if_neg (by simp [aheadM]), if_pos (by simp [aheadM])]
    rfl
theorem no_esc2 {d : UInt8} {t : List UInt8} (h : marksL.contains d = false) : NoAtom (92 :: d :: t) := by
  intro n
  cases n with
  | zero => rfl
  | succ n =>
    simp only [atomM]
    rw [if_neg (by simp [aheadM]), if_neg (by simp [aheadM]), if_neg (by simp [aheadM]), if_pos (by simp [aheadM])]
    simp only [List.tail_cons]
    rw [if_neg (by rw [h]; simp)]
theorem at_cls {t y : List UInt8} {ss : List (UInt8 × UInt8)} (h : clsV t = some (ss, y)) : AtomP (91 :: t) y := by
  refine ⟨t.length + 1 + 1, .atom ss (aheadM [94] t) false, 0, ?_⟩
  rw [atom_class, class_is h]
theorem no_cls {t : List UInt8} (h : clsV t = none) : NoAtom (91 :: t) := by
  intro n
  cases n with
  | zero => rfl
  | succ n => rw [atom_class, class_no h]
theorem no_other {c : UInt8} {t : List UInt8} (h : marksL.contains c = true) (h1 : c ≠ 40) (h2 : c ≠ 91) (h3 : c ≠ 46) (h4 : c ≠ 92) : NoAtom (c :: t) := by
  intro n
  cases n with
  | zero => rfl
  | succ n =>
    simp only [atomM]
    rw [if_neg (by simp [aheadM, h1]), if_neg (by simp [aheadM, h2]), if_neg (by simp [aheadM, h3]), if_neg (by simp [aheadM, h4])]
    rw [show takeButM marksL (c :: t) = none by simp only [takeButM]; rw [if_pos h]]
/-- Where the atom ends, in a text of N bytes (0: there is none). -/
def AtIs (N : Nat) (x : List UInt8) (v : Int) : Prop := (∃ z, AtomP x z ∧ v = (N : Int) - (z.length : Int)) ∨ (NoAtom x ∧ v = 0)
theorem at_all (N : Nat) (x : List UInt8) : ∃ v, AtIs N x v := by
  rcases atom_or x with h | ⟨z, h⟩
  · exact ⟨0, .inr ⟨h, rfl⟩⟩
  · exact ⟨_, .inl ⟨z, h, rfl⟩⟩
theorem at_yes {N : Nat} {x z : List UInt8} {v : Int} (h : AtIs N x v) (hz : AtomP x z) : v = (N : Int) - (z.length : Int) := by
  rcases h with ⟨z', h1, h2⟩ | ⟨h1, h2⟩
  · rw [atomP_one hz h1]; exact h2
  · exact (hz.not h1).elim
theorem at_not {N : Nat} {x : List UInt8} {v : Int} (h : AtIs N x v) (hz : NoAtom x) : v = 0 := by
  rcases h with ⟨z', h1, h2⟩ | ⟨h1, h2⟩
  · exact (h1.not hz).elim
  · exact h2

theorem res_nil {u : List UInt8} {r : Option (List (List UInt8))} (h : Res u [] r) : r = some [u] :=
  match h with
  | .nil _ => rfl
  | .one _ v _ z _ ha hx _ => (ha.not no_nil).elim
  | .bad _ _ hn hne hb => absurd rfl hne
theorem res_bar {u t : List UInt8} {r : Option (List (List UInt8))} (h : Res u (124 :: t) r) : ∃ r', r = r'.map (u :: ·) ∧ Res [] t r' :=
  match h with
  | .bar _ _ r' h => ⟨r', rfl, h⟩
  | .one _ v _ z _ ha hx _ => absurd (atom_head ha).2 (by simp [aheadM])
  | .bad _ _ hn hne hb => absurd hb (by simp [aheadM])
theorem res_one {u x z : List UInt8} {r : Option (List (List UInt8))} (ha : AtomP x z) (h : Res u x r) : ∃ v, x = v ++ behindP z ∧ Res (u ++ v) (behindP z) r :=
  match x, r, h, ha with
  | _, _, .nil _, ha => (ha.not no_nil).elim
  | _, _, .bar _ t r' h, ha => absurd (atom_head ha).2 (by simp [aheadM])
  | _, _, .one _ v _ z' _ ha' hx h, ha => by
    have e := atomP_one ha ha'
    rw [e]
    exact ⟨v, hx, h⟩
  | _, _, .bad _ _ hn hne hb, ha => (ha.not hn).elim
theorem res_bad {u x : List UInt8} {r : Option (List (List UInt8))} (hn : NoAtom x) (hne : x ≠ []) (hb : aheadM [124] x = false) (h : Res u x r) : r = none :=
  match x, r, h, hn, hne, hb with
  | _, _, .nil _, _, hne, _ => absurd rfl hne
  | _, _, .bar _ t r' h, _, _, hb => absurd hb (by simp [aheadM])
  | _, _, .one _ v _ z' _ ha' hx h, hn, _, _ => (ha'.not hn).elim
  | _, _, .bad _ _ _ _ _, _, _, _ => rfl
end Go.Proofs.Ytjljfilflajogaa
