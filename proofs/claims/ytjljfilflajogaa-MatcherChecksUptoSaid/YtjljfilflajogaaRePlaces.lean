/- Where a part of a pattern may end, of a text, that begins at one of some places: lists of places that rise. Of no program. -/
import Derived.Test.YtjljfilflajogaaReParse3
namespace Go.Proofs.Ytjljfilflajogaa
set_option linter.unusedVariables false

def Rise (l : List Nat) : Prop := l.Pairwise (· < ·)
/-- The part of a text from place i up to place j. -/
def seg (s : List UInt8) (i j : Nat) : List UInt8 := (s.take j).drop i
theorem seg_len (s : List UInt8) {i j : Nat} (hj : j ≤ s.length) : (seg s i j).length = j - i := by
  unfold seg
  rw [List.length_drop, List.length_take, Nat.min_eq_left hj]
theorem seg_app (s : List UInt8) {i k j : Nat} (h1 : i ≤ k) (h2 : k ≤ j) : seg s i j = seg s i k ++ seg s k j := by
  unfold seg
  have e : s.take k = (s.take j).take k := by rw [List.take_take, Nat.min_eq_left h2]
  rw [e]
  generalize s.take j = x
  obtain ⟨m, rfl⟩ : ∃ m, k = i + m := ⟨k - i, by omega⟩
  rw [← List.drop_drop]
  conv => lhs; rw [← List.take_append_drop m (x.drop i)]
  congr 1
  rw [List.drop_take]
  congr 1
  omega
theorem seg_front (s : List UInt8) {i j : Nat} {u v : List UInt8} (hi : i ≤ j) (hj : j ≤ s.length) (h : seg s i j = u ++ v) : i + u.length ≤ j ∧ seg s i (i + u.length) = u ∧ seg s (i + u.length) j = v := by
  have hl := seg_len s (i := i) hj
  rw [h, List.length_append] at hl
  have h1 : i + u.length ≤ j := by omega
  have ha := seg_app s (i := i) (k := i + u.length) (j := j) (by omega) h1
  rw [h] at ha
  have hl2 := seg_len s (i := i) (j := i + u.length) (by omega)
  have := List.append_inj ha (by omega)
  exact ⟨h1, this.1.symm, this.2.symm⟩
theorem seg_nil (s : List UInt8) (i : Nat) : seg s i i = [] := by
  unfold seg
  apply List.drop_eq_nil_of_le
  rw [List.length_take]
  omega
theorem seg_one (s : List UInt8) {i : Nat} (h : i < s.length) : seg s i (i + 1) = [s[i]] := by
  unfold seg
  rw [List.take_succ_eq_append_getElem h, List.drop_append_of_le_length (by rw [List.length_take]; omega)]
  rw [List.drop_eq_nil_of_le (by rw [List.length_take]; omega)]
  rfl
def Step (P : List UInt8 → Prop) (s : List UInt8) (i j : Nat) : Prop := i ≤ j ∧ j ≤ s.length ∧ P (seg s i j)
/-- The list out has just the places at which what begins at one of l may end. -/
def IsEnds (P : List UInt8 → Prop) (s : List UInt8) (l out : List Nat) : Prop := Rise out ∧ ∀ j, j ∈ out ↔ ∃ i, i ∈ l ∧ Step P s i j
theorem IsEnds.le {P : List UInt8 → Prop} {s : List UInt8} {l out : List Nat} (h : IsEnds P s l out) : ∀ j ∈ out, j ≤ s.length := fun j hj => by
  obtain ⟨i, _, h⟩ := (h.2 j).1 hj
  exact h.2.1
theorem IsEnds.congr {P Q : List UInt8 → Prop} {s : List UInt8} {l out : List Nat} (h : IsEnds P s l out) (e : ∀ w, P w ↔ Q w) : IsEnds Q s l out :=
  ⟨h.1, fun j => (h.2 j).trans ⟨fun ⟨i, a, b, c, d⟩ => ⟨i, a, b, c, (e _).1 d⟩, fun ⟨i, a, b, c, d⟩ => ⟨i, a, b, c, (e _).2 d⟩⟩⟩
theorem ends_nil {s : List UInt8} {l : List Nat} (hr : Rise l) (hl : ∀ j ∈ l, j ≤ s.length) : IsEnds (fun w => w = []) s l l := by
  refine ⟨hr, fun j => ⟨fun h => ⟨j, h, Nat.le_refl _, hl j h, seg_nil s j⟩, ?_⟩⟩
  rintro ⟨i, hi, h1, h2, h3⟩
  have := seg_len s (i := i) h2
  rw [h3] at this
  simp at this
  obtain rfl : i = j := by omega
  exact hi
theorem ends_then {P Q : List UInt8 → Prop} {s : List UInt8} {l m out : List Nat} (h : IsEnds P s l m) (k : IsEnds Q s m out) : IsEnds (fun w => ∃ u v, w = u ++ v ∧ P u ∧ Q v) s l out := by
  refine ⟨k.1, fun j => (k.2 j).trans ⟨?_, ?_⟩⟩
  · rintro ⟨i, hi, h1, h2, h3⟩
    obtain ⟨i0, hi0, g1, g2, g3⟩ := (h.2 i).1 hi
    exact ⟨i0, hi0, by omega, h2, _, _, seg_app s g1 h1, g3, h3⟩
  · rintro ⟨i, hi, h1, h2, u, v, e, hu, hv⟩
    obtain ⟨g1, g2, g3⟩ := seg_front s h1 h2 e
    exact ⟨i + u.length, (h.2 _).2 ⟨i, hi, by omega, by omega, by rw [g2]; exact hu⟩, g1, h2, by rw [g3]; exact hv⟩
/-- The list c has the places of a and of b, each once, rising. -/
def Joins (a b c : List Nat) : Prop := Rise c ∧ ∀ j, j ∈ c ↔ j ∈ a ∨ j ∈ b
theorem ends_or {P Q : List UInt8 → Prop} {s : List UInt8} {l a b c : List Nat} (h : IsEnds P s l a) (k : IsEnds Q s l b) (hj : Joins a b c) : IsEnds (fun w => P w ∨ Q w) s l c := by
  refine ⟨hj.1, fun j => ?_⟩
  rw [hj.2, h.2, k.2]
  constructor
  · rintro (⟨i, hi, h1, h2, h3⟩ | ⟨i, hi, h1, h2, h3⟩)
    · exact ⟨i, hi, h1, h2, .inl h3⟩
    · exact ⟨i, hi, h1, h2, .inr h3⟩
  · rintro ⟨i, hi, h1, h2, h3 | h3⟩
    · exact .inl ⟨i, hi, h1, h2, h3⟩
    · exact .inr ⟨i, hi, h1, h2, h3⟩
theorem ends_none (s : List UInt8) (l : List Nat) : IsEnds (fun _ => False) s l [] := ⟨List.Pairwise.nil, fun j => by simp [Step]⟩
theorem ends_byte {s : List UInt8} {l out : List Nat} {f : UInt8 → Bool} (hr : Rise out) (h : ∀ j, j ∈ out ↔ ∃ i, i ∈ l ∧ ∃ hi : i < s.length, f s[i] = true ∧ j = i + 1) : IsEnds (fun w => ∃ c, w = [c] ∧ f c = true) s l out := by
  refine ⟨hr, fun j => (h j).trans ⟨?_, ?_⟩⟩
  · rintro ⟨i, hi, hlt, hf, rfl⟩
    exact ⟨i, hi, by omega, by omega, _, seg_one s hlt, hf⟩
  · rintro ⟨i, hi, h1, h2, c, e, hf⟩
    have hl := seg_len s (i := i) h2
    rw [e] at hl
    simp at hl
    obtain rfl : j = i + 1 := by omega
    rw [seg_one s (by omega)] at e
    simp at e
    exact ⟨i, hi, by omega, by rw [e]; exact hf, rfl⟩

/-- So many steps. -/
inductive Path (P : List UInt8 → Prop) (s : List UInt8) : Nat → Nat → Nat → Prop
  | one (i j : Nat) : Step P s i j → Path P s 1 i j
  | more (t i m j : Nat) : Path P s t i m → Step P s m j → Path P s (t + 1) i j
theorem path_cons {P : List UInt8 → Prop} {s : List UInt8} {t i m j : Nat} (h : Step P s i m) (k : Path P s t m j) : Path P s (t + 1) i j := by
  induction k with
  | one i' j hs => exact .more 1 _ _ _ (.one _ _ h) hs
  | more t i' m' j hp hs ih => exact .more _ _ _ _ (ih h) hs
theorem Path.le {P : List UInt8 → Prop} {s : List UInt8} {t i j : Nat} (h : Path P s t i j) : i ≤ j ∧ j ≤ s.length := by
  induction h with
  | one i j h => exact ⟨h.1, h.2.1⟩
  | more t i m j hp hs ih => exact ⟨Nat.le_trans ih.1 hs.1, hs.2.1⟩
theorem star_snoc {P : List UInt8 → Prop} {w : List UInt8} (hw : P w) : ∀ {v : List UInt8}, Star P v → Star P (v ++ w) := by
  intro v h
  induction h with
  | nil =>
    cases w with
    | nil => exact .nil
    | cons c u => simpa using Star.more c u [] hw .nil
  | more c u v hp hs ih =>
    rw [List.append_assoc]
    exact .more c u _ hp ih
theorem path_sound {P : List UInt8 → Prop} {s : List UInt8} {t i j : Nat} (h : Path P s t i j) : ∃ u v, seg s i j = u ++ v ∧ P u ∧ Star P v := by
  induction h with
  | one i j h => exact ⟨_, [], (List.append_nil _).symm, h.2.2, .nil⟩
  | more t i m j hp hs ih =>
    obtain ⟨u, v, e, hu, hv⟩ := ih
    exact ⟨u, v ++ seg s m j, by rw [seg_app s hp.le.1 hs.1, e, List.append_assoc], hu, star_snoc hs.2.2 hv⟩
theorem star_path {P : List UInt8 → Prop} {s : List UInt8} : ∀ {v : List UInt8}, Star P v → ∀ {i j : Nat}, i ≤ j → j ≤ s.length → seg s i j = v → v = [] ∨ ∃ t, 1 ≤ t ∧ t ≤ v.length ∧ Path P s t i j := by
  intro v h
  induction h with
  | nil => intro i j _ _ _; exact .inl rfl
  | more c u v hp hs ih =>
    intro i j h1 h2 e
    right
    obtain ⟨g1, g2, g3⟩ := seg_front s h1 h2 e
    have st : Step P s i (i + (c :: u).length) := ⟨by omega, by omega, by rw [g2]; exact hp⟩
    rcases ih g1 h2 g3 with rfl | ⟨t, ht, htl, hpath⟩
    · have hl := seg_len s (i := i + (c :: u).length) h2
      rw [g3] at hl
      simp only [List.length_nil] at hl
      obtain hj : j = i + (c :: u).length := by omega
      refine ⟨1, Nat.le_refl _, by simp, ?_⟩
      rw [hj]
      exact .one _ _ st
    · exact ⟨t + 1, by omega, by simp; omega, path_cons st hpath⟩
theorem path_full {P : List UInt8 → Prop} {s : List UInt8} {i j : Nat} {u v : List UInt8} (h1 : i ≤ j) (h2 : j ≤ s.length) (e : seg s i j = u ++ v) (hu : P u) (hv : Star P v) : ∃ t, t ≤ s.length ∧ Path P s (t + 1) i j := by
  obtain ⟨g1, g2, g3⟩ := seg_front s h1 h2 e
  have st : Step P s i (i + u.length) := ⟨by omega, by omega, by rw [g2]; exact hu⟩
  rcases star_path hv g1 h2 g3 with rfl | ⟨t, ht, htl, hpath⟩
  · have hl := seg_len s (i := i + u.length) h2
    rw [g3] at hl
    simp only [List.length_nil] at hl
    obtain hj : j = i + u.length := by omega
    exact ⟨0, by omega, by rw [hj]; exact .one _ _ st⟩
  · have hl := seg_len s (i := i + u.length) h2
    rw [g3] at hl
    exact ⟨t, by omega, path_cons st hpath⟩
/-- What k rounds of one more step have found: nothing but what so begins, and all that k + 1 steps reach. -/
def Found (P : List UInt8 → Prop) (s : List UInt8) (l : List Nat) (k : Nat) (next : List Nat) : Prop :=
  Rise next ∧ (∀ j ∈ next, ∃ i t, i ∈ l ∧ Path P s (t + 1) i j) ∧ ∀ i j t, i ∈ l → t ≤ k → Path P s (t + 1) i j → j ∈ next
theorem found_zero {P : List UInt8 → Prop} {s : List UInt8} {l next : List Nat} (h : IsEnds P s l next) : Found P s l 0 next := by
  refine ⟨h.1, fun j hj => ?_, fun i j t hi ht hp => ?_⟩
  · obtain ⟨i, hi, hs⟩ := (h.2 j).1 hj
    exact ⟨i, 0, hi, .one _ _ hs⟩
  · obtain rfl : t = 0 := by omega
    cases hp with
    | one _ _ hs => exact (h.2 j).2 ⟨i, hi, hs⟩
    | more t i m j hp hs => exact absurd hp (fun hp => by cases hp)
theorem found_step {P : List UInt8 → Prop} {s : List UInt8} {l next ends more : List Nat} {k : Nat} (h : Found P s l k next) (he : IsEnds P s next ends) (hj : Joins next ends more) : Found P s l (k + 1) more := by
  refine ⟨hj.1, fun j hm => ?_, fun i j t hi ht hp => ?_⟩
  · rcases (hj.2 j).1 hm with hm | hm
    · exact h.2.1 j hm
    · obtain ⟨m, hn, hs⟩ := (he.2 j).1 hm
      obtain ⟨i, t, hi, hp⟩ := h.2.1 m hn
      exact ⟨i, t + 1, hi, .more _ _ _ _ hp hs⟩
  · rw [hj.2]
    by_cases hk : t ≤ k
    · exact .inl (h.2.2 i j t hi hk hp)
    · obtain rfl : t = k + 1 := by omega
      cases hp with
      | more _ _ m _ hp hs => exact .inr ((he.2 j).2 ⟨m, h.2.2 i m k hi (Nat.le_refl _) hp, hs⟩)
theorem found_ends {P : List UInt8 → Prop} {s : List UInt8} {l next : List Nat} {k : Nat} (h : Found P s l k next) (hc : ∀ i j t, i ∈ l → t ≤ s.length → Path P s (t + 1) i j → j ∈ next) : IsEnds (fun w => ∃ u v, w = u ++ v ∧ P u ∧ Star P v) s l next := by
  refine ⟨h.1, fun j => ⟨fun hj => ?_, ?_⟩⟩
  · obtain ⟨i, t, hi, hp⟩ := h.2.1 j hj
    exact ⟨i, hi, hp.le.1, hp.le.2, path_sound hp⟩
  · rintro ⟨i, hi, h1, h2, u, v, e, hu, hv⟩
    obtain ⟨t, ht, hp⟩ := path_full h1 h2 e hu hv
    exact hc i j t hi ht hp
theorem found_full {P : List UInt8 → Prop} {s : List UInt8} {l next : List Nat} (h : Found P s l s.length next) : IsEnds (fun w => ∃ u v, w = u ++ v ∧ P u ∧ Star P v) s l next :=
  found_ends h fun i j t hi ht hp => h.2.2 i j t hi ht hp
theorem rise_sub : ∀ {b a : List Nat}, Rise a → Rise b → (∀ j ∈ a, j ∈ b) → a.Sublist b
  | [], a, ha, hb, hs => by
    cases a with
    | nil => exact .slnil
    | cons x a => exact absurd (hs x (by simp)) (by simp)
  | y :: b, [], ha, hb, hs => List.nil_sublist _
  | y :: b, x :: a, ha, hb, hs => by
    have ha2 := List.pairwise_cons.1 ha
    have hb2 := List.pairwise_cons.1 hb
    by_cases e : x = y
    · subst e
      refine (rise_sub ha2.2 hb2.2 fun j hj => ?_).cons_cons x
      have h1 := ha2.1 j hj
      rcases List.mem_cons.1 (hs j (List.mem_cons_of_mem _ hj)) with h | h
      · omega
      · exact h
    · refine (rise_sub ha hb2.2 fun j hj => ?_).cons y
      have hx : x ∈ b := by
        rcases List.mem_cons.1 (hs x (by simp)) with h | h
        · exact absurd h e
        · exact h
      have hy := hb2.1 x hx
      rcases List.mem_cons.1 (hs j hj) with h | h
      · subst h
        rcases List.mem_cons.1 hj with h | h
        · omega
        · have := ha2.1 j h; omega
      · exact h
theorem same_of_len {a b : List Nat} (ha : Rise a) (hb : Rise b) (hs : ∀ j ∈ a, j ∈ b) (hl : b.length = a.length) : ∀ j ∈ b, j ∈ a := by
  have e := (rise_sub ha hb hs).eq_of_length hl.symm
  rw [e]
  exact fun _ h => h
theorem found_stop {P : List UInt8 → Prop} {s : List UInt8} {l next ends more : List Nat} {k : Nat} (h : Found P s l k next) (he : IsEnds P s next ends) (hj : Joins next ends more) (hl : more.length = next.length) : IsEnds (fun w => ∃ u v, w = u ++ v ∧ P u ∧ Star P v) s l next := by
  have hcl := same_of_len h.1 hj.1 (fun j hm => (hj.2 j).2 (.inl hm)) hl
  have all : ∀ t i j, i ∈ l → Path P s t i j → j ∈ next := by
    intro t i j hi hp
    induction hp with
    | one i j hs => exact h.2.2 i j 0 hi (Nat.zero_le _) (.one _ _ hs)
    | more t i m j hp hs ih => exact hcl j ((hj.2 j).2 (.inr ((he.2 j).2 ⟨m, ih hi, hs⟩)))
  exact found_ends h fun i j t hi _ hp => all _ i j hi hp
/-- The last one of places that rise is the text's end just where the end is one of them. -/
theorem last_end {l : List Nat} {n : Nat} (hr : Rise l) (hl : ∀ j ∈ l, j ≤ n) (h0 : 0 < l.length) : l[l.length - 1] = n ↔ n ∈ l := by
  constructor
  · intro h; rw [← h]; exact List.getElem_mem _
  · intro h
    obtain ⟨i, hi, e⟩ := List.getElem_of_mem h
    have hle := hl _ (List.getElem_mem (show l.length - 1 < l.length by omega))
    rcases Nat.lt_or_ge i (l.length - 1) with hlt | hge
    · have := List.pairwise_iff_getElem.1 hr i (l.length - 1) hi (by omega) hlt
      omega
    · obtain rfl : i = l.length - 1 := by omega
      exact e
end Go.Proofs.Ytjljfilflajogaa
