/- In one text, written by lotify.py: DiskModel, DiskOps, DiskFine, DiskMore, WaDisk. -/
import Derived.Laws.Strings
namespace Go.Proofs.YtmgolnlkepiocaaGreat.Dk
set_option linter.unusedVariables false

/-! ### The order of names -/
theorem less_irr (a : List UInt8) : Op.bytesLess a a = false := by
  induction a with
  | nil => rfl
  | cons c r ih => simp [Op.bytesLess, ih]
theorem less_trans : ∀ (a b c : List UInt8), Op.bytesLess a b = true → Op.bytesLess b c = true → Op.bytesLess a c = true := by
  intro a
  induction a with
  | nil =>
    intro b c h1 h2
    cases b with
    | nil => simp [Op.bytesLess] at h1
    | cons y b =>
      cases c with
      | nil => simp [Op.bytesLess] at h2
      | cons z c => simp [Op.bytesLess]
  | cons x a ih =>
    intro b c h1 h2
    cases b with
    | nil => simp [Op.bytesLess] at h1
    | cons y b =>
      cases c with
      | nil => simp [Op.bytesLess] at h2
      | cons z c =>
        simp only [Op.bytesLess, Bool.or_eq_true, Bool.and_eq_true, decide_eq_true_eq, beq_iff_eq] at h1 h2 ⊢
        rcases h1 with h1 | ⟨rfl, h1⟩
        · rcases h2 with h2 | ⟨rfl, h2⟩
          · exact .inl (UInt8.lt_trans h1 h2)
          · exact .inl h1
        · rcases h2 with h2 | ⟨rfl, h2⟩
          · exact .inl h2
          · exact .inr ⟨rfl, ih b c h1 h2⟩
theorem less_total : ∀ (a b : List UInt8), Op.bytesLess a b = false → Op.bytesLess b a = false → a = b := by
  intro a
  induction a with
  | nil =>
    intro b h1 h2
    cases b with
    | nil => rfl
    | cons y b => simp [Op.bytesLess] at h1
  | cons x a ih =>
    intro b h1 h2
    cases b with
    | nil => simp [Op.bytesLess] at h2
    | cons y b =>
      simp only [Op.bytesLess, Bool.or_eq_false_iff, Bool.and_eq_false_iff, decide_eq_false_iff_not, beq_eq_false_iff_ne] at h1 h2
      have hxy : x = y := by
        rcases UInt8.lt_or_le x y with h | h
        · exact absurd h h1.1
        · rcases UInt8.lt_or_le y x with h' | h'
          · exact absurd h' h2.1
          · exact UInt8.le_antisymm h' h
      subst hxy
      rcases h1.2 with h | h
      · exact absurd rfl h
      · rcases h2.2 with h' | h'
        · exact absurd rfl h'
        · rw [ih b h h']
theorem less_asym {a b : List UInt8} (h : Op.bytesLess a b = true) : Op.bytesLess b a = false := by
  cases hb : Op.bytesLess b a
  · rfl
  · have := less_trans _ _ _ h hb
    rw [less_irr] at this
    cases this
theorem less_ne {a b : List UInt8} (h : Op.bytesLess a b = true) : a ≠ b := by
  intro e
  subst e
  rw [less_irr] at h
  cases h

/-! ### Directories -/
structure Ent where
  name : List UInt8
  file : Nat
deriving DecidableEq
def Rises (l : List Ent) : Prop := l.Pairwise fun a b => Op.bytesLess a.name b.name = true
def lacking (l : List Ent) (n : List UInt8) : List Ent := l.filter fun x => decide (x.name ≠ n)
def putGo (e : Ent) : Bool → List Ent → List Ent
  | done, [] => if done then [] else [e]
  | done, x :: r => (if !done && Op.bytesLess e.name x.name then [e] else []) ++ (if x.name ≠ e.name then [x] else []) ++ putGo e (done || Op.bytesLess e.name x.name) r
/-- A directory in which a file stands under a name. -/
def put (l : List Ent) (e : Ent) : List Ent := putGo e false l
/-- The file that stands under a name. -/
def whose (l : List Ent) (n : List UInt8) : Option Nat := (l.find? fun x => decide (x.name = n)).map Ent.file

theorem rises_cons {x : Ent} {r : List Ent} (h : Rises (x :: r)) : (∀ y ∈ r, Op.bytesLess x.name y.name = true) ∧ Rises r := List.pairwise_cons.1 h
theorem lacking_rises {l : List Ent} (h : Rises l) (n : List UInt8) : Rises (lacking l n) := List.Pairwise.filter _ h
theorem putGo_done : ∀ (l : List Ent) (e : Ent), (∀ y ∈ l, Op.bytesLess e.name y.name = true) → putGo e true l = l := by
  intro l
  induction l with
  | nil => intro e _; rfl
  | cons x r ih =>
    intro e h
    have hx := h x (by simp)
    unfold putGo
    rw [Bool.true_or, ih e fun y hy => h y (by simp [hy])]
    simp [Ne.symm (less_ne hx)]
theorem put_eq : ∀ (l : List Ent) (e : Ent), Rises l → put l e = (l.filter fun x => Op.bytesLess x.name e.name) ++ e :: l.filter fun x => Op.bytesLess e.name x.name := by
  intro l
  induction l with
  | nil => intro e _; rfl
  | cons x r ih =>
    intro e h
    obtain ⟨h1, h2⟩ := rises_cons h
    have hi := ih e h2
    unfold put at hi ⊢
    unfold putGo
    cases hex : Op.bytesLess e.name x.name
    · rw [Bool.false_or]
      by_cases hn : x.name = e.name
      · rw [hi]
        simp [hn, less_irr]
      · have hxe : Op.bytesLess x.name e.name = true := by
          cases hxe : Op.bytesLess x.name e.name
          · exact absurd (less_total _ _ hxe hex) hn
          · rfl
        rw [hi]
        simp [hn, hxe, hex]
    · have hall : ∀ y ∈ r, Op.bytesLess e.name y.name = true := fun y hy => less_trans _ _ _ hex (h1 y hy)
      have hn : ¬ x.name = e.name := fun e' => less_ne hex e'.symm
      have hno : r.filter (fun y => Op.bytesLess y.name e.name) = [] := by
        rw [List.filter_eq_nil_iff]
        intro y hy
        rw [less_asym (hall y hy)]
        simp
      have hyes : r.filter (fun y => Op.bytesLess e.name y.name) = r := by
        rw [List.filter_eq_self]
        exact hall
      rw [Bool.false_or, putGo_done r e hall, List.filter_cons, List.filter_cons, less_asym hex, hex, hno, hyes]
      simp [hn]
theorem put_rises {l : List Ent} (e : Ent) (h : Rises l) : Rises (put l e) := by
  rw [put_eq l e h]
  unfold Rises
  rw [List.pairwise_append]
  refine ⟨List.Pairwise.filter _ h, ?_, ?_⟩
  · rw [List.pairwise_cons]
    refine ⟨fun y hy => ?_, List.Pairwise.filter _ h⟩
    exact (List.mem_filter.1 hy).2
  · intro x hx y hy
    have h1 := (List.mem_filter.1 hx).2
    rcases List.mem_cons.1 hy with rfl | hy
    · exact h1
    · exact less_trans _ _ _ h1 (List.mem_filter.1 hy).2
theorem mem_put {l : List Ent} (e x : Ent) (h : Rises l) : x ∈ put l e ↔ x = e ∨ x ∈ l ∧ x.name ≠ e.name := by
  rw [put_eq l e h, List.mem_append, List.mem_cons, List.mem_filter, List.mem_filter]
  constructor
  · rintro (⟨h1, h2⟩ | rfl | ⟨h1, h2⟩)
    · exact .inr ⟨h1, less_ne h2⟩
    · exact .inl rfl
    · exact .inr ⟨h1, Ne.symm (less_ne h2)⟩
  · rintro (rfl | ⟨h1, h2⟩)
    · exact .inr (.inl rfl)
    · cases hl : Op.bytesLess x.name e.name
      · cases hr : Op.bytesLess e.name x.name
        · exact absurd (less_total _ _ hl hr) h2
        · exact .inr (.inr ⟨h1, rfl⟩)
      · exact .inl ⟨h1, rfl⟩
theorem mem_lacking {l : List Ent} (n : List UInt8) (x : Ent) : x ∈ lacking l n ↔ x ∈ l ∧ x.name ≠ n := by
  simp [lacking]
theorem whose_some {l : List Ent} {n : List UInt8} {f : Nat} (h : Rises l) : whose l n = some f ↔ (⟨n, f⟩ : Ent) ∈ l := by
  induction l with
  | nil => simp [whose]
  | cons x r ih =>
    obtain ⟨h1, h2⟩ := rises_cons h
    have hi := ih h2
    unfold whose at hi ⊢
    by_cases hx : x.name = n
    · rw [List.find?_cons_of_pos (by simpa using hx)]
      constructor
      · intro e
        simp only [Option.map_some, Option.some.injEq] at e
        subst hx
        subst e
        simp
      · intro hm
        rcases List.mem_cons.1 hm with rfl | hm
        · rfl
        · have := less_ne (h1 _ hm)
          exact absurd hx this
    · rw [List.find?_cons_of_neg (by simpa using hx), hi]
      constructor
      · intro hm
        exact List.mem_cons_of_mem _ hm
      · intro hm
        rcases List.mem_cons.1 hm with rfl | hm
        · exact absurd rfl hx
        · exact hm
theorem whose_none {l : List Ent} {n : List UInt8} (h : Rises l) : whose l n = none ↔ ∀ x ∈ l, x.name ≠ n := by
  constructor
  · intro hn x hx e
    have : whose l n = some x.file := (whose_some h).2 (by rw [← e]; exact hx)
    rw [hn] at this
    cases this
  · intro hall
    cases hw : whose l n with
    | none => rfl
    | some f => exact absurd rfl (hall _ ((whose_some h).1 hw))
theorem whose_put {l : List Ent} (e : Ent) (n : List UInt8) (h : Rises l) : whose (put l e) n = if n = e.name then some e.file else whose l n := by
  by_cases hn : n = e.name
  · rw [if_pos hn, whose_some (put_rises e h), mem_put _ _ h]
    subst hn
    exact .inl rfl
  · rw [if_neg hn]
    cases hw : whose l n with
    | none =>
      rw [whose_none (put_rises e h)]
      intro x hx
      rw [mem_put _ _ h] at hx
      rcases hx with rfl | ⟨hx, _⟩
      · exact Ne.symm hn
      · exact (whose_none h).1 hw x hx
    | some f =>
      rw [whose_some (put_rises e h), mem_put _ _ h]
      exact .inr ⟨(whose_some h).1 hw, hn⟩
theorem whose_lacking {l : List Ent} (m n : List UInt8) (h : Rises l) : whose (lacking l m) n = if n = m then none else whose l n := by
  by_cases hn : n = m
  · rw [if_pos hn, whose_none (lacking_rises h m)]
    intro x hx
    rw [mem_lacking] at hx
    rw [hn]
    exact hx.2
  · rw [if_neg hn]
    cases hw : whose l n with
    | none =>
      rw [whose_none (lacking_rises h m)]
      intro x hx
      rw [mem_lacking] at hx
      exact (whose_none h).1 hw x hx.1
    | some f =>
      rw [whose_some (lacking_rises h m), mem_lacking]
      exact ⟨(whose_some h).1 hw, hn⟩
/-- What stands under each name says the whole directory. -/
theorem rises_ext : ∀ (a b : List Ent), Rises a → Rises b → (∀ n, whose a n = whose b n) → a = b := by
  intro a
  induction a with
  | nil =>
    intro b _ hb h
    cases b with
    | nil => rfl
    | cons y r =>
      have h1 : whose (y :: r) y.name = some y.file := (whose_some hb).2 (by simp)
      rw [← h y.name] at h1
      simp [whose] at h1
  | cons x r ih =>
    intro b ha hb h
    cases b with
    | nil =>
      have h1 : whose (x :: r) x.name = some x.file := (whose_some ha).2 (by simp)
      rw [h x.name] at h1
      simp [whose] at h1
    | cons y t =>
      obtain ⟨a1, a2⟩ := rises_cons ha
      obtain ⟨b1, b2⟩ := rises_cons hb
      have hxy : x = y := by
        have h1 : (⟨x.name, x.file⟩ : Ent) ∈ y :: t := (whose_some hb).1 (by rw [← h]; exact (whose_some ha).2 (by simp))
        have h2 : (⟨y.name, y.file⟩ : Ent) ∈ x :: r := (whose_some ha).1 (by rw [h]; exact (whose_some hb).2 (by simp))
        rcases List.mem_cons.1 h1 with h1 | h1
        · exact h1
        · rcases List.mem_cons.1 h2 with h2 | h2
          · exact h2.symm
          · have l1 := b1 _ h1
            have l2 := a1 _ h2
            rw [less_asym l1] at l2
            cases l2
      subst hxy
      congr 1
      refine ih t a2 b2 fun n => ?_
      by_cases hn : n = x.name
      · have e1 : whose r n = none := (whose_none a2).2 fun z hz => by rw [hn]; exact Ne.symm (less_ne (a1 z hz))
        have e2 : whose t n = none := (whose_none b2).2 fun z hz => by rw [hn]; exact Ne.symm (less_ne (b1 z hz))
        rw [e1, e2]
      · have := h n
        unfold whose at this ⊢
        rw [List.find?_cons_of_neg (by simpa using Ne.symm hn), List.find?_cons_of_neg (by simpa using Ne.symm hn)] at this
        exact this
theorem put_length {l : List Ent} (e : Ent) (h : Rises l) : (put l e).length ≤ l.length + 1 := by
  rw [put_eq l e h, List.length_append, List.length_cons]
  have : (l.filter fun x => Op.bytesLess x.name e.name).length + (l.filter fun x => Op.bytesLess e.name x.name).length ≤ l.length := by
    clear h
    induction l with
    | nil => simp
    | cons x r ih =>
      cases h1 : Op.bytesLess x.name e.name
      · cases h2 : Op.bytesLess e.name x.name
        · rw [List.filter_cons, List.filter_cons, h1, h2]
          simp
          omega
        · rw [List.filter_cons, List.filter_cons, h1, h2]
          simp
          omega
      · rw [List.filter_cons, List.filter_cons, h1, less_asym h1]
        simp
        omega
  omega
end Go.Proofs.YtmgolnlkepiocaaGreat.Dk

namespace Go.Proofs.YtmgolnlkepiocaaGreat.Dk
set_option linter.unusedVariables false

/-- An entry that waits. -/
inductive Stp where
  | lay (name : List UInt8) (file : Nat)
  | move (name : List UInt8) (to : List UInt8)
  | take (name : List UInt8)
def stepDir (l : List Ent) : Stp → List Ent
  | .lay n f => put l ⟨n, f⟩
  | .move n t => put (lacking l n) ⟨t, (whose l n).getD 0⟩
  | .take n => lacking l n
def dirOf (base : List Ent) (w : List Stp) : List Ent := w.foldl stepDir base
theorem dirOf_nil (base : List Ent) : dirOf base [] = base := rfl
theorem dirOf_snoc (base : List Ent) (w : List Stp) (s : Stp) : dirOf base (w ++ [s]) = stepDir (dirOf base w) s := by simp [dirOf]
theorem step_rises {l : List Ent} (h : Rises l) (s : Stp) : Rises (stepDir l s) := by
  cases s with
  | lay n f => exact put_rises _ h
  | move n t => exact put_rises _ (lacking_rises h n)
  | take n => exact lacking_rises h n
theorem dirOf_rises : ∀ (w : List Stp) (base : List Ent), Rises base → Rises (dirOf base w) := by
  intro w
  induction w with
  | nil => intro base h; exact h
  | cons s r ih => intro base h; exact ih _ (step_rises h s)

structure Fil where
  b : List UInt8
  sure : Nat
structure Dsk where
  room : Nat
  files : List Fil
  base : List Ent
  wait : List Stp
  left : Int
  dark : Bool
  count : Nat
def fil0 : Fil := ⟨[], 0⟩
def live (d : Dsk) : List Ent := dirOf d.base d.wait
def bytesAt (d : Dsk) (x : Ent) : Nat := (d.files.getD x.file fil0).b.length
def total (d : Dsk) : Nat := ((live d).map (bytesAt d)).sum
def nameByte (c : UInt8) : Bool := (decide (97 ≤ c.toNat) && decide (c.toNat ≤ 122)) || (decide (48 ≤ c.toNat) && decide (c.toNat ≤ 57)) || decide (c.toNat = 46) || decide (c.toNat = 45)
def namedB (s : List UInt8) : Bool := s.all nameByte && !s.isEmpty && decide (s.length ≤ 24)
def newD (room : Nat) : Dsk := ⟨room, [], [], [], -1, false, 0⟩
/-- May a change be done? It counts, if so. -/
def power (d : Dsk) : Dsk × Int :=
  if d.dark = true ∨ d.left = 0 then ({ d with dark := true }, 6)
  else ({ d with left := if 0 < d.left then d.left - 1 else d.left, count := d.count + 1 }, 0)
def applyD (d : Dsk) (kind : Int) (name to b : List UInt8) : Dsk :=
  let n := (whose (live d) name).getD 0
  let f := d.files.getD n fil0
  if kind = 1 then { d with wait := d.wait ++ [.lay name d.files.length], files := d.files ++ [fil0] }
  else if kind = 2 then { d with files := d.files.set n ⟨f.b ++ b, f.sure⟩ }
  else if kind = 3 then { d with wait := d.wait ++ [.move name to] }
  else if kind = 4 then { d with wait := d.wait ++ [.take name] }
  else if kind = 5 then { d with files := d.files.set n ⟨f.b, f.b.length⟩ }
  else { d with base := live d, wait := [] }
/-- Why a change is refused, the power aside; 0: it isn't. -/
def whyNot (d : Dsk) (kind : Int) (name to b : List UInt8) : Int :=
  if (kind ≠ 6 ∧ namedB name = false) ∨ (kind = 3 ∧ namedB to = false) then 8
  else if kind = 1 ∧ (whose (live d) name).isSome then 10
  else if kind = 1 ∧ 64 ≤ (live d).length then 7
  else if 1 < kind ∧ kind < 6 ∧ whose (live d) name = none then 9
  else if kind = 2 ∧ d.room < total d + b.length then 7
  else 0
def change (d : Dsk) (kind : Int) (name to b : List UInt8) : Dsk × Int :=
  if whyNot d kind name to b ≠ 0 then (d, whyNot d kind name to b)
  else if (power d).2 ≠ 0 then power d
  else (applyD (power d).1 kind name to b, 0)
def readD (d : Dsk) (name : List UInt8) : List UInt8 × Int :=
  if namedB name = false then ([], 8)
  else match whose (live d) name with
    | none => ([], 9)
    | some n => if d.dark then ([], 6) else ((d.files.getD n fil0).b, 0)
def listD (d : Dsk) : List (List UInt8) := if d.dark then [] else (live d).map Ent.name
def fuseD (d : Dsk) (n : Int) : Dsk := { d with left := max n (-1) }
/-- A number of 64 bits without a sign, modulo another one. -/
def modU (k : Int) (n : Nat) : Nat := (k % 18446744073709551616).toNat % n
def crashOne (f : Fil) (k : Nat) : Fil := ⟨f.b.take (f.sure + k), f.sure + k⟩
def keptOf (ks : List Int) (f : Fil) : Nat := match ks with
  | [] => 0
  | k :: _ => modU k (f.b.length - f.sure + 1)
def crashFiles : List Fil → List Ent → List Int → List Fil
  | fs, [], _ => fs
  | fs, x :: r, ks => crashFiles (fs.set x.file (crashOne (fs.getD x.file fil0) (keptOf ks (fs.getD x.file fil0)))) r (ks.drop 1)
def crashDir (d : Dsk) (dirs : Int) : List Ent := dirOf d.base (d.wait.take (modU dirs (d.wait.length + 1)))
def crashD (d : Dsk) (dirs : Int) (kept : List Int) : Dsk := ⟨d.room, crashFiles d.files (crashDir d dirs) kept, crashDir d dirs, [], -1, false, d.count⟩

/-! ### What a crash leaves of a file: a beginning, not shorter than what was sure -/
def SureOk (fs : List Fil) : Prop := ∀ n, (fs.getD n fil0).sure ≤ (fs.getD n fil0).b.length
theorem fget_set (fs : List Fil) (i n : Nat) (f : Fil) : (fs.set i f).getD n fil0 = if i = n ∧ n < fs.length then f else fs.getD n fil0 := by
  simp only [List.getD, List.getElem?_set]
  by_cases h : i = n
  · subst h
    by_cases hl : i < fs.length
    · simp [hl]
    · simp [hl]
  · simp [h]
theorem keptOf_le (ks : List Int) (f : Fil) (h : f.sure ≤ f.b.length) : f.sure + keptOf ks f ≤ f.b.length := by
  unfold keptOf
  cases ks with
  | nil => simpa using h
  | cons k r =>
    have := Nat.mod_lt (k % 18446744073709551616).toNat (show 0 < f.b.length - f.sure + 1 by omega)
    show f.sure + (k % 18446744073709551616).toNat % (f.b.length - f.sure + 1) ≤ f.b.length
    omega
theorem crashOne_ok (ks : List Int) (f : Fil) (h : f.sure ≤ f.b.length) : (crashOne f (keptOf ks f)).sure ≤ (crashOne f (keptOf ks f)).b.length ∧ (crashOne f (keptOf ks f)).b.length = f.sure + keptOf ks f := by
  have := keptOf_le ks f h
  unfold crashOne
  simp only [List.length_take]
  omega
theorem crash_file : ∀ (l : List Ent) (fs : List Fil) (ks : List Int) (n : Nat), SureOk fs →
    ∃ m, (fs.getD n fil0).sure ≤ m ∧ m ≤ (fs.getD n fil0).b.length ∧ ((crashFiles fs l ks).getD n fil0).b = (fs.getD n fil0).b.take m ∧ SureOk (crashFiles fs l ks) ∧ (crashFiles fs l ks).length = fs.length := by
  intro l
  induction l with
  | nil => intro fs ks n h; exact ⟨_, h n, Nat.le_refl _, by rw [List.take_length]; rfl, h, rfl⟩
  | cons x r ih =>
    intro fs ks n h
    obtain ⟨o1, o2⟩ := crashOne_ok ks _ (h x.file)
    have hk := keptOf_le ks _ (h x.file)
    have hok : SureOk (fs.set x.file (crashOne (fs.getD x.file fil0) (keptOf ks (fs.getD x.file fil0)))) := by
      intro j
      rw [fget_set]
      split
      · exact o1
      · exact h j
    obtain ⟨m, m1, m2, m3, m4, m5⟩ := ih _ (ks.drop 1) n hok
    rw [fget_set] at m1 m2 m3
    unfold crashFiles
    by_cases hx : x.file = n ∧ n < fs.length
    · rw [if_pos hx] at m1 m2 m3
      obtain ⟨rfl, hl⟩ := hx
      rw [o2] at m2
      have hm : m = (fs.getD x.file fil0).sure + keptOf ks (fs.getD x.file fil0) := by
        have : (crashOne (fs.getD x.file fil0) (keptOf ks (fs.getD x.file fil0))).sure = (fs.getD x.file fil0).sure + keptOf ks (fs.getD x.file fil0) := rfl
        omega
      refine ⟨m, by omega, by omega, ?_, m4, by rw [m5, List.length_set]⟩
      rw [m3]
      show ((fs.getD x.file fil0).b.take _).take m = _
      rw [← hm, List.take_take, Nat.min_self]
    · rw [if_neg hx] at m1 m2 m3
      exact ⟨m, m1, m2, m3, m4, by rw [m5, List.length_set]⟩

/-! ### Changes -/
theorem power_ok {d : Dsk} (h : (power d).2 = 0) : d.dark = false ∧ d.left ≠ 0 ∧ (power d).1.dark = false ∧ (power d).1.count = d.count + 1 ∧ (power d).1.files = d.files ∧ (power d).1.base = d.base ∧ (power d).1.wait = d.wait ∧ (power d).1.room = d.room := by
  unfold power at h ⊢
  by_cases hc : d.dark = true ∨ d.left = 0
  · rw [if_pos hc] at h
    cases h
  · rw [if_neg hc]
    have hd : d.dark = false := by
      cases hd : d.dark
      · rfl
      · exact absurd (.inl hd) hc
    exact ⟨hd, fun e => hc (.inr e), hd, rfl, rfl, rfl, rfl, rfl⟩
theorem power_no {d : Dsk} (h : (power d).2 ≠ 0) : power d = ({ d with dark := true }, 6) := by
  unfold power at h ⊢
  by_cases hc : d.dark = true ∨ d.left = 0
  · rw [if_pos hc]
  · rw [if_neg hc] at h
    exact absurd rfl h
theorem applyD_keeps (d : Dsk) (kind : Int) (name to b : List UInt8) : (applyD d kind name to b).dark = d.dark ∧ (applyD d kind name to b).count = d.count ∧ (applyD d kind name to b).left = d.left ∧ (applyD d kind name to b).room = d.room := by
  unfold applyD
  dsimp only
  split
  · exact ⟨rfl, rfl, rfl, rfl⟩
  · split
    · exact ⟨rfl, rfl, rfl, rfl⟩
    · split
      · exact ⟨rfl, rfl, rfl, rfl⟩
      · split
        · exact ⟨rfl, rfl, rfl, rfl⟩
        · split <;> exact ⟨rfl, rfl, rfl, rfl⟩
/-- A change that is refused changes nothing, but that the power may be gone. -/
theorem refused {d : Dsk} {kind : Int} {name to b : List UInt8} (h : (change d kind name to b).2 ≠ 0) :
    ((change d kind name to b).2 = 6 ∧ (change d kind name to b).1 = { d with dark := true }) ∨ ((change d kind name to b).2 ≠ 6 ∧ (change d kind name to b).1 = d) := by
  unfold change at h ⊢
  by_cases h1 : whyNot d kind name to b ≠ 0
  · rw [if_pos h1]
    refine .inr ⟨?_, rfl⟩
    show whyNot d kind name to b ≠ 6
    unfold whyNot
    repeat' split
    all_goals decide
  · rw [if_neg h1] at h ⊢
    by_cases h2 : (power d).2 ≠ 0
    · rw [if_pos h2, power_no h2]
      exact .inl ⟨rfl, rfl⟩
    · rw [if_neg h2] at h
      exact absurd rfl h
theorem done_one {d : Dsk} {kind : Int} {name to b : List UInt8} (h : (change d kind name to b).2 = 0) :
    whyNot d kind name to b = 0 ∧ (power d).2 = 0 ∧ (change d kind name to b).1 = applyD (power d).1 kind name to b ∧ (change d kind name to b).1.count = d.count + 1 ∧ (change d kind name to b).1.dark = false := by
  unfold change at h ⊢
  by_cases h1 : whyNot d kind name to b ≠ 0
  · rw [if_pos h1] at h
    exact absurd h h1
  · rw [if_neg h1] at h ⊢
    by_cases h2 : (power d).2 ≠ 0
    · rw [if_pos h2] at h
      exact absurd h h2
    · rw [if_neg h2]
      have h2' : (power d).2 = 0 := Decidable.not_not.1 h2
      obtain ⟨p1, p2, p3, p4, p5⟩ := power_ok h2'
      obtain ⟨k1, k2, k3⟩ := applyD_keeps (power d).1 kind name to b
      exact ⟨Decidable.not_not.1 h1, h2', rfl, by rw [k2, p4], by rw [k1, p3]⟩
/-- With the power gone nothing is done. -/
theorem dark_change {d : Dsk} (hd : d.dark = true) (kind : Int) (name to b : List UInt8) : (change d kind name to b).2 ≠ 0 ∧ (change d kind name to b).1 = d := by
  have hp : power d = (d, 6) := by
    unfold power
    rw [if_pos (.inl hd)]
    cases d
    simp_all
  by_cases h0 : (change d kind name to b).2 = 0
  · have := (done_one h0).2.1
    rw [hp] at this
    cases this
  · refine ⟨h0, ?_⟩
    rcases refused h0 with ⟨_, e⟩ | ⟨_, e⟩
    · rw [e]
      cases d
      simp_all
    · exact e
theorem dark_read {d : Dsk} (hd : d.dark = true) (name : List UInt8) : (readD d name).2 ≠ 0 ∧ (readD d name).1 = [] := by
  unfold readD
  split
  · exact ⟨by decide, rfl⟩
  · split
    · exact ⟨by decide, rfl⟩
    · first | exact ⟨by decide, rfl⟩ | (rw [if_pos hd]; exact ⟨by decide, rfl⟩)
theorem dark_list {d : Dsk} (hd : d.dark = true) : listD d = [] := by
  unfold listD
  rw [if_pos hd]

/-! ### Which directories may be there -/
/-- Each directory that a crash may leave is among those. -/
def Seen (d : Dsk) (were : List (List (List UInt8))) : Prop := ∀ k, k ≤ d.wait.length → (dirOf d.base (d.wait.take k)).map Ent.name ∈ were
theorem seen_start {d : Dsk} (h : d.wait = []) : Seen d [(live d).map Ent.name] := by
  intro k hk
  unfold live
  rw [h]
  simp
theorem seen_snoc {d d' : Dsk} {were : List (List (List UInt8))} {s : Stp} (h : Seen d were) (hb : d'.base = d.base) (hw : d'.wait = d.wait ++ [s]) : Seen d' (were ++ [(live d').map Ent.name]) := by
  intro k hk
  rw [hw, List.length_append, List.length_singleton] at hk
  rw [hb, hw]
  by_cases hk2 : k ≤ d.wait.length
  · rw [List.take_append_of_le_length hk2]
    exact List.mem_append_left _ (h k hk2)
  · have : k = (d.wait ++ [s]).length := by rw [List.length_append, List.length_singleton]; omega
    rw [this, List.take_length]
    refine List.mem_append_right _ ?_
    unfold live
    rw [hb, hw]
    simp
theorem seen_same {d d' : Dsk} {were : List (List (List UInt8))} (h : Seen d were) (hb : d'.base = d.base) (hw : d'.wait = d.wait) (x : List (List UInt8)) : Seen d' (were ++ [x]) := by
  intro k hk
  rw [hw] at hk
  rw [hb, hw]
  exact List.mem_append_left _ (h k hk)
theorem seen_crash {d : Dsk} {were : List (List (List UInt8))} (h : Seen d were) (dirs : Int) (kept : List Int) : listD (crashD d dirs kept) ∈ were := by
  have hm : modU dirs (d.wait.length + 1) ≤ d.wait.length := Nat.le_of_lt_succ (Nat.mod_lt _ (Nat.succ_pos _))
  exact h _ hm
/-- A change of kind 1 to 5, the power there: at most one entry more waits, and the directory of the last sync stands. -/
theorem change_seen {d : Dsk} {were : List (List (List UInt8))} {kind : Int} {name to b : List UInt8} (h : Seen d were) (hd : d.dark = false) (hl : d.left < 0) (h1 : 1 ≤ kind) (h5 : kind ≤ 5) :
    Seen (change d kind name to b).1 (were ++ [listD (change d kind name to b).1]) ∧ (change d kind name to b).1.dark = false ∧ (change d kind name to b).1.left < 0 := by
  by_cases h0 : (change d kind name to b).2 = 0
  · obtain ⟨_, hp, e, _, ed⟩ := done_one h0
    obtain ⟨_, _, _, _, p5, p6, p7, p8⟩ := power_ok hp
    have hleft : (power d).1.left < 0 := by
      unfold power
      rw [if_neg (by rw [hd]; simp; omega)]
      show (if 0 < d.left then d.left - 1 else d.left) < 0
      rw [if_neg (by omega)]
      exact hl
    have hlist : listD (change d kind name to b).1 = (live (change d kind name to b).1).map Ent.name := by
      unfold listD
      rw [ed]
      rfl
    refine ⟨?_, ed, ?_⟩
    · rw [hlist]
      rw [e]
      unfold applyD
      dsimp only
      by_cases k1 : kind = 1
      · rw [if_pos k1]
        exact seen_snoc h p6 (by show (power d).1.wait ++ _ = _; rw [p7])
      · rw [if_neg k1]
        by_cases k2 : kind = 2
        · rw [if_pos k2]
          exact seen_same h p6 p7 _
        · rw [if_neg k2]
          by_cases k3 : kind = 3
          · rw [if_pos k3]
            exact seen_snoc h p6 (by show (power d).1.wait ++ _ = _; rw [p7])
          · rw [if_neg k3]
            by_cases k4 : kind = 4
            · rw [if_pos k4]
              exact seen_snoc h p6 (by show (power d).1.wait ++ _ = _; rw [p7])
            · rw [if_neg k4, if_pos (by omega)]
              exact seen_same h p6 p7 _
    · rw [e, (applyD_keeps _ _ _ _ _).2.2.1]
      exact hleft
  · rcases refused h0 with ⟨e6, _⟩ | ⟨_, e⟩
    · exfalso
      unfold change at e6
      by_cases w1 : whyNot d kind name to b ≠ 0
      · rw [if_pos w1] at e6
        have : whyNot d kind name to b ≠ 6 := by
          unfold whyNot
          repeat' split
          all_goals decide
        exact this e6
      · rw [if_neg w1] at e6
        have hpz : (power d).2 = 0 := by
          unfold power
          rw [if_neg (by rw [hd]; simp; omega)]
        rw [if_neg (by simpa using hpz)] at e6
        cases e6
    · rw [e]
      exact ⟨seen_same h rfl rfl _, hd, hl⟩

/-! ### What lasts -/
theorem live_power (d : Dsk) : live (power d).1 = live d := by
  unfold power live
  split <;> rfl
theorem named_of {d : Dsk} {kind : Int} {name to b : List UInt8} (h : whyNot d kind name to b = 0) (h6 : kind ≠ 6) : namedB name = true := by
  cases hn : namedB name
  · exfalso
    unfold whyNot at h
    rw [if_pos (.inl ⟨h6, hn⟩)] at h
    cases h
  · rfl
theorem there_of {d : Dsk} {kind : Int} {name to b : List UInt8} (h : whyNot d kind name to b = 0) (h1 : 1 < kind) (h6 : kind < 6) : ∃ n, whose (live d) name = some n := by
  cases hw : whose (live d) name with
  | some n => exact ⟨n, rfl⟩
  | none =>
    exfalso
    unfold whyNot at h
    rw [hw] at h
    split at h
    · cases h
    · split at h
      · cases h
      · split at h
        · cases h
        · rw [if_pos ⟨h1, h6, rfl⟩] at h
          cases h
theorem read_there {d : Dsk} {name : List UInt8} {n : Nat} (hn : namedB name = true) (hw : whose (live d) name = some n) (hd : d.dark = false) : readD d name = ((d.files.getD n fil0).b, 0) := by
  unfold readD
  rw [hn, hw, hd]
  rfl
theorem set_sure (fs : List Fil) (n : Nat) : (fs.set n ⟨(fs.getD n fil0).b, (fs.getD n fil0).b.length⟩).getD n fil0 = ⟨(fs.getD n fil0).b, (fs.getD n fil0).b.length⟩ := by
  rw [fget_set]
  split
  · rfl
  · rename_i h
    have : fs.getD n fil0 = fil0 := by
      have hl : ¬ n < fs.length := fun hl => h ⟨rfl, hl⟩
      simp [List.getD, List.getElem?_eq_none (Nat.not_lt.1 hl)]
    rw [this]
    rfl
theorem set_more (fs : List Fil) (n : Nat) (b : List UInt8) : ∃ t, (fs.set n ⟨(fs.getD n fil0).b ++ b, (fs.getD n fil0).sure⟩).getD n fil0 = ⟨(fs.getD n fil0).b ++ t, (fs.getD n fil0).sure⟩ := by
  rw [fget_set]
  split
  · exact ⟨b, rfl⟩
  · exact ⟨[], by rw [List.append_nil]⟩
theorem sureOk_sync {fs : List Fil} (h : SureOk fs) (n : Nat) : SureOk (fs.set n ⟨(fs.getD n fil0).b, (fs.getD n fil0).b.length⟩) := by
  intro j
  rw [fget_set]
  split
  · exact Nat.le_refl _
  · exact h j
theorem sureOk_more {fs : List Fil} (h : SureOk fs) (n : Nat) (b : List UInt8) : SureOk (fs.set n ⟨(fs.getD n fil0).b ++ b, (fs.getD n fil0).sure⟩) := by
  intro j
  rw [fget_set]
  split
  · have := h n
    show (fs.getD n fil0).sure ≤ ((fs.getD n fil0).b ++ b).length
    rw [List.length_append]
    omega
  · exact h j
theorem sureOk_new {fs : List Fil} (h : SureOk fs) : SureOk (fs ++ [fil0]) := by
  intro j
  by_cases hj : j < fs.length
  · have e : (fs ++ [fil0]).getD j fil0 = fs.getD j fil0 := by simp [List.getD, List.getElem?_append_left hj]
    rw [e]
    exact h j
  · have e : (fs ++ [fil0]).getD j fil0 = fil0 := by
      by_cases hj2 : j = fs.length
      · subst hj2
        simp [List.getD]
      · have : (fs ++ [fil0])[j]? = none := List.getElem?_eq_none (by simp; omega)
        simp [List.getD, this]
    rw [e]
    exact Nat.le_refl _
/-- What is sure in every file is a beginning: kept by every change. -/
theorem sureOk_change {d : Dsk} (h : SureOk d.files) (kind : Int) (name to b : List UInt8) : SureOk (change d kind name to b).1.files := by
  by_cases h0 : (change d kind name to b).2 = 0
  · obtain ⟨_, hp, e, _, _⟩ := done_one h0
    obtain ⟨_, _, _, _, p5, _⟩ := power_ok hp
    rw [← p5] at h
    rw [e]
    unfold applyD
    dsimp only
    split
    · exact sureOk_new h
    · split
      · exact sureOk_more h _ _
      · split
        · exact h
        · split
          · exact h
          · split
            · exact sureOk_sync h _
            · exact h
  · rcases refused h0 with ⟨_, e⟩ | ⟨_, e⟩
    · rw [e]
      exact h
    · rw [e]
      exact h
/-- What is sure in a file whose name does not wait is there behind any crash, and what is there is a beginning of what was. -/
theorem lasts {d : Dsk} (hs : SureOk d.files) (name : List UInt8) (h5 : (change d 5 name [] []).2 = 0) (h6 : (change (change d 5 name [] []).1 6 [] [] []).2 = 0) :
    ∃ B, readD (change (change d 5 name [] []).1 6 [] [] []).1 name = (B, 0) ∧
      ∀ b, (change (change (change d 5 name [] []).1 6 [] [] []).1 2 name [] b).2 = 0 → ∃ t, readD (change (change (change d 5 name [] []).1 6 [] [] []).1 2 name [] b).1 name = (B ++ t, 0) ∧
        ∀ dirs kept, ∃ m, B.length ≤ m ∧ readD (crashD (change (change (change d 5 name [] []).1 6 [] [] []).1 2 name [] b).1 dirs kept) name = ((B ++ t).take m, 0) := by
  obtain ⟨w5, p5, e5, _, k5⟩ := done_one h5
  have hn := named_of w5 (by decide)
  obtain ⟨n, hw⟩ := there_of w5 (by decide) (by decide)
  obtain ⟨_, _, _, _, f5, b5, t5, _⟩ := power_ok p5
  have hs1 := sureOk_change hs 5 name [] []
  generalize hD1 : (change d 5 name [] []).1 = D1 at *
  have hl1 : live D1 = live d := by
    rw [e5]
    show dirOf (power d).1.base (power d).1.wait = _
    rw [b5, t5]
    rfl
  have hf1 : D1.files.getD n fil0 = ⟨(d.files.getD n fil0).b, (d.files.getD n fil0).b.length⟩ := by
    have hn0 : (whose (live (power d).1) name).getD 0 = n := by rw [live_power, hw]; rfl
    rw [e5]
    show ((power d).1.files.set ((whose (live (power d).1) name).getD 0) _).getD n fil0 = _
    rw [hn0, f5]
    exact set_sure _ _
  obtain ⟨w6, p6, e6, _, k6⟩ := done_one h6
  obtain ⟨_, _, _, _, f6, b6, t6, _⟩ := power_ok p6
  generalize hD2 : (change D1 6 [] [] []).1 = D2 at *
  have hb2 : D2.base = live d := by
    rw [e6]
    show live (power D1).1 = _
    rw [live_power, hl1]
  have ht2 : D2.wait = [] := by rw [e6]; rfl
  have hf2 : D2.files = D1.files := by rw [e6]; exact f6
  have hl2 : live D2 = live d := by unfold live; rw [hb2, ht2]; rfl
  have hs2 : SureOk D2.files := by rw [hf2]; exact hs1
  have hw2 : whose (live D2) name = some n := by rw [hl2]; exact hw
  refine ⟨(d.files.getD n fil0).b, ?_, fun b h2 => ?_⟩
  · rw [read_there hn hw2 k6, hf2, hf1]
  · obtain ⟨w3, p3, e3, _, k3⟩ := done_one h2
    obtain ⟨_, _, _, _, f3, b3, t3, _⟩ := power_ok p3
    have hs3 := sureOk_change hs2 2 name [] b
    generalize hD3 : (change D2 2 name [] b).1 = D3 at *
    have hb3 : D3.base = live d := by rw [e3]; show (power D2).1.base = _; rw [b3, hb2]
    have ht3 : D3.wait = [] := by rw [e3]; show (power D2).1.wait = _; rw [t3, ht2]
    have hl3 : live D3 = live d := by unfold live; rw [hb3, ht3]; rfl
    have hw3 : whose (live D3) name = some n := by rw [hl3]; exact hw
    obtain ⟨t, ht⟩ := set_more D2.files n b
    have hf3 : D3.files.getD n fil0 = ⟨(d.files.getD n fil0).b ++ t, (d.files.getD n fil0).b.length⟩ := by
      have hn0 : (whose (live (power D2).1) name).getD 0 = n := by rw [live_power, hw2]; rfl
      rw [e3]
      show ((power D2).1.files.set ((whose (live (power D2).1) name).getD 0) ⟨((power D2).1.files.getD ((whose (live (power D2).1) name).getD 0) fil0).b ++ b, _⟩).getD n fil0 = _
      rw [hn0, f3, ht, hf2, hf1]
    refine ⟨t, by rw [read_there hn hw3 k3, hf3], fun dirs kept => ?_⟩
    obtain ⟨m, m1, _, m3, _, _⟩ := crash_file (crashDir D3 dirs) D3.files kept n hs3
    rw [hf3] at m1 m3
    refine ⟨m, m1, ?_⟩
    have hcd : crashDir D3 dirs = live d := by
      unfold crashDir
      rw [ht3, hb3]
      simp [dirOf]
    have hwc : whose (live (crashD D3 dirs kept)) name = some n := by
      show whose (dirOf (crashDir D3 dirs) []) name = some n
      rw [dirOf_nil, hcd]
      exact hw
    rw [read_there hn hwc rfl]
    show (((crashFiles D3.files (crashDir D3 dirs) kept).getD n fil0).b, (0 : Int)) = _
    rw [m3]
end Go.Proofs.YtmgolnlkepiocaaGreat.Dk

namespace Go.Proofs.YtmgolnlkepiocaaGreat.Dk
set_option linter.unusedVariables false

structure Fine (d : Dsk) : Prop where
  room : 1 ≤ d.room ∧ d.room ≤ 4194304
  rises : Rises d.base
  inside : ∀ k, k ≤ d.wait.length → ∀ x ∈ dirOf d.base (d.wait.take k), x.file < d.files.length ∧ namedB x.name = true
  few : ∀ k, k ≤ d.wait.length → (dirOf d.base (d.wait.take k)).length ≤ 64
  small : ∀ n, (d.files.getD n fil0).b.length ≤ d.room
  sure : SureOk d.files
  left : -1 ≤ d.left

theorem fine_new (room : Nat) (h : 1 ≤ room ∧ room ≤ 4194304) : Fine (newD room) := by
  refine ⟨h, List.Pairwise.nil, ?_, ?_, ?_, ?_, ?_⟩
  · intro k hk x hx
    simp [newD, dirOf] at hx
  · intro k hk
    simp [newD, dirOf]
  · intro n
    simp [newD, fil0]
  · intro n
    simp [newD, fil0]
  · show (-1 : Int) ≤ -1
    omega
theorem Fine.live_in {d : Dsk} (h : Fine d) : ∀ x ∈ live d, x.file < d.files.length ∧ namedB x.name = true := by
  have := h.inside d.wait.length (Nat.le_refl _)
  rw [List.take_length] at this
  exact this
theorem Fine.live_few {d : Dsk} (h : Fine d) : (live d).length ≤ 64 := by
  have := h.few d.wait.length (Nat.le_refl _)
  rw [List.take_length] at this
  exact this
theorem Fine.live_rises {d : Dsk} (h : Fine d) : Rises (live d) := dirOf_rises _ _ h.rises
theorem sum_le : ∀ (l : List Nat) (m : Nat), (∀ x ∈ l, x ≤ m) → l.sum ≤ l.length * m := by
  intro l m
  induction l with
  | nil => intro _; simp
  | cons x r ih =>
    intro h
    have h1 := h x (by simp)
    have h2 := ih fun y hy => h y (by simp [hy])
    rw [List.sum_cons, List.length_cons, Nat.add_mul]
    omega
theorem Fine.total_le {d : Dsk} (h : Fine d) : total d ≤ 268435456 := by
  unfold total
  have h1 := sum_le ((live d).map (bytesAt d)) d.room (by
    intro x hx
    obtain ⟨y, _, rfl⟩ := List.mem_map.1 hx
    exact h.small y.file)
  rw [List.length_map] at h1
  have h2 := Nat.mul_le_mul h.live_few h.room.2
  omega
theorem mem_le_sum : ∀ (l : List Nat) (x : Nat), x ∈ l → x ≤ l.sum := by
  intro l x
  induction l with
  | nil => intro h; cases h
  | cons y r ih =>
    intro h
    rw [List.sum_cons]
    rcases List.mem_cons.1 h with rfl | h
    · omega
    · have := ih h
      omega
theorem lacking_less {l : List Ent} {n : List UInt8} {f : Nat} (h : Rises l) (hw : whose l n = some f) : (lacking l n).length + 1 ≤ l.length := by
  have hm := (whose_some h).1 hw
  clear hw h
  induction l with
  | nil => cases hm
  | cons x r ih =>
    unfold lacking at ih ⊢
    rcases List.mem_cons.1 hm with rfl | hm
    · rw [List.filter_cons_of_neg (by simp)]
      have := List.length_filter_le (fun x : Ent => decide (x.name ≠ n)) r
      rw [List.length_cons]
      omega
    · have := ih hm
      by_cases hx : x.name = n
      · rw [List.filter_cons_of_neg (by simpa using hx), List.length_cons]
        omega
      · rw [List.filter_cons_of_pos (by simpa using hx), List.length_cons, List.length_cons]
        omega
theorem fine_fuse {d : Dsk} (h : Fine d) (n : Int) : Fine (fuseD d n) := ⟨h.room, h.rises, h.inside, h.few, h.small, h.sure, by show -1 ≤ max n (-1); omega⟩
theorem fine_dark {d : Dsk} (h : Fine d) : Fine { d with dark := true } := ⟨h.room, h.rises, h.inside, h.few, h.small, h.sure, h.left⟩
theorem fine_power {d : Dsk} (h : Fine d) : Fine (power d).1 := by
  unfold power
  split
  · exact fine_dark h
  · refine ⟨h.room, h.rises, h.inside, h.few, h.small, h.sure, ?_⟩
    have := h.left
    show -1 ≤ if 0 < d.left then d.left - 1 else d.left
    split <;> omega
/-- A change of the files alone. -/
theorem fine_files {d : Dsk} (h : Fine d) (fs : List Fil) (hl : fs.length = d.files.length) (hs : SureOk fs) (hb : ∀ n, (fs.getD n fil0).b.length ≤ d.room) : Fine { d with files := fs } :=
  ⟨h.room, h.rises, fun k hk x hx => by
    have := h.inside k hk x hx
    exact ⟨by show x.file < fs.length; rw [hl]; exact this.1, this.2⟩, h.few, hb, hs, h.left⟩
/-- One entry more waits. -/
theorem fine_step {d : Dsk} (h : Fine d) (s : Stp) (fs : List Fil) (hl : d.files.length ≤ fs.length) (hs : SureOk fs) (hb : ∀ n, (fs.getD n fil0).b.length ≤ d.room)
    (hi : ∀ x ∈ stepDir (live d) s, x.file < fs.length ∧ namedB x.name = true) (hf : (stepDir (live d) s).length ≤ 64) : Fine { d with wait := d.wait ++ [s], files := fs } := by
  refine ⟨h.room, h.rises, ?_, ?_, hb, hs, h.left⟩
  · intro k hk x hx
    rw [List.length_append, List.length_singleton] at hk
    by_cases hk2 : k ≤ d.wait.length
    · have hx' : x ∈ dirOf d.base (d.wait.take k) := by
        rw [← List.take_append_of_le_length (l₂ := [s]) hk2]
        exact hx
      have := h.inside k hk2 x hx'
      exact ⟨Nat.lt_of_lt_of_le this.1 hl, this.2⟩
    · have hk3 : k = (d.wait ++ [s]).length := by rw [List.length_append, List.length_singleton]; omega
      have hx' : x ∈ dirOf d.base ((d.wait ++ [s]).take k) := hx
      rw [hk3, List.take_length, dirOf_snoc] at hx'
      exact hi x hx'
  · intro k hk
    rw [List.length_append, List.length_singleton] at hk
    show (dirOf d.base ((d.wait ++ [s]).take k)).length ≤ 64
    by_cases hk2 : k ≤ d.wait.length
    · rw [List.take_append_of_le_length hk2]
      exact h.few k hk2
    · have hk3 : k = (d.wait ++ [s]).length := by rw [List.length_append, List.length_singleton]; omega
      rw [hk3, List.take_length, dirOf_snoc]
      exact hf
theorem fine_sync {d : Dsk} (h : Fine d) : Fine { d with base := live d, wait := [] } := by
  refine ⟨h.room, h.live_rises, ?_, ?_, h.small, h.sure, h.left⟩
  · intro k hk x hx
    have hx' : x ∈ live d := by simpa [dirOf] using hx
    exact h.live_in x hx'
  · intro k hk
    show (dirOf (live d) (([] : List Stp).take k)).length ≤ 64
    rw [List.take_nil]
    exact h.live_few
theorem fine_change {d : Dsk} (h : Fine d) (kind : Int) (name to b : List UInt8) (hk : 1 ≤ kind ∧ kind ≤ 6) : Fine (change d kind name to b).1 := by
  by_cases h0 : (change d kind name to b).2 = 0
  · obtain ⟨w, hp, e, _, _⟩ := done_one h0
    have hF := fine_power h
    have hlv := live_power d
    obtain ⟨_, _, _, _, p5, p6, p7, p8⟩ := power_ok hp
    rw [e]
    have hw := w
    unfold whyNot at w
    generalize (power d).1 = D at *
    have hD : whose (live D) name = whose (live d) name := by rw [hlv]
    unfold applyD
    dsimp only
    by_cases k1 : kind = 1
    · rw [if_pos k1]
      have hn := named_of hw (by omega)
      have hlen : (live d).length < 64 := by
        by_cases hl : 64 ≤ (live d).length
        · exfalso
          split at w
          · cases w
          · split at w
            · cases w
            · rw [if_pos ⟨k1, hl⟩] at w
              cases w
        · omega
      refine fine_step hF (.lay name D.files.length) (D.files ++ [fil0]) (by simp) (sureOk_new hF.sure) ?_ ?_ ?_
      · intro n
        by_cases hn : n < D.files.length
        · have e : (D.files ++ [fil0]).getD n fil0 = D.files.getD n fil0 := by simp [List.getD, List.getElem?_append_left hn]
          rw [e]
          exact hF.small n
        · have e : ((D.files ++ [fil0]).getD n fil0).b = [] := by
            by_cases hn2 : n = D.files.length
            · subst hn2
              simp [List.getD, fil0]
            · have : (D.files ++ [fil0])[n]? = none := List.getElem?_eq_none (by simp; omega)
              unfold List.getD
              rw [this]
              rfl
          rw [e]
          simp
      · intro x hx
        rcases (mem_put _ _ hF.live_rises).1 hx with rfl | ⟨hx, _⟩
        · exact ⟨by simp, hn⟩
        · have := hF.live_in x hx
          exact ⟨by rw [List.length_append]; omega, this.2⟩
      · have := put_length ⟨name, D.files.length⟩ hF.live_rises
        rw [hlv] at this
        show (put (live D) ⟨name, D.files.length⟩).length ≤ 64
        rw [hlv]
        omega
    · rw [if_neg k1]
      by_cases k6 : kind = 6
      · rw [if_neg (by omega), if_neg (by omega), if_neg (by omega), if_neg (by omega)]
        exact fine_sync hF
      · have hn := named_of hw k6
        obtain ⟨n, hwn⟩ := there_of hw (by omega) (by omega)
        have hm := (whose_some h.live_rises).1 hwn
        have hmD : (⟨name, n⟩ : Ent) ∈ live D := by rw [hlv]; exact hm
        have hin := (hF.live_in _ hmD).1
        rw [hD, hwn]
        by_cases k2 : kind = 2
        · rw [if_pos k2]
          have hroom : total d + b.length ≤ d.room := by
            by_cases hr : d.room < total d + b.length
            · exfalso
              split at w
              · cases w
              · split at w
                · cases w
                · split at w
                  · cases w
                  · split at w
                    · cases w
                    · rw [if_pos ⟨k2, hr⟩] at w
                      cases w
            · omega
          have hle : (d.files.getD n fil0).b.length ≤ total d := mem_le_sum _ _ (List.mem_map.2 ⟨_, hm, rfl⟩)
          refine fine_files hF _ (by simp) (sureOk_more hF.sure _ _) fun j => ?_
          rw [fget_set]
          split
          · show ((D.files.getD n fil0).b ++ b).length ≤ D.room
            rw [List.length_append, p5, p8]
            omega
          · exact hF.small j
        · rw [if_neg k2]
          by_cases k3 : kind = 3
          · rw [if_pos k3]
            have hto : namedB to = true := by
              cases ht : namedB to
              · exfalso
                rw [if_pos (.inr ⟨k3, ht⟩)] at w
                cases w
              · rfl
            have hwD : whose (live D) name = some n := by rw [hD]; exact hwn
            refine fine_step hF (.move name to) D.files (Nat.le_refl _) hF.sure hF.small ?_ ?_
            · intro x hx
              have hx' : x ∈ put (lacking (live D) name) ⟨to, (whose (live D) name).getD 0⟩ := hx
              rw [hwD] at hx'
              rcases (mem_put _ _ (lacking_rises hF.live_rises name)).1 hx' with rfl | ⟨hx, _⟩
              · exact ⟨hin, hto⟩
              · exact hF.live_in x ((mem_lacking _ _).1 hx).1
            · have h1 := lacking_less hF.live_rises hwD
              have h2 := put_length (l := lacking (live D) name) ⟨to, (whose (live D) name).getD 0⟩ (lacking_rises hF.live_rises name)
              have h3 := hF.live_few
              show (put (lacking (live D) name) ⟨to, (whose (live D) name).getD 0⟩).length ≤ 64
              omega
          · rw [if_neg k3]
            by_cases k4 : kind = 4
            · rw [if_pos k4]
              refine fine_step hF (.take name) D.files (Nat.le_refl _) hF.sure hF.small ?_ ?_
              · intro x hx
                exact hF.live_in x ((mem_lacking _ _).1 hx).1
              · have h1 := List.length_filter_le (fun x : Ent => decide (x.name ≠ name)) (live D)
                have h3 := hF.live_few
                show (lacking (live D) name).length ≤ 64
                unfold lacking
                omega
            · rw [if_neg k4, if_pos (by omega)]
              refine fine_files hF _ (by simp) (sureOk_sync hF.sure _) fun j => ?_
              rw [fget_set]
              split
              · exact hF.small _
              · exact hF.small j
  · rcases refused h0 with ⟨_, e⟩ | ⟨_, e⟩
    · rw [e]
      exact fine_dark h
    · rw [e]
      exact h
theorem fine_crash {d : Dsk} (h : Fine d) (dirs : Int) (kept : List Int) : Fine (crashD d dirs kept) := by
  have hm : modU dirs (d.wait.length + 1) ≤ d.wait.length := Nat.le_of_lt_succ (Nat.mod_lt _ (Nat.succ_pos _))
  obtain ⟨_, _, _, _, hs, hl⟩ := crash_file (crashDir d dirs) d.files kept 0 h.sure
  refine ⟨h.room, dirOf_rises _ _ h.rises, ?_, ?_, ?_, hs, by show (-1 : Int) ≤ -1; omega⟩
  · intro k hk x hx
    have hx' : x ∈ crashDir d dirs := by simpa [crashD, dirOf] using hx
    have := h.inside _ hm x hx'
    exact ⟨by show x.file < (crashFiles d.files (crashDir d dirs) kept).length; rw [hl]; exact this.1, this.2⟩
  · intro k hk
    show (dirOf (crashDir d dirs) (([] : List Stp).take k)).length ≤ 64
    rw [List.take_nil]
    exact h.few _ hm
  · intro n
    obtain ⟨m, _, m2, m3, _, _⟩ := crash_file (crashDir d dirs) d.files kept n h.sure
    show ((crashFiles d.files (crashDir d dirs) kept).getD n fil0).b.length ≤ d.room
    rw [m3, List.length_take]
    have := h.small n
    omega
end Go.Proofs.YtmgolnlkepiocaaGreat.Dk

namespace Go.Proofs.YtmgolnlkepiocaaGreat.Dk
set_option linter.unusedVariables false

/-- A fuse of nought: the next SyncDir is refused, and the power is gone. -/
theorem fuse_out (d : Dsk) (name to b : List UInt8) : change (fuseD d 0) 6 name to b = ({ fuseD d 0 with dark := true }, 6) := by
  have h1 : whyNot (fuseD d 0) 6 name to b = 0 := by
    unfold whyNot
    simp
  have h2 : power (fuseD d 0) = ({ fuseD d 0 with dark := true }, 6) := by
    unfold power
    rw [if_pos (.inr (by show max (0 : Int) (-1) = 0; omega))]
  unfold change
  rw [if_neg (by rw [h1]; decide), h2]
  rfl
/-- Behind a crash the power is there. -/
theorem crash_sync (d : Dsk) (dirs : Int) (kept : List Int) (name to b : List UInt8) : (change (crashD d dirs kept) 6 name to b).2 = 0 ∧ (change (crashD d dirs kept) 6 name to b).1.count = d.count + 1 := by
  have h1 : whyNot (crashD d dirs kept) 6 name to b = 0 := by
    unfold whyNot
    simp
  have h2 : (power (crashD d dirs kept)).2 = 0 := by
    unfold power
    rw [if_neg (by show ¬ (false = true ∨ (-1 : Int) = 0); simp)]
  have h0 : (change (crashD d dirs kept) 6 name to b).2 = 0 := by
    unfold change
    rw [if_neg (by rw [h1]; decide), if_neg (by rw [h2]; decide)]
  exact ⟨h0, (done_one h0).2.2.2.1⟩

def nOne : List UInt8 := [111, 110, 101]
def nTwo : List UInt8 := [116, 119, 111]
/-- Two files, both sure, and the second one renamed over the first one: an entry that waits. -/
def swapD (a b : List UInt8) : Dsk := ⟨4194304, [⟨a, a.length⟩, ⟨b, b.length⟩], [⟨nOne, 0⟩, ⟨nTwo, 1⟩], [.move nTwo nOne], -1, false, 8⟩
theorem change_is {d : Dsk} {kind : Int} {name to b : List UInt8} (hw : whyNot d kind name to b = 0) (hd : d.dark = false) (hl : d.left = -1) : change d kind name to b = (applyD { d with count := d.count + 1 } kind name to b, 0) := by
  have hp : power d = ({ d with count := d.count + 1 }, 0) := by
    unfold power
    rw [if_neg (by rw [hd, hl]; simp), hl]
    cases d
    simp_all
  unfold change
  rw [if_neg (by rw [hw]; decide), hp]
  rfl
theorem swap_1 : change (newD 4194304) 1 nOne [] [] = (⟨4194304, [fil0], [], [.lay nOne 0], -1, false, 1⟩, 0) := by
  rw [change_is (by decide) rfl rfl]
  rfl
theorem swap_2 : change ⟨4194304, [fil0], [], [.lay nOne 0], -1, false, 1⟩ 1 nTwo [] [] = (⟨4194304, [fil0, fil0], [], [.lay nOne 0, .lay nTwo 1], -1, false, 2⟩, 0) := by
  rw [change_is (by decide) rfl rfl]
  rfl
theorem swap_live (fs : List Fil) (r c : Nat) (l : Int) (k : Bool) : live ⟨r, fs, [], [.lay nOne 0, .lay nTwo 1], l, k, c⟩ = [⟨nOne, 0⟩, ⟨nTwo, 1⟩] := by
  show dirOf [] [.lay nOne 0, .lay nTwo 1] = _
  decide
theorem swap_why (fs : List Fil) (r c : Nat) (l : Int) (k : Bool) (kind : Int) (name b : List UInt8) (hk : kind = 2 ∨ kind = 5) (hn : name = nOne ∨ name = nTwo) (ht : total ⟨r, fs, [], [.lay nOne 0, .lay nTwo 1], l, k, c⟩ + b.length ≤ r) :
    whyNot ⟨r, fs, [], [.lay nOne 0, .lay nTwo 1], l, k, c⟩ kind name [] b = 0 := by
  unfold whyNot
  rw [swap_live]
  have hnm : namedB name = true := by rcases hn with rfl | rfl <;> decide
  have hw : whose [⟨nOne, 0⟩, ⟨nTwo, 1⟩] name ≠ none := by rcases hn with rfl | rfl <;> decide
  rw [hnm]
  rw [if_neg (by simp; omega), if_neg (by omega), if_neg (by omega), if_neg (fun h => hw h.2.2), if_neg (by
    intro h
    have h2 : r < total ⟨r, fs, [], [.lay nOne 0, .lay nTwo 1], l, k, c⟩ + b.length := h.2
    omega)]
theorem swap_3 (a : List UInt8) (ha : a.length ≤ 100000) : change ⟨4194304, [fil0, fil0], [], [.lay nOne 0, .lay nTwo 1], -1, false, 2⟩ 2 nOne [] a = (⟨4194304, [⟨a, 0⟩, fil0], [], [.lay nOne 0, .lay nTwo 1], -1, false, 3⟩, 0) := by
  rw [change_is (swap_why _ _ _ _ _ 2 nOne a (.inl rfl) (.inl rfl) (by
    unfold total
    rw [swap_live]
    show 0 + (0 + 0) + a.length ≤ 4194304
    omega)) rfl rfl]
  rfl
theorem swap_4 (a b : List UInt8) (h : a.length + b.length ≤ 100000) : change ⟨4194304, [⟨a, 0⟩, fil0], [], [.lay nOne 0, .lay nTwo 1], -1, false, 3⟩ 2 nTwo [] b = (⟨4194304, [⟨a, 0⟩, ⟨b, 0⟩], [], [.lay nOne 0, .lay nTwo 1], -1, false, 4⟩, 0) := by
  rw [change_is (swap_why _ _ _ _ _ 2 nTwo b (.inl rfl) (.inr rfl) (by
    unfold total
    rw [swap_live]
    show a.length + (0 + 0) + b.length ≤ 4194304
    omega)) rfl rfl]
  rfl
theorem swap_5 (a b : List UInt8) (h : a.length + b.length ≤ 100000) : change ⟨4194304, [⟨a, 0⟩, ⟨b, 0⟩], [], [.lay nOne 0, .lay nTwo 1], -1, false, 4⟩ 5 nOne [] [] = (⟨4194304, [⟨a, a.length⟩, ⟨b, 0⟩], [], [.lay nOne 0, .lay nTwo 1], -1, false, 5⟩, 0) := by
  rw [change_is (swap_why _ _ _ _ _ 5 nOne [] (.inr rfl) (.inl rfl) (by
    unfold total
    rw [swap_live]
    show a.length + (b.length + 0) + 0 ≤ 4194304
    omega)) rfl rfl]
  rfl
theorem swap_6 (a b : List UInt8) (h : a.length + b.length ≤ 100000) : change ⟨4194304, [⟨a, a.length⟩, ⟨b, 0⟩], [], [.lay nOne 0, .lay nTwo 1], -1, false, 5⟩ 5 nTwo [] [] = (⟨4194304, [⟨a, a.length⟩, ⟨b, b.length⟩], [], [.lay nOne 0, .lay nTwo 1], -1, false, 6⟩, 0) := by
  rw [change_is (swap_why _ _ _ _ _ 5 nTwo [] (.inr rfl) (.inr rfl) (by
    unfold total
    rw [swap_live]
    show a.length + (b.length + 0) + 0 ≤ 4194304
    omega)) rfl rfl]
  rfl
theorem swap_7 (a b : List UInt8) : change ⟨4194304, [⟨a, a.length⟩, ⟨b, b.length⟩], [], [.lay nOne 0, .lay nTwo 1], -1, false, 6⟩ 6 [] [] [] = (⟨4194304, [⟨a, a.length⟩, ⟨b, b.length⟩], [⟨nOne, 0⟩, ⟨nTwo, 1⟩], [], -1, false, 7⟩, 0) := by
  rw [change_is (by unfold whyNot; simp) rfl rfl]
  rfl
theorem swap_8 (a b : List UInt8) : change ⟨4194304, [⟨a, a.length⟩, ⟨b, b.length⟩], [⟨nOne, 0⟩, ⟨nTwo, 1⟩], [], -1, false, 7⟩ 3 nTwo nOne [] = (swapD a b, 0) := by
  have hl : live ⟨4194304, [⟨a, a.length⟩, ⟨b, b.length⟩], [⟨nOne, 0⟩, ⟨nTwo, 1⟩], [], -1, false, 7⟩ = [⟨nOne, 0⟩, ⟨nTwo, 1⟩] := rfl
  rw [change_is (by
    unfold whyNot
    rw [hl]
    rw [if_neg (by decide), if_neg (by decide), if_neg (by decide), if_neg (by decide), if_neg (fun h => absurd h.1 (by decide))]) rfl rfl]
  rfl
theorem modU_two (dirs : Int) : modU dirs 2 = 0 ∨ modU dirs 2 = 1 := by
  unfold modU
  omega
theorem modU_one (dirs : Int) : modU dirs 1 = 0 := by
  unfold modU
  omega
/-- What a crash leaves of them: the one or the other, whole. -/
theorem swap_crash (a b : List UInt8) (dirs : Int) :
    (readD (crashD (swapD a b) dirs []) nOne = (a, 0) ∧ (readD (crashD (swapD a b) dirs []) nTwo).2 = 0) ∨ (readD (crashD (swapD a b) dirs []) nOne = (b, 0) ∧ (readD (crashD (swapD a b) dirs []) nTwo).2 = 9) := by
  have hcd : crashDir (swapD a b) dirs = dirOf [⟨nOne, 0⟩, ⟨nTwo, 1⟩] (([.move nTwo nOne] : List Stp).take (modU dirs 2)) := rfl
  rcases modU_two dirs with h | h
  · have e : crashDir (swapD a b) dirs = [⟨nOne, 0⟩, ⟨nTwo, 1⟩] := by rw [hcd, h]; rfl
    have hl : live (crashD (swapD a b) dirs []) = [⟨nOne, 0⟩, ⟨nTwo, 1⟩] := by show crashDir (swapD a b) dirs = _; exact e
    have hf : (crashD (swapD a b) dirs []).files = [⟨a, a.length⟩, ⟨b, b.length⟩] := by
      show crashFiles [⟨a, a.length⟩, ⟨b, b.length⟩] (crashDir (swapD a b) dirs) [] = _
      rw [e]
      show [crashOne ⟨a, a.length⟩ 0, crashOne ⟨b, b.length⟩ 0] = _
      unfold crashOne
      simp
    refine .inl ⟨?_, ?_⟩
    · rw [read_there (n := 0) (by decide) (by rw [hl]; decide) rfl, hf]
      rfl
    · rw [read_there (n := 1) (by decide) (by rw [hl]; decide) rfl]
  · have e : crashDir (swapD a b) dirs = [⟨nOne, 1⟩] := by rw [hcd, h]; decide
    have hl : live (crashD (swapD a b) dirs []) = [⟨nOne, 1⟩] := by show crashDir (swapD a b) dirs = _; exact e
    have hf : (crashD (swapD a b) dirs []).files = [⟨a, a.length⟩, ⟨b, b.length⟩] := by
      show crashFiles [⟨a, a.length⟩, ⟨b, b.length⟩] (crashDir (swapD a b) dirs) [] = _
      rw [e]
      show [⟨a, a.length⟩, crashOne ⟨b, b.length⟩ 0] = _
      unfold crashOne
      simp
    refine .inr ⟨?_, ?_⟩
    · rw [read_there (n := 1) (by decide) (by rw [hl]; decide) rfl, hf]
      rfl
    · unfold readD
      rw [hl]
      rfl
/-- Behind SyncDir: the new one. -/
theorem swap_sync (a b : List UInt8) : change (swapD a b) 6 [] [] [] = (⟨4194304, [⟨a, a.length⟩, ⟨b, b.length⟩], [⟨nOne, 1⟩], [], -1, false, 9⟩, 0) := by
  have hl : live { swapD a b with count := (swapD a b).count + 1 } = [⟨nOne, 1⟩] := by
    show dirOf [⟨nOne, 0⟩, ⟨nTwo, 1⟩] [.move nTwo nOne] = _
    decide
  rw [change_is (by unfold whyNot; simp) rfl rfl]
  unfold applyD
  rw [hl]
  rfl
theorem swap_crash_sync (a b : List UInt8) (dirs : Int) : readD (crashD ⟨4194304, [⟨a, a.length⟩, ⟨b, b.length⟩], [⟨nOne, 1⟩], [], -1, false, 9⟩ dirs []) nOne = (b, 0) ∧ (readD (crashD ⟨4194304, [⟨a, a.length⟩, ⟨b, b.length⟩], [⟨nOne, 1⟩], [], -1, false, 9⟩ dirs []) nTwo).2 = 9 := by
  have e : crashDir ⟨4194304, [⟨a, a.length⟩, ⟨b, b.length⟩], [⟨nOne, 1⟩], [], -1, false, 9⟩ dirs = [⟨nOne, 1⟩] := by
    show dirOf [⟨nOne, 1⟩] (([] : List Stp).take (modU dirs 1)) = _
    rw [modU_one]
    rfl
  have hl : live (crashD ⟨4194304, [⟨a, a.length⟩, ⟨b, b.length⟩], [⟨nOne, 1⟩], [], -1, false, 9⟩ dirs []) = [⟨nOne, 1⟩] := e
  have hf : (crashD ⟨4194304, [⟨a, a.length⟩, ⟨b, b.length⟩], [⟨nOne, 1⟩], [], -1, false, 9⟩ dirs []).files = [⟨a, a.length⟩, ⟨b, b.length⟩] := by
    show crashFiles [⟨a, a.length⟩, ⟨b, b.length⟩] (crashDir ⟨4194304, [⟨a, a.length⟩, ⟨b, b.length⟩], [⟨nOne, 1⟩], [], -1, false, 9⟩ dirs) [] = _
    rw [e]
    show [⟨a, a.length⟩, crashOne ⟨b, b.length⟩ 0] = _
    unfold crashOne
    simp
  refine ⟨?_, ?_⟩
  · rw [read_there (n := 1) (by decide) (by rw [hl]; decide) rfl, hf]
    rfl
  · unfold readD
    rw [hl]
    rfl
end Go.Proofs.YtmgolnlkepiocaaGreat.Dk

namespace Go.Proofs.YtmgolnlkepiocaaGreat
open Dk
set_option linter.unusedVariables false

def tmpN : List UInt8 := [116, 109, 112]
def tmpS : ByteArray := ⟨#[116, 109, 112]⟩
/-- Taking away what an earlier mending may have left. -/
def sweepD (d : Dsk) : Dsk × Int := ((change d 4 tmpN [] []).1, if (change d 4 tmpN [] []).2 = 9 then 0 else (change d 4 tmpN [] []).2)
abbrev Chg := Int × List UInt8 × List UInt8 × List UInt8
def chg (d : Dsk) (c : Chg) : Dsk × Int := change d c.1 c.2.1 c.2.2.1 c.2.2.2
def runC : Dsk → List Chg → Dsk × Int
  | d, [] => (d, 0)
  | d, c :: r => if (chg d c).2 = 0 then runC (chg d c).1 r else chg d c
def beginC (name : List UInt8) : List Chg := [(1, name, [], []), (6, [], [], [])]
def mendC (name part : List UInt8) : List Chg := [(1, tmpN, [], []), (2, tmpN, [], part), (5, tmpN, [], []), (3, tmpN, name, []), (6, [], [], [])]
def mendD (d : Dsk) (name part : List UInt8) : Dsk × Int := if (sweepD d).2 = 0 then runC (sweepD d).1 (mendC name part) else sweepD d
/-- What Open does to a disk, where the whole part of the file's bytes has p bytes. -/
def openD (d : Dsk) (name : List UInt8) (p : Nat) : Dsk × Int :=
  if name = tmpN then (d, 8)
  else if (readD d name).2 = 9 then runC d (beginC name)
  else if (readD d name).2 ≠ 0 then (d, (readD d name).2)
  else if p < (readD d name).1.length then mendD d name ((readD d name).1.take p)
  else (d, 0)
theorem change_rng (d : Dsk) (kind : Int) (name to b : List UInt8) : 0 ≤ (change d kind name to b).2 ∧ (change d kind name to b).2 ≤ 10 := by
  have hw : 0 ≤ whyNot d kind name to b ∧ whyNot d kind name to b ≤ 10 := by
    unfold whyNot
    split
    · omega
    · split
      · omega
      · split
        · omega
        · split
          · omega
          · split <;> omega
  unfold change
  split
  · exact hw
  · split
    · unfold power
      split <;> simp
    · simp


/-! ### a log's disk -/
def logN : List UInt8 := [108, 111, 103]
def logS : ByteArray := ⟨#[108, 111, 103]⟩
/-- A log's file of bytes b, s of them sure, is all that the directory has, and it is sure. -/
structure LogAt (d : Dsk) (b : List UInt8) (s : Nat) : Prop where
  file : ∃ n, d.base = [⟨logN, n⟩] ∧ d.files.getD n fil0 = ⟨b, s⟩ ∧ n < d.files.length
  wait : d.wait = []
  room : d.room = 4194304
def PowerOn (d : Dsk) : Prop := d.dark = false ∧ d.left = -1
theorem one_whose (n : Nat) : whose [⟨logN, n⟩] logN = some n := rfl
theorem one_none (n : Nat) : whose [⟨logN, n⟩] tmpN = none := rfl
theorem log_live {d : Dsk} {n : Nat} (h : d.base = [⟨logN, n⟩]) (hw : d.wait = []) : live d = [⟨logN, n⟩] := by unfold live; rw [h, hw]; rfl
theorem log_total {d : Dsk} {n : Nat} {b : List UInt8} {s : Nat} (h : live d = [⟨logN, n⟩]) (hf : d.files.getD n fil0 = ⟨b, s⟩) : total d = b.length := by
  unfold total
  rw [h]
  show (d.files.getD n fil0).b.length + 0 = _
  rw [hf]
  rfl
theorem LogAt.dark {d : Dsk} {b : List UInt8} {s : Nat} (h : LogAt d b s) : LogAt { d with dark := true } b s := ⟨h.file, h.wait, h.room⟩
theorem LogAt.fuse {d : Dsk} {b : List UInt8} {s : Nat} (h : LogAt d b s) (n : Int) : LogAt (fuseD d n) b s := ⟨h.file, h.wait, h.room⟩
theorem LogAt.no {d : Dsk} {b : List UInt8} {s : Nat} (h : LogAt d b s) {kind : Int} {name to x : List UInt8} (hn : (change d kind name to x).2 ≠ 0) : LogAt (change d kind name to x).1 b s := by
  rcases refused hn with ⟨_, e⟩ | ⟨_, e⟩
  · rw [e]; exact h.dark
  · rw [e]; exact h
theorem LogAt.append {d : Dsk} {b : List UInt8} {s : Nat} (h : LogAt d b s) {x : List UInt8} (hy : (change d 2 logN [] x).2 = 0) : LogAt (change d 2 logN [] x).1 (b ++ x) s := by
  obtain ⟨⟨n, hb, hf, hn⟩, hw, hr⟩ := h
  obtain ⟨_, hp, e, _, _⟩ := done_one hy
  obtain ⟨_, _, _, _, f1, b1, w1, r1⟩ := power_ok hp
  have hl : whose (live (power d).1) logN = some n := by rw [live_power, log_live hb hw]; rfl
  rw [e]
  unfold applyD
  rw [hl]
  refine ⟨⟨n, by show (power d).1.base = _; rw [b1, hb], ?_, ?_⟩, by show (power d).1.wait = _; rw [w1, hw], by show (power d).1.room = _; rw [r1, hr]⟩
  · show ((power d).1.files.set n ⟨((power d).1.files.getD n fil0).b ++ x, ((power d).1.files.getD n fil0).sure⟩).getD n fil0 = _
    rw [fget_set, f1, if_pos ⟨rfl, hn⟩, hf]
  · show n < ((power d).1.files.set n _).length
    rw [List.length_set, f1]
    exact hn
theorem LogAt.sync {d : Dsk} {b : List UInt8} {s : Nat} (h : LogAt d b s) (hy : (change d 5 logN [] []).2 = 0) : LogAt (change d 5 logN [] []).1 b b.length := by
  obtain ⟨⟨n, hb, hf, hn⟩, hw, hr⟩ := h
  obtain ⟨_, hp, e, _, _⟩ := done_one hy
  obtain ⟨_, _, _, _, f1, b1, w1, r1⟩ := power_ok hp
  have hl : whose (live (power d).1) logN = some n := by rw [live_power, log_live hb hw]; rfl
  rw [e]
  unfold applyD
  rw [hl]
  refine ⟨⟨n, by show (power d).1.base = _; rw [b1, hb], ?_, ?_⟩, by show (power d).1.wait = _; rw [w1, hw], by show (power d).1.room = _; rw [r1, hr]⟩
  · show ((power d).1.files.set n ⟨((power d).1.files.getD n fil0).b, ((power d).1.files.getD n fil0).b.length⟩).getD n fil0 = _
    rw [fget_set, f1, if_pos ⟨rfl, hn⟩, hf]
  · show n < ((power d).1.files.set n _).length
    rw [List.length_set, f1]
    exact hn
theorem LogAt.read {d : Dsk} {b : List UInt8} {s : Nat} (h : LogAt d b s) (hd : d.dark = false) : readD d logN = (b, 0) := by
  obtain ⟨⟨n, hb, hf, hn⟩, hw, hr⟩ := h
  rw [read_there (n := n) (by decide) (by rw [log_live hb hw]; rfl) hd, hf]
theorem LogAt.crash {d : Dsk} {b : List UInt8} {s : Nat} (h : LogAt d b s) (hs : s ≤ b.length) (dirs : Int) (ks : List Int) : ∃ k, s ≤ k ∧ k ≤ b.length ∧ LogAt (crashD d dirs ks) (b.take k) k ∧ PowerOn (crashD d dirs ks) := by
  obtain ⟨⟨n, hb, hf, hn⟩, hw, hr⟩ := h
  have hc : crashDir d dirs = [⟨logN, n⟩] := by unfold crashDir; rw [hw, hb]; simp [dirOf]
  have hle : s + keptOf ks ⟨b, s⟩ ≤ b.length := keptOf_le ks ⟨b, s⟩ hs
  refine ⟨s + keptOf ks ⟨b, s⟩, by omega, hle, ⟨⟨n, hc, ?_, ?_⟩, rfl, hr⟩, rfl, rfl⟩
  · show (crashFiles d.files (crashDir d dirs) ks).getD n fil0 = _
    rw [hc]
    show (d.files.set n (crashOne (d.files.getD n fil0) (keptOf ks (d.files.getD n fil0)))).getD n fil0 = _
    rw [fget_set, if_pos ⟨rfl, hn⟩, hf]
    rfl
  · show n < (crashFiles d.files (crashDir d dirs) ks).length
    rw [hc]
    show n < (d.files.set n _).length
    rw [List.length_set]
    exact hn
theorem LogAt.fits {d : Dsk} {b : List UInt8} {s : Nat} (h : LogAt d b s) (hu : PowerOn d) {x : List UInt8} (hx : b.length + x.length ≤ 4194304) : (change d 2 logN [] x).2 = 0 ∧ PowerOn (change d 2 logN [] x).1 := by
  obtain ⟨⟨n, hb, hf, hn⟩, hw, hr⟩ := h
  have hl := log_live hb hw
  have hy : whyNot d 2 logN [] x = 0 := by
    unfold whyNot
    rw [hl, log_total hl hf, hr, if_neg (by decide), if_neg (fun h => absurd h.1 (by decide)), if_neg (fun h => absurd h.1 (by decide)), if_neg (by simp [one_whose]), if_neg (by omega)]
  rw [change_is hy hu.1 hu.2]
  refine ⟨rfl, ?_⟩
  obtain ⟨k1, _, k3, _⟩ := applyD_keeps { d with count := d.count + 1 } 2 logN [] x
  exact ⟨by show (applyD _ _ _ _ _).dark = _; rw [k1]; exact hu.1, by show (applyD _ _ _ _ _).left = _; rw [k3]; exact hu.2⟩
theorem live_2 (r : Nat) (fs : List Fil) (n m : Nat) (l : Int) (k : Bool) (c : Nat) : live ⟨r, fs, [⟨logN, n⟩], [.lay tmpN m], l, k, c⟩ = [⟨logN, n⟩, ⟨tmpN, m⟩] := rfl
theorem live_3 (r : Nat) (fs : List Fil) (n m : Nat) (l : Int) (k : Bool) (c : Nat) : live ⟨r, fs, [⟨logN, n⟩], [.lay tmpN m, .move tmpN logN], l, k, c⟩ = [⟨logN, m⟩] := rfl
theorem mend_log {fs : List Fil} {n c : Nat} {b part : List UInt8} {s : Nat} (hn : n < fs.length) (hf : fs.getD n fil0 = ⟨b, s⟩) (hr : b.length + part.length ≤ 4194304) :
    ∃ F, mendD ⟨4194304, fs, [⟨logN, n⟩], [], -1, false, c⟩ logN part = (⟨4194304, F, [⟨logN, fs.length⟩], [], -1, false, c + 5⟩, 0) ∧ F.getD fs.length fil0 = ⟨part, part.length⟩ ∧ fs.length < F.length := by
  have h0 : sweepD ⟨4194304, fs, [⟨logN, n⟩], [], -1, false, c⟩ = (⟨4194304, fs, [⟨logN, n⟩], [], -1, false, c⟩, 0) := by
    unfold sweepD change
    rw [if_pos (by show whyNot _ _ _ _ _ ≠ 0; exact fun h => by cases h)]
    rfl
  have h1 : change ⟨4194304, fs, [⟨logN, n⟩], [], -1, false, c⟩ 1 tmpN [] [] = (⟨4194304, fs ++ [fil0], [⟨logN, n⟩], [.lay tmpN fs.length], -1, false, c + 1⟩, 0) := by
    rw [change_is rfl rfl rfl]
    rfl
  have hm : (fs ++ [fil0]).getD fs.length fil0 = fil0 := by simp [List.getD]
  have hn2 : (fs ++ [fil0]).getD n fil0 = ⟨b, s⟩ := by rw [← hf]; simp [List.getD, List.getElem?_append_left hn]
  have h2 : change ⟨4194304, fs ++ [fil0], [⟨logN, n⟩], [.lay tmpN fs.length], -1, false, c + 1⟩ 2 tmpN [] part = (⟨4194304, (fs ++ [fil0]).set fs.length ⟨part, 0⟩, [⟨logN, n⟩], [.lay tmpN fs.length], -1, false, c + 2⟩, 0) := by
    have ht : total ⟨4194304, fs ++ [fil0], [⟨logN, n⟩], [.lay tmpN fs.length], -1, false, c + 1⟩ = b.length := by
      unfold total
      rw [live_2]
      show ((fs ++ [fil0]).getD n fil0).b.length + (((fs ++ [fil0]).getD fs.length fil0).b.length + 0) = _
      rw [hm, hn2]
      rfl
    rw [change_is (by unfold whyNot; rw [ht, live_2, if_neg (by decide), if_neg (fun h => absurd h.1 (by decide)), if_neg (fun h => absurd h.1 (by decide)), if_neg (fun h => by cases h.2.2), if_neg (by show ¬ (_ ∧ 4194304 < b.length + part.length); omega)]) rfl rfl]
    show ((⟨4194304, (fs ++ [fil0]).set fs.length ⟨((fs ++ [fil0]).getD fs.length fil0).b ++ part, ((fs ++ [fil0]).getD fs.length fil0).sure⟩, [⟨logN, n⟩], [.lay tmpN fs.length], -1, false, c + 2⟩ : Dsk), (0 : Int)) = _
    rw [hm]
    rfl
  have hg : ((fs ++ [fil0]).set fs.length ⟨part, 0⟩).getD fs.length fil0 = ⟨part, 0⟩ := by rw [fget_set, if_pos ⟨rfl, by simp⟩]
  have h3 : change ⟨4194304, (fs ++ [fil0]).set fs.length ⟨part, 0⟩, [⟨logN, n⟩], [.lay tmpN fs.length], -1, false, c + 2⟩ 5 tmpN [] [] = (⟨4194304, ((fs ++ [fil0]).set fs.length ⟨part, 0⟩).set fs.length ⟨part, part.length⟩, [⟨logN, n⟩], [.lay tmpN fs.length], -1, false, c + 3⟩, 0) := by
    rw [change_is rfl rfl rfl]
    show ((⟨4194304, ((fs ++ [fil0]).set fs.length ⟨part, 0⟩).set fs.length ⟨(((fs ++ [fil0]).set fs.length ⟨part, 0⟩).getD fs.length fil0).b, (((fs ++ [fil0]).set fs.length ⟨part, 0⟩).getD fs.length fil0).b.length⟩, [⟨logN, n⟩], [.lay tmpN fs.length], -1, false, c + 3⟩ : Dsk), (0 : Int)) = _
    rw [hg]
  have h4 : change ⟨4194304, ((fs ++ [fil0]).set fs.length ⟨part, 0⟩).set fs.length ⟨part, part.length⟩, [⟨logN, n⟩], [.lay tmpN fs.length], -1, false, c + 3⟩ 3 tmpN logN [] = (⟨4194304, ((fs ++ [fil0]).set fs.length ⟨part, 0⟩).set fs.length ⟨part, part.length⟩, [⟨logN, n⟩], [.lay tmpN fs.length, .move tmpN logN], -1, false, c + 4⟩, 0) := by
    rw [change_is rfl rfl rfl]
    rfl
  have h5 : change ⟨4194304, ((fs ++ [fil0]).set fs.length ⟨part, 0⟩).set fs.length ⟨part, part.length⟩, [⟨logN, n⟩], [.lay tmpN fs.length, .move tmpN logN], -1, false, c + 4⟩ 6 [] [] [] = (⟨4194304, ((fs ++ [fil0]).set fs.length ⟨part, 0⟩).set fs.length ⟨part, part.length⟩, [⟨logN, fs.length⟩], [], -1, false, c + 5⟩, 0) := by
    rw [change_is rfl rfl rfl]
    rfl
  refine ⟨((fs ++ [fil0]).set fs.length ⟨part, 0⟩).set fs.length ⟨part, part.length⟩, ?_, ?_, ?_⟩
  · unfold mendD
    rw [h0, if_pos rfl]
    unfold mendC
    simp only [runC, chg, h1, h2, h3, h4, h5, if_true]
  · rw [fget_set, if_pos ⟨rfl, by simp⟩]
  · simp
/-- A log that is opened, the power there: it is as long as its whole part, and the power is there. -/
theorem LogAt.opened {d : Dsk} {b : List UInt8} {s : Nat} (h : LogAt d b s) (hu : PowerOn d) (hb : b.length ≤ 2000000) {p : Nat} (hp : p ≤ b.length) :
    (openD d logN p).2 = 0 ∧ PowerOn (openD d logN p).1 ∧ ∃ s', LogAt (openD d logN p).1 (b.take p) s' ∧ (p < b.length → s' = p) ∧ (p = b.length → s' = s) := by
  have hrd := h.read hu.1
  unfold openD
  rw [hrd, if_neg (by decide), if_neg (by simp), if_neg (by simp)]
  by_cases hlt : p < b.length
  · rw [if_pos hlt]
    obtain ⟨⟨n, hbs, hf, hn⟩, hw, hr⟩ := h
    obtain ⟨hu1, hu2⟩ := hu
    obtain ⟨room, fs, base, wait, left, dark, c⟩ := d
    simp only at hbs hf hn hw hr hu1 hu2
    subst hbs hw hr hu1 hu2
    obtain ⟨F, e, hF, hl⟩ := mend_log (c := c) hn hf (show b.length + (b.take p).length ≤ 4194304 by rw [List.length_take]; omega)
    show (mendD _ _ (b.take p)).2 = 0 ∧ _
    rw [e]
    exact ⟨rfl, ⟨rfl, rfl⟩, p, ⟨⟨fs.length, rfl, by rw [hF, List.length_take]; congr 1; omega, hl⟩, rfl, rfl⟩, fun _ => rfl, fun e => by omega⟩
  · rw [if_neg hlt]
    have e : p = b.length := by omega
    subst e
    rw [List.take_length]
    exact ⟨rfl, hu, s, h, fun h => by omega, fun _ => rfl⟩
theorem new_opened : (openD (newD 4194304) logN 0).2 = 0 ∧ PowerOn (openD (newD 4194304) logN 0).1 ∧ LogAt (openD (newD 4194304) logN 0).1 [] 0 := by
  have h1 : change (newD 4194304) 1 logN [] [] = (⟨4194304, [fil0], [], [.lay logN 0], -1, false, 1⟩, 0) := by
    rw [change_is rfl rfl rfl]
    rfl
  have h2 : change ⟨4194304, [fil0], [], [.lay logN 0], -1, false, 1⟩ 6 [] [] [] = (⟨4194304, [fil0], [⟨logN, 0⟩], [], -1, false, 2⟩, 0) := by
    rw [change_is rfl rfl rfl]
    rfl
  have e : openD (newD 4194304) logN 0 = (⟨4194304, [fil0], [⟨logN, 0⟩], [], -1, false, 2⟩, 0) := by
    unfold openD
    rw [if_neg (by decide), if_pos (show (readD (newD 4194304) logN).2 = 9 from rfl)]
    unfold beginC
    simp only [runC, chg, h1, h2, if_true]
  rw [e]
  exact ⟨rfl, ⟨rfl, rfl⟩, ⟨⟨0, rfl, rfl, by decide⟩, rfl, rfl⟩⟩
end Go.Proofs.YtmgolnlkepiocaaGreat
