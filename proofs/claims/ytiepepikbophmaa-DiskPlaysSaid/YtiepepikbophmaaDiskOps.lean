/- A disk as the document says it: its changes, what is read, what a crash leaves; and what follows of them alone: what lasts, which directories may be there, what is refused, the power gone. No program in this text. -/
import Derived.Test.YtiepepikbophmaaDiskModel
namespace Go.Proofs.Ytiepepikbophmaa
set_option linter.unusedVariables false

/-- An entry that waits. -/
inductive Stp where
  | lay (name : List UInt8) (file : Nat)
  | move (name : List UInt8) (to : List UInt8)
  | take (name : List UInt8)
def stepDir (l : List Ent) : Stp → List Ent
  | .lay n f => put l ⟨n, f⟩
  | .move n t => put (lacking l n) ⟨t, (whose l n).getD 0⟩
  | .take n => lacking l n
def dirOf (base : List Ent) (w : List Stp) : List Ent := w.foldl stepDir base
theorem dirOf_nil (base : List Ent) : dirOf base [] = base := rfl
theorem dirOf_snoc (base : List Ent) (w : List Stp) (s : Stp) : dirOf base (w ++ [s]) = stepDir (dirOf base w) s := by simp [dirOf]
theorem step_rises {l : List Ent} (h : Rises l) (s : Stp) : Rises (stepDir l s) := by
  cases s with
  | lay n f => exact put_rises _ h
  | move n t => exact put_rises _ (lacking_rises h n)
  | take n => exact lacking_rises h n
theorem dirOf_rises : ∀ (w : List Stp) (base : List Ent), Rises base → Rises (dirOf base w) := by
  intro w
  induction w with
  | nil => intro base h; exact h
  | cons s r ih => intro base h; exact ih _ (step_rises h s)

structure Fil where
  b : List UInt8
  sure : Nat
structure Dsk where
  room : Nat
  files : List Fil
  base : List Ent
  wait : List Stp
  left : Int
  dark : Bool
  count : Nat
def fil0 : Fil := ⟨[], 0⟩
def live (d : Dsk) : List Ent := dirOf d.base d.wait
def bytesAt (d : Dsk) (x : Ent) : Nat := (d.files.getD x.file fil0).b.length
def total (d : Dsk) : Nat := ((live d).map (bytesAt d)).sum
def nameByte (c : UInt8) : Bool := (decide (97 ≤ c.toNat) && decide (c.toNat ≤ 122)) || (decide (48 ≤ c.toNat) && decide (c.toNat ≤ 57)) || decide (c.toNat = 46) || decide (c.toNat = 45)
def namedB (s : List UInt8) : Bool := s.all nameByte && !s.isEmpty && decide (s.length ≤ 24)
def newD (room : Nat) : Dsk := ⟨room, [], [], [], -1, false, 0⟩
/-- May a change be done? It counts, if so. -/
def power (d : Dsk) : Dsk × Int :=
  if d.dark = true ∨ d.left = 0 then ({ d with dark := true }, 6)
  else ({ d with left := if 0 < d.left then d.left - 1 else d.left, count := d.count + 1 }, 0)
def applyD (d : Dsk) (kind : Int) (name to b : List UInt8) : Dsk :=
  let n := (whose (live d) name).getD 0
  let f := d.files.getD n fil0
  if kind = 1 then { d with wait := d.wait ++ [.lay name d.files.length], files := d.files ++ [fil0] }
  else if kind = 2 then { d with files := d.files.set n ⟨f.b ++ b, f.sure⟩ }
  else if kind = 3 then { d with wait := d.wait ++ [.move name to] }
  else if kind = 4 then { d with wait := d.wait ++ [.take name] }
  else if kind = 5 then { d with files := d.files.set n ⟨f.b, f.b.length⟩ }
  else { d with base := live d, wait := [] }
/-- Why a change is refused, the power aside; 0: it isn't. -/
def whyNot (d : Dsk) (kind : Int) (name to b : List UInt8) : Int :=
  if (kind ≠ 6 ∧ namedB name = false) ∨ (kind = 3 ∧ namedB to = false) then 8
  else if kind = 1 ∧ (whose (live d) name).isSome then 10
  else if kind = 1 ∧ 64 ≤ (live d).length then 7
  else if 1 < kind ∧ kind < 6 ∧ whose (live d) name = none then 9
  else if kind = 2 ∧ d.room < total d + b.length then 7
  else 0
def change (d : Dsk) (kind : Int) (name to b : List UInt8) : Dsk × Int :=
  if whyNot d kind name to b ≠ 0 then (d, whyNot d kind name to b)
  else if (power d).2 ≠ 0 then power d
  else (applyD (power d).1 kind name to b, 0)
def readD (d : Dsk) (name : List UInt8) : List UInt8 × Int :=
  if namedB name = false then ([], 8)
  else match whose (live d) name with
    | none => ([], 9)
    | some n => if d.dark then ([], 6) else ((d.files.getD n fil0).b, 0)
def listD (d : Dsk) : List (List UInt8) := if d.dark then [] else (live d).map Ent.name
def fuseD (d : Dsk) (n : Int) : Dsk := { d with left := max n (-1) }
/-- A number of 64 bits without a sign, modulo another one. -/
def modU (k : Int) (n : Nat) : Nat := (k % 18446744073709551616).toNat % n
def crashOne (f : Fil) (k : Nat) : Fil := ⟨f.b.take (f.sure + k), f.sure + k⟩
def keptOf (ks : List Int) (f : Fil) : Nat := match ks with
  | [] => 0
  | k :: _ => modU k (f.b.length - f.sure + 1)
def crashFiles : List Fil → List Ent → List Int → List Fil
  | fs, [], _ => fs
  | fs, x :: r, ks => crashFiles (fs.set x.file (crashOne (fs.getD x.file fil0) (keptOf ks (fs.getD x.file fil0)))) r (ks.drop 1)
def crashDir (d : Dsk) (dirs : Int) : List Ent := dirOf d.base (d.wait.take (modU dirs (d.wait.length + 1)))
def crashD (d : Dsk) (dirs : Int) (kept : List Int) : Dsk := ⟨d.room, crashFiles d.files (crashDir d dirs) kept, crashDir d dirs, [], -1, false, d.count⟩

/-! ### What a crash leaves of a file: a beginning, not shorter than what was sure -/
def SureOk (fs : List Fil) : Prop := ∀ n, (fs.getD n fil0).sure ≤ (fs.getD n fil0).b.length
theorem fget_set (fs : List Fil) (i n : Nat) (f : Fil) : (fs.set i f).getD n fil0 = if i = n ∧ n < fs.length then f else fs.getD n fil0 := by
  simp only [List.getD, List.getElem?_set]
  by_cases h : i = n
  · subst h
    by_cases hl : i < fs.length
    · simp [hl]
    · simp [hl]
  · simp [h]
theorem keptOf_le (ks : List Int) (f : Fil) (h : f.sure ≤ f.b.length) : f.sure + keptOf ks f ≤ f.b.length := by
  unfold keptOf
  cases ks with
  | nil => simpa using h
  | cons k r =>
    have := Nat.mod_lt (k % 18446744073709551616).toNat (show 0 < f.b.length - f.sure + 1 by omega)
    show f.sure + (k % 18446744073709551616).toNat % (f.b.length - f.sure + 1) ≤ f.b.length
    omega
theorem crashOne_ok (ks : List Int) (f : Fil) (h : f.sure ≤ f.b.length) : (crashOne f (keptOf ks f)).sure ≤ (crashOne f (keptOf ks f)).b.length ∧ (crashOne f (keptOf ks f)).b.length = f.sure + keptOf ks f := by
  have := keptOf_le ks f h
  unfold crashOne
  simp only [List.length_take]
  omega
theorem crash_file : ∀ (l : List Ent) (fs : List Fil) (ks : List Int) (n : Nat), SureOk fs →
    ∃ m, (fs.getD n fil0).sure ≤ m ∧ m ≤ (fs.getD n fil0).b.length ∧ ((crashFiles fs l ks).getD n fil0).b = (fs.getD n fil0).b.take m ∧ SureOk (crashFiles fs l ks) ∧ (crashFiles fs l ks).length = fs.length := by
  intro l
  induction l with
  | nil => intro fs ks n h; exact ⟨_, h n, Nat.le_refl _, by rw [List.take_length]; rfl, h, rfl⟩
  | cons x r ih =>
    intro fs ks n h
    obtain ⟨o1, o2⟩ := crashOne_ok ks _ (h x.file)
    have hk := keptOf_le ks _ (h x.file)
    have hok : SureOk (fs.set x.file (crashOne (fs.getD x.file fil0) (keptOf ks (fs.getD x.file fil0)))) := by
      intro j
      rw [fget_set]
      split
      · exact o1
      · exact h j
    obtain ⟨m, m1, m2, m3, m4, m5⟩ := ih _ (ks.drop 1) n hok
    rw [fget_set] at m1 m2 m3
    unfold crashFiles
    by_cases hx : x.file = n ∧ n < fs.length
    · rw [if_pos hx] at m1 m2 m3
      obtain ⟨rfl, hl⟩ := hx
      rw [o2] at m2
      have hm : m = (fs.getD x.file fil0).sure + keptOf ks (fs.getD x.file fil0) := by
        have : (crashOne (fs.getD x.file fil0) (keptOf ks (fs.getD x.file fil0))).sure = (fs.getD x.file fil0).sure + keptOf ks (fs.getD x.file fil0) := rfl
        omega
      refine ⟨m, by omega, by omega, ?_, m4, by rw [m5, List.length_set]⟩
      rw [m3]
      show ((fs.getD x.file fil0).b.take _).take m = _
      rw [← hm, List.take_take, Nat.min_self]
    · rw [if_neg hx] at m1 m2 m3
      exact ⟨m, m1, m2, m3, m4, by rw [m5, List.length_set]⟩

/-! ### Changes -/
theorem power_ok {d : Dsk} (h : (power d).2 = 0) : d.dark = false ∧ d.left ≠ 0 ∧ (power d).1.dark = false ∧ (power d).1.count = d.count + 1 ∧ (power d).1.files = d.files ∧ (power d).1.base = d.base ∧ (power d).1.wait = d.wait ∧ (power d).1.room = d.room := by
  unfold power at h ⊢
  by_cases hc : d.dark = true ∨ d.left = 0
  · rw [if_pos hc] at h
    cases h
  · rw [if_neg hc]
    have hd : d.dark = false := by
      cases hd : d.dark
      · rfl
      · exact absurd (.inl hd) hc
    exact ⟨hd, fun e => hc (.inr e), hd, rfl, rfl, rfl, rfl, rfl⟩
theorem power_no {d : Dsk} (h : (power d).2 ≠ 0) : power d = ({ d with dark := true }, 6) := by
  unfold power at h ⊢
  by_cases hc : d.dark = true ∨ d.left = 0
  · rw [if_pos hc]
  · rw [if_neg hc] at h
    exact absurd rfl h
theorem applyD_keeps (d : Dsk) (kind : Int) (name to b : List UInt8) : (applyD d kind name to b).dark = d.dark ∧ (applyD d kind name to b).count = d.count ∧ (applyD d kind name to b).left = d.left ∧ (applyD d kind name to b).room = d.room := by
  unfold applyD
  dsimp only
  split
  · exact ⟨rfl, rfl, rfl, rfl⟩
  · split
    · exact ⟨rfl, rfl, rfl, rfl⟩
    · split
      · exact ⟨rfl, rfl, rfl, rfl⟩
      · split
        · exact ⟨rfl, rfl, rfl, rfl⟩
        · split <;> exact ⟨rfl, rfl, rfl, rfl⟩
/-- A change that is refused changes nothing, but that the power may be gone. -/
theorem refused {d : Dsk} {kind : Int} {name to b : List UInt8} (h : (change d kind name to b).2 ≠ 0) :
    ((change d kind name to b).2 = 6 ∧ (change d kind name to b).1 = { d with dark := true }) ∨ ((change d kind name to b).2 ≠ 6 ∧ (change d kind name to b).1 = d) := by
  unfold change at h ⊢
  by_cases h1 : whyNot d kind name to b ≠ 0
  · rw [if_pos h1]
    refine .inr ⟨?_, rfl⟩
    show whyNot d kind name to b ≠ 6
    unfold whyNot
    repeat' split
    all_goals decide
  · rw [if_neg h1] at h ⊢
    by_cases h2 : (power d).2 ≠ 0
    · rw [if_pos h2, power_no h2]
      exact .inl ⟨rfl, rfl⟩
    · rw [if_neg h2] at h
      exact absurd rfl h
theorem done_one {d : Dsk} {kind : Int} {name to b : List UInt8} (h : (change d kind name to b).2 = 0) :
    whyNot d kind name to b = 0 ∧ (power d).2 = 0 ∧ (change d kind name to b).1 = applyD (power d).1 kind name to b ∧ (change d kind name to b).1.count = d.count + 1 ∧ (change d kind name to b).1.dark = false := by
  unfold change at h ⊢
  by_cases h1 : whyNot d kind name to b ≠ 0
  · rw [if_pos h1] at h
    exact absurd h h1
  · rw [if_neg h1] at h ⊢
    by_cases h2 : (power d).2 ≠ 0
    · rw [if_pos h2] at h
      exact absurd h h2
    · rw [if_neg h2]
      have h2' : (power d).2 = 0 := Decidable.not_not.1 h2
      obtain ⟨p1, p2, p3, p4, p5⟩ := power_ok h2'
      obtain ⟨k1, k2, k3⟩ := applyD_keeps (power d).1 kind name to b
      exact ⟨Decidable.not_not.1 h1, h2', rfl, by rw [k2, p4], by rw [k1, p3]⟩
/-- With the power gone nothing is done. -/
theorem dark_change {d : Dsk} (hd : d.dark = true) (kind : Int) (name to b : List UInt8) : (change d kind name to b).2 ≠ 0 ∧ (change d kind name to b).1 = d := by
  have hp : power d = (d, 6) := by
    unfold power
    rw [if_pos (.inl hd)]
    cases d
    simp_all
  by_cases h0 : (change d kind name to b).2 = 0
  · have := (done_one h0).2.1
    rw [hp] at this
    cases this
  · refine ⟨h0, ?_⟩
    rcases refused h0 with ⟨_, e⟩ | ⟨_, e⟩
    · rw [e]
      cases d
      simp_all
    · exact e
theorem dark_read {d : Dsk} (hd : d.dark = true) (name : List UInt8) : (readD d name).2 ≠ 0 ∧ (readD d name).1 = [] := by
  unfold readD
  split
  · exact ⟨by decide, rfl⟩
  · split
    · exact ⟨by decide, rfl⟩
    · first | exact ⟨by decide, rfl⟩ | (rw [if_pos hd]; exact ⟨by decide, rfl⟩)
theorem dark_list {d : Dsk} (hd : d.dark = true) : listD d = [] := by
  unfold listD
  rw [if_pos hd]

/-! ### Which directories may be there -/
/-- Each directory that a crash may leave is among those. -/
def Seen (d : Dsk) (were : List (List (List UInt8))) : Prop := ∀ k, k ≤ d.wait.length → (dirOf d.base (d.wait.take k)).map Ent.name ∈ were
theorem seen_start {d : Dsk} (h : d.wait = []) : Seen d [(live d).map Ent.name] := by
  intro k hk
  unfold live
  rw [h]
  simp
theorem seen_snoc {d d' : Dsk} {were : List (List (List UInt8))} {s : Stp} (h : Seen d were) (hb : d'.base = d.base) (hw : d'.wait = d.wait ++ [s]) : Seen d' (were ++ [(live d').map Ent.name]) := by
  intro k hk
  rw [hw, List.length_append, List.length_singleton] at hk
  rw [hb, hw]
  by_cases hk2 : k ≤ d.wait.length
  · rw [List.take_append_of_le_length hk2]
    exact List.mem_append_left _ (h k hk2)
  · have : k = (d.wait ++ [s]).length := by rw [List.length_append, List.length_singleton]; omega
    rw [this, List.take_length]
    refine List.mem_append_right _ ?_
    unfold live
    rw [hb, hw]
    simp
theorem seen_same {d d' : Dsk} {were : List (List (List UInt8))} (h : Seen d were) (hb : d'.base = d.base) (hw : d'.wait = d.wait) (x : List (List UInt8)) : Seen d' (were ++ [x]) := by
  intro k hk
  rw [hw] at hk
  rw [hb, hw]
  exact List.mem_append_left _ (h k hk)
theorem seen_crash {d : Dsk} {were : List (List (List UInt8))} (h : Seen d were) (dirs : Int) (kept : List Int) : listD (crashD d dirs kept) ∈ were := by
  have hm : modU dirs (d.wait.length + 1) ≤ d.wait.length := Nat.le_of_lt_succ (Nat.mod_lt _ (Nat.succ_pos _))
  exact h _ hm
/-- A change of kind 1 to 5, the power there: at most one entry more waits, and the directory of the last sync stands. -/
theorem change_seen {d : Dsk} {were : List (List (List UInt8))} {kind : Int} {name to b : List UInt8} (h : Seen d were) (hd : d.dark = false) (hl : d.left < 0) (h1 : 1 ≤ kind) (h5 : kind ≤ 5) :
    Seen (change d kind name to b).1 (were ++ [listD (change d kind name to b).1]) ∧ (change d kind name to b).1.dark = false ∧ (change d kind name to b).1.left < 0 := by
  by_cases h0 : (change d kind name to b).2 = 0
  · obtain ⟨_, hp, e, _, ed⟩ := done_one h0
    obtain ⟨_, _, _, _, p5, p6, p7, p8⟩ := power_ok hp
    have hleft : (power d).1.left < 0 := by
      unfold power
      rw [if_neg (by rw [hd]; simp; omega)]
      show (if 0 < d.left then d.left - 1 else d.left) < 0
      rw [if_neg (by omega)]
      exact hl
    have hlist : listD (change d kind name to b).1 = (live (change d kind name to b).1).map Ent.name := by
      unfold listD
      rw [ed]
      rfl
    refine ⟨?_, ed, ?_⟩
    · rw [hlist]
      rw [e]
      unfold applyD
      dsimp only
      by_cases k1 : kind = 1
      · rw [if_pos k1]
        exact seen_snoc h p6 (by show (power d).1.wait ++ _ = _; rw [p7])
      · rw [if_neg k1]
        by_cases k2 : kind = 2
        · rw [if_pos k2]
          exact seen_same h p6 p7 _
        · rw [if_neg k2]
          by_cases k3 : kind = 3
          · rw [if_pos k3]
            exact seen_snoc h p6 (by show (power d).1.wait ++ _ = _; rw [p7])
          · rw [if_neg k3]
            by_cases k4 : kind = 4
            · rw [if_pos k4]
              exact seen_snoc h p6 (by show (power d).1.wait ++ _ = _; rw [p7])
            · rw [if_neg k4, if_pos (by omega)]
              exact seen_same h p6 p7 _
    · rw [e, (applyD_keeps _ _ _ _ _).2.2.1]
      exact hleft
  · rcases refused h0 with ⟨e6, _⟩ | ⟨_, e⟩
    · exfalso
      unfold change at e6
      by_cases w1 : whyNot d kind name to b ≠ 0
      · rw [if_pos w1] at e6
        have : whyNot d kind name to b ≠ 6 := by
          unfold whyNot
          repeat' split
          all_goals decide
        exact this e6
      · rw [if_neg w1] at e6
        have hpz : (power d).2 = 0 := by
          unfold power
          rw [if_neg (by rw [hd]; simp; omega)]
        rw [if_neg (by simpa using hpz)] at e6
        cases e6
    · rw [e]
      exact ⟨seen_same h rfl rfl _, hd, hl⟩

/-! ### What lasts -/
theorem live_power (d : Dsk) : live (power d).1 = live d := by
  unfold power live
  split <;> rfl
theorem named_of {d : Dsk} {kind : Int} {name to b : List UInt8} (h : whyNot d kind name to b = 0) (h6 : kind ≠ 6) : namedB name = true := by
  cases hn : namedB name
  · exfalso
    unfold whyNot at h
    rw [if_pos (.inl ⟨h6, hn⟩)] at h
    cases h
  · rfl
theorem there_of {d : Dsk} {kind : Int} {name to b : List UInt8} (h : whyNot d kind name to b = 0) (h1 : 1 < kind) (h6 : kind < 6) : ∃ n, whose (live d) name = some n := by
  cases hw : whose (live d) name with
  | some n => exact ⟨n, rfl⟩
  | none =>
    exfalso
    unfold whyNot at h
    rw [hw] at h
    split at h
    · cases h
    · split at h
      · cases h
      · split at h
        · cases h
        · rw [if_pos ⟨h1, h6, rfl⟩] at h
          cases h
theorem read_there {d : Dsk} {name : List UInt8} {n : Nat} (hn : namedB name = true) (hw : whose (live d) name = some n) (hd : d.dark = false) : readD d name = ((d.files.getD n fil0).b, 0) := by
  unfold readD
  rw [hn, hw, hd]
  rfl
theorem set_sure (fs : List Fil) (n : Nat) : (fs.set n ⟨(fs.getD n fil0).b, (fs.getD n fil0).b.length⟩).getD n fil0 = ⟨(fs.getD n fil0).b, (fs.getD n fil0).b.length⟩ := by
  rw [fget_set]
  split
  · rfl
  · rename_i h
    have : fs.getD n fil0 = fil0 := by
      have hl : ¬ n < fs.length := fun hl => h ⟨rfl, hl⟩
      simp [List.getD, List.getElem?_eq_none (Nat.not_lt.1 hl)]
    rw [this]
    rfl
theorem set_more (fs : List Fil) (n : Nat) (b : List UInt8) : ∃ t, (fs.set n ⟨(fs.getD n fil0).b ++ b, (fs.getD n fil0).sure⟩).getD n fil0 = ⟨(fs.getD n fil0).b ++ t, (fs.getD n fil0).sure⟩ := by
  rw [fget_set]
  split
  · exact ⟨b, rfl⟩
  · exact ⟨[], by rw [List.append_nil]⟩
theorem sureOk_sync {fs : List Fil} (h : SureOk fs) (n : Nat) : SureOk (fs.set n ⟨(fs.getD n fil0).b, (fs.getD n fil0).b.length⟩) := by
  intro j
  rw [fget_set]
  split
  · exact Nat.le_refl _
  · exact h j
theorem sureOk_more {fs : List Fil} (h : SureOk fs) (n : Nat) (b : List UInt8) : SureOk (fs.set n ⟨(fs.getD n fil0).b ++ b, (fs.getD n fil0).sure⟩) := by
  intro j
  rw [fget_set]
  split
  · have := h n
    show (fs.getD n fil0).sure ≤ ((fs.getD n fil0).b ++ b).length
    rw [List.length_append]
    omega
  · exact h j
theorem sureOk_new {fs : List Fil} (h : SureOk fs) : SureOk (fs ++ [fil0]) := by
  intro j
  by_cases hj : j < fs.length
  · have e : (fs ++ [fil0]).getD j fil0 = fs.getD j fil0 := by simp [List.getD, List.getElem?_append_left hj]
    rw [e]
    exact h j
  · have e : (fs ++ [fil0]).getD j fil0 = fil0 := by
      by_cases hj2 : j = fs.length
      · subst hj2
        simp [List.getD]
      · have : (fs ++ [fil0])[j]? = none := List.getElem?_eq_none (by simp; omega)
        simp [List.getD, this]
    rw [e]
    exact Nat.le_refl _
/-- What is sure in every file is a beginning: kept by every change. -/
theorem sureOk_change {d : Dsk} (h : SureOk d.files) (kind : Int) (name to b : List UInt8) : SureOk (change d kind name to b).1.files := by
  by_cases h0 : (change d kind name to b).2 = 0
  · obtain ⟨_, hp, e, _, _⟩ := done_one h0
    obtain ⟨_, _, _, _, p5, _⟩ := power_ok hp
    rw [← p5] at h
    rw [e]
    unfold applyD
    dsimp only
    split
    · exact sureOk_new h
    · split
      · exact sureOk_more h _ _
      · split
        · exact h
        · split
          · exact h
          · split
            · exact sureOk_sync h _
            · exact h
  · rcases refused h0 with ⟨_, e⟩ | ⟨_, e⟩
    · rw [e]
      exact h
    · rw [e]
      exact h
/-- What is sure in a file whose name does not wait is there behind any crash, and what is there is a beginning of what was. -/
theorem lasts {d : Dsk} (hs : SureOk d.files) (name : List UInt8) (h5 : (change d 5 name [] []).2 = 0) (h6 : (change (change d 5 name [] []).1 6 [] [] []).2 = 0) :
    ∃ B, readD (change (change d 5 name [] []).1 6 [] [] []).1 name = (B, 0) ∧
      ∀ b, (change (change (change d 5 name [] []).1 6 [] [] []).1 2 name [] b).2 = 0 → ∃ t, readD (change (change (change d 5 name [] []).1 6 [] [] []).1 2 name [] b).1 name = (B ++ t, 0) ∧
        ∀ dirs kept, ∃ m, B.length ≤ m ∧ readD (crashD (change (change (change d 5 name [] []).1 6 [] [] []).1 2 name [] b).1 dirs kept) name = ((B ++ t).take m, 0) := by
  obtain ⟨w5, p5, e5, _, k5⟩ := done_one h5
  have hn := named_of w5 (by decide)
  obtain ⟨n, hw⟩ := there_of w5 (by decide) (by decide)
  obtain ⟨_, _, _, _, f5, b5, t5, _⟩ := power_ok p5
  have hs1 := sureOk_change hs 5 name [] []
  generalize hD1 : (change d 5 name [] []).1 = D1 at *
  have hl1 : live D1 = live d := by
    rw [e5]
    show dirOf (power d).1.base (power d).1.wait = _
    rw [b5, t5]
    rfl
  have hf1 : D1.files.getD n fil0 = ⟨(d.files.getD n fil0).b, (d.files.getD n fil0).b.length⟩ := by
    have hn0 : (whose (live (power d).1) name).getD 0 = n := by rw [live_power, hw]; rfl
    rw [e5]
    show ((power d).1.files.set ((whose (live (power d).1) name).getD 0) _).getD n fil0 = _
    rw [hn0, f5]
    exact set_sure _ _
  obtain ⟨w6, p6, e6, _, k6⟩ := done_one h6
  obtain ⟨_, _, _, _, f6, b6, t6, _⟩ := power_ok p6
  generalize hD2 : (change D1 6 [] [] []).1 = D2 at *
  have hb2 : D2.base = live d := by
    rw [e6]
    show live (power D1).1 = _
    rw [live_power, hl1]
  have ht2 : D2.wait = [] := by rw [e6]; rfl
  have hf2 : D2.files = D1.files := by rw [e6]; exact f6
  have hl2 : live D2 = live d := by unfold live; rw [hb2, ht2]; rfl
  have hs2 : SureOk D2.files := by rw [hf2]; exact hs1
  have hw2 : whose (live D2) name = some n := by rw [hl2]; exact hw
  refine ⟨(d.files.getD n fil0).b, ?_, fun b h2 => ?_⟩
  · rw [read_there hn hw2 k6, hf2, hf1]
  · obtain ⟨w3, p3, e3, _, k3⟩ := done_one h2
    obtain ⟨_, _, _, _, f3, b3, t3, _⟩ := power_ok p3
    have hs3 := sureOk_change hs2 2 name [] b
    generalize hD3 : (change D2 2 name [] b).1 = D3 at *
    have hb3 : D3.base = live d := by rw [e3]; show (power D2).1.base = _; rw [b3, hb2]
    have ht3 : D3.wait = [] := by rw [e3]; show (power D2).1.wait = _; rw [t3, ht2]
    have hl3 : live D3 = live d := by unfold live; rw [hb3, ht3]; rfl
    have hw3 : whose (live D3) name = some n := by rw [hl3]; exact hw
    obtain ⟨t, ht⟩ := set_more D2.files n b
    have hf3 : D3.files.getD n fil0 = ⟨(d.files.getD n fil0).b ++ t, (d.files.getD n fil0).b.length⟩ := by
      have hn0 : (whose (live (power D2).1) name).getD 0 = n := by rw [live_power, hw2]; rfl
      rw [e3]
      show ((power D2).1.files.set ((whose (live (power D2).1) name).getD 0) ⟨((power D2).1.files.getD ((whose (live (power D2).1) name).getD 0) fil0).b ++ b, _⟩).getD n fil0 = _
      rw [hn0, f3, ht, hf2, hf1]
    refine ⟨t, by rw [read_there hn hw3 k3, hf3], fun dirs kept => ?_⟩
    obtain ⟨m, m1, _, m3, _, _⟩ := crash_file (crashDir D3 dirs) D3.files kept n hs3
    rw [hf3] at m1 m3
    refine ⟨m, m1, ?_⟩
    have hcd : crashDir D3 dirs = live d := by
      unfold crashDir
      rw [ht3, hb3]
      simp [dirOf]
    have hwc : whose (live (crashD D3 dirs kept)) name = some n := by
      show whose (dirOf (crashDir D3 dirs) []) name = some n
      rw [dirOf_nil, hcd]
      exact hw
    rw [read_there hn hwc rfl]
    show (((crashFiles D3.files (crashDir D3 dirs) kept).getD n fil0).b, (0 : Int)) = _
    rw [m3]
end Go.Proofs.Ytiepepikbophmaa
