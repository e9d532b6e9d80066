/- Plain mathematics of layer 10: an index read out of bytes as the program reads it (a text's size is not looked at). No program in sight. -/
import Derived.Test.YtojlcipphnegaaaGreatIxLotC
namespace Go.Proofs.YtojlcipphnegaaaGreat
set_option linter.unusedVariables false

section
variable (G : Nat → Nat → Nat → Nat → Prop) (X : Nat → ByteArray → Nat → Nat → Prop)
/-- So many texts. -/
inductive TsP : Nat → Nat → Option (List ByteArray × Nat) → Prop
  | done (a : Nat) : TsP 0 a (some ([], a))
  | bad (n a : Nat) (s : ByteArray) (k e : Nat) (h : X a s k e) (he : e ≠ 0) : TsP (n + 1) a none
  | no (n a : Nat) (s : ByteArray) (k : Nat) (h : X a s k 0) (r : TsP n k none) : TsP (n + 1) a none
  | more (n a : Nat) (s : ByteArray) (k : Nat) (ts : List ByteArray) (p : Nat) (h : X a s k 0) (r : TsP n k (some (ts, p))) : TsP (n + 1) a (some (s :: ts, p))
/-- All texts. -/
def TxP (o : Option (List ByteArray × Nat)) : Prop := ∃ n k e, G 0 n k e ∧ (((e ≠ 0 ∨ 4096 < n) ∧ o = none) ∨ (e = 0 ∧ n ≤ 4096 ∧ TsP X n k o))
/-- One set. -/
def StP (t : List ByteArray) (a : Nat) (o : Option (List Lbl × Nat)) : Prop := ∃ m k e, G a m k e ∧ (((e ≠ 0 ∨ 8 < m) ∧ o = none) ∨ (e = 0 ∧ m ≤ 8 ∧ LsO G t m k o))
/-- So many sets. -/
inductive SsP (t : List ByteArray) : Nat → Nat → Option (List (List Lbl)) → Prop
  | done (a : Nat) : SsP t 0 a (some [])
  | bad (n a : Nat) (h : StP G t a none) : SsP t (n + 1) a none
  | more (n a : Nat) (l : List Lbl) (j : Nat) (r : Option (List (List Lbl))) (h : StP G t a (some (l, j))) (h2 : SsP t n j r) : SsP t (n + 1) a (r.map (l :: ·))
/-- All sets. -/
def IxP (o : Option (List (List Lbl))) : Prop := (TxP G X none ∧ o = none) ∨ ∃ t a, TxP G X (some (t, a)) ∧ ∃ m j e, G a m j e ∧ (((e ≠ 0 ∨ 256 < m) ∧ o = none) ∨ (e = 0 ∧ m ≤ 256 ∧ SsP G t m j o))
variable {G X}
def glue {α : Type} (x : List α) (r : Option (List α × Nat)) : Option (List α × Nat) := r.map fun p => (x ++ p.1, p.2)
theorem glue_none {α : Type} (x : List α) : glue x none = none := rfl
theorem glue_some {α : Type} (x y : List α) (p : Nat) : glue x (some (y, p)) = some (x ++ y, p) := rfl
theorem glue_glue {α : Type} (x : List α) (y : α) (r : Option (List α × Nat)) : glue x (glue [y] r) = glue (x ++ [y]) r := by
  cases r with
  | none => rfl
  | some p => simp [glue]
theorem tsP_end {a : Nat} {r : Option (List ByteArray × Nat)} (h : TsP X 0 a r) : r = some ([], a) := by
  cases h
  rfl
theorem tsP_step {n a : Nat} {r : Option (List ByteArray × Nat)} (h : TsP X (n + 1) a r) : ∃ s k e, X a s k e ∧ ((e ≠ 0 ∧ r = none) ∨ (e = 0 ∧ ∃ r', TsP X n k r' ∧ r = glue [s] r')) := by
  cases h with
  | bad _ _ s k e h he => exact ⟨s, k, e, h, .inl ⟨he, rfl⟩⟩
  | no _ _ s k h r => exact ⟨s, k, 0, h, .inr ⟨rfl, _, r, rfl⟩⟩
  | more _ _ s k ts p h r => exact ⟨s, k, 0, h, .inr ⟨rfl, _, r, rfl⟩⟩
theorem lsO_end {t : List ByteArray} {a : Nat} {r : Option (List Lbl × Nat)} (h : LsO G t 0 a r) : r = some ([], a) := by
  cases h
  rfl
theorem lsO_step {t : List ByteArray} {n a : Nat} {r : Option (List Lbl × Nat)} (h : LsO G t (n + 1) a r) : ∃ p k e, G a p k e ∧ (((e ≠ 0 ∨ t.length ≤ p) ∧ r = none) ∨ (e = 0 ∧ p < t.length ∧ ∃ q j e2, G k q j e2 ∧ (((e2 ≠ 0 ∨ t.length ≤ q) ∧ r = none) ∨ (e2 = 0 ∧ q < t.length ∧ ∃ r', LsO G t n j r' ∧ r = glue [(t.getD p ⟨#[]⟩, t.getD q ⟨#[]⟩)] r')))) := by
  have gd : ∀ {i : Nat} (hi : i < t.length), t.getD i ⟨#[]⟩ = t[i] := fun {i} hi => by rw [List.getD_eq_getElem?_getD, List.getElem?_eq_getElem hi]; rfl
  cases h with
  | bad1 _ _ p k e h he => exact ⟨p, k, e, h, .inl ⟨he, rfl⟩⟩
  | bad2 _ _ p k q j e h hp h2 he => exact ⟨p, k, 0, h, .inr ⟨rfl, hp, q, j, e, h2, .inl ⟨he, rfl⟩⟩⟩
  | no _ _ p k q j h hp h2 hq r => exact ⟨p, k, 0, h, .inr ⟨rfl, hp, q, j, 0, h2, .inr ⟨rfl, hq, none, r, rfl⟩⟩⟩
  | more _ _ p k q j l z h hp h2 hq r => exact ⟨p, k, 0, h, .inr ⟨rfl, hp, q, j, 0, h2, .inr ⟨rfl, hq, _, r, by rw [gd hp, gd hq]; rfl⟩⟩⟩
theorem ssP_end {t : List ByteArray} {a : Nat} {r : Option (List (List Lbl))} (h : SsP G t 0 a r) : r = some [] := by
  cases h
  rfl
theorem ssP_step {t : List ByteArray} {n a : Nat} {r : Option (List (List Lbl))} (h : SsP G t (n + 1) a r) : (StP G t a none ∧ r = none) ∨ ∃ l j r', StP G t a (some (l, j)) ∧ SsP G t n j r' ∧ r = r'.map (l :: ·) := by
  cases h with
  | bad _ _ h => exact .inl ⟨h, rfl⟩
  | more _ _ l j r h h2 => exact .inr ⟨l, j, r, h, h2, rfl⟩
variable {P : Nat → Prop} (hG : ∀ a, P a → ∃ n k e, G a n k e ∧ (e = 0 → P k)) (hX : ∀ a, P a → ∃ s k e, X a s k e ∧ (e = 0 → P k))
include hX in
theorem tsP_total : ∀ (n a : Nat), P a → ∃ r, TsP X n a r ∧ ∀ ts p, r = some (ts, p) → P p := by
  intro n
  induction n with
  | zero => intro a ha; exact ⟨_, .done a, fun ts p e => by cases e; exact ha⟩
  | succ n ih =>
    intro a ha
    obtain ⟨s, k, e, h, hk⟩ := hX a ha
    by_cases he : e ≠ 0
    · exact ⟨_, .bad n a s k e h he, fun _ _ e => by cases e⟩
    · obtain rfl : e = 0 := by omega
      obtain ⟨r, hr, hp⟩ := ih k (hk rfl)
      cases r with
      | none => exact ⟨_, .no n a s k h hr, fun _ _ e => by cases e⟩
      | some q => exact ⟨_, .more n a s k q.1 q.2 h hr, fun ts p e => by cases e; exact hp _ _ rfl⟩
include hG hX in
theorem txP_total (h0 : P 0) : ∃ o, TxP G X o ∧ ∀ ts p, o = some (ts, p) → P p := by
  obtain ⟨n, k, e, h, hk⟩ := hG 0 h0
  by_cases he : e ≠ 0 ∨ 4096 < n
  · exact ⟨none, ⟨n, k, e, h, .inl ⟨he, rfl⟩⟩, fun _ _ e => by cases e⟩
  · obtain rfl : e = 0 := by omega
    obtain ⟨r, hr, hp⟩ := tsP_total hX n k (hk rfl)
    exact ⟨r, ⟨n, k, 0, h, .inr ⟨rfl, by omega, hr⟩⟩, hp⟩
include hG in
theorem stP_total (t : List ByteArray) (a : Nat) (ha : P a) : ∃ o, StP G t a o ∧ ∀ l p, o = some (l, p) → P p := by
  obtain ⟨m, k, e, h, hk⟩ := hG a ha
  by_cases he : e ≠ 0 ∨ 8 < m
  · exact ⟨none, ⟨m, k, e, h, .inl ⟨he, rfl⟩⟩, fun _ _ e => by cases e⟩
  · obtain rfl : e = 0 := by omega
    obtain ⟨r, hr, hp⟩ := lsO_total hG t m k (hk rfl)
    exact ⟨r, ⟨m, k, 0, h, .inr ⟨rfl, by omega, hr⟩⟩, hp⟩
include hG in
theorem ssP_total (t : List ByteArray) : ∀ (n a : Nat), P a → ∃ r, SsP G t n a r := by
  intro n
  induction n with
  | zero => intro a ha; exact ⟨_, .done a⟩
  | succ n ih =>
    intro a ha
    obtain ⟨o, h, hp⟩ := stP_total hG t a ha
    cases o with
    | none => exact ⟨none, .bad n a h⟩
    | some z =>
      obtain ⟨r, hr⟩ := ih z.2 (hp z.1 z.2 rfl)
      exact ⟨_, .more n a z.1 z.2 r h hr⟩
include hG hX in
theorem ixP_total (h0 : P 0) : ∃ o, IxP G X o := by
  obtain ⟨o, h, hp⟩ := txP_total hG hX h0
  cases o with
  | none => exact ⟨none, .inl ⟨h, rfl⟩⟩
  | some z =>
    obtain ⟨m, j, e, h2, hj⟩ := hG z.2 (hp z.1 z.2 rfl)
    by_cases he : e ≠ 0 ∨ 256 < m
    · exact ⟨none, .inr ⟨z.1, z.2, h, m, j, e, h2, .inl ⟨he, rfl⟩⟩⟩
    · obtain rfl : e = 0 := by omega
      obtain ⟨r, hr⟩ := ssP_total hG z.1 m j (hj rfl)
      exact ⟨r, .inr ⟨z.1, z.2, h, m, j, 0, h2, .inr ⟨rfl, by omega, hr⟩⟩⟩
/-- What the document reads the program reads, too. -/
theorem ts_pr {n a : Nat} {ts : List ByteArray} {p : Nat} (h : TsO X n a (some (ts, p))) : TsP X n a (some (ts, p)) := by
  generalize hr : some (ts, p) = r at h
  induction h generalizing ts p with
  | done a =>
    obtain ⟨rfl, rfl⟩ : ts = [] ∧ p = a := by simpa using hr
    exact .done _
  | bad n a s k e h he => cases hr
  | no n a s k h hs r _ => cases hr
  | more n a s k us q h hs r ih =>
    obtain ⟨rfl, rfl⟩ : ts = s :: us ∧ p = q := by simpa using hr
    exact .more _ _ _ _ _ _ h (ih rfl)
theorem ss_pr {t : List ByteArray} {n a : Nat} {ls : List (List Lbl)} {p : Nat} (h : SsO G t n a (some (ls, p))) : SsP G t n a (some ls) := by
  generalize hr : some (ls, p) = r at h
  induction h generalizing ls p with
  | done a =>
    obtain ⟨rfl, rfl⟩ : ls = [] ∧ p = a := by simpa using hr
    exact .done _
  | bad n a m k e h he => cases hr
  | wrong n a m k h hm r => cases hr
  | no n a m k l j h hm r r2 _ => cases hr
  | more n a m k l j us q h hm r r2 ih =>
    obtain ⟨rfl, rfl⟩ : ls = l :: us ∧ p = q := by simpa using hr
    exact SsP.more _ _ l j (some us) ⟨m, k, 0, h, .inr ⟨rfl, hm, r⟩⟩ (ih rfl)
theorem ix_pr {ls : List (List Lbl)} (h : IxO G X (some ls)) : IxP G X (some ls) := by
  cases h with
  | ok n k t a m j _ z h hn r h2 hm r2 => exact .inr ⟨t, a, ⟨n, k, 0, h, .inr ⟨rfl, hn, ts_pr r⟩⟩, m, j, 0, h2, .inr ⟨rfl, hm, ss_pr r2⟩⟩
end
end Go.Proofs.YtojlcipphnegaaaGreat
