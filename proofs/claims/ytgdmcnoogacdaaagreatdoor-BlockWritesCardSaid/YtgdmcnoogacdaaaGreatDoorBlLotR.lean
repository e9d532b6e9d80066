/- In one text, written by lotify.py: IxRd1, IxRdM, IxRd2. -/
import Derived.Test.YtgdmcnoogacdaaaGreatDoorBlLotE
import Derived.Test.YtgdmcnoogacdaaaGreatDoorBlLotK
namespace Go.Proofs.YtgdmcnoogacdaaaGreatDoor
open Go.RowKit Go.Maps
set_option linter.unusedVariables false
set_option maxRecDepth 100000

/-- A number that is read, and may be: the error that is told, and what else. -/
def numE (n e : Nat) (most : Int) : Int := if e ≠ 0 then (e : Int) else if most < (n : Int) then 5 else 0
theorem readnum_prog (A : Option Addr) (l : List UInt8) (c a n nx e : Nat) (most : Int) (w : World) (hA : Bys w A l) (hlc : l.length ≤ c) (hl : l.length ≤ 140737488355328) (ha : a ≤ l.length) (hg : GU l a n nx e) :
    Calls Tryz.prog 156 #[.slice A l.length c, .int .i64 (a : Int), .int .i64 most] w fun e' w' => e' = .returned (.tuple #[.int .i64 (if numE n e most = 0 then (n : Int) else 0), .int .i64 (if numE n e most = 0 then (nx : Int) else 0), .int .i64 (numE n e most)]) ∧ Below w.heap.size w w' := by
  have HG := Lib.hid (getuint_prog A l c a n nx e w hA hlc hl ha hg)
  clear hA hg
  by_cases he : e = 0
  · subst he
    by_cases hm : most < (n : Int)
    · have e1 : numE n 0 most = 5 := by unfold numE; rw [if_neg (by omega), if_pos hm]
      have i1 : decide (most < (n : Int)) = true := decide_eq_true hm
      rw [e1]
      clear hm e1
      go_enter Tryz.func156, Tryz.ntmps156
      go_wp2_with (first | (go_at_call 158; refine HG.out.mono ?_; rintro e w2 ⟨rfl, hb2⟩; have HB2 := Lib.hid hb2; clear hb2))
      go_ret3
      exact ⟨rfl, HB2.out⟩
    · have e1 : numE n 0 most = 0 := by unfold numE; rw [if_neg (by omega), if_neg hm]
      have i1 : decide (most < (n : Int)) = false := decide_eq_false hm
      rw [e1, if_pos rfl, if_pos rfl]
      clear hm e1
      go_enter Tryz.func156, Tryz.ntmps156
      go_wp2_with (first | (go_at_call 158; refine HG.out.mono ?_; rintro e w2 ⟨rfl, hb2⟩; have HB2 := Lib.hid hb2; clear hb2))
      go_ret3
      exact ⟨rfl, HB2.out⟩
  · have e1 : numE n e most = (e : Int) := if_pos he
    have e2 : ¬ (e : Int) = 0 := by omega
    have j1 : ((e : Int) != 0) = true := bne_iff_ne.2 e2
    have j2 : ((e : Int) == 0) = false := beq_eq_false_iff_ne.2 e2
    rw [e1, if_neg e2, if_neg e2]
    clear he e1 e2
    go_enter Tryz.func156, Tryz.ntmps156
    go_wp2_with (first | (go_at_call 158; refine HG.out.mono ?_; rintro e w2 ⟨rfl, hb2⟩; have HB2 := Lib.hid hb2; clear hb2))
    go_ret3
    exact ⟨rfl, HB2.out⟩
theorem gu_nil : GU [] 0 0 0 4 := .short 0 (by omega) (fun j hj => by omega) rfl
theorem of_nil (w : World) : Calls Tryz.prog 83 #[.slice none 0 0] w fun e w' => e = .returned (.tuple #[.pointer none, .int .i64 5]) ∧ Below w.heap.size w w' := by
  have HN := Lib.hid (fun (x : World) => (show Calls Tryz.prog 156 #[.slice none 0 0, .int .i64 0, .int .i64 4096] x fun e' w' => e' = .returned (.tuple #[.int .i64 0, .int .i64 0, .int .i64 4]) ∧ Below x.heap.size x w' from
    readnum_prog none [] 0 0 0 0 4 4096 x (Bys.empty _ _) (by simp) (by simp) (by simp) gu_nil))
  have HT := Lib.hid (show ∀ x : World, Calls Tryz.prog 155 #[.slice none 0 0] x fun e' w' => e' = .returned (.tuple #[.slice none 0 0, .int .i64 0, .int .i64 4]) ∧ Below x.heap.size x w' from fun x => by
    go_enter Tryz.func155, Tryz.ntmps155
    go_wp2_with (first | (go_at_call 156; refine (HN.out _).mono ?_; rintro e w2 ⟨rfl, hb2⟩; have HB2 := Lib.hid hb2; clear hb2))
    go_ret3
    exact ⟨rfl, HB2.out⟩)
  have HS := Lib.hid (show ∀ x : World, Calls Tryz.prog 121 #[.slice none 0 0] x fun e' w' => e' = .returned (.tuple #[.slice none 0 0, .int .i64 4]) ∧ Below x.heap.size x w' from fun x => by
    go_enter Tryz.func121, Tryz.ntmps121
    go_wp2_with (first | (go_at_call 155; refine (HT.out _).mono ?_; rintro e w2 ⟨rfl, hb2⟩; have HB2 := Lib.hid hb2; clear hb2))
    go_ret2
    exact ⟨rfl, HB2.out⟩)
  clear HN HT
  go_enter Tryz.func83, Tryz.ntmps83
  go_wp2_with (first | (go_at_call 121; refine (HS.out _).mono ?_; rintro e w2 ⟨rfl, hb2⟩; have HB2 := Lib.hid hb2; clear hb2))
  go_ret2
  exact ⟨rfl, HB2.out⟩
end Go.Proofs.YtgdmcnoogacdaaaGreatDoor

namespace Go.Proofs.YtgdmcnoogacdaaaGreatDoor
set_option linter.unusedVariables false

section
variable (G : Nat → Nat → Nat → Nat → Prop) (X : Nat → ByteArray → Nat → Nat → Prop)
/-- So many texts. -/
inductive TsP : Nat → Nat → Option (List ByteArray × Nat) → Prop
  | done (a : Nat) : TsP 0 a (some ([], a))
  | bad (n a : Nat) (s : ByteArray) (k e : Nat) (h : X a s k e) (he : e ≠ 0) : TsP (n + 1) a none
  | no (n a : Nat) (s : ByteArray) (k : Nat) (h : X a s k 0) (r : TsP n k none) : TsP (n + 1) a none
  | more (n a : Nat) (s : ByteArray) (k : Nat) (ts : List ByteArray) (p : Nat) (h : X a s k 0) (r : TsP n k (some (ts, p))) : TsP (n + 1) a (some (s :: ts, p))
/-- All texts. -/
def TxP (o : Option (List ByteArray × Nat)) : Prop := ∃ n k e, G 0 n k e ∧ (((e ≠ 0 ∨ 4096 < n) ∧ o = none) ∨ (e = 0 ∧ n ≤ 4096 ∧ TsP X n k o))
/-- One set. -/
def StP (t : List ByteArray) (a : Nat) (o : Option (List Lbl × Nat)) : Prop := ∃ m k e, G a m k e ∧ (((e ≠ 0 ∨ 8 < m) ∧ o = none) ∨ (e = 0 ∧ m ≤ 8 ∧ LsO G t m k o))
/-- So many sets. -/
inductive SsP (t : List ByteArray) : Nat → Nat → Option (List (List Lbl)) → Prop
  | done (a : Nat) : SsP t 0 a (some [])
  | bad (n a : Nat) (h : StP G t a none) : SsP t (n + 1) a none
  | more (n a : Nat) (l : List Lbl) (j : Nat) (r : Option (List (List Lbl))) (h : StP G t a (some (l, j))) (h2 : SsP t n j r) : SsP t (n + 1) a (r.map (l :: ·))
/-- All sets. -/
def IxP (o : Option (List (List Lbl))) : Prop := (TxP G X none ∧ o = none) ∨ ∃ t a, TxP G X (some (t, a)) ∧ ∃ m j e, G a m j e ∧ (((e ≠ 0 ∨ 256 < m) ∧ o = none) ∨ (e = 0 ∧ m ≤ 256 ∧ SsP G t m j o))
variable {G X}
def glue {α : Type} (x : List α) (r : Option (List α × Nat)) : Option (List α × Nat) := r.map fun p => (x ++ p.1, p.2)
theorem glue_none {α : Type} (x : List α) : glue x none = none := rfl
theorem glue_some {α : Type} (x y : List α) (p : Nat) : glue x (some (y, p)) = some (x ++ y, p) := rfl
theorem glue_glue {α : Type} (x : List α) (y : α) (r : Option (List α × Nat)) : glue x (glue [y] r) = glue (x ++ [y]) r := by
  cases r with
  | none => rfl
  | some p => simp [glue]
theorem tsP_end {a : Nat} {r : Option (List ByteArray × Nat)} (h : TsP X 0 a r) : r = some ([], a) := by
  cases h
  rfl
theorem tsP_step {n a : Nat} {r : Option (List ByteArray × Nat)} (h : TsP X (n + 1) a r) : ∃ s k e, X a s k e ∧ ((e ≠ 0 ∧ r = none) ∨ (e = 0 ∧ ∃ r', TsP X n k r' ∧ r = glue [s] r')) := by
  cases h with
  | bad _ _ s k e h he => exact ⟨s, k, e, h, .inl ⟨he, rfl⟩⟩
  | no _ _ s k h r => exact ⟨s, k, 0, h, .inr ⟨rfl, _, r, rfl⟩⟩
  | more _ _ s k ts p h r => exact ⟨s, k, 0, h, .inr ⟨rfl, _, r, rfl⟩⟩
theorem lsO_end {t : List ByteArray} {a : Nat} {r : Option (List Lbl × Nat)} (h : LsO G t 0 a r) : r = some ([], a) := by
  cases h
  rfl
theorem lsO_step {t : List ByteArray} {n a : Nat} {r : Option (List Lbl × Nat)} (h : LsO G t (n + 1) a r) : ∃ p k e, G a p k e ∧ (((e ≠ 0 ∨ t.length ≤ p) ∧ r = none) ∨ (e = 0 ∧ p < t.length ∧ ∃ q j e2, G k q j e2 ∧ (((e2 ≠ 0 ∨ t.length ≤ q) ∧ r = none) ∨ (e2 = 0 ∧ q < t.length ∧ ∃ r', LsO G t n j r' ∧ r = glue [(t.getD p ⟨#[]⟩, t.getD q ⟨#[]⟩)] r')))) := by
  have gd : ∀ {i : Nat} (hi : i < t.length), t.getD i ⟨#[]⟩ = t[i] := fun {i} hi => by rw [List.getD_eq_getElem?_getD, List.getElem?_eq_getElem hi]; rfl
  cases h with
  | bad1 _ _ p k e h he => exact ⟨p, k, e, h, .inl ⟨he, rfl⟩⟩
  | bad2 _ _ p k q j e h hp h2 he => exact ⟨p, k, 0, h, .inr ⟨rfl, hp, q, j, e, h2, .inl ⟨he, rfl⟩⟩⟩
  | no _ _ p k q j h hp h2 hq r => exact ⟨p, k, 0, h, .inr ⟨rfl, hp, q, j, 0, h2, .inr ⟨rfl, hq, none, r, rfl⟩⟩⟩
  | more _ _ p k q j l z h hp h2 hq r => exact ⟨p, k, 0, h, .inr ⟨rfl, hp, q, j, 0, h2, .inr ⟨rfl, hq, _, r, by rw [gd hp, gd hq]; rfl⟩⟩⟩
theorem ssP_end {t : List ByteArray} {a : Nat} {r : Option (List (List Lbl))} (h : SsP G t 0 a r) : r = some [] := by
  cases h
  rfl
theorem ssP_step {t : List ByteArray} {n a : Nat} {r : Option (List (List Lbl))} (h : SsP G t (n + 1) a r) : (StP G t a none ∧ r = none) ∨ ∃ l j r', StP G t a (some (l, j)) ∧ SsP G t n j r' ∧ r = r'.map (l :: ·) := by
  cases h with
  | bad _ _ h => exact .inl ⟨h, rfl⟩
  | more _ _ l j r h h2 => exact .inr ⟨l, j, r, h, h2, rfl⟩
variable {P : Nat → Prop} (hG : ∀ a, P a → ∃ n k e, G a n k e ∧ (e = 0 → P k)) (hX : ∀ a, P a → ∃ s k e, X a s k e ∧ (e = 0 → P k))
include hX in
theorem tsP_total : ∀ (n a : Nat), P a → ∃ r, TsP X n a r ∧ ∀ ts p, r = some (ts, p) → P p := by
  intro n
  induction n with
  | zero => intro a ha; exact ⟨_, .done a, fun ts p e => by cases e; exact ha⟩
  | succ n ih =>
    intro a ha
    obtain ⟨s, k, e, h, hk⟩ := hX a ha
    by_cases he : e ≠ 0
    · exact ⟨_, .bad n a s k e h he, fun _ _ e => by cases e⟩
    · obtain rfl : e = 0 := by omega
      obtain ⟨r, hr, hp⟩ := ih k (hk rfl)
      cases r with
      | none => exact ⟨_, .no n a s k h hr, fun _ _ e => by cases e⟩
      | some q => exact ⟨_, .more n a s k q.1 q.2 h hr, fun ts p e => by cases e; exact hp _ _ rfl⟩
include hG hX in
theorem txP_total (h0 : P 0) : ∃ o, TxP G X o ∧ ∀ ts p, o = some (ts, p) → P p := by
  obtain ⟨n, k, e, h, hk⟩ := hG 0 h0
  by_cases he : e ≠ 0 ∨ 4096 < n
  · exact ⟨none, ⟨n, k, e, h, .inl ⟨he, rfl⟩⟩, fun _ _ e => by cases e⟩
  · obtain rfl : e = 0 := by omega
    obtain ⟨r, hr, hp⟩ := tsP_total hX n k (hk rfl)
    exact ⟨r, ⟨n, k, 0, h, .inr ⟨rfl, by omega, hr⟩⟩, hp⟩
include hG in
theorem stP_total (t : List ByteArray) (a : Nat) (ha : P a) : ∃ o, StP G t a o ∧ ∀ l p, o = some (l, p) → P p := by
  obtain ⟨m, k, e, h, hk⟩ := hG a ha
  by_cases he : e ≠ 0 ∨ 8 < m
  · exact ⟨none, ⟨m, k, e, h, .inl ⟨he, rfl⟩⟩, fun _ _ e => by cases e⟩
  · obtain rfl : e = 0 := by omega
    obtain ⟨r, hr, hp⟩ := lsO_total hG t m k (hk rfl)
    exact ⟨r, ⟨m, k, 0, h, .inr ⟨rfl, by omega, hr⟩⟩, hp⟩
include hG in
theorem ssP_total (t : List ByteArray) : ∀ (n a : Nat), P a → ∃ r, SsP G t n a r := by
  intro n
  induction n with
  | zero => intro a ha; exact ⟨_, .done a⟩
  | succ n ih =>
    intro a ha
    obtain ⟨o, h, hp⟩ := stP_total hG t a ha
    cases o with
    | none => exact ⟨none, .bad n a h⟩
    | some z =>
      obtain ⟨r, hr⟩ := ih z.2 (hp z.1 z.2 rfl)
      exact ⟨_, .more n a z.1 z.2 r h hr⟩
include hG hX in
theorem ixP_total (h0 : P 0) : ∃ o, IxP G X o := by
  obtain ⟨o, h, hp⟩ := txP_total hG hX h0
  cases o with
  | none => exact ⟨none, .inl ⟨h, rfl⟩⟩
  | some z =>
    obtain ⟨m, j, e, h2, hj⟩ := hG z.2 (hp z.1 z.2 rfl)
    by_cases he : e ≠ 0 ∨ 256 < m
    · exact ⟨none, .inr ⟨z.1, z.2, h, m, j, e, h2, .inl ⟨he, rfl⟩⟩⟩
    · obtain rfl : e = 0 := by omega
      obtain ⟨r, hr⟩ := ssP_total hG z.1 m j (hj rfl)
      exact ⟨r, .inr ⟨z.1, z.2, h, m, j, 0, h2, .inr ⟨rfl, by omega, hr⟩⟩⟩
/-- What the document reads the program reads, too. -/
theorem ts_pr {n a : Nat} {ts : List ByteArray} {p : Nat} (h : TsO X n a (some (ts, p))) : TsP X n a (some (ts, p)) := by
  generalize hr : some (ts, p) = r at h
  induction h generalizing ts p with
  | done a =>
    obtain ⟨rfl, rfl⟩ : ts = [] ∧ p = a := by simpa using hr
    exact .done _
  | bad n a s k e h he => cases hr
  | no n a s k h hs r _ => cases hr
  | more n a s k us q h hs r ih =>
    obtain ⟨rfl, rfl⟩ : ts = s :: us ∧ p = q := by simpa using hr
    exact .more _ _ _ _ _ _ h (ih rfl)
theorem ss_pr {t : List ByteArray} {n a : Nat} {ls : List (List Lbl)} {p : Nat} (h : SsO G t n a (some (ls, p))) : SsP G t n a (some ls) := by
  generalize hr : some (ls, p) = r at h
  induction h generalizing ls p with
  | done a =>
    obtain ⟨rfl, rfl⟩ : ls = [] ∧ p = a := by simpa using hr
    exact .done _
  | bad n a m k e h he => cases hr
  | wrong n a m k h hm r => cases hr
  | no n a m k l j h hm r r2 _ => cases hr
  | more n a m k l j us q h hm r r2 ih =>
    obtain ⟨rfl, rfl⟩ : ls = l :: us ∧ p = q := by simpa using hr
    exact SsP.more _ _ l j (some us) ⟨m, k, 0, h, .inr ⟨rfl, hm, r⟩⟩ (ih rfl)
theorem ix_pr {ls : List (List Lbl)} (h : IxO G X (some ls)) : IxP G X (some ls) := by
  cases h with
  | ok n k t a m j _ z h hn r h2 hm r2 => exact .inr ⟨t, a, ⟨n, k, 0, h, .inr ⟨rfl, hn, ts_pr r⟩⟩, m, j, 0, h2, .inr ⟨rfl, hm, ss_pr r2⟩⟩
end
end Go.Proofs.YtgdmcnoogacdaaaGreatDoor

namespace Go.Proofs.YtgdmcnoogacdaaaGreatDoor
open Go.RowKit Go.Maps
set_option linter.unusedVariables false
set_option maxRecDepth 100000

/-- A text is read at a place. -/
def XO (b : List UInt8) (a : Nat) (s : ByteArray) (k e : Nat) : Prop := a ≤ b.length ∧ ∃ n nx e0, GU b a n nx e0 ∧ GT b n nx e0 s k e
theorem xo_place {b : List UInt8} {a : Nat} {s : ByteArray} {k : Nat} (h : XO b a s k 0) : k ≤ b.length := by
  obtain ⟨_, n, nx, e0, _, h2⟩ := h
  generalize he : (0 : Nat) = e at h2
  cases h2 with
  | no _ h => exact absurd he.symm h
  | big => cases he
  | short => cases he
  | ok h hx hs => omega
theorem gu_all (b : List UInt8) : ∀ a, a ≤ b.length → ∃ n k e, GU b a n k e ∧ (e = 0 → k ≤ b.length) := by
  intro a ha
  obtain ⟨n, k, e, h⟩ := gu_total b a ha
  exact ⟨n, k, e, h, fun he => (gu_place h he).1⟩
theorem xo_all (b : List UInt8) : ∀ a, a ≤ b.length → ∃ s k e, XO b a s k e ∧ (e = 0 → k ≤ b.length) := by
  intro a ha
  obtain ⟨n, nx, e0, h, hx⟩ := gu_all b a ha
  obtain ⟨s, k, e, h2⟩ := gt_total b n nx e0 hx
  have h3 : XO b a s k e := ⟨ha, n, nx, e0, h, h2⟩
  exact ⟨s, k, e, h3, fun he => by subst he; exact xo_place h3⟩
section
variable (A : Option Addr) (b : List UInt8) (c : Nat) (hbc : b.length ≤ c) (hbl : b.length ≤ 140737488355328)
include hbc hbl
theorem rtext_prog (a : Nat) (s : ByteArray) (k e : Nat) (w : World) (hA : Bys w A b) (h : XO b a s k e) :
    Calls Tryz.prog 193 #[.slice A b.length c, .int .i64 (a : Int)] w fun e' w' => e' = .returned (.tuple #[.string s, .int .i64 (k : Int), .int .i64 (e : Int)]) ∧ Below w.heap.size w w' := by
  obtain ⟨ha, n, nx, e0, h1, h2⟩ := h
  exact gettext_prog A b c a n nx e0 s k e w hA hbc hbl (gu_small h1) (fun he => (gu_place h1 he).2.1) (getuint_prog A b c a n nx e0 w hA hbc hbl ha h1) h2
theorem rnum_no (a n nx e : Nat) (most : Int) (w : World) (hA : Bys w A b) (ha : a ≤ b.length) (hg : GU b a n nx e) (hbad : e ≠ 0 ∨ most < (n : Int)) :
    ∃ E : Int, E ≠ 0 ∧ Calls Tryz.prog 156 #[.slice A b.length c, .int .i64 (a : Int), .int .i64 most] w fun e' w' => e' = .returned (.tuple #[.int .i64 0, .int .i64 0, .int .i64 E]) ∧ Below w.heap.size w w' := by
  have h := readnum_prog A b c a n nx e most w hA hbc hbl ha hg
  have hE : numE n e most ≠ 0 := by
    unfold numE
    by_cases he : e ≠ 0
    · rw [if_pos he]; omega
    · rw [if_neg he, if_pos (hbad.resolve_left he)]; decide
  rw [if_neg hE, if_neg hE] at h
  exact ⟨_, hE, h⟩
theorem rnum_yes (a n nx : Nat) (most : Int) (w : World) (hA : Bys w A b) (ha : a ≤ b.length) (hg : GU b a n nx 0) (hm : (n : Int) ≤ most) :
    Calls Tryz.prog 156 #[.slice A b.length c, .int .i64 (a : Int), .int .i64 most] w fun e' w' => e' = .returned (.tuple #[.int .i64 (n : Int), .int .i64 (nx : Int), .int .i64 0]) ∧ Below w.heap.size w w' := by
  have h := readnum_prog A b c a n nx 0 most w hA hbc hbl ha hg
  have hE : numE n 0 most = 0 := by
    unfold numE
    rw [if_neg (by omega), if_neg (by omega)]
  rw [hE, if_pos rfl, if_pos rfl] at h
  exact h
/-- What readTexts tells. -/
def TsTold (b : List UInt8) (w : World) (o : Option (List ByteArray × Nat)) (e : Ending) (w' : World) : Prop :=
  Below w.heap.size w w' ∧ ((o = none ∧ ∃ E : Int, E ≠ 0 ∧ e = .returned (.tuple #[.slice none 0 0, .int .i64 0, .int .i64 E])) ∨
    ∃ ts p v, o = some (ts, p) ∧ ts.length ≤ 4096 ∧ p ≤ b.length ∧ e = .returned (.tuple #[v, .int .i64 ((p : Nat) : Int), .int .i64 0]) ∧ OwnTx w' w.heap.size v ts)
set_option maxHeartbeats 2000000 in
theorem rtexts_prog (o : Option (List ByteArray × Nat)) (w : World) (hA : Bys w A b) (h : TxP (GU b) (XO b) o) :
    Calls Tryz.prog 155 #[.slice A b.length c] w (TsTold b w o) := by
  have HA := Lib.hid (fun x (h : Below w.heap.size w x) => (show Bys x A b from hA.below h))
  obtain ⟨n, k, e, hg, h⟩ := h
  rcases h with ⟨hbad, rfl⟩ | ⟨rfl, hn, hts⟩
  · obtain ⟨E, hE, hc⟩ := rnum_no A b c hbc hbl 0 n k e 4096 w hA (Nat.zero_le _) hg (by omega)
    have HC := Lib.hid hc
    have j1 : (E != 0) = true := bne_iff_ne.2 hE
    have HE := Lib.hid hE
    clear hc hE hbad hg HA hA
    generalize b.length = nb at *
    go_enter Tryz.func155, Tryz.ntmps155
    go_wp2_with (first | (go_at_call 156; refine HC.out.mono ?_; rintro e w2 ⟨rfl, hb2⟩; have HB2 := Lib.hid hb2; clear hb2))
    go_ret3
    exact ⟨HB2.out, .inl ⟨rfl, E, HE.out, rfl⟩⟩
  · have HC := Lib.hid (rnum_yes A b c hbc hbl 0 n k 4096 w hA (Nat.zero_le _) hg (by omega))
    have HX := Lib.hid (fun a s k e x (hb : Below w.heap.size w x) (h : XO b a s k e) => rtext_prog A b c hbc hbl a s k e x (HA.out x hb) h)
    have HTS := Lib.hid hts
    have HK := Lib.hid (gu_place hg rfl).1
    have HNB := Lib.hid hbl
    clear hA HA hg hts hbc hbl
    go_enter Tryz.func155, Tryz.ntmps155
    go_wp2_with (first | (go_at_call 156; refine HC.out.mono ?_; rintro e w2 ⟨rfl, hb2⟩; have HB2 := Lib.hid hb2; clear hb2))
    obtain ⟨nb, hnb⟩ : ∃ nb, b.length = nb := ⟨_, rfl⟩
    rw [hnb] at HX ⊢
    have HNBE := Lib.hid hnb
    clear hnb HC
    go_loopw [8, 6, 20] (fun u p i wr => ∃ (j : Nat) (ts : List ByteArray) (a : Nat) (r : Option (List ByteArray × Nat)), j ≤ n ∧ i = .int .i64 (j : Int) ∧ p = .int .i64 (a : Int) ∧ a ≤ b.length ∧ OwnTx wr w.heap.size u ts ∧ ts.length = j ∧ TsP (XO b) (n - j) a r ∧ o = glue ts r ∧ Below w.heap.size w wr) (fun _ _ i _ => n - (intOf i).toNat)
    case atStart => exact ⟨0, [], k, o, Nat.zero_le _, rfl, rfl, HK.out, ⟨rfl, .inl ⟨rfl, rfl⟩⟩, rfl, HTS.out, by cases o <;> rfl, HB2.out⟩
    case round =>
      obtain ⟨j, ts, a, r, hj, rfl, rfl, ha, hO, hlj, hT, hgl, hb⟩ := hrel
      have HB := Lib.hid hb
      by_cases hlt : j < n
      · obtain ⟨m, hm⟩ : ∃ m, n - j = m + 1 := ⟨n - j - 1, by omega⟩
        rw [hm] at hT
        obtain ⟨s, k2, e2, hx, h⟩ := tsP_step hT
        have HXX := Lib.hid (HX.out a s k2 e2 wr hb hx)
        have i1 : (j : Int) < (n : Int) := by omega
        have HO := Lib.hid hO
        rcases h with ⟨he2, rfl⟩ | ⟨rfl, r', hT', rfl⟩
        · have j1 : ((e2 : Int) != 0) = true := bne_iff_ne.2 (by omega)
          have HE2 := Lib.hid (show (e2 : Int) ≠ 0 by omega)
          have HON := Lib.hid (show o = none from hgl)
          clear hO hT hgl hb hx he2
          go_wp2_with (first | (go_at_call 193; refine HXX.out.mono ?_; rintro e w5 ⟨rfl, hb5⟩; have HB5 := Lib.hid (below_then HB.out hb5); clear hb5))
          go_ret3
          exact ⟨HB5.out, .inl ⟨HON.out, _, HE2.out, rfl⟩⟩
        · have HXP := Lib.hid (xo_place hx)
          have HT2 := Lib.hid (show TsP (XO b) (n - (j + 1)) k2 r' by rw [show n - (j + 1) = m by omega]; exact hT')
          have HON := Lib.hid (show o = glue (ts ++ [s]) r' by rw [← glue_glue]; exact hgl)
          have HLJ := Lib.hid hlj
          clear hO hT hT' hgl hb hx hlj
          go_wp2_with (first
            | (go_at_call 193; refine HXX.out.mono ?_; rintro e w5 ⟨rfl, hb5⟩; have HO5 : Hid (OwnTx w5 w.heap.size _ ts) := Lib.hid (rows_below HO.out hb5); have HB5 := Lib.hid (below_then HB.out hb5); clear hb5)
            | (at_builtin; refine app_t rfl (.tmp 32) (.tmp 34) rfl w.heap.size _ ts rfl HO5.out s 1 rfl (by have := HLJ.out; omega) HB5.out.size ?_; intro v6 w6 ho6 hb6; have HO6 := Lib.hid ho6; have HB6 := Lib.hid (HB5.out.trans hb6); clear ho6 hb6))
          go_roundw
          case rel => exact ⟨j + 1, ts ++ [s], k2, r', hlt, by go_num, rfl, HXP.out, HO6.out, by have := HLJ.out; simp; omega, HT2.out, HON.out, HB6.out⟩
          case measure => simp [intOf]; omega
      · have hz : n - j = 0 := by omega
        rw [hz] at hT
        have hr := tsP_end hT
        subst hr
        have HON := Lib.hid (show o = some (ts, a) by rw [hgl]; simp [glue])
        have HO := Lib.hid hO
        have HLT := Lib.hid (show ts.length ≤ 4096 by omega)
        have HAA := Lib.hid ha
        clear hO hT hgl hb hlj ha
        go_wp2_with fail
        go_ret3
        exact ⟨HB.out, .inr ⟨ts, a, _, HON.out, HLT.out, HAA.out, rfl, HO.out⟩⟩
end
/-! ### a text by its place -/
section
variable (A : Option Addr) (b : List UInt8) (c : Nat) (hbc : b.length ≤ c) (hbl : b.length ≤ 140737488355328) (V : Option Addr) (t : List ByteArray) (d : Nat) (ht : t.length ≤ 4096)
include hbc hbl ht
theorem placed_no (a p k e : Nat) (w : World) (hA : Bys w A b) (hV : Tx w V t) (ha : a ≤ b.length) (hg : GU b a p k e) (hbad : e ≠ 0 ∨ t.length ≤ p) :
    ∃ E : Int, E ≠ 0 ∧ Calls Tryz.prog 194 #[.slice A b.length c, .int .i64 (a : Int), .slice V t.length d] w fun e' w' => e' = .returned (.tuple #[.string ⟨#[]⟩, .int .i64 0, .int .i64 E]) ∧ Below w.heap.size w w' := by
  obtain ⟨E, hE, hc⟩ := rnum_no A b c hbc hbl a p k e ((t.length : Int) - 1) w hA ha hg (by omega)
  refine ⟨E, hE, ?_⟩
  have HC := Lib.hid hc
  have j1 : (E != 0) = true := bne_iff_ne.2 hE
  have hw : IntKind.i64.wrap ((t.length : Int) - 1) = (t.length : Int) - 1 := IntWalk.i64_in _ (by omega)
  clear hc hE hbad hg hA hV
  generalize b.length = nb at *
  go_enter Tryz.func194, Tryz.ntmps194
  go_wp2_with (first | (go_at_call 156; refine HC.out.mono ?_; rintro e w2 ⟨rfl, hb2⟩; have HB2 := Lib.hid hb2; clear hb2))
  go_ret3
  exact ⟨rfl, HB2.out⟩
theorem placed_yes (a p k : Nat) (w : World) (hA : Bys w A b) (hV : Tx w V t) (ha : a ≤ b.length) (hg : GU b a p k 0) (hp : p < t.length) :
    Calls Tryz.prog 194 #[.slice A b.length c, .int .i64 (a : Int), .slice V t.length d] w fun e' w' => e' = .returned (.tuple #[.string (t.getD p ⟨#[]⟩), .int .i64 (k : Int), .int .i64 0]) ∧ Below w.heap.size w w' := by
  have HC := Lib.hid (rnum_yes A b c hbc hbl a p k ((t.length : Int) - 1) w hA ha hg (by omega))
  obtain ⟨b1, o1, rfl, hb1, g0⟩ := hV.at_ hp
  have g1 : w.cell? ⟨b1, o1 + p, none⟩ = some (.string (t.getD p ⟨#[]⟩)) := g0
  have hw : IntKind.i64.wrap ((t.length : Int) - 1) = (t.length : Int) - 1 := IntWalk.i64_in _ (by omega)
  have i1 : (p : Int) < (t.length : Int) := by omega
  clear hg hA hV g0
  generalize b.length = nb at *
  generalize t.getD p ⟨#[]⟩ = s at *
  go_enter Tryz.func194, Tryz.ntmps194
  go_wp2_with (first | (go_at_call 156; refine HC.out.mono ?_; rintro e w2 ⟨rfl, hb2⟩; have c2 := (hb2.cell (p := ⟨b1, o1 + p, none⟩) hb1).trans g1; have HB2 := Lib.hid hb2; clear hb2))
  go_ret3
  exact ⟨rfl, HB2.out⟩
end
end Go.Proofs.YtgdmcnoogacdaaaGreatDoor
