/- In one text, written by lotify.py: WaMath, WaRows, WaLog. -/
import Derived.Test.YtmgolnlkepiocaaWaLotG
import Derived.Test.YtmgolnlkepiocaaWaLotI
import Derived.Test.YtmgolnlkepiocaaWaLotB
import Derived.Test.YtmgolnlkepiocaaChLite
import Derived.Test.YtmgolnlkepiocaaWaLotC
import Derived.Test.YtmgolnlkepiocaaWaLotH
namespace Go.Proofs.Ytmgolnlkepiocaa
set_option linter.unusedVariables false

/-! ### records -/
abbrev Wrow := Int × Int × Int
structure RecV where
  kind : Int
  labels : List Lbl
  rows : List Wrow
  ids : List Int
  low : Int
  high : Int
def rec0 : RecV := ⟨0, [], [], [], 0, 0⟩
def wrowErr (x : Wrow) : Int := if x.1 < 0 ∨ 1099511627776 < x.1 then 2 else if Ch.mayB (x.2.1, x.2.2) = false then 11 else 0
def rowsErr : List Wrow → Int
  | [] => 0
  | x :: r => if wrowErr x = 0 then rowsErr r else wrowErr x
def rowsChk (l : List Wrow) : Int := if l.length = 0 ∨ 64 < l.length then 2 else rowsErr l
def delChk (ids : List Int) (low high : Int) : Int := if pchk ids ≠ 0 then pchk ids else if ids.length = 0 then 2 else if low < 0 ∨ 1099511627776 < high then 11 else if high < low then 13 else 0
/-- Something is not empty that the kind does not have, or there is no such kind. -/
def Misfit (r : RecV) : Prop := ¬ (r.kind = 1 ∨ r.kind = 2 ∨ r.kind = 3) ∨ (r.kind ≠ 1 ∧ r.labels.length ≠ 0) ∨ (r.kind ≠ 2 ∧ r.rows.length ≠ 0) ∨ (r.kind ≠ 3 ∧ (r.ids.length ≠ 0 ∨ r.low ≠ 0 ∨ r.high ≠ 0))
instance (r : RecV) : Decidable (Misfit r) := by unfold Misfit; infer_instance
def recChk (r : RecV) : Int := if Misfit r then 2 else if r.kind = 1 then lbChk r.labels else if r.kind = 2 then rowsChk r.rows else delChk r.ids r.low r.high
def zigV (v : Int) : Nat := if v < 0 then (-2 * v - 1).toNat else (2 * v).toNat
def zagV (n : Nat) : Int := if n % 2 = 1 then -((n / 2 : Nat) : Int) - 1 else ((n / 2 : Nat) : Int)
def wrowL (x : Wrow) : List UInt8 := uintL x.1.toNat ++ (uintL x.2.1.toNat ++ uintL (zigV x.2.2))
def rowsL (l : List Wrow) : List UInt8 := l.flatMap wrowL
def recL (r : RecV) : List UInt8 :=
  uintL r.kind.toNat ++ (if r.kind = 1 then bytesL r.labels else if r.kind = 2 then uintL r.rows.length ++ rowsL r.rows else postL r.ids ++ (uintL r.low.toNat ++ uintL r.high.toNat))
/-- These are a right record's bytes. -/
def IsRec (b : List UInt8) (r : RecV) : Prop := recChk r = 0 ∧ recL r = b

theorem zig_zag (v : Int) : zagV (zigV v) = v := by
  unfold zigV zagV
  split <;> split <;> omega
theorem zag_zig (n : Nat) : zigV (zagV n) = n := by
  unfold zigV zagV
  split <;> split <;> omega
theorem wrowErr_zero {x : Wrow} : wrowErr x = 0 ↔ 0 ≤ x.1 ∧ x.1 ≤ 1099511627776 ∧ 0 ≤ x.2.1 ∧ x.2.1 ≤ 1099511627776 ∧ -1152921504606846976 ≤ x.2.2 ∧ x.2.2 ≤ 1152921504606846976 := by
  unfold wrowErr
  by_cases h : x.1 < 0 ∨ 1099511627776 < x.1
  · rw [if_pos h]
    constructor
    · intro e; cases e
    · intro e; omega
  · rw [if_neg h]
    by_cases hm : Ch.mayB (x.2.1, x.2.2) = false
    · rw [if_pos hm]
      constructor
      · intro e; cases e
      · intro e
        have := Ch.mayB_iff.2 (show 0 ≤ (x.2.1, x.2.2).1 ∧ (x.2.1, x.2.2).1 ≤ 1099511627776 ∧ -1152921504606846976 ≤ (x.2.1, x.2.2).2 ∧ (x.2.1, x.2.2).2 ≤ 1152921504606846976 from ⟨e.2.2.1, e.2.2.2.1, e.2.2.2.2.1, e.2.2.2.2.2⟩)
        rw [hm] at this
        cases this
    · rw [if_neg hm]
      have := Ch.mayB_iff.1 (Bool.not_eq_false _ ▸ hm)
      constructor
      · intro _; exact ⟨by omega, by omega, this.1, this.2.1, this.2.2.1, this.2.2.2⟩
      · intro _; rfl
theorem rowsErr_zero : ∀ {l : List Wrow}, rowsErr l = 0 ↔ ∀ x ∈ l, wrowErr x = 0 := by
  intro l
  induction l with
  | nil => simp [rowsErr]
  | cons x r ih =>
    rw [rowsErr]
    by_cases h : wrowErr x = 0
    · rw [if_pos h, ih]
      simp [h]
    · rw [if_neg h]
      simp [h]
theorem rowsChk_zero {l : List Wrow} : rowsChk l = 0 ↔ 0 < l.length ∧ l.length ≤ 64 ∧ ∀ x ∈ l, wrowErr x = 0 := by
  unfold rowsChk
  by_cases h : l.length = 0 ∨ 64 < l.length
  · rw [if_pos h]
    constructor
    · intro e; cases e
    · rintro ⟨a, b, _⟩; omega
  · rw [if_neg h, rowsErr_zero]
    constructor
    · intro e; exact ⟨by omega, by omega, e⟩
    · intro e; exact e.2.2
theorem delChk_zero {ids : List Int} {low high : Int} : delChk ids low high = 0 ↔ pchk ids = 0 ∧ ids.length ≠ 0 ∧ 0 ≤ low ∧ high ≤ 1099511627776 ∧ low ≤ high := by
  unfold delChk
  by_cases h1 : pchk ids = 0
  · rw [if_neg (by simpa using h1)]
    by_cases h2 : ids.length = 0
    · rw [if_pos h2]
      constructor
      · intro e; cases e
      · intro e; exact absurd h2 e.2.1
    · rw [if_neg h2]
      by_cases h3 : low < 0 ∨ 1099511627776 < high
      · rw [if_pos h3]
        constructor
        · intro e; cases e
        · intro e; omega
      · rw [if_neg h3]
        by_cases h4 : high < low
        · rw [if_pos h4]
          constructor
          · intro e; cases e
          · intro e; omega
        · rw [if_neg h4]
          exact ⟨fun _ => ⟨h1, h2, by omega, by omega, by omega⟩, fun _ => rfl⟩
  · rw [if_pos h1]
    exact ⟨fun e => absurd e h1, fun e => absurd e.1 h1⟩
/-- What a right record is, by its kind. -/
theorem recChk_zero {r : RecV} : recChk r = 0 ↔ (r.kind = 1 ∧ r.rows = [] ∧ r.ids = [] ∧ r.low = 0 ∧ r.high = 0 ∧ lbChk r.labels = 0) ∨ (r.kind = 2 ∧ r.labels = [] ∧ r.ids = [] ∧ r.low = 0 ∧ r.high = 0 ∧ rowsChk r.rows = 0) ∨ (r.kind = 3 ∧ r.labels = [] ∧ r.rows = [] ∧ delChk r.ids r.low r.high = 0) := by
  have hl : ∀ {α : Type} (l : List α), l.length ≠ 0 ↔ l ≠ [] := fun l => by simp
  unfold recChk Misfit
  simp only [hl]
  obtain ⟨k, la, ro, ids, lo, hi⟩ := r
  simp only
  by_cases h1 : k = 1
  · subst h1
    by_cases h2 : ro = [] <;> by_cases h3 : ids = [] <;> by_cases h4 : lo = 0 <;> by_cases h5 : hi = 0 <;> simp [h2, h3, h4, h5]
  · by_cases h2 : k = 2
    · subst h2
      by_cases h2 : la = [] <;> by_cases h3 : ids = [] <;> by_cases h4 : lo = 0 <;> by_cases h5 : hi = 0 <;> simp [h2, h3, h4, h5]
    · by_cases h3 : k = 3
      · subst h3
        by_cases h2 : la = [] <;> by_cases h3 : ro = [] <;> simp [h2, h3]
      · simp [h1, h2, h3]

/-! ### what stands at a place -/
/-- The bytes from a place up to another are x. -/
def Cov (b : List UInt8) (a p : Int) (x : List UInt8) : Prop := 0 ≤ a ∧ a ≤ p ∧ p ≤ b.length ∧ x = (b.drop a.toNat).take (p.toNat - a.toNat)
theorem Cov.refl {b : List UInt8} {a : Int} (h0 : 0 ≤ a) (h1 : a ≤ b.length) : Cov b a a [] := ⟨h0, by omega, h1, by simp⟩
theorem Cov.trans {b x y : List UInt8} {a p q : Int} (h : Cov b a p x) (k : Cov b p q y) : Cov b a q (x ++ y) := by
  obtain ⟨h0, h1, h2, rfl⟩ := h
  obtain ⟨k0, k1, k2, rfl⟩ := k
  refine ⟨h0, by omega, k2, ?_⟩
  have e1 : b.drop p.toNat = (b.drop a.toNat).drop (p.toNat - a.toNat) := by rw [List.drop_drop]; congr 1; omega
  rw [e1, ← List.take_add]
  congr 1
  omega
theorem Cov.all {b x : List UInt8} (h : Cov b 0 b.length x) : x = b := by
  have := h.2.2.2
  simpa using this
theorem gx_cov {b : List UInt8} {a : Int} {n nx : Nat} (h : GX b a n nx 0) : Cov b a nx (uintL n) := by
  rcases h with ⟨_, _, _, e⟩ | ⟨k, rfl, hk, hg⟩
  · cases e
  · have h1 := gu_bytes hg
    have h2 := gu_behind hg
    exact ⟨by omega, by omega, by omega, by rw [h1.1]; simp⟩
theorem tx_cov {b : List UInt8} {a : Int} {s : ByteArray} {k : Nat} (h : TX b a s k 0) : Cov b a k (textL s) := by
  obtain ⟨n, nx, e0, hg, ht⟩ := h
  generalize he : (0 : Nat) = e at ht
  cases ht with
  | no h => exact absurd he.symm (by assumption)
  | big h => cases he
  | short h hx hs => cases he
  | ok h hx hs =>
    have h1 := gx_cov hg
    have e1 : (txt ((b.drop nx).take n)).size = n := by simp [txt, ByteArray.size]; omega
    have e2 : strL (txt ((b.drop nx).take n)) = (b.drop nx).take n := strL_txt _
    unfold textL
    rw [e1, e2]
    exact h1.trans ⟨by omega, by omega, by omega, by congr 1; omega⟩
/-- The bytes of labels, from one on. -/
def lblsB (r : List Lbl) : List UInt8 := r.flatMap fun x => textL x.1 ++ textL x.2
theorem rl_cov {b : List UInt8} {n : Nat} {a : Int} {ls : List Lbl} {p : Int} {e : Nat} (h : RL b n a ls p e) (he : e = 0) (ha : 0 ≤ a) (hb : a ≤ b.length) : Cov b a p (lblsB ls) ∧ ls.length = n := by
  induction h with
  | done a => exact ⟨Cov.refl ha hb, rfl⟩
  | bad1 n a s k e h he' => exact absurd he he'
  | bad2 n a s k s2 k2 e h h2 he' => exact absurd he he'
  | ok n a s k s2 k2 ls p e h h2 r ih =>
    have c1 := tx_cov h
    have c2 := tx_cov h2
    obtain ⟨i1, i2⟩ := ih he (by omega) c2.2.2.1
    refine ⟨?_, by rw [List.length_cons, i2]⟩
    have := (c1.trans c2).trans i1
    exact this
theorem lbl_bytes (l : List Lbl) : bytesL l = uintL l.length ++ lblsB l := by
  have key : ∀ k, k ≤ l.length → bytesF l k = uintL l.length ++ lblsB (l.take k) := by
    intro k
    induction k with
    | zero => intro _; simp [bytesF, lblsB]
    | succ k ih =>
      intro hk
      have e1 : l.take (k + 1) = l.take k ++ [l[k]'(by omega)] := List.take_succ_eq_append_getElem (by omega)
      have e2 : nmOf l k = (l[k]'(by omega)).1 := by unfold nmOf; rw [List.getD_eq_getElem?_getD, List.getElem?_eq_getElem (by omega)]; rfl
      have e3 : vlOf l k = (l[k]'(by omega)).2 := by unfold vlOf; rw [List.getD_eq_getElem?_getD, List.getElem?_eq_getElem (by omega)]; rfl
      rw [bytesF, ih (by omega), e1, e2, e3]
      unfold lblsB
      rw [List.flatMap_append]
      simp [List.append_assoc]
  have := key l.length (Nat.le_refl _)
  rw [List.take_length] at this
  exact this
theorem py_cov {b : List UInt8} {a : Int} {ls : List Int} {p : Nat} (h : PY b a ls p 0) : Cov b a p (postL ls) ∧ pchk ls = 0 := by
  rcases h with ⟨_, _, _, e⟩ | ⟨k, rfl, hk, hp⟩
  · cases e
  · obtain ⟨h1, h2, h3, h4⟩ := px_list hp
    exact ⟨⟨by omega, by omega, by omega, by rw [h4]; simp⟩, h1⟩

/-! ### so many numbers, one behind the other -/
inductive GS (b : List UInt8) : Nat → Int → List Nat → Int → Nat → Prop
  | done (a : Int) : GS b 0 a [] a 0
  | bad (k : Nat) (a : Int) (n nx e : Nat) (h : GX b a n nx e) (he : e ≠ 0) : GS b (k + 1) a [] 0 e
  | more (k : Nat) (a : Int) (n nx : Nat) (ls : List Nat) (p : Int) (e : Nat) (h : GX b a n nx 0) (r : GS b k nx ls p e) : GS b (k + 1) a (n :: ls) p e
theorem gs_total (b : List UInt8) : ∀ k a, ∃ ls p e, GS b k a ls p e := by
  intro k
  induction k with
  | zero => intro a; exact ⟨_, _, _, .done a⟩
  | succ k ih =>
    intro a
    obtain ⟨n, nx, e, h⟩ := gx_total b a
    by_cases he : e = 0
    · subst he
      obtain ⟨ls, p, e, r⟩ := ih nx
      exact ⟨_, _, _, .more k a n nx ls p e h r⟩
    · exact ⟨_, _, _, .bad k a n nx e h he⟩
theorem gs_cov {b : List UInt8} {k : Nat} {a : Int} {ls : List Nat} {p : Int} {e : Nat} (h : GS b k a ls p e) (he : e = 0) (ha : 0 ≤ a) (hb : a ≤ b.length) : Cov b a p (ls.flatMap uintL) ∧ ls.length = k ∧ ∀ n ∈ ls, n < 9223372036854775808 := by
  induction h with
  | done a => exact ⟨Cov.refl ha hb, rfl, by simp⟩
  | bad k a n nx e h he' => exact absurd he he'
  | more k a n nx ls p e h r ih =>
    have c1 := gx_cov h
    obtain ⟨i1, i2, i3⟩ := ih he (by omega) c1.2.2.1
    refine ⟨c1.trans i1, by rw [List.length_cons, i2], fun m hm => ?_⟩
    rcases List.mem_cons.1 hm with rfl | hm
    · exact (gx_place h).2
    · exact i3 m hm

/-! ### what was laid down is read -/
theorem gx_at (X Y : List UInt8) (n : Nat) (hn : n < 9223372036854775808) : GX (X ++ (uintL n ++ Y)) (X.length : Int) n (X.length + (uintL n).length) 0 := by
  refine .inr ⟨X.length, rfl, by rw [List.length_append]; omega, ?_⟩
  have := gu_of X Y n hn
  rwa [List.append_assoc] at this
theorem tx_at (X Y : List UInt8) (s : ByteArray) (hs : s.size ≤ 65535) : TX (X ++ (textL s ++ Y)) (X.length : Int) s (X.length + (textL s).length) 0 := by
  have e : X ++ (textL s ++ Y) = X ++ (uintL s.size ++ (strL s ++ Y)) := by unfold textL; simp only [List.append_assoc]
  have hl := strL_length s
  have hg := gx_at X (strL s ++ Y) s.size (by omega)
  rw [← e] at hg
  refine ⟨s.size, X.length + (uintL s.size).length, 0, hg, ?_⟩
  have hlen : (X ++ (textL s ++ Y)).length = X.length + (uintL s.size).length + s.size + Y.length := by
    rw [e]; simp only [List.length_append]; omega
  have ht := GT.ok (l := X ++ (textL s ++ Y)) s.size (X.length + (uintL s.size).length) hs (by omega) (by omega)
  have hd : ((X ++ (textL s ++ Y)).drop (X.length + (uintL s.size).length)).take s.size = strL s := by
    rw [e, ← List.append_assoc, ← List.append_assoc]
    rw [show X.length + (uintL s.size).length = (X ++ uintL s.size).length from by simp, List.append_assoc, List.drop_left, ← hl, List.take_left]
  rw [hd, txt_strL] at ht
  have hk : X.length + (textL s).length = X.length + (uintL s.size).length + s.size := by
    unfold textL
    rw [List.length_append, hl]
    omega
  rw [hk]
  exact ht
theorem rl_at (r : List Lbl) (hr : ∀ x ∈ r, x.1.size ≤ 65535 ∧ x.2.size ≤ 65535) : ∀ X Y : List UInt8, RL (X ++ (lblsB r ++ Y)) r.length (X.length : Int) r ((X.length + (lblsB r).length : Nat) : Int) 0 := by
  induction r with
  | nil => intro X Y; exact .done _
  | cons x r ih =>
    intro X Y
    have hx := hr x (by simp)
    have e1 : X ++ (lblsB (x :: r) ++ Y) = X ++ (textL x.1 ++ (textL x.2 ++ (lblsB r ++ Y))) := by
      show X ++ (((textL x.1 ++ textL x.2) ++ lblsB r) ++ Y) = _
      simp only [List.append_assoc]
    have e2 : X ++ (lblsB (x :: r) ++ Y) = (X ++ textL x.1) ++ (textL x.2 ++ (lblsB r ++ Y)) := by rw [e1]; simp only [List.append_assoc]
    have e3 : X ++ (lblsB (x :: r) ++ Y) = (X ++ textL x.1 ++ textL x.2) ++ (lblsB r ++ Y) := by rw [e1]; simp only [List.append_assoc]
    have t1 := tx_at X (textL x.2 ++ (lblsB r ++ Y)) x.1 hx.1
    rw [← e1] at t1
    have t2 := tx_at (X ++ textL x.1) (lblsB r ++ Y) x.2 hx.2
    rw [← e2, List.length_append] at t2
    have t3 := ih (fun y hy => hr y (List.mem_cons_of_mem _ hy)) (X ++ textL x.1 ++ textL x.2) Y
    rw [← e3, List.length_append, List.length_append] at t3
    have hl : (lblsB (x :: r)).length = (textL x.1).length + (textL x.2).length + (lblsB r).length := by
      show ((textL x.1 ++ textL x.2) ++ lblsB r).length = _
      simp only [List.length_append]
    have := RL.ok r.length (X.length : Int) x.1 (X.length + (textL x.1).length) x.2 (X.length + (textL x.1).length + (textL x.2).length) r _ 0 t1 (by exact_mod_cast t2) (by exact_mod_cast t3)
    rw [hl]
    rw [show X.length + ((textL x.1).length + (textL x.2).length + (lblsB r).length) = X.length + (textL x.1).length + (textL x.2).length + (lblsB r).length from by omega]
    exact this
theorem py_at (ls : List Int) (h : pchk ls = 0) (X Y : List UInt8) : PY (X ++ (postL ls ++ Y)) (X.length : Int) ls (X.length + (postL ls).length) 0 := by
  have := px_of ls h X Y
  rw [List.append_assoc] at this
  exact .inr ⟨X.length, rfl, by rw [List.length_append]; omega, this⟩
theorem gs_at : ∀ (ls : List Nat) (X Y : List UInt8), (∀ n ∈ ls, n < 9223372036854775808) → GS (X ++ (ls.flatMap uintL ++ Y)) ls.length (X.length : Int) ls ((X.length + (ls.flatMap uintL).length : Nat) : Int) 0 := by
  intro ls
  induction ls with
  | nil => intro X Y _; exact .done _
  | cons n ls ih =>
    intro X Y h
    have e1 : X ++ ((n :: ls).flatMap uintL ++ Y) = X ++ (uintL n ++ (ls.flatMap uintL ++ Y)) := by simp [List.flatMap_cons]
    have e2 : X ++ ((n :: ls).flatMap uintL ++ Y) = (X ++ uintL n) ++ (ls.flatMap uintL ++ Y) := by simp [List.flatMap_cons]
    have g1 := gx_at X (ls.flatMap uintL ++ Y) n (h n (by simp))
    rw [← e1] at g1
    have g2 := ih (X ++ uintL n) Y fun m hm => h m (List.mem_cons_of_mem _ hm)
    rw [← e2, List.length_append] at g2
    have := GS.more ls.length (X.length : Int) n _ ls _ 0 g1 (by exact_mod_cast g2)
    have e3 : X.length + ((n :: ls).flatMap uintL).length = X.length + (uintL n).length + (ls.flatMap uintL).length := by rw [List.flatMap_cons, List.length_append]; omega
    rw [e3, List.length_cons]
    exact this
end Go.Proofs.Ytmgolnlkepiocaa

namespace Go.Proofs.Ytmgolnlkepiocaa
open Go.RowKit Go.Maps
set_option linter.unusedVariables false

/-! ### a record's rows -/
def wrow0 : Wrow := (0, 0, 0)
def wrowE (x : Wrow) : List Value := [.int .i64 x.1, .int .i64 x.2.1, .int .i64 x.2.2]
theorem wrowE_len (x : Wrow) : (wrowE x).length = 3 := rfl
def Wrows (w : World) (A : Option Addr) (l : List Wrow) : Prop := At w A (l.flatMap wrowE)
theorem Wrows.below {w w' : World} {A : Option Addr} {l : List Wrow} (h : Wrows w A l) (hb : Below w.heap.size w w') : Wrows w' A l := At.below h hb
theorem Wrows.alloc {w : World} {A : Option Addr} {l : List Wrow} (h : Wrows w A l) (o : Obj) : Wrows (w.alloc o) A l := At.alloc h o
theorem Wrows.nil (w : World) (A : Option Addr) : Wrows w A [] := .inl rfl
theorem Wrows.all {w : World} {A : Option Addr} {l : List Wrow} (h : Wrows w A l) (hl : 0 < l.length) :
    ∃ b o, A = some ⟨b, o, none⟩ ∧ b < w.heap.size ∧ ∀ i, i < l.length → w.cell? ⟨b, o + i * 3, none⟩ = some (.int .i64 (l.getD i wrow0).1) ∧ w.cell? ⟨b, o + i * 3 + 1, none⟩ = some (.int .i64 (l.getD i wrow0).2.1) ∧ w.cell? ⟨b, o + i * 3 + 2, none⟩ = some (.int .i64 (l.getD i wrow0).2.2) := by
  have hlen := flat_len wrowE 3 wrowE_len l
  rcases h with h | ⟨b, o, rfl, hb, hc⟩
  · rw [h] at hlen; simp at hlen; omega
  · exact ⟨b, o, rfl, hb, fun i hi => ⟨hc (i * 3 + 0) _ (flat_get wrowE 3 wrowE_len l i _ 0 (getD_some l wrow0 hi) (by omega)), hc (i * 3 + 1) _ (flat_get wrowE 3 wrowE_len l i _ 1 (getD_some l wrow0 hi) (by omega)), hc (i * 3 + 2) _ (flat_get wrowE 3 wrowE_len l i _ 2 (getD_some l wrow0 hi) (by omega))⟩⟩
theorem wrows_cell {w : World} {g : Nat} {a b c : Int} (h : Row w g 62 #[.int .i64 a, .int .i64 b, .int .i64 c]) : Wrows w (some ⟨g, 0, none⟩) [(a, b, c)] := At.row h
def OwnW (w : World) (base : Nat) (v : Value) (l : List Wrow) : Prop := w.ownsRow base 62 3 v l.length (l.flatMap wrowE)
section
variable {w w' : World} {base : Nat} {v : Value} {l : List Wrow}
theorem ownw_nil (w : World) (base : Nat) : OwnW w base (.slice none 0 0) [] := ⟨rfl, .inl ⟨rfl, rfl⟩⟩
theorem ownw_empty {g : Nat} (h : Row w g 62 #[]) (hb : base ≤ g) : OwnW w base (.slice (some ⟨g, 0, none⟩) 0 0) [] :=
  ⟨rfl, .inr ⟨g, 0, #[], rfl, hb, h, Nat.le_refl _, by simp [maxLen], by simp, by simp⟩⟩
theorem ownw_below (h : OwnW w base v l) (hb : Below w.heap.size w w') : OwnW w' base v l := rows_below h hb
theorem ownw_lower {base' : Nat} (h : OwnW w base v l) (hb : base' ≤ base) : OwnW w base' v l := rows_lower h hb
theorem ownw_slice (h : OwnW w base v l) : ∃ P c, v = .slice P l.length c ∧ l.length ≤ c ∧ Wrows w P l ∧ ∀ ad, P = some ad → base ≤ ad.block := rows_slice h
end
theorem wrow_info : (Try.prog.info? 62).map (fun i => (i.zero, i.size, i.bytes)) = some (some (.agg #[.int .i64 0, .int .i64 0, .int .i64 0]), 3, 24) := by kernel_rfl
theorem wrow_one (l : List Wrow) : ∀ u ∈ l.flatMap wrowE, u.oneCell' = true := by
  intro u hu
  simp only [List.mem_flatMap, wrowE, List.mem_cons, List.not_mem_nil, or_false] at hu
  obtain ⟨x, _, rfl | rfl | rfl⟩ := hu <;> rfl
theorem app_wrows {w : World} {ops : Array Oper} {rest : List Oper} {o : Oper} {a : Act} {Q : Exit → Act → World → Prop} (hgd : o.guard = none) (s y : Operand)
    (ho : o.op = .call { callee := .builtin .append, args := #[s, y], argTypes := #[23, 23] })
    (base : Nat) (v : Value) (x : List Wrow) (hs : a.eval s = v) (hown : OwnW w base v x) (A : Option Addr) (l : List Wrow) (c : Nat) (hy : a.eval y = .slice A l.length c) (hA : Wrows w A l) (hn : (x.length + l.length) * 24 ≤ 140737488355328) (hbase : base ≤ w.heap.size)
    (h : ∀ v' w', OwnW w' base v' (x ++ l) → Below base w w' → w.grownBy w' v.ownBlock → wpList Try.prog ops Q rest (a.put o.dst v') w') : wpList Try.prog ops Q (o :: rest) a w := by
  obtain ⟨i0, hi, hz0, hz1, hz2⟩ := info_parts wrow_info
  refine wpList_app_at hgd s y 23 ho base 62 i0 _ 3 24 Try.underlying23 hi hz0 hz1 hz2 rfl (by omega) v x.length (x.flatMap wrowE) hs hown A l.length c (l.flatMap wrowE) hy (flat_len wrowE 3 wrowE_len l) hA (wrow_one l)
    (by simp only [maxLen]; omega) hn hbase ?_
  intro v' w' h1 h2 h3
  refine h v' w' ?_ h2 h3
  unfold OwnW
  rw [List.flatMap_append, List.length_append]
  exact h1

/-! ### a record -/
/-- Where a record's slices lie. -/
structure RecM where
  la : Option Addr
  lc : Nat
  ra : Option Addr
  rc : Nat
  ia : Option Addr
  ic : Nat
def recM0 : RecM := ⟨none, 0, none, 0, none, 0⟩
def recC (R : RecV) (m : RecM) : List Value := [.int .i64 R.kind, .slice m.la R.labels.length m.lc, .slice m.ra R.rows.length m.rc, .slice m.ia R.ids.length m.ic, .int .i64 R.low, .int .i64 R.high]
theorem recC_len (R : RecV) (m : RecM) : (recC R m).length = 6 := rfl
structure RecIn (w : World) (R : RecV) (m : RecM) : Prop where
  labels : Lbls w m.la R.labels
  rows : Wrows w m.ra R.rows
  ids : Zi w m.ia R.ids
  lc : R.labels.length ≤ m.lc
  rc : R.rows.length ≤ m.rc
  ic : R.ids.length ≤ m.ic
/-- No part of a record is longer than a law's argument may be. -/
structure RecFit (R : RecV) : Prop where
  fits : LFits R.labels
  labels : R.labels.length * 32 ≤ 140737488351232
  rows : R.rows.length * 24 ≤ 140737488351232
  ids : R.ids.length ≤ 17592186043904
theorem RecIn.below {w w' : World} {R : RecV} {m : RecM} (h : RecIn w R m) (hb : Below w.heap.size w w') : RecIn w' R m := ⟨h.labels.below hb, h.rows.below hb, h.ids.below hb, h.lc, h.rc, h.ic⟩
theorem RecIn.alloc {w : World} {R : RecV} {m : RecM} (h : RecIn w R m) (o : Obj) : RecIn (w.alloc o) R m := h.below (below_one w o)
theorem recIn_zero (w : World) : RecIn w rec0 recM0 := ⟨Lbls.nil _ _, Wrows.nil _ _, Zi.nil _ _, Nat.le_refl _, Nat.le_refl _, Nat.le_refl _⟩
theorem recFit_zero : RecFit rec0 := ⟨fun i hi => by simp [rec0] at hi, by simp [rec0], by simp [rec0], by simp [rec0]⟩
theorem rec_cells {w : World} {g : Nat} {cs : Array Value} (h : Row w g 26 cs) {v0 v1 v2 v3 v4 v5 : Value} (hc : cs = #[v0, v1, v2, v3, v4, v5]) :
    w.cell? ⟨g, 0, none⟩ = some v0 ∧ w.cell? ⟨g, 1, none⟩ = some v1 ∧ w.cell? ⟨g, 2, none⟩ = some v2 ∧ w.cell? ⟨g, 3, none⟩ = some v3 ∧ w.cell? ⟨g, 4, none⟩ = some v4 ∧ w.cell? ⟨g, 5, none⟩ = some v5 := by
  subst hc
  exact ⟨h.cell 0, h.cell 1, h.cell 2, h.cell 3, h.cell 4, h.cell 5⟩
/-- Where a right record is told, no part of it is long. -/
theorem right_fit {R : RecV} (h : recChk R = 0) : RecFit R := by
  have lb : ∀ {l : List Lbl}, lbChk l = 0 → LFits l ∧ l.length * 32 ≤ 140737488351232 := fun {l} h => by
    refine ⟨fun i hi => ?_, by have := (lbChk_ok.1 h).1; omega⟩
    have := right_at h hi
    omega
  obtain ⟨k, la, ro, ids, lo, hi⟩ := R
  rcases recChk_zero.1 h with ⟨h1, h2, h3, h4, h5, h6⟩ | ⟨h1, h2, h3, h4, h5, h6⟩ | ⟨h1, h2, h3, h4⟩ <;> simp only at *
  · subst h2 h3
    exact ⟨(lb h6).1, (lb h6).2, by simp, by simp⟩
  · subst h2 h3
    exact ⟨fun i hi => by simp at hi, by simp, by have := (rowsChk_zero.1 h6).2.1; show ro.length * 24 ≤ _; omega, by simp⟩
  · subst h2 h3
    exact ⟨fun i hi => by simp at hi, by simp, by simp, by have := (pchk_zero.1 (delChk_zero.1 h4).1).1; show ids.length ≤ _; omega⟩

/-! ### rows of records -/
abbrev Pl := RecV × RecM
def plE (x : Pl) : List Value := recC x.1 x.2
theorem plE_len (x : Pl) : (plE x).length = 6 := rfl
def pl0 : Pl := (rec0, recM0)
def Recs (w : World) (A : Option Addr) (ps : List Pl) : Prop := At w A (ps.flatMap plE) ∧ ∀ x ∈ ps, RecIn w x.1 x.2
theorem Recs.below {w w' : World} {A : Option Addr} {ps : List Pl} (h : Recs w A ps) (hb : Below w.heap.size w w') : Recs w' A ps := ⟨h.1.below hb, fun x hx => (h.2 x hx).below hb⟩
theorem Recs.alloc {w : World} {A : Option Addr} {ps : List Pl} (h : Recs w A ps) (o : Obj) : Recs (w.alloc o) A ps := h.below (below_one w o)
theorem Recs.nil (w : World) (A : Option Addr) : Recs w A [] := ⟨.inl rfl, fun x hx => by cases hx⟩
theorem Recs.all {w : World} {A : Option Addr} {ps : List Pl} (h : Recs w A ps) (hl : 0 < ps.length) :
    ∃ b o, A = some ⟨b, o, none⟩ ∧ b < w.heap.size ∧ ∀ i, i < ps.length → RecIn w (ps.getD i pl0).1 (ps.getD i pl0).2 ∧ ∀ j u, (plE (ps.getD i pl0))[j]? = some u → w.cell? ⟨b, o + i * 6 + j, none⟩ = some u := by
  have hlen := flat_len plE 6 plE_len ps
  rcases h.1 with h1 | ⟨b, o, rfl, hb, hc⟩
  · rw [h1] at hlen; simp at hlen; omega
  · refine ⟨b, o, rfl, hb, fun i hi => ⟨h.2 _ ?_, fun j u hj => ?_⟩⟩
    · have := getD_some ps pl0 hi
      exact List.mem_of_getElem? this
    · have hj6 : j < 6 := by
        have := (List.getElem?_eq_some_iff.1 hj).1
        rw [plE_len] at this
        exact this
      have := hc (i * 6 + j) u ((flat_get plE 6 plE_len ps i _ j (getD_some ps pl0 hi) hj6).trans hj)
      rw [Nat.add_assoc]
      exact this
theorem Recs.front {w : World} {A : Option Addr} {ps : List Pl} (h : Recs w A ps) (k : Nat) : Recs w A (ps.take k) := by
  refine ⟨?_, fun x hx => h.2 x (List.mem_of_mem_take hx)⟩
  rcases h.1 with h1 | ⟨b, o, rfl, hb, hc⟩
  · refine .inl ?_
    rw [List.flatMap_eq_nil_iff] at h1 ⊢
    exact fun x hx => h1 x (List.mem_of_mem_take hx)
  · refine .inr ⟨b, o, rfl, hb, fun j u hj => hc j u ?_⟩
    have : ps.flatMap plE = (ps.take k).flatMap plE ++ (ps.drop k).flatMap plE := by rw [← List.flatMap_append, List.take_append_drop]
    rw [this, List.getElem?_append_left (List.getElem?_eq_some_iff.1 hj).1]
    exact hj
/-- No slice of the record lies in block k. -/
def Apart (k : Nat) (x : Pl) : Prop := (∀ ad, x.2.la = some ad → ad.block ≠ k ∨ x.1.labels = []) ∧ (∀ ad, x.2.ra = some ad → ad.block ≠ k ∨ x.1.rows = []) ∧ (∀ ad, x.2.ia = some ad → ad.block ≠ k ∨ x.1.ids = [])
theorem at_block {w : World} {A : Option Addr} {xs : List Value} (h : At w A xs) (hx : xs ≠ []) : ∀ ad, A = some ad → ad.block < w.heap.size := by
  rcases h with h | ⟨b, o, rfl, hb, _⟩
  · exact absurd h hx
  · intro ad e
    injection e with e
    subst e
    exact hb
theorem at_move {w w' : World} {A : Option Addr} {xs : List Value} (h : At w A xs) (hs : w.heap.size ≤ w'.heap.size) (hb : xs = [] ∨ ∀ ad, A = some ad → w'.heap[ad.block]? = w.heap[ad.block]?) : At w' A xs := by
  rcases h with h | ⟨b, o, rfl, hlt, hc⟩
  · exact .inl h
  · rcases hb with h0 | hb
    · exact .inl h0
    · refine .inr ⟨b, o, rfl, by omega, fun j u hj => ?_⟩
      rw [← hc j u hj]
      exact World.cell?_of_block (w := w) (a := ⟨b, o + j, none⟩) (hb ⟨b, o, none⟩ rfl)
theorem flat_nil {α : Type} (f : α → List Value) (n : Nat) (hf : ∀ x, (f x).length = n + 1) {l : List α} : l.flatMap f = [] ↔ l = [] := by
  have := flat_len f (n + 1) hf l
  constructor
  · intro h
    rw [h] at this
    cases l with
    | nil => rfl
    | cons x r => simp [Nat.succ_mul] at this
  · rintro rfl
    rfl
/-- What turns apart from a record's blocks leaves it. -/
theorem RecIn.move {w w' : World} {R : RecV} {m : RecM} (h : RecIn w R m) {row : Option Nat} (hg : w.grownBy w' row) (hap : ∀ k, row = some k → Apart k (R, m)) : RecIn w' R m := by
  have key : ∀ {α : Type} (f : α → List Value) (n : Nat) (hf : ∀ x, (f x).length = n + 1) (A : Option Addr) (l : List α), At w A (l.flatMap f) → (∀ k, row = some k → ∀ ad, A = some ad → ad.block ≠ k ∨ l = []) → At w' A (l.flatMap f) := by
    intro α f n hf A l hA hk
    refine at_move hA hg.size ?_
    by_cases h0 : l = []
    · exact .inl ((flat_nil f n hf).2 h0)
    · refine .inr fun ad e => hg.block _ (at_block hA (fun h => h0 ((flat_nil f n hf).1 h)) ad e) fun e2 => ?_
      rcases hk _ e2.symm ad e with h1 | h1
      · exact h1 rfl
      · exact h0 h1
  exact ⟨key lblE 1 lblE_len _ _ h.labels fun k hk => (hap k hk).1, key wrowE 2 wrowE_len _ _ h.rows fun k hk => (hap k hk).2.1, key intE 0 intE_len _ _ h.ids fun k hk => (hap k hk).2.2, h.lc, h.rc, h.ic⟩
/-- A block that is not there yet holds no slice of a record. -/
theorem RecIn.apart_new {w : World} {R : RecV} {m : RecM} (h : RecIn w R m) {k : Nat} (hk : w.heap.size ≤ k) : Apart k (R, m) := by
  have key : ∀ {α : Type} (f : α → List Value) (n : Nat) (hf : ∀ x, (f x).length = n + 1) (A : Option Addr) (l : List α), At w A (l.flatMap f) → ∀ ad, A = some ad → ad.block ≠ k ∨ l = [] := by
    intro α f n hf A l hA ad e
    by_cases h0 : l = []
    · exact .inr h0
    · have := at_block hA (fun h => h0 ((flat_nil f n hf).1 h)) ad e
      exact .inl (by omega)
  exact ⟨key lblE 1 lblE_len _ _ h.labels, key wrowE 2 wrowE_len _ _ h.rows, key intE 0 intE_len _ _ h.ids⟩
/-- A row of records of the call's own; where the records' slices lie is said in ps. -/
structure OwnR (w : World) (base : Nat) (v : Value) (ps : List Pl) : Prop where
  row : w.ownsRow base 26 6 v ps.length (ps.flatMap plE)
  each : ∀ x ∈ ps, RecIn w x.1 x.2
  apart : ∀ k, v.ownBlock = some k → ∀ x ∈ ps, Apart k x
section
variable {w w' : World} {base : Nat} {v : Value} {ps : List Pl}
theorem ownr_nil (w : World) (base : Nat) : OwnR w base (.slice none 0 0) [] := ⟨⟨rfl, .inl ⟨rfl, rfl⟩⟩, fun x (hx : x ∈ ([] : List Pl)) => (nomatch hx), fun k (hk : none = some k) => (nomatch hk)⟩
theorem ownr_below (h : OwnR w base v ps) (hb : Below w.heap.size w w') : OwnR w' base v ps := ⟨rows_below h.row hb, fun x hx => (h.each x hx).below hb, h.apart⟩
theorem ownr_lower {base' : Nat} (h : OwnR w base v ps) (hb : base' ≤ base) : OwnR w base' v ps := ⟨rows_lower h.row hb, h.each, h.apart⟩
theorem ownr_slice (h : OwnR w base v ps) : ∃ P c, v = .slice P ps.length c ∧ ps.length ≤ c ∧ Recs w P ps ∧ ∀ ad, P = some ad → base ≤ ad.block := by
  obtain ⟨P, c, h1, h2, h3, h4⟩ := rows_slice h.row
  exact ⟨P, c, h1, h2, ⟨h3, h.each⟩, h4⟩
end
theorem rec_info : (Try.prog.info? 26).map (fun i => (i.zero, i.size, i.bytes)) = some (some (.agg #[.int .i64 0, .slice none 0 0, .slice none 0 0, .slice none 0 0, .int .i64 0, .int .i64 0]), 6, 96) := by kernel_rfl
/-- One more record behind an own row. -/
theorem app_rec {w0 : World} {ops : Array Oper} {rest : List Oper} {o : Oper} {a : Act} {Q : Exit → Act → World → Prop} (hgd : o.guard = none) (s y : Operand)
    (ho : o.op = .call { callee := .builtin .append, args := #[s, y], argTypes := #[43, 43] })
    (base : Nat) (v : Value) (ps : List Pl) (hs : a.eval s = v) (hown : OwnR w0 base v ps) (R : RecV) (m : RecM) (hR : RecIn w0 R m) (hap : ∀ k, v.ownBlock = some k → Apart k (R, m)) (c : Nat)
    (hy : a.eval y = .slice (some ⟨w0.heap.size, 0, none⟩) 1 c) (hn : ps.length ≤ 1000000000000) (hbase : base ≤ w0.heap.size)
    (h : ∀ v' w', OwnR w' base v' (ps ++ [(R, m)]) → Below base w0 w' → (∀ k, k < w0.heap.size → v.ownBlock ≠ some k → w'.heap[k]? = w0.heap[k]?) → (v'.ownBlock = v.ownBlock ∨ v'.ownBlock = some (w0.heap.size + 1)) → wpList Try.prog ops Q rest (a.put o.dst v') w') :
    wpList Try.prog ops Q (o :: rest) a (w0.alloc (.cells (recC R m).toArray 26)) := by
  obtain ⟨i0, hi, hz0, hz1, hz2⟩ := info_parts rec_info
  have hA := below_one w0 (.cells (recC R m).toArray 26)
  have hF1 := ownr_below hown hA
  have hnew := Row.new w0 26 (recC R m).toArray
  refine wpList_append_own_at _ hgd s y 43 ho base 26 i0 _ 6 96 Try.underlying43 hi hz0 hz1 hz2 rfl (by omega) v ps.length (ps.flatMap plE) hs hF1.row _ 1 c (plE (R, m)) hy rfl ?_ ?_
    (by simp only [maxLen]; omega) (by omega) (Nat.le_trans hbase hA.size) ?_
  · intro j u hj
    rw [add_at, Nat.zero_add, hnew.cell j]
    rw [← Array.getElem?_toList]
    exact hj
  · intro u hu
    simp only [plE, recC, List.mem_cons, List.not_mem_nil, or_false] at hu
    rcases hu with rfl | rfl | rfl | rfl | rfl | rfl <;> rfl
  · intro v' w' k1 k2 _ k4
    have hsz : (w0.alloc (.cells (recC R m).toArray 26)).heap.size = w0.heap.size + 1 := by simp
    rw [hsz] at k4
    refine h v' w' ⟨by rw [List.length_append, List.flatMap_append]; simpa using k1, fun x hx => ?_, fun k hk x hx => ?_⟩ (Below.grown (hA.mono hbase) k2 (Nat.le_trans hbase hA.size) (fun k hk => (World.ownsRow.lt hF1.row _ hk).1)) (fun k hk hne => ?_) k4
    · rcases List.mem_append.1 hx with hx | hx
      · exact (hF1.each x hx).move k2 fun k hk => hF1.apart k hk x hx
      · obtain rfl := List.mem_singleton.1 hx
        exact (hR.below hA).move k2 hap
    · rcases k4 with e | e
      · rcases List.mem_append.1 hx with hx | hx
        · exact hF1.apart k (e.symm.trans hk) x hx
        · obtain rfl := List.mem_singleton.1 hx
          exact hap k (e.symm.trans hk)
      · rw [e] at hk
        injection hk with hk
        rcases List.mem_append.1 hx with hx | hx
        · exact (hown.each x hx).apart_new (by omega)
        · obtain rfl := List.mem_singleton.1 hx
          exact hR.apart_new (by omega)
    · rw [k2.block k (by rw [hsz]; omega) (fun e => hne e.symm), Below.heap_alloc _ _ _ hk]
end Go.Proofs.Ytmgolnlkepiocaa

namespace Go.Proofs.Ytmgolnlkepiocaa
set_option linter.unusedVariables false

/-- A log's bytes. -/
def logL (rs : List RecV) : List UInt8 := rs.flatMap fun r => frameL (recL r)
theorem logL_nil : logL [] = [] := rfl
theorem logL_cons (r : RecV) (rs : List RecV) : logL (r :: rs) = frameL (recL r) ++ logL rs := rfl
theorem logL_app (a b : List RecV) : logL (a ++ b) = logL a ++ logL b := by unfold logL; rw [List.flatMap_append]
theorem logL_snoc (a : List RecV) (r : RecV) : logL (a ++ [r]) = logL a ++ frameL (recL r) := by rw [logL_app, logL_cons, logL_nil, List.append_nil]
def Rights (rs : List RecV) : Prop := ∀ r ∈ rs, recChk r = 0
theorem rights_nil : Rights [] := fun r (hr : r ∈ ([] : List RecV)) => nomatch hr
theorem rowsL_len (l : List Wrow) (h : ∀ x ∈ l, wrowErr x = 0) : (rowsL l).length ≤ 27 * l.length := by
  induction l with
  | nil => simp [rowsL]
  | cons x r ih =>
    have h1 := wrowErr_zero.1 (h x (by simp))
    have h2 := ih fun y hy => h y (List.mem_cons_of_mem _ hy)
    have a1 := uintL_9 (n := x.1.toNat) (by omega)
    have a2 := uintL_9 (n := x.2.1.toNat) (by omega)
    have a3 := uintL_9 (n := zigV x.2.2) (by unfold zigV; split <;> omega)
    have e : rowsL (x :: r) = wrowL x ++ rowsL r := rfl
    rw [e, List.length_append, List.length_cons]
    unfold wrowL
    rw [List.length_append, List.length_append]
    omega
theorem recL_len {r : RecV} (h : recChk r = 0) : (recL r).length ≤ 10000 := by
  have hk : (uintL r.kind.toNat).length ≤ 9 := uintL_9 (by rcases recChk_zero.1 h with h | h | h <;> rw [h.1] <;> decide)
  unfold recL
  rw [List.length_append]
  rcases recChk_zero.1 h with ⟨k, _, _, _, _, h⟩ | ⟨k, _, _, _, _, h⟩ | ⟨k, _, _, h⟩
  · rw [if_pos k]
    have : (bytesL r.labels).length ≤ 1000 := bytesF_small h (Nat.le_refl _)
    omega
  · rw [if_neg (by omega), if_pos k]
    obtain ⟨h1, h2, h3⟩ := rowsChk_zero.1 h
    have a1 := uintL_9 (n := r.rows.length) (by omega)
    have a2 := rowsL_len r.rows h3
    rw [List.length_append]
    omega
  · rw [if_neg (by omega), if_neg (by omega)]
    obtain ⟨h1, h2, h3, h4, h5⟩ := delChk_zero.1 h
    have a1 := postL_len h1
    have a2 := uintL_9 (n := r.low.toNat) (by omega)
    have a3 := uintL_9 (n := r.high.toNat) (by omega)
    rw [List.length_append, List.length_append]
    omega
theorem logL_len {rs : List RecV} (h : Rights rs) : (logL rs).length ≤ 10006 * rs.length := by
  induction rs with
  | nil => simp [logL]
  | cons r rs ih =>
    have h1 := recL_len (h r (by simp))
    have h2 := ih fun y hy => h y (List.mem_cons_of_mem _ hy)
    rw [logL_cons, List.length_append, frameL_length, List.length_cons]
    omega

/-- The records of the whole part, from a place on, and where it ends. -/
inductive WH (b : List UInt8) : Nat → List RecV → Nat → Prop
  | stop (a : Nat) (x : List UInt8) (n e : Nat) (h : FG b a x n e) (he : e ≠ 0) : WH b a [] a
  | odd (a : Nat) (x : List UInt8) (n : Nat) (h : FG b a x n 0) (hx : ∀ r, ¬ IsRec x r) : WH b a [] a
  | next (a : Nat) (r : RecV) (n : Nat) (rs : List RecV) (p : Nat) (h : FG b a (recL r) n 0) (hr : recChk r = 0) (k : WH b n rs p) : WH b a (r :: rs) p
theorem wh_total (b : List UInt8) : ∀ m a, b.length - a ≤ m → a ≤ b.length → ∃ rs p, WH b a rs p := by
  intro m
  induction m with
  | zero =>
    intro a h1 h2
    exact ⟨_, _, .stop a [] 0 4 (.few (by omega)) (by decide)⟩
  | succ m ih =>
    intro a h1 h2
    obtain ⟨x, n, e, h⟩ := fg_total b a
    by_cases he : e = 0
    · subst he
      obtain ⟨g1, g2, g3⟩ := fg_next h rfl
      by_cases hx : ∃ r, IsRec x r
      · obtain ⟨r, hr, rfl⟩ := hx
        obtain ⟨rs, p, k⟩ := ih n (by omega) g2
        exact ⟨_, _, .next a r n rs p h hr k⟩
      · exact ⟨_, _, .odd a x n h fun r hr => hx ⟨r, hr⟩⟩
    · exact ⟨_, _, .stop a x n e h he⟩
theorem fg_cov {b : List UInt8} {a : Nat} {x : List UInt8} {n : Nat} (h : FG b a x n 0) : frameL x = (b.drop a).take (n - a) := by
  generalize he : (0 : Nat) = e at h
  cases h with
  | few h => cases he
  | short h6 h => cases he
  | bad h hc => cases he
  | ok h hc => rw [(frame_at b a h).2 hc]; congr 1; omega
theorem wh_cov {b : List UInt8} {a : Nat} {rs : List RecV} {p : Nat} (h : WH b a rs p) : a ≤ b.length → a ≤ p ∧ p ≤ b.length ∧ logL rs = (b.drop a).take (p - a) ∧ Rights rs ∧ rs.length * 6 + a ≤ b.length := by
  induction h with
  | stop a x n e h he => intro ha; exact ⟨Nat.le_refl _, ha, by simp [logL], rights_nil, by simpa using ha⟩
  | odd a x n h hx => intro ha; exact ⟨Nat.le_refl _, ha, by simp [logL], rights_nil, by simpa using ha⟩
  | next a r n rs p h hr k ih =>
    intro ha
    obtain ⟨g1, g2, g3⟩ := fg_next h rfl
    obtain ⟨i1, i2, i3, i4, i5⟩ := ih g2
    refine ⟨by omega, i2, ?_, ?_, by rw [List.length_cons]; omega⟩
    · rw [logL_cons, fg_cov h, i3]
      have e1 : b.drop n = (b.drop a).drop (n - a) := by rw [List.drop_drop]; congr 1; omega
      rw [e1, ← List.take_add]
      congr 1
      omega
    · intro y hy
      rcases List.mem_cons.1 hy with rfl | hy
      · exact hr
      · exact i4 y hy
theorem wh_take {b : List UInt8} {rs : List RecV} {p : Nat} (h : WH b 0 rs p) : b.take p = logL rs ∧ p = (logL rs).length := by
  obtain ⟨_, h2, h3, _⟩ := wh_cov h (Nat.zero_le _)
  rw [h3]
  simp
  omega
/-- Behind right records the reading goes on. -/
theorem wh_on {pre more : List UInt8} {rs2 : List RecV} {p : Nat} : ∀ (rs : List RecV) (pre : List UInt8), Rights rs → WH (pre ++ logL rs ++ more) (pre.length + (logL rs).length) rs2 p → WH (pre ++ logL rs ++ more) pre.length (rs ++ rs2) p := by
  intro rs
  induction rs with
  | nil => intro pre _ h; simpa [logL] using h
  | cons r rs ih =>
    intro pre hr h
    have h1 := recL_len (hr r (by simp))
    have hf := fg_of pre (recL r) (logL rs ++ more) (by omega)
    have e1 : pre ++ frameL (recL r) ++ (logL rs ++ more) = pre ++ logL (r :: rs) ++ more := by rw [logL_cons]; simp only [List.append_assoc]
    rw [e1] at hf
    refine .next _ r _ _ _ hf (hr r (by simp)) ?_
    have e2 : pre ++ logL (r :: rs) ++ more = (pre ++ frameL (recL r)) ++ logL rs ++ more := by rw [logL_cons]; simp only [List.append_assoc]
    have e3 : pre.length + (recL r).length + 6 = (pre ++ frameL (recL r)).length := by rw [List.length_append, frameL_length]; omega
    rw [e2, e3]
    refine ih (pre ++ frameL (recL r)) (fun y hy => hr y (List.mem_cons_of_mem _ hy)) ?_
    rw [← e2, ← e3]
    rw [logL_cons, List.length_append, frameL_length] at h
    rw [show pre.length + (recL r).length + 6 + (logL rs).length = pre.length + ((recL r).length + 6 + (logL rs).length) from by omega]
    exact h
theorem cat_log (rs : List RecV) : ∀ i, i ≤ rs.length → cat (rs.map recL) i = logL (rs.take i) := by
  intro i
  induction i with
  | zero => intro _; rfl
  | succ i ih =>
    intro h
    rw [cat, ih (by omega), List.take_succ_eq_append_getElem (by omega), logL_snoc]
    congr 2
    rw [List.getD_eq_getElem?_getD, List.getElem?_eq_getElem (by rw [List.length_map]; omega)]
    simp
theorem off_log (rs : List RecV) (i : Nat) (h : i ≤ rs.length) : off (rs.map recL) i = (logL (rs.take i)).length := by rw [← cat_length, cat_log rs i h]
theorem af_wh {b : List UInt8} {a : Nat} {xs : List (List UInt8)} {s : Nat} (h : AF b a xs s) : ∀ rs : List RecV, Rights rs → xs = rs.map recL → WH b a rs s := by
  induction h with
  | stop a n e x h he =>
    intro rs _ hx
    cases rs with
    | nil => exact .stop a x n e h he
    | cons r rs => cases hx
  | next a n s x xs h r ih =>
    intro rs hr hx
    cases rs with
    | nil => cases hx
    | cons q rs =>
      injection hx with h1 h2
      subst h1
      exact .next a q n rs s h (hr q (by simp)) (ih rs (fun y hy => hr y (List.mem_cons_of_mem _ hy)) h2)
/-- Of a log that is cut off those records are told that are whole. -/
theorem wh_cut (rs : List RecV) (hr : Rights rs) (k : Nat) (hk : k ≤ (logL rs).length) : ∃ j, j ≤ rs.length ∧ (logL (rs.take j)).length ≤ k ∧ (∀ i, i ≤ rs.length → (logL (rs.take i)).length ≤ k → i ≤ j) ∧ WH ((logL rs).take k) 0 (rs.take j) (logL (rs.take j)).length := by
  obtain ⟨W, h1, h2, h3, h4⟩ := whole_some (rs.map recL) k rs.length
  have hall := off_log rs rs.length (Nat.le_refl _)
  rw [List.take_length] at hall
  have hlen : ∀ i, i < rs.length → ((rs.map recL).getD i []).length ≤ 65535 := by
    intro i hi
    rw [List.getD_eq_getElem?_getD, List.getElem?_eq_getElem (by rw [List.length_map]; omega)]
    simp only [List.getElem_map, Option.getD_some]
    have := recL_len (hr _ (List.getElem_mem hi))
    omega
  have hc := cuts_all (rs.map recL) rs.length k W h1 (by rw [List.length_map]) h2 (by omega) h4 hlen W 0 (by omega) (Nat.zero_le _)
  rw [cat_log rs _ (Nat.le_refl _), List.take_length, off_log rs W h1, List.drop_zero, Nat.sub_zero] at hc
  refine ⟨W, h1, by rw [← off_log rs W h1]; exact h2, fun i hi hik => ?_, af_wh hc (rs.take W) (fun y hy => hr y (List.mem_of_mem_take hy)) (by rw [List.map_take])⟩
  rcases Nat.lt_or_ge W i with hlt | hge
  · have h5 := h4 (by omega)
    have h6 := off_mono (rs.map recL) (show W + 1 ≤ i from hlt)
    rw [← off_log rs i hi] at hik
    omega
  · exact hge
theorem wh_whole (rs : List RecV) (hr : Rights rs) : WH (logL rs) 0 rs (logL rs).length := by
  obtain ⟨j, h1, h2, h3, h4⟩ := wh_cut rs hr (logL rs).length (Nat.le_refl _)
  have h5 := h3 rs.length (Nat.le_refl _) (by rw [List.take_length]; exact Nat.le_refl _)
  obtain rfl : j = rs.length := by omega
  rw [List.take_length, List.take_length] at h4
  exact h4
end Go.Proofs.Ytmgolnlkepiocaa
