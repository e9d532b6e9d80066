/- Plain mathematics of layer 9: a list's bytes, and what is read of bytes. No program in sight. -/
import Derived.Test.YtiepepikbophmaaPoMath
namespace Go.Proofs.Ytiepepikbophmaa
set_option linter.unusedVariables false

/-- Numbers as bytes: of each how much it is above the one ahead. -/
def riseF : Int → List Int → List UInt8
  | _, [] => []
  | last, n :: r => uintL (n - last).toNat ++ riseF n r
def postL (l : List Int) : List UInt8 := uintL l.length ++ riseF 0 l
/-- The number that a list goes on from at a place. -/
def before (l : List Int) (k : Nat) : Int := if k = 0 then 0 else l.getD (k - 1) 0
theorem before_succ (l : List Int) (k : Nat) : before l (k + 1) = l.getD k 0 := by simp [before]
theorem rise_next (l : List Int) {k : Nat} (h : k < l.length) : riseF (before l k) (l.drop k) = uintL (l.getD k 0 - before l k).toNat ++ riseF (before l (k + 1)) (l.drop (k + 1)) := by
  rw [drop_cons l h, riseF, before_succ]
theorem up_at : ∀ (l : List Int) (p : Int) (k : Nat), Up p l → k < l.length → p < l.getD k 0 ∧ l.getD k 0 ≤ 1099511627776 ∧ (0 < k → l.getD (k - 1) 0 < l.getD k 0) := by
  intro l
  induction l with
  | nil => intro p k _ h; simp at h
  | cons x l ih =>
    intro p k h hk
    cases k with
    | zero => exact ⟨h.1, h.2.1, fun h0 => absurd h0 (by omega)⟩
    | succ k =>
      have h1 := ih x k h.2.2 (by simpa using hk)
      have e : (x :: l).getD (k + 1) 0 = l.getD k 0 := by simp
      rw [e]
      refine ⟨by have := h.1; omega, h1.2.1, fun _ => ?_⟩
      rw [Nat.add_sub_cancel]
      cases k with
      | zero => exact h1.1
      | succ k =>
        have := h1.2.2 (by omega)
        simpa using this
theorem rise_at {l : List Int} (h : pchk l = 0) {k : Nat} (hk : k < l.length) : 0 ≤ before l k ∧ before l k ≤ l.getD k 0 ∧ l.getD k 0 ≤ 1099511627776 := by
  obtain ⟨_, hu⟩ := pchk_zero.1 h
  have h1 := up_at l (-1) k hu hk
  unfold before
  split
  · omega
  · have h2 := up_at l (-1) (k - 1) hu (by omega)
    have h3 := h1.2.2 (by omega)
    omega
theorem before_rng {l : List Int} (h : pchk l = 0) {k : Nat} (hk : k ≤ l.length) : 0 ≤ before l k ∧ before l k ≤ 1099511627776 := by
  unfold before
  split
  · omega
  · have h1 := up_at l (-1) (k - 1) (pchk_zero.1 h).2 (by omega)
    omega
theorem riseF_len (l : List Int) : ∀ p : Int, 0 ≤ p → Up (p - 1) l → (riseF p l).length ≤ 9 * l.length := by
  induction l with
  | nil => intro p _ _; simp [riseF]
  | cons n r ih =>
    intro p h0 h
    rw [riseF, List.length_append, List.length_cons]
    have h1 := uintL_9 (n := (n - p).toNat) (by have := h.2.1; omega)
    have h2 := ih n (by have := h.1; omega) (h.2.2.lower (by omega))
    omega
theorem postL_len {l : List Int} (h : pchk l = 0) : (postL l).length ≤ 9225 := by
  obtain ⟨h1, h2⟩ := pchk_zero.1 h
  unfold postL
  rw [List.length_append]
  have h3 := uintL_9 (n := l.length) (by omega)
  have h4 := riseF_len l 0 (by omega) (h2.lower (by omega))
  omega
theorem postL_pos (l : List Int) : 0 < (postL l).length := by
  unfold postL
  rw [List.length_append]
  have := uintL_pos l.length
  omega

/-- What is read as so many numbers at a place, behind a number (which is the first of all or not): the numbers, the place behind them, and which error. -/
inductive PR (b : List UInt8) : Nat → Bool → Nat → Nat → List Int → Nat → Nat → Prop
  | done (f : Bool) (last a : Nat) : PR b 0 f last a [] a 0
  | bad (k : Nat) (f : Bool) (last a d nx e : Nat) (h : GU b a d nx e) (he : e ≠ 0) : PR b (k + 1) f last a [] 0 e
  | wrong (k : Nat) (f : Bool) (last a d nx : Nat) (h : GU b a d nx 0) (hw : 1099511627776 < last + d ∨ (f = false ∧ d = 0)) : PR b (k + 1) f last a [] 0 5
  | more (k : Nat) (f : Bool) (last a d nx : Nat) (ls : List Int) (p e : Nat) (h : GU b a d nx 0) (hd : last + d ≤ 1099511627776) (hf : f = true ∨ d ≠ 0) (r : PR b k false (last + d) nx ls p e) :
      PR b (k + 1) f last a (((last + d : Nat) : Int) :: ls) p e
theorem gu_behind {l : List UInt8} {a n nx : Nat} (h : GU l a n nx 0) : a < nx ∧ nx ≤ l.length ∧ n < 9223372036854775808 := by
  generalize he : (0 : Nat) = e at h
  cases h with
  | short k hk hc he' => cases he
  | nought k hk h0 hc he' hz => cases he
  | long he' hc => cases he
  | ok k hk hc he' hl hz =>
    have := digN_lt l a (k + 1)
    have h2 : 128 ^ (k + 1) ≤ 128 ^ 9 := Nat.pow_le_pow_right (by omega) (by omega)
    exact ⟨by omega, by omega, by omega⟩
theorem pr_total (b : List UInt8) : ∀ (k : Nat) (f : Bool) (last a : Nat), a ≤ b.length → ∃ ls p e, PR b k f last a ls p e := by
  intro k
  induction k with
  | zero => intro f last a _; exact ⟨_, _, _, .done f last a⟩
  | succ k ih =>
    intro f last a ha
    obtain ⟨d, nx, e, h⟩ := gu_total b a ha
    by_cases he : e = 0
    · subst he
      by_cases hw : 1099511627776 < last + d ∨ (f = false ∧ d = 0)
      · exact ⟨_, _, _, .wrong k f last a d nx h hw⟩
      · obtain ⟨ls, p, e, r⟩ := ih false (last + d) nx (gu_behind h).2.1
        refine ⟨_, _, _, .more k f last a d nx ls p e h (by omega) ?_ r⟩
        cases f
        · exact .inr (fun h => hw (.inr ⟨rfl, h⟩))
        · exact .inl rfl
    · exact ⟨_, _, _, .bad k f last a d nx e h he⟩
theorem pr_err {b : List UInt8} {k : Nat} {f : Bool} {last a : Nat} {ls : List Int} {p e : Nat} (h : PR b k f last a ls p e) : (e ≠ 0 → p = 0) ∧ ls.length ≤ k ∧ (a ≤ b.length → p ≤ b.length) := by
  induction h with
  | done f last a => exact ⟨fun h => absurd rfl h, by simp, fun h => h⟩
  | bad k f last a d nx e h he => exact ⟨fun _ => rfl, by simp, fun _ => Nat.zero_le _⟩
  | wrong k f last a d nx h hw => exact ⟨fun _ => rfl, by simp, fun _ => Nat.zero_le _⟩
  | more k f last a d nx ls p e h hd hf r ih => exact ⟨ih.1, by rw [List.length_cons]; omega, fun _ => ih.2.2 (gu_behind h).2.1⟩
/-- What is read is a list, and its bytes stand there. -/
theorem pr_list {b : List UInt8} {k : Nat} {f : Bool} {last a : Nat} {ls : List Int} {p e : Nat} (h : PR b k f last a ls p e) (he : e = 0) :
    ls.length = k ∧ Up ((last : Int) - (if f = true then 1 else 0)) ls ∧ a ≤ p ∧ riseF last ls = (b.drop a).take (p - a) := by
  induction h with
  | done f last a => exact ⟨rfl, trivial, Nat.le_refl _, by simp [riseF]⟩
  | bad k f last a d nx e h he' => exact absurd he he'
  | wrong k f last a d nx h hw => exact absurd he (by decide)
  | more k f last a d nx ls p e h hd hf r ih =>
    obtain ⟨h1, h2, h3, h4⟩ := ih he
    obtain ⟨g1, g2, g3⟩ := gu_behind h
    obtain ⟨u1, u2⟩ := gu_bytes h
    refine ⟨by rw [List.length_cons, h1], ⟨?_, by omega, by simpa using h2⟩, by omega, ?_⟩
    · cases f
      · have : d ≠ 0 := by rcases hf with h | h; cases h; exact h
        simp
        omega
      · simp
        omega
    · rw [riseF, show (((last + d : Nat) : Int) - (last : Int)).toNat = d from by omega, u1, h4]
      have e1 : b.drop nx = (b.drop a).drop (nx - a) := by rw [List.drop_drop]; congr 1; omega
      rw [e1, ← List.take_add]
      congr 1
      omega
/-- What was laid down is read. -/
theorem pr_of : ∀ (ls : List Int) (f : Bool) (last : Nat) (pre more : List UInt8), Up ((last : Int) - (if f = true then 1 else 0)) ls →
    PR (pre ++ riseF last ls ++ more) ls.length f last pre.length ls (pre.length + (riseF last ls).length) 0 := by
  intro ls
  induction ls with
  | nil => intro f last pre more _; exact PR.done f last pre.length
  | cons n ls ih =>
    intro f last pre more h
    obtain ⟨h1, h2, h3⟩ := h
    have h0 : (last : Int) ≤ n := by split at h1 <;> omega
    obtain ⟨d, hd⟩ : ∃ d : Nat, n = ((last + d : Nat) : Int) := ⟨(n - last).toNat, by omega⟩
    subst hd
    have e0 : (((last + d : Nat) : Int) - (last : Int)).toNat = d := by omega
    have er : riseF last (((last + d : Nat) : Int) :: ls) = uintL d ++ riseF ((last + d : Nat) : Int) ls := by rw [riseF, e0]
    rw [er]
    have hg := gu_of pre (riseF ((last + d : Nat) : Int) ls ++ more) d (by omega)
    have hr := ih false (last + d) (pre ++ uintL d) more (by simpa using h3)
    have eb : pre ++ uintL d ++ riseF ((last + d : Nat) : Int) ls ++ more = pre ++ (uintL d ++ riseF ((last + d : Nat) : Int) ls) ++ more := by simp
    have eb2 : pre ++ uintL d ++ (riseF ((last + d : Nat) : Int) ls ++ more) = pre ++ (uintL d ++ riseF ((last + d : Nat) : Int) ls) ++ more := by simp
    rw [eb] at hr
    rw [eb2] at hg
    rw [List.length_append] at hr
    have := PR.more (b := pre ++ (uintL d ++ riseF ((last + d : Nat) : Int) ls) ++ more) ls.length f last pre.length d (pre.length + (uintL d).length) ls _ 0 hg (by omega) (by
      cases f
      · right; intro hz; subst hz; simp at h1
      · exact .inl rfl) hr
    rw [List.length_append, ← Nat.add_assoc]
    exact this

/-- What is read as a list at a place. -/
inductive PX (b : List UInt8) (a : Nat) : List Int → Nat → Nat → Prop
  | no (n nx e : Nat) (h : GU b a n nx e) (he : e ≠ 0) : PX b a [] 0 e
  | big (n nx : Nat) (h : GU b a n nx 0) (hn : 1024 < n) : PX b a [] 0 3
  | bad (n nx : Nat) (ls : List Int) (p e : Nat) (h : GU b a n nx 0) (hn : n ≤ 1024) (r : PR b n true 0 nx ls p e) (he : e ≠ 0) : PX b a [] 0 e
  | ok (n nx : Nat) (ls : List Int) (p : Nat) (h : GU b a n nx 0) (hn : n ≤ 1024) (r : PR b n true 0 nx ls p 0) : PX b a ls p 0
theorem px_total (b : List UInt8) (a : Nat) (ha : a ≤ b.length) : ∃ ls p e, PX b a ls p e := by
  obtain ⟨n, nx, e, h⟩ := gu_total b a ha
  by_cases he : e = 0
  · subst he
    by_cases hn : n ≤ 1024
    · obtain ⟨ls, p, e, r⟩ := pr_total b n true 0 nx (gu_behind h).2.1
      by_cases he : e = 0
      · subst he
        exact ⟨_, _, _, .ok n nx ls p h hn r⟩
      · exact ⟨_, _, _, .bad n nx ls p e h hn r he⟩
    · exact ⟨_, _, _, .big n nx h (by omega)⟩
  · exact ⟨_, _, _, .no n nx e h he⟩
theorem px_list {b : List UInt8} {a : Nat} {ls : List Int} {p : Nat} (h : PX b a ls p 0) : pchk ls = 0 ∧ a ≤ p ∧ p ≤ b.length ∧ postL ls = (b.drop a).take (p - a) := by
  generalize he : (0 : Nat) = e at h
  cases h with
  | no n nx e h he' => exact absurd he.symm he'
  | big n nx h hn => cases he
  | bad n nx ls' p' e h hn r he' => exact absurd he.symm he'
  | ok n nx ls p h hn r =>
    obtain ⟨h1, h2, h3, h4⟩ := pr_list r rfl
    obtain ⟨g1, g2, g3⟩ := gu_behind h
    obtain ⟨u1, u2⟩ := gu_bytes h
    refine ⟨pchk_zero.2 ⟨by omega, by simpa using h2⟩, by omega, (pr_err r).2.2 g2, ?_⟩
    unfold postL
    rw [h1, u1]
    have h4' : riseF 0 ls = (b.drop nx).take (p - nx) := by simpa using h4
    rw [h4']
    have e1 : b.drop nx = (b.drop a).drop (nx - a) := by rw [List.drop_drop]; congr 1; omega
    rw [e1, ← List.take_add]
    congr 1
    omega
theorem px_err {b : List UInt8} {a : Nat} {ls : List Int} {p e : Nat} (h : PX b a ls p e) : (e ≠ 0 → ls = [] ∧ p = 0) ∧ ls.length ≤ 1024 := by
  cases h with
  | no n nx e h he => exact ⟨fun _ => ⟨rfl, rfl⟩, by simp⟩
  | big n nx h hn => exact ⟨fun _ => ⟨rfl, rfl⟩, by simp⟩
  | bad n nx ls' p' e h hn r he => exact ⟨fun _ => ⟨rfl, rfl⟩, by simp⟩
  | ok n nx ls p h hn r => exact ⟨fun h => absurd rfl h, by have := (pr_err r).2.1; omega⟩
theorem px_of (ls : List Int) (h : pchk ls = 0) (pre more : List UInt8) : PX (pre ++ postL ls ++ more) pre.length ls (pre.length + (postL ls).length) 0 := by
  obtain ⟨h1, h2⟩ := pchk_zero.1 h
  have hg := gu_of pre (riseF 0 ls ++ more) ls.length (by omega)
  have hr := pr_of ls true 0 (pre ++ uintL ls.length) more (by simpa using h2)
  have e1 : pre ++ uintL ls.length ++ (riseF 0 ls ++ more) = pre ++ postL ls ++ more := by simp [postL]
  have e2 : pre ++ uintL ls.length ++ riseF 0 ls ++ more = pre ++ postL ls ++ more := by simp [postL]
  have e3 : ((0 : Nat) : Int) = 0 := rfl
  rw [e3] at hr
  rw [e1] at hg
  rw [e2, List.length_append] at hr
  have := PX.ok _ _ ls _ hg h1 hr
  have e4 : pre.length + (postL ls).length = pre.length + (uintL ls.length).length + (riseF 0 ls).length := by simp [postL]; omega
  rw [e4]
  exact this
end Go.Proofs.Ytiepepikbophmaa
