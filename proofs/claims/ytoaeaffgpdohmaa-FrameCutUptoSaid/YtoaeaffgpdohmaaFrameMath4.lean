/- Plain mathematics: a frame that stands somewhere is read there; all frames from the front on. No program in sight. -/
import Derived.Test.YtoaeaffgpdohmaaFrameMath3
namespace Go.Proofs.Ytoaeaffgpdohmaa
set_option linter.unusedVariables false

theorem fg_of (pre x more : List UInt8) (hx : x.length ≤ 65535) : FG (pre ++ frameL x ++ more) pre.length x (pre.length + x.length + 6) 0 := by
  obtain ⟨f1, f2⟩ := frame_carries x hx
  have hfl := frameL_length x
  have d0 : (pre ++ frameL x ++ more).drop pre.length = frameL x ++ more := by rw [List.append_assoc, List.drop_left]
  have at_ : ∀ j, j < x.length + 6 → (pre ++ frameL x ++ more).getD (pre.length + j) 0 = (frameL x).getD j 0 := by
    intro j hj
    rw [getD_in _ 0 (by simp; omega), getD_in _ 0 (by omega), List.getElem_append_left (by simp; omega), List.getElem_append_right (by omega)]
    simp
  have hfn : fn (pre ++ frameL x ++ more) pre.length = x.length := by
    rw [← f1]
    unfold fn
    have h0 := at_ 0 (by omega)
    rw [Nat.add_zero] at h0
    rw [h0, at_ 1 (by omega)]
  have e1 : ((pre ++ frameL x ++ more).drop pre.length).take (x.length + 6) = frameL x := by
    rw [d0, List.take_append_of_le_length (by omega), List.take_of_length_le (by omega)]
  have e2 : ((pre ++ frameL x ++ more).drop (pre.length + 2)).take x.length = x := by
    rw [← List.drop_drop, d0]
    have : frameL x ++ more = UInt8.ofNat (x.length / 256) :: UInt8.ofNat x.length :: (x ++ (le4 (sumN (headL x)) ++ more)) := by simp [frameL, headL]
    rw [this]
    simp
  have hle : fn (pre ++ frameL x ++ more) pre.length + 6 ≤ (pre ++ frameL x ++ more).length - pre.length := by rw [hfn]; simp; omega
  have hc : carries (pre ++ frameL x ++ more) pre.length := by
    apply (frame_at _ _ hle).1
    rw [hfn, e1, e2]
  have := FG.ok (l := pre ++ frameL x ++ more) (a := pre.length) hle hc
  rwa [hfn, e2] at this

/-- All frames from a place on, up to the first that is none. -/
inductive AF (l : List UInt8) : Nat → List (List UInt8) → Nat → Prop
  | stop (a n e : Nat) (x : List UInt8) (h : FG l a x n e) (he : e ≠ 0) : AF l a [] a
  | next (a n s : Nat) (x : List UInt8) (xs : List (List UInt8)) (h : FG l a x n 0) (r : AF l n xs s) : AF l a (x :: xs) s
theorem fg_next {l : List UInt8} {a : Nat} {x : List UInt8} {n e : Nat} (h : FG l a x n e) (he : e = 0) : a + 6 ≤ n ∧ n ≤ l.length ∧ x.length + 6 + a = n := by
  cases h with
  | few h => cases he
  | short h6 h => cases he
  | bad h hc => cases he
  | ok h hc => simp; omega
theorem fg_none {l : List UInt8} {a : Nat} {x : List UInt8} {n e : Nat} (h : FG l a x n e) (he : e ≠ 0) : x = [] ∧ n = 0 := by
  cases h with
  | few h => exact ⟨rfl, rfl⟩
  | short h6 h => exact ⟨rfl, rfl⟩
  | bad h hc => exact ⟨rfl, rfl⟩
  | ok h hc => exact absurd rfl he
theorem af_total (l : List UInt8) : ∀ m a, l.length - a ≤ m → a ≤ l.length → ∃ xs s, AF l a xs s := by
  intro m
  induction m with
  | zero =>
    intro a hm ha
    exact ⟨_, _, .stop a 0 4 [] (.few (by omega)) (by omega)⟩
  | succ m ih =>
    intro a hm ha
    obtain ⟨x, n, e, h⟩ := fg_total l a
    by_cases he : e = 0
    · have hn := fg_next h he
      subst he
      obtain ⟨xs, s, r⟩ := ih n (by omega) (by omega)
      exact ⟨_, _, .next a n s x xs h r⟩
    · exact ⟨_, _, .stop a n e x h he⟩
theorem af_len {l : List UInt8} {a : Nat} {xs : List (List UInt8)} {s : Nat} (h : AF l a xs s) : a ≤ l.length → xs.length * 6 + a ≤ l.length ∧ s ≤ l.length ∧ ∀ x ∈ xs, x.length ≤ l.length := by
  induction h with
  | stop a n e x h he => intro ha; exact ⟨by simpa using ha, ha, by simp⟩
  | next a n s x xs h r ih =>
    intro ha
    have hn := fg_next h rfl
    obtain ⟨h1, h2, h3⟩ := ih hn.2.1
    refine ⟨by simp; omega, h2, ?_⟩
    intro y hy
    rcases List.mem_cons.1 hy with rfl | hy
    · omega
    · exact h3 y hy
end Go.Proofs.Ytoaeaffgpdohmaa
