/- Plain mathematics of layer 10: what is read as the document reads it, step by step. No program in sight. -/
import Derived.Test.YtojlcipphnegaaaGreatIxRdM
namespace Go.Proofs.YtojlcipphnegaaaGreat
set_option linter.unusedVariables false
section
variable {G : Nat → Nat → Nat → Nat → Prop} {X : Nat → ByteArray → Nat → Nat → Prop}
theorem tsO_end {a : Nat} {r : Option (List ByteArray × Nat)} (h : TsO X 0 a r) : r = some ([], a) := by
  cases h
  rfl
theorem tsO_step {n a : Nat} {r : Option (List ByteArray × Nat)} (h : TsO X (n + 1) a r) : ∃ s k e, X a s k e ∧ (((e ≠ 0 ∨ 64 < s.size) ∧ r = none) ∨ (e = 0 ∧ s.size ≤ 64 ∧ ∃ r', TsO X n k r' ∧ r = glue [s] r')) := by
  cases h with
  | bad _ _ s k e h he => exact ⟨s, k, e, h, .inl ⟨he, rfl⟩⟩
  | no _ _ s k h hs r => exact ⟨s, k, 0, h, .inr ⟨rfl, hs, none, r, rfl⟩⟩
  | more _ _ s k ts p h hs r => exact ⟨s, k, 0, h, .inr ⟨rfl, hs, _, r, rfl⟩⟩
theorem ssO_end {t : List ByteArray} {a : Nat} {r : Option (List (List Lbl) × Nat)} (h : SsO G t 0 a r) : r = some ([], a) := by
  cases h
  rfl
theorem ssO_step {t : List ByteArray} {n a : Nat} {r : Option (List (List Lbl) × Nat)} (h : SsO G t (n + 1) a r) : ∃ m k e, G a m k e ∧ (((e ≠ 0 ∨ 8 < m) ∧ r = none) ∨ (e = 0 ∧ m ≤ 8 ∧ ∃ o, LsO G t m k o ∧ ((o = none ∧ r = none) ∨ ∃ l j r', o = some (l, j) ∧ SsO G t n j r' ∧ r = glue [l] r'))) := by
  cases h with
  | bad _ _ m k e h he => exact ⟨m, k, e, h, .inl ⟨he, rfl⟩⟩
  | wrong _ _ m k h hm r => exact ⟨m, k, 0, h, .inr ⟨rfl, hm, none, r, .inl ⟨rfl, rfl⟩⟩⟩
  | no _ _ m k l j h hm r r2 => exact ⟨m, k, 0, h, .inr ⟨rfl, hm, _, r, .inr ⟨l, j, none, rfl, r2, rfl⟩⟩⟩
  | more _ _ m k l j ls z h hm r r2 => exact ⟨m, k, 0, h, .inr ⟨rfl, hm, _, r, .inr ⟨l, j, _, rfl, r2, rfl⟩⟩⟩
theorem ixO_open {o : Option (List (List Lbl))} (h : IxO G X o) : ∃ n k e, G 0 n k e ∧ (((e ≠ 0 ∨ 4096 < n) ∧ o = none) ∨ (e = 0 ∧ n ≤ 4096 ∧ ∃ o1, TsO X n k o1 ∧ ((o1 = none ∧ o = none) ∨ ∃ t a, o1 = some (t, a) ∧ ∃ m j e2, G a m j e2 ∧ (((e2 ≠ 0 ∨ 256 < m) ∧ o = none) ∨ (e2 = 0 ∧ m ≤ 256 ∧ ∃ o2, SsO G t m j o2 ∧ o = o2.map Prod.fst))))) := by
  cases h with
  | bad n k e h he => exact ⟨n, k, e, h, .inl ⟨he, rfl⟩⟩
  | texts n k h hn r => exact ⟨n, k, 0, h, .inr ⟨rfl, hn, none, r, .inl ⟨rfl, rfl⟩⟩⟩
  | many n k t a m j e h hn r h2 he => exact ⟨n, k, 0, h, .inr ⟨rfl, hn, _, r, .inr ⟨t, a, rfl, m, j, e, h2, .inl ⟨he, rfl⟩⟩⟩⟩
  | sets n k t a m j h hn r h2 hm r2 => exact ⟨n, k, 0, h, .inr ⟨rfl, hn, _, r, .inr ⟨t, a, rfl, m, j, 0, h2, .inr ⟨rfl, hm, none, r2, rfl⟩⟩⟩⟩
  | ok n k t a m j _ z h hn r h2 hm r2 => exact ⟨n, k, 0, h, .inr ⟨rfl, hn, _, r, .inr ⟨t, a, rfl, m, j, 0, h2, .inr ⟨rfl, hm, _, r2, rfl⟩⟩⟩⟩
end
end Go.Proofs.YtojlcipphnegaaaGreat
