/- What the document's Unquoted reads at the front of a value's own text. -/
import Derived.Test.YtnhaehjkepmbaaaDoorLbUnq
namespace Go.Proofs.YtnhaehjkepmbaaaDoor
open Go.RowKit
set_option linter.unusedVariables false
theorem escL_cons (c : UInt8) (V : List UInt8) : escL (c :: V) = escB c ++ escL V := rfl
theorem escL_app (V W : List UInt8) : escL (V ++ W) = escL V ++ escL W := by simp [escL]
theorem escL_one (c : UInt8) : escL [c] = escB c := by simp [escL]
/-- The bytes from a place inside on. -/
theorem uq_from {V R L : List UInt8} (hL : L = 34 :: (escL V ++ 34 :: R)) (i : Nat) (j : Nat) : L[1 + (escL (V.take i)).length + j]? = (escL (V.drop i) ++ 34 :: R)[j]? := by
  subst hL
  have e : escL V = escL (V.take i) ++ escL (V.drop i) := by rw [← escL_app, List.take_append_drop]
  rw [show 1 + (escL (V.take i)).length + j = ((escL (V.take i)).length + j) + 1 by omega, List.getElem?_cons_succ, e, List.append_assoc, List.getElem?_append_right (by omega)]
  congr 1
  omega
theorem hex_back (c : UInt8) : UInt8.ofNat (16 * digV (hexD (c.toNat / 16)) + digV (hexD (c.toNat % 16))).toNat = c := by
  have hc := c.toNat_lt
  rw [digV_hex _ (by omega), digV_hex _ (by omega)]
  have : (16 * ((c.toNat / 16 : Nat) : Int) + ((c.toNat % 16 : Nat) : Int)).toNat = c.toNat := by omega
  rw [this]
  exact UInt8.ofNat_toNat
/-- What stands at a place inside: a byte of the value, or its end. -/
theorem uq_at {V R L : List UInt8} (hL : L = 34 :: (escL V ++ 34 :: R)) (i : Nat) (hi : i ≤ V.length) :
    (i = V.length ∧ L[1 + (escL (V.take i)).length]? = some 34) ∨
    ∃ c, i < V.length ∧ V.take (i + 1) = V.take i ++ [c] ∧ (escL (V.take (i + 1))).length = (escL (V.take i)).length + (escB c).length ∧
      (((c = 34 ∨ c = 92) ∧ escB c = [92, c] ∧ L[1 + (escL (V.take i)).length]? = some 92 ∧ L[1 + (escL (V.take i)).length + 1]? = some c) ∨
       (escB c = [92, 120, hexD (c.toNat / 16), hexD (c.toNat % 16)] ∧ L[1 + (escL (V.take i)).length]? = some 92 ∧ L[1 + (escL (V.take i)).length + 1]? = some 120 ∧ L[1 + (escL (V.take i)).length + 2]? = some (hexD (c.toNat / 16)) ∧ L[1 + (escL (V.take i)).length + 3]? = some (hexD (c.toNat % 16))) ∨
       (c ≠ 34 ∧ c ≠ 92 ∧ escB c = [c] ∧ L[1 + (escL (V.take i)).length]? = some c)) := by
  have hf := uq_from hL i
  rcases Nat.lt_or_ge i V.length with h | h
  · refine .inr ⟨V[i], h, by rw [List.take_succ_eq_append_getElem h], by rw [List.take_succ_eq_append_getElem h, escL_app, escL_one, List.length_append], ?_⟩
    rw [List.drop_eq_getElem_cons h, escL_cons, List.append_assoc] at hf
    generalize V[i] = c at *
    have h0 := hf 0
    have h1 := hf 1
    have h2 := hf 2
    have h3 := hf 3
    rw [Nat.add_zero] at h0
    by_cases g1 : c.toNat = 34 ∨ c.toNat = 92
    · have e : escB c = [92, c] := by unfold escB; rw [if_pos g1]
      rw [e] at h0 h1
      refine .inl ⟨g1.imp (fun g => UInt8.toNat_inj.1 (by rw [g]; rfl)) (fun g => UInt8.toNat_inj.1 (by rw [g]; rfl)), e, by simpa using h0, by simpa using h1⟩
    · by_cases g2 : c.toNat < 32 ∨ 126 < c.toNat
      · have e : escB c = [92, 120, hexD (c.toNat / 16), hexD (c.toNat % 16)] := by unfold escB; rw [if_neg g1, if_pos g2]
        rw [e] at h0 h1 h2 h3
        exact .inr (.inl ⟨e, by simpa using h0, by simpa using h1, by simpa using h2, by simpa using h3⟩)
      · have e : escB c = [c] := by unfold escB; rw [if_neg g1, if_neg g2]
        rw [e] at h0
        exact .inr (.inr ⟨fun q => g1 (.inl (by rw [q]; rfl)), fun q => g1 (.inr (by rw [q]; rfl)), e, by simpa using h0⟩)
  · obtain rfl : i = V.length := by omega
    refine .inl ⟨rfl, ?_⟩
    have h0 := hf 0
    rw [List.drop_length] at h0
    simpa [escL] using h0
theorem uq_in {V R L : List UInt8} (hL : L = 34 :: (escL V ++ 34 :: R)) {k : Nat} {x : List UInt8} (h : UQ L k x) : ∃ i, i ≤ V.length ∧ x = V.take i ∧ k = 1 + (escL (V.take i)).length := by
  induction h with
  | start => exact ⟨0, Nat.zero_le _, by simp, by simp [escL]⟩
  | mark _ h1 h2 h3 ih =>
    obtain ⟨i, hi, rfl, rfl⟩ := ih
    rcases uq_at hL i hi with ⟨_, h0⟩ | ⟨c, hlt, ht, hl, ⟨_, e, _, g1⟩ | ⟨e, _, g1, _, _⟩ | ⟨n1, n2, e, g0⟩⟩
    · rw [h0] at h1; simp at h1
    · rw [g1] at h2
      injection h2 with h2
      subst h2
      exact ⟨i + 1, hlt, ht.symm, by rw [hl, e]; simp; omega⟩
    · rw [g1] at h2
      injection h2 with h2
      subst h2
      rcases h3 with h3 | h3 <;> exact absurd h3 (by decide)
    · rw [g0] at h1
      injection h1 with h1
      exact absurd h1 n2
  | hex _ h1 h2 h3 h4 h5 h6 ih =>
    obtain ⟨i, hi, rfl, rfl⟩ := ih
    rcases uq_at hL i hi with ⟨_, h0⟩ | ⟨c, hlt, ht, hl, ⟨hc, e, _, g1⟩ | ⟨e, _, g1, g2, g3⟩ | ⟨n1, n2, e, g0⟩⟩
    · rw [h0] at h1; simp at h1
    · rw [g1] at h2
      injection h2 with h2
      subst h2
      rcases hc with hc | hc <;> exact absurd hc (by decide)
    · rw [g2] at h3
      rw [g3] at h4
      injection h3 with h3
      injection h4 with h4
      subst h3 h4
      rw [hex_back]
      exact ⟨i + 1, hlt, ht.symm, by rw [hl, e]; simp; omega⟩
    · rw [g0] at h1
      injection h1 with h1
      exact absurd h1 n2
  | plain _ h1 h2 h3 ih =>
    obtain ⟨i, hi, rfl, rfl⟩ := ih
    rcases uq_at hL i hi with ⟨_, h0⟩ | ⟨c, hlt, ht, hl, ⟨_, e, g0, _⟩ | ⟨e, g0, _, _, _⟩ | ⟨n1, n2, e, g0⟩⟩
    · rw [h0] at h1
      injection h1 with h1
      exact absurd h1.symm h2
    · rw [g0] at h1
      injection h1 with h1
      exact absurd h1.symm h3
    · rw [g0] at h1
      injection h1 with h1
      exact absurd h1.symm h3
    · rw [g0] at h1
      injection h1 with h1
      subst h1
      exact ⟨i + 1, hlt, ht.symm, by rw [hl, e]; simp; omega⟩
theorem uq_len {V R L : List UInt8} (hL : L = 34 :: (escL V ++ 34 :: R)) : 1 + (escL V).length < L.length := by
  subst hL
  simp
  omega
theorem uq_quo {V R L : List UInt8} (hL : L = 34 :: (escL V ++ 34 :: R)) : L.take (1 + (escL V).length + 1) = 34 :: (escL V ++ [34]) := by
  subst hL
  rw [show 1 + (escL V).length + 1 = ((escL V).length + 1) + 1 by omega, List.take_succ_cons, List.take_append]
  simp [List.take_of_length_le]
/-- Such a text is read. -/
theorem no_nouq {V R L : List UInt8} (hL : L = 34 :: (escL V ++ 34 :: R)) (hq : quoL (txt V) = 34 :: (escL V ++ [34])) : ¬ NoUQ L := by
  intro h
  cases h with
  | head h => rw [hL] at h; simp at h
  | esc hu h1 h2 h3 =>
    obtain ⟨i, hi, rfl, rfl⟩ := uq_in hL hu
    rcases uq_at hL i hi with ⟨_, h0⟩ | ⟨c, hlt, ht, hl, ⟨hc, e, _, g1⟩ | ⟨e, _, g1, g2, g3⟩ | ⟨n1, n2, e, g0⟩⟩
    · rw [h0] at h1; simp at h1
    · have := h2 c g1
      rcases hc with hc | hc
      · exact this.2 hc
      · exact this.1 hc
    · have hc := c.toNat_lt
      rcases h3 _ _ g1 g2 g3 with h | h
      · rw [digV_hex _ (by omega)] at h; omega
      · rw [digV_hex _ (by omega)] at h; omega
    · rw [g0] at h1
      injection h1 with h1
      exact n2 h1
  | last hu h1 =>
    obtain ⟨i, hi, rfl, rfl⟩ := uq_in hL hu
    have h2 := uq_len hL
    have h3 : (escL (V.take i)).length ≤ (escL V).length := by
      have e : escL V = escL (V.take i) ++ escL (V.drop i) := by rw [← escL_app, List.take_append_drop]
      rw [e, List.length_append]
      omega
    omega
  | form hu h1 h2 =>
    obtain ⟨i, hi, rfl, rfl⟩ := uq_in hL hu
    rcases uq_at hL i hi with ⟨rfl, _⟩ | ⟨c, hlt, ht, hl, ⟨hc, e, g0, g1⟩ | ⟨e, g0, g1, g2, g3⟩ | ⟨n1, n2, e, g0⟩⟩
    · rw [List.take_length, uq_quo hL] at h2
      exact h2 hq
    · rw [g0] at h1; simp at h1
    · rw [g0] at h1; simp at h1
    · rw [g0] at h1
      injection h1 with h1
      exact n1 h1
theorem unq_front {s : ByteArray} {e : Ending} {V R : List UInt8} (hL : strL s = 34 :: (escL V ++ 34 :: R)) (hq : quoL (txt V) = 34 :: (escL V ++ [34])) (h : UnqTold s e) : e = .returned (.tuple #[.string (txt V), .int .i64 (((escL V).length + 2 : Nat) : Int)]) := by
  rcases h with ⟨_, h⟩ | ⟨k, x, rfl, hk, hu, h1, _⟩
  · exact absurd h (no_nouq hL hq)
  · obtain ⟨i, hi, rfl, rfl⟩ := uq_in hL hu
    rcases uq_at hL i hi with ⟨rfl, _⟩ | ⟨c, hlt, ht, hl, ⟨hc, e, g0, g1⟩ | ⟨e, g0, g1, g2, g3⟩ | ⟨n1, n2, e, g0⟩⟩
    · have e0 : V.take V.length = V := List.take_length
      simp only [e0]
      rw [show ((1 + (escL V).length : Nat) : Int) + 1 = (((escL V).length + 2 : Nat) : Int) by omega]
    · rw [g0] at h1; simp at h1
    · rw [g0] at h1; simp at h1
    · rw [g0] at h1
      injection h1 with h1
      exact absurd h1 n1
end Go.Proofs.YtnhaehjkepmbaaaDoor
