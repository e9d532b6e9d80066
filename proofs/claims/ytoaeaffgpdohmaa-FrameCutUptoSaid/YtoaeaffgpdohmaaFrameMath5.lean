/- Plain mathematics: frames one behind the other, cut off anywhere. No program in sight. -/
import Derived.Test.YtoaeaffgpdohmaaFrameMath4
namespace Go.Proofs.Ytoaeaffgpdohmaa
set_option linter.unusedVariables false

/-- The frames of the first rows, one behind the other; where each ends; how many bytes the rows have. -/
def cat (ls : List (List UInt8)) : Nat → List UInt8
  | 0 => []
  | i + 1 => cat ls i ++ frameL (ls.getD i [])
def off (ls : List (List UInt8)) : Nat → Nat
  | 0 => 0
  | i + 1 => off ls i + ((ls.getD i []).length + 6)
def total (ls : List (List UInt8)) : Nat → Nat
  | 0 => 0
  | i + 1 => total ls i + (ls.getD i []).length
theorem cat_length (ls : List (List UInt8)) (i : Nat) : (cat ls i).length = off ls i := by
  induction i with
  | zero => rfl
  | succ i ih => rw [cat, off, List.length_append, ih, frameL_length]
theorem off_total (ls : List (List UInt8)) (i : Nat) : off ls i = total ls i + 6 * i := by
  induction i with
  | zero => rfl
  | succ i ih => rw [off, total, ih]; omega
theorem off_mono (ls : List (List UInt8)) {i j : Nat} (h : i ≤ j) : off ls i ≤ off ls j := by
  induction j with
  | zero => rw [show i = 0 from by omega]; exact Nat.le_refl _
  | succ j ih =>
    by_cases e : i = j + 1
    · rw [e]; exact Nat.le_refl _
    · have := ih (by omega)
      rw [off]
      omega
theorem total_mono (ls : List (List UInt8)) {i j : Nat} (h : i ≤ j) : total ls i ≤ total ls j := by
  induction j with
  | zero => rw [show i = 0 from by omega]; exact Nat.le_refl _
  | succ j ih =>
    by_cases e : i = j + 1
    · rw [e]; exact Nat.le_refl _
    · have := ih (by omega)
      rw [total]
      omega
theorem cat_split (ls : List (List UInt8)) {i j : Nat} (h : i ≤ j) : ∃ r, cat ls j = cat ls i ++ r := by
  induction j with
  | zero => exact ⟨[], by rw [show i = 0 from by omega]; rfl⟩
  | succ j ih =>
    by_cases e : i = j + 1
    · exact ⟨[], by rw [e]; simp⟩
    · obtain ⟨r, hr⟩ := ih (by omega)
      exact ⟨r ++ frameL (ls.getD j []), by rw [cat, hr]; simp⟩
theorem whole_at (ls : List (List UInt8)) (n k i : Nat) (hi : i < n) (hk : off ls (i + 1) ≤ k) (hl : (ls.getD i []).length ≤ 65535) : FG ((cat ls n).take k) (off ls i) (ls.getD i []) (off ls (i + 1)) 0 := by
  obtain ⟨r, hr⟩ := cat_split ls (show i + 1 ≤ n from hi)
  have e : (cat ls n).take k = cat ls i ++ frameL (ls.getD i []) ++ r.take (k - off ls (i + 1)) := by
    rw [hr, List.take_append, cat_length, List.take_of_length_le (by rw [cat_length]; exact hk)]
    rfl
  have h := fg_of (cat ls i) (ls.getD i []) (r.take (k - off ls (i + 1))) hl
  rw [← e, cat_length] at h
  rw [show off ls (i + 1) = off ls i + (ls.getD i []).length + 6 from by rw [off]; omega]
  exact h
theorem cut_at (ls : List (List UInt8)) (n k W : Nat) (hW : W ≤ n) (hk : off ls W ≤ k) (hn : k ≤ off ls n) (hs : W < n → k < off ls (W + 1)) (hl : W < n → (ls.getD W []).length ≤ 65535) : FG ((cat ls n).take k) (off ls W) [] 0 4 := by
  have hlen : ((cat ls n).take k).length = k := by rw [List.length_take, cat_length]; omega
  by_cases h6 : k - off ls W < 6
  · exact .few (by rw [hlen]; exact h6)
  · have hlt : W < n := by
      rcases Nat.lt_or_ge W n with h | h
      · exact h
      · have := off_mono ls h
        omega
    obtain ⟨r, hr⟩ := cat_split ls (show W + 1 ≤ n from hlt)
    have hs' := hs hlt
    have hl' := hl hlt
    have hfl := frameL_length (ls.getD W [])
    have at_ : ∀ j, j < 2 → ((cat ls n).take k).getD (off ls W + j) 0 = (frameL (ls.getD W [])).getD j 0 := by
      intro j hj
      have hcl := cat_length ls W
      have e : cat ls n = cat ls W ++ (frameL (ls.getD W []) ++ r) := by rw [hr, cat]; simp
      rw [getD_in _ 0 (by rw [hlen]; omega), getD_in _ 0 (by omega), List.getElem_take]
      simp only [e]
      rw [List.getElem_append_right (by omega), List.getElem_append_left (by omega)]
      congr 1
      omega
    have hfn : fn ((cat ls n).take k) (off ls W) = (ls.getD W []).length := by
      rw [← (frame_carries _ hl').1]
      unfold fn
      have h0 := at_ 0 (by omega)
      rw [Nat.add_zero] at h0
      rw [h0, at_ 1 (by omega)]
    refine .short (by rw [hlen]; omega) ?_
    rw [hlen, hfn]
    rw [off] at hs'
    omega
theorem cuts_all (ls : List (List UInt8)) (n k W : Nat) (hW : W ≤ n) (hn : n = ls.length) (hk : off ls W ≤ k) (hkn : k ≤ off ls n) (hs : W < n → k < off ls (W + 1)) (hl : ∀ i, i < n → (ls.getD i []).length ≤ 65535) :
    ∀ m i, W - i ≤ m → i ≤ W → AF ((cat ls n).take k) (off ls i) ((ls.drop i).take (W - i)) (off ls W) := by
  intro m
  induction m with
  | zero =>
    intro i hm hi
    obtain rfl : i = W := by omega
    rw [Nat.sub_self, List.take_zero]
    exact .stop _ 0 4 [] (cut_at ls n k i hW hk hkn hs (fun h => hl i h)) (by omega)
  | succ m ih =>
    intro i hm hi
    by_cases e : i = W
    · subst e
      rw [Nat.sub_self, List.take_zero]
      exact .stop _ 0 4 [] (cut_at ls n k i hW hk hkn hs (fun h => hl i h)) (by omega)
    · have h1 := whole_at ls n k i (by omega) (Nat.le_trans (off_mono ls (show i + 1 ≤ W by omega)) hk) (hl i (by omega))
      have h2 := ih (i + 1) (by omega) (by omega)
      have hil : i < ls.length := by omega
      have e3 : (ls.drop i).take (W - i) = ls.getD i [] :: (ls.drop (i + 1)).take (W - (i + 1)) := by
        rw [List.drop_eq_getElem_cons hil, show W - i = (W - (i + 1)) + 1 from by omega, List.take_succ_cons, getD_in ls [] hil]
      rw [e3]
      exact .next _ _ _ _ _ h1 h2
/-- Which frames are whole. -/
theorem whole_some (ls : List (List UInt8)) (k : Nat) : ∀ n, ∃ W, W ≤ n ∧ off ls W ≤ k ∧ (∀ j, j < W → off ls (j + 1) ≤ k) ∧ (W < n → k < off ls (W + 1)) := by
  intro n
  induction n with
  | zero => exact ⟨0, Nat.le_refl _, Nat.zero_le _, fun j hj => by omega, fun h => by omega⟩
  | succ n ih =>
    obtain ⟨W, h1, h2, h3, h4⟩ := ih
    by_cases e : W = n
    · subst e
      by_cases h : off ls (W + 1) ≤ k
      · exact ⟨W + 1, Nat.le_refl _, h, fun j hj => Nat.le_trans (off_mono ls (show j + 1 ≤ W + 1 by omega)) h, fun h => by omega⟩
      · exact ⟨W, by omega, h2, h3, fun _ => by omega⟩
    · exact ⟨W, by omega, h2, h3, fun _ => h4 (by omega)⟩
/-- Which is the first row that is too long. -/
theorem first_long (ls : List (List UInt8)) : ∀ n, ∃ J, J ≤ n ∧ (∀ i, i < J → (ls.getD i []).length ≤ 65535) ∧ (J < n → 65535 < (ls.getD J []).length) := by
  intro n
  induction n with
  | zero => exact ⟨0, Nat.le_refl _, fun i h => by omega, fun h => by omega⟩
  | succ n ih =>
    obtain ⟨J, h1, h2, h3⟩ := ih
    by_cases e : J = n
    · subst e
      by_cases h : (ls.getD J []).length ≤ 65535
      · refine ⟨J + 1, Nat.le_refl _, fun i hi => ?_, fun h => by omega⟩
        by_cases e : i = J
        · rw [e]; exact h
        · exact h2 i (by omega)
      · exact ⟨J, by omega, h2, fun _ => by omega⟩
    · exact ⟨J, by omega, h2, fun _ => h3 (by omega)⟩
end Go.Proofs.Ytoaeaffgpdohmaa
