/- Alternatives and patterns: the loops, and all calls of the reader's by how much is left. -/
import Derived.Test.YtjljfilflajogaaReAtom2
namespace Go.Proofs.Ytjljfilflajogaa
open Go.RowKit Go.Maps
set_option linter.unusedVariables false

def contA (pre : List Re) (dd : Nat) (q : Option (List Re × List UInt8 × Nat)) : Option (List Re × List UInt8 × Nat) := q.map fun r => (pre ++ r.1, r.2.1, max dd r.2.2)
theorem contA_nil (q : Option (List Re × List UInt8 × Nat)) : contA [] 0 q = q := by
  cases q with
  | none => rfl
  | some r => simp [contA]
theorem contA_step (pre : List Re) (r : Re) (dd d : Nat) (q : Option (List Re × List UInt8 × Nat)) : contA pre dd (q.map fun s => (r :: s.1, s.2.1, max d s.2.2)) = contA (pre ++ [r]) (max dd d) q := by
  cases q with
  | none => rfl
  | some s => simp [contA, Nat.max_assoc]
theorem alt_more {x y : List UInt8} {r : Re} {d k : Nat} (hx : aheadM [124, 41] x = false) (hn : x ≠ []) (hp : pieceM k x = some (r, y, d)) : altM (k + 1) x = (altM k y).map fun s => (r :: s.1, s.2.1, max d s.2.2) := by
  simp only [altM]
  rw [if_neg (by rw [hx]; cases x with | nil => exact absurd rfl hn | cons c t => simp), hp]
  simp only
  cases altM k y <;> rfl
theorem alt_none {x : List UInt8} {k : Nat} (hx : aheadM [124, 41] x = false) (hn : x ≠ []) (hp : pieceM k x = none) : altM (k + 1) x = none := by
  simp only [altM]
  rw [if_neg (by rw [hx]; cases x with | nil => exact absurd rfl hn | cons c t => simp), hp]
theorem alt_stop {x : List UInt8} {k : Nat} (hx : aheadM [124, 41] x = true ∨ x = []) : altM (k + 1) x = some ([], x, 0) := by
  simp only [altM]
  rw [if_pos]
  rcases hx with h | rfl
  · rw [h]; simp
  · rfl
def PatAll (m : Nat) : Prop := ∀ n, 4 * m + 4 ≤ n → Reads 51 (patR n) m
def AltAll (m : Nat) : Prop := ∀ n, 4 * m + 3 ≤ n → Reads 64 (altR n) m
def PieceAll (m : Nat) : Prop := ∀ n, 4 * m + 2 ≤ n → Reads 75 (pieceM n) m
def AltIn (W : World) (X : Nat) (x0 : List UInt8) (op dp n : Nat) (v : Value) (wr : World) : Prop :=
  ∃ pre x dd k, Grp wr W.heap.size v pre ∧ Rdr wr X x op (max dp (op + dd)) ∧ Two W wr X X ∧ 4 * x.length + 3 ≤ k ∧ pre.length + x.length ≤ x0.length ∧ altM n x0 = contA pre dd (altM k x)
theorem empty_text {s : ByteArray} {x : List UInt8} (h : strL s = x) : (s.toList == []) = decide (x = []) := by
  rw [ByteArray.toList_eq, Bool.eq_iff_iff, beq_iff_eq, decide_eq_true_eq, ← h]
  rfl
set_option maxHeartbeats 2000000 in
theorem alt_prog {m : Nat} (hp : ∀ k, k ≤ m → PieceAll k) : AltAll m := by
  intro n hn w X x0 op dp h hod hopx hm
  have hX := h.lt
  have HP := Lib.hid hp
  have HD : ∀ z, aheadM (strL ⟨#[124, 41]⟩) z = aheadM [124, 41] z := fun _ => rfl
  have H0 := Lib.hid (show AltIn w X x0 op dp n (.slice none 0 0) w from ⟨[], x0, 0, n, Grp.nil _ _, by rw [show max dp (op + 0) = dp by omega]; exact h, Two.refl _ _ _, by omega, by simp, (contA_nil _).symm⟩)
  clear h hp
  go_enter Try.func64, Try.ntmps64
  go_wp2_with fail
  go_loopw [4] (fun v wr => AltIn w X x0 op dp n v wr) (fun _ wr => restLen wr X)
  case atStart => exact H0.out
  case round =>
    obtain ⟨pre, x, dd, k, hG, hr, ht, hk, hpx, hq⟩ := hrel
    have hrl := hr.rest
    have hXr := hr.lt
    have hpre : pre.length ≤ 1000 := by omega
    obtain ⟨k', rfl⟩ : ∃ k', k = k' + 1 := ⟨k - 1, by omega⟩
    obtain ⟨A, cc, rfl⟩ := hG.slice
    obtain ⟨s, hsx, hrow⟩ := id hr
    have c0 : wr.cell? ⟨X, 0, none⟩ = some (.string s) := hrow.cell 0
    have e1 := empty_text hsx
    have HA := Lib.hid (ahead_prog hr ⟨#[124, 41]⟩)
    rw [HD] at HA
    have HT := Lib.hid ht
    have HR := Lib.hid hr
    have HG := Lib.hid hG
    have HQ := Lib.hid hq
    by_cases h0 : x = []
    · rw [decide_eq_true h0] at e1
      have HN := Lib.hid (show altR n x0 = some (.row pre, x, dd) by unfold altR; rw [HQ.out, alt_stop (.inr h0)]; simp [contA])
      clear hG hr ht hq hrow hsx h0
      go_wp2_with fail
      go_ret2
      rw [HN.out]
      obtain ⟨M, hN, hM⟩ := HG.out.row hpre
      exact ⟨HT.out, HR.out, _, M, rfl, hN, hM⟩
    · rw [decide_eq_false h0] at e1
      cases ha : aheadM [124, 41] x
      · rw [ha] at HA
        have HPc := Lib.hid (HP.out x.length (by omega) k' (by omega) wr X x op (max dp (op + dd)) hr (by omega) (by omega) (Nat.le_refl _))
        cases hpc : pieceM k' x with
        | none =>
          rw [hpc] at HPc
          have HN := Lib.hid (show altR n x0 = none by unfold altR; rw [HQ.out, alt_none ha h0 hpc]; rfl)
          clear hG hr ht hq hrow hsx h0 hpc
          go_wp2_with (first
            | (go_at_call 75; refine HPc.out.mono ?_; rintro e w2 ⟨ht2, hr2, v2, rfl⟩; have HT2 := Lib.hid (HT.out.trans ht2); have HR2 := Lib.hid hr2; clear hr2 ht2)
            | (go_at_call 74; refine HA.out.mono ?_; rintro e w1 ⟨rfl, rfl⟩))
          go_ret2
          rw [HN.out]
          exact ⟨HT2.out, HR2.out, _, rfl⟩
        | some q =>
          obtain ⟨r, y, d⟩ := q
          rw [hpc] at HPc
          have hlen := piece_len hpc
          have HN := Lib.hid (show altM n x0 = contA (pre ++ [r]) (max dd d) (altM k' y) by rw [HQ.out, alt_more ha h0 hpc, contA_step])
          clear hG hr ht hq hrow hsx h0 hpc
          go_wp2_with (first
            | (at_builtin; refine app_node rfl (.tmp 24) (.tmp 26) 90 rfl Try.underlying90 (.slice A pre.length cc) rfl HG.out HT.out HT2.out hX HN2.out HM2.out hpre 1 rfl ?_
               intro v3 w3 hG3 ht3 hx3
               have HG3 := Lib.hid hG3
               have HT3 := Lib.hid ht3
               have HR3 := Lib.hid (HR2.out.stay hx3)
               clear hG3 ht3 hx3)
            | (go_at_call 75; refine HPc.out.mono ?_; rintro e w2 ⟨ht2, hr2, v2, M2, rfl, hN2, hM2⟩; obtain ⟨T2, y2, rfl⟩ := node_form hN2; have HT2 := Lib.hid ht2; have HR2 := Lib.hid hr2; have HN2 := Lib.hid hN2; have HM2 := Lib.hid hM2; clear hr2 ht2 hN2 hM2)
            | (go_at_call 74; refine HA.out.mono ?_; rintro e w1 ⟨rfl, rfl⟩))
          refine ⟨⟨pre ++ [r], y, max dd d, k', HG3.out, ?_, HT3.out, by omega, by rw [List.length_append, List.length_singleton]; omega, HN.out⟩, ?_⟩
          · rw [show max dp (op + max dd d) = max (max dp (op + dd)) (op + d) by omega]; exact HR3.out
          · rw [HR3.out.rest, hrl]; exact hlen
      · rw [ha] at HA
        have HN := Lib.hid (show altR n x0 = some (.row pre, x, dd) by unfold altR; rw [HQ.out, alt_stop (.inl ha)]; simp [contA])
        clear hG hr ht hq hrow hsx h0
        go_wp2_with (go_at_call 74; refine HA.out.mono ?_; rintro e w1 ⟨rfl, rfl⟩)
        go_ret2
        rw [HN.out]
        obtain ⟨M, hN, hM⟩ := HG.out.row hpre
        exact ⟨HT.out, HR.out, _, M, rfl, hN, hM⟩
end Go.Proofs.Ytjljfilflajogaa
