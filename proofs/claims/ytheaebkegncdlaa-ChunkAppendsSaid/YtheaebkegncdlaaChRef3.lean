/- Decode, as the document's own answer tells it: plain facts of its rounds. -/
import Derived.Test.YtheaebkegncdlaaChLives
import Derived.Deep.DeepCutAuto
import Derived.BigRegion
namespace Go.Proofs.Ytheaebkegncdlaa
open Go.RowKit Go.Maps
set_option linter.unusedVariables false

/-- Where the document's reading has come to: k of n samples, the distance that it keeps, the place. -/
structure RAt (b : List UInt8) (n k : Nat) (l : List Smp) (far : Int) (p : Nat) : Prop where
  len : l.length = k
  le : k ≤ n
  n120 : n ≤ 120
  pos : p ≤ 8 * b.length
  may : ∀ i, i < k → mayB (l.getD i (0, 0)) = true
  far_ : -1099511627776 ≤ far ∧ far ≤ 1099511627776
  zero : k < 2 → far = 0 ∨ k = 1 ∨ True
  wit : ∀ lw, chk lw = 0 → encL lw = b → lw.length = n ∧ l = lw.take k ∧ far = (if k < 2 then 0 else dist lw (k - 1)) ∧ p = endN 0 (n :: body lw k)
/-- The value that the round reads for the time. -/
def rT (k u : Nat) : Int := if k < 2 then wrp u else zag u
/-- The distance behind the round, and the sample. -/
def rF (k : Nat) (far t : Int) : Int := if k = 0 then far else far * (min ((k : Int) - 1) 1) + t
def rS (l : List Smp) (k : Nat) (far t v : Int) : Smp := if k = 0 then (t, v) else (tOf l (k - 1) + rF k far t, vOf l (k - 1) + v)
theorem rF_cases (k : Nat) (far t : Int) : (k = 0 ∧ rF k far t = far) ∨ (k = 1 ∧ rF k far t = t) ∨ (2 ≤ k ∧ rF k far t = far + t) := by
  unfold rF
  by_cases h0 : k = 0
  · exact .inl ⟨h0, by rw [if_pos h0]⟩
  · rw [if_neg h0]
    by_cases h1 : k = 1
    · have : min ((k : Int) - 1) 1 = 0 := by omega
      exact .inr (.inl ⟨h1, by rw [this]; omega⟩)
    · refine .inr (.inr ⟨by omega, ?_⟩)
      have : min ((k : Int) - 1) 1 = 1 := by omega
      rw [this, Int.mul_one]
theorem RAt.first {b : List UInt8} {n : Nat} (hn : n ≤ 120) (hs : Stand b 0 [n]) : RAt b n 0 [] 0 (0 + (7 + digs n)) :=
  ⟨rfl, Nat.zero_le _, hn, hs.2.1, fun i hi => by omega, by omega, fun _ => .inl rfl, fun lw h1 h2 => by
    have h3 := wit_count h1
    rw [h2] at h3
    have h4 : gnum b ((8 * b.length : Nat) : Int) ((0 : Nat) : Int) = _ := stand_read hs
    rw [h4] at h3
    simp only [Prod.mk.injEq] at h3
    exact ⟨h3.1.symm, by simp, rfl, rfl⟩⟩
theorem RAt.noT {b : List UInt8} {n k p : Nat} {l : List Smp} {far code : Int} (h : RAt b n k l far p) (hk : k < n) (hc : (code != 0) = true) (hg : gnum b ((8 * b.length : Nat) : Int) (p : Int) = (0, 0, code)) : NoChunk b := by
  intro lw h1 h2
  obtain ⟨e1, _, _, e4⟩ := h.wit lw h1 h2
  have := wit_t h1 (i := k) (by omega)
  rw [h2, e1, ← e4, hg] at this
  simp only [Prod.mk.injEq] at this
  exact absurd this.2.2 (bne_iff_ne.1 hc)
theorem RAt.nums {b : List UInt8} {n k p u : Nat} {l : List Smp} {far : Int} (h : RAt b n k l far p) (hk : k < n) (hu : Stand b p [u]) {lw : List Smp} (h1 : chk lw = 0) (h2 : encL lw = b) :
    u = tnum lw k ∧ ∀ v, Stand b (p + (7 + digs u)) [v] → v = vnum lw k := by
  obtain ⟨e1, _, _, e4⟩ := h.wit lw h1 h2
  obtain ⟨r, hr⟩ := wit_stand h1 (i := k) (by omega)
  rw [h2, e1, ← e4] at hr
  have eu : u = tnum lw k := has_one hu.1 hr.1 hu.2.2.1 hr.2.2.1
  refine ⟨eu, fun v hv => ?_⟩
  have hr2 := hr.2.2.2
  rw [← eu] at hr2
  exact has_one hv.1 hr2.1 hv.2.2.1 hr2.2.2.1
theorem RAt.noV {b : List UInt8} {n k p u : Nat} {l : List Smp} {far code : Int} (h : RAt b n k l far p) (hk : k < n) (hu : Stand b p [u]) (hc : (code != 0) = true) (hg : gnum b ((8 * b.length : Nat) : Int) ((p + (7 + digs u) : Nat) : Int) = (0, 0, code)) : NoChunk b := by
  intro lw h1 h2
  obtain ⟨e1, _, _, e4⟩ := h.wit lw h1 h2
  obtain ⟨eu, _⟩ := h.nums hk hu h1 h2
  have := wit_v h1 (i := k) (by omega)
  rw [h2, e1, ← e4, ← eu, hg] at this
  simp only [Prod.mk.injEq] at this
  exact absurd this.2.2 (bne_iff_ne.1 hc)
/-- What a witness says of the round's numbers. -/
theorem RAt.said {b : List UInt8} {n k p u v : Nat} {l : List Smp} {far : Int} (h : RAt b n k l far p) (hk : k < n) (hu : Stand b p [u]) (hv : Stand b (p + (7 + digs u)) [v]) {lw : List Smp} (h1 : chk lw = 0) (h2 : encL lw = b) :
    -1099511627776 ≤ rT k u ∧ rT k u ≤ 1099511627776 ∧ -2305843009213693952 ≤ zag v ∧ zag v ≤ 2305843009213693952 ∧ rS l k far (rT k u) (zag v) = lw.getD k (0, 0) ∧ rF k far (rT k u) = (if k + 1 < 2 then 0 else dist lw k) := by
  obtain ⟨e1, e2, e3, _⟩ := h.wit lw h1 h2
  obtain ⟨eu, ev⟩ := h.nums hk hu h1 h2
  have ev := ev v hv
  obtain ⟨_, _, hg⟩ := chk_zero.1 h1
  have hkl : k < lw.length := by omega
  have b1 := good_at hg hkl
  have b2 := good_pre hg (Nat.le_of_lt hkl)
  have b3 := good_dist hg hkl
  have b4 := good_preD hg (Nat.le_of_lt hkl)
  have hz : zag v = vOf lw k - preV lw k := by rw [ev]; unfold vnum; rw [zag_zig]
  have hT : rT k u = if k < 2 then dist lw k else dist lw k - preD lw k := by
    rw [eu]
    unfold rT tnum
    split
    · rw [wrp_eq]; omega
    · rw [zag_zig]
  have hlt : ∀ i, i < k → tOf l i = tOf lw i ∧ vOf l i = vOf lw i := by
    intro i hi
    rw [e2]
    unfold tOf vOf
    rw [getD_in (lw.take k) _ (by rw [List.length_take]; omega), List.getElem_take, getD_in lw _ (by omega)]
    exact ⟨rfl, rfl⟩
  have hpair : lw.getD k (0, 0) = (tOf lw k, vOf lw k) := rfl
  refine ⟨by rw [hT]; split <;> omega, by rw [hT]; split <;> omega, by omega, by omega, ?_, ?_⟩
  · rw [hpair]
    unfold rS
    by_cases h0 : k = 0
    · rw [if_pos h0, hT, if_pos (by omega), hz]
      unfold dist preT preV
      rw [if_pos h0, if_pos h0]
      simp
    · rw [if_neg h0, (hlt (k - 1) (by omega)).1, (hlt (k - 1) (by omega)).2, hz]
      have p1 : preT lw k = tOf lw (k - 1) := by unfold preT; rw [if_neg h0]
      have p2 : preV lw k = vOf lw (k - 1) := by unfold preV; rw [if_neg h0]
      have p3 : preD lw k = dist lw (k - 1) := by unfold preD; rw [if_neg h0]
      have hd : dist lw k = tOf lw k - tOf lw (k - 1) := by unfold dist; rw [p1]
      rw [p2]
      rcases rF_cases k far (rT k u) with ⟨c, _⟩ | ⟨c, e⟩ | ⟨c, e⟩
      · exact absurd c h0
      · rw [e, hT, if_pos (by omega), hd]
        congr 1 <;> omega
      · rw [e, hT, if_neg (by omega), e3, if_neg (by omega), p3, hd]
        congr 1 <;> omega
  · rcases rF_cases k far (rT k u) with ⟨c, e⟩ | ⟨c, e⟩ | ⟨c, e⟩
    · rw [e, if_pos (by omega), e3, if_pos (by omega)]
    · rw [e, if_neg (by omega), hT, if_pos (by omega)]
    · rw [e, if_neg (by omega), hT, if_neg (by omega), e3, if_neg (by omega)]
      have p3 : preD lw k = dist lw (k - 1) := by unfold preD; rw [if_neg (by omega)]
      omega
theorem RAt.bound {b : List UInt8} {n k p : Nat} {l : List Smp} {far t v : Int} (h : RAt b n k l far p) (ht : -1099511627776 ≤ t ∧ t ≤ 1099511627776) (hv : -2305843009213693952 ≤ v ∧ v ≤ 2305843009213693952) :
    -2199023255552 ≤ rF k far t ∧ rF k far t ≤ 2199023255552 ∧ (0 < k → 0 ≤ tOf l (k - 1) ∧ tOf l (k - 1) ≤ 1099511627776 ∧ -1152921504606846976 ≤ vOf l (k - 1) ∧ vOf l (k - 1) ≤ 1152921504606846976) := by
  have h1 := h.far_
  refine ⟨?_, ?_, fun h0 => mayB_iff.1 (h.may (k - 1) (by omega))⟩ <;> rcases rF_cases k far t with ⟨_, e⟩ | ⟨_, e⟩ | ⟨_, e⟩ <;> omega
theorem RAt.next {b : List UInt8} {n k p u v : Nat} {l : List Smp} {far : Int} (h : RAt b n k l far p) (hk : k < n) (hu : Stand b p [u]) (hv : Stand b (p + (7 + digs u)) [v]) (hm : mayB (rS l k far (rT k u) (zag v)) = true)
    (ht : -1099511627776 ≤ rT k u ∧ rT k u ≤ 1099511627776) : RAt b n (k + 1) (l ++ [rS l k far (rT k u) (zag v)]) (rF k far (rT k u)) (p + (7 + digs u) + (7 + digs v)) := by
  have hl := h.len
  refine ⟨by rw [List.length_append, hl]; rfl, hk, h.n120, hv.2.1, fun i hi => ?_, ?_, fun _ => .inr (.inr trivial), fun lw h1 h2 => ?_⟩
  · by_cases hik : i < k
    · rw [getD_snoc_old l _ _ (by omega)]
      exact h.may i hik
    · obtain rfl : i = l.length := by omega
      rw [getD_snoc_new]
      exact hm
  · have h1 := h.far_
    by_cases h0 : k = 0
    · unfold rF
      rw [if_pos h0]
      exact h1
    · have hmm := mayB_iff.1 hm
      have hpp := mayB_iff.1 (h.may (k - 1) (by omega))
      unfold rS at hmm
      rw [if_neg h0] at hmm
      have e : tOf l (k - 1) = (l.getD (k - 1) (0, 0)).1 := rfl
      simp only at hmm
      omega
  · obtain ⟨e1, e2, e3, e4⟩ := h.wit lw h1 h2
    obtain ⟨eu, ev⟩ := h.nums hk hu h1 h2
    have ev := ev v hv
    obtain ⟨_, _, _, _, s5, s6⟩ := h.said hk hu hv h1 h2
    have hkl : k < lw.length := by omega
    refine ⟨e1, ?_, s6, ?_⟩
    · rw [s5, List.take_succ_eq_append_getElem hkl, getD_in _ _ hkl, e2]
    · have e5 : n :: body lw (k + 1) = (n :: body lw k) ++ [tnum lw k, vnum lw k] := rfl
      rw [e5, endN_app, ← e4, ← eu, ← ev]
      rfl
end Go.Proofs.Ytheaebkegncdlaa
