/- The law's own copy of the sets is written over: what the index holds stays as it is. -/
import Derived.Test.YtojlcipphnegaaaGreatIxNew
import Derived.Test.YtojlcipphnegaaaGreatIxLotM
namespace Go.Proofs.YtojlcipphnegaaaGreat
open Go.RowKit Go.Maps
set_option linter.unusedVariables false
set_option maxRecDepth 100000

theorem idx_keep {w w' : World} {base X : Nat} {ss : List (List Lbl)} (h : IdxAt w base X ss) (hk : ∀ k, base ≤ k → w'.heap[k]? = w.heap[k]?) : IdxAt w' base X ss := by
  obtain ⟨h1, v, b, h2, h3, ⟨ps, p1, p2, p3⟩, es, clock, q1, q2, q3, q4, q5, q6⟩ := h
  refine ⟨h1, v, b, h2, (hk X h1).trans h3, ⟨ps, p1, rows_move p2 fun k e => hk k (World.ownsRow.lt p2 k e).1, fun p hp => ?_⟩, es, clock, (hk b h2).trans q1, q2, q3, fun x hx => ?_, q5, q6⟩
  · obtain ⟨⟨_, m2⟩, m3⟩ := p3 p hp
    have m4 : OwnL w' base (slE p) p.2.2 := rows_move m3 fun k e => hk k (World.ownsRow.lt m3 k e).1
    obtain ⟨P, c', e, _, m5, _⟩ := ownl_slice m4
    obtain ⟨rfl, _, rfl⟩ := Value.slice.inj e
    exact ⟨⟨m5, m2⟩, m4⟩
  · obtain ⟨p, k1, k2, k3, k4⟩ := q4 x hx
    exact ⟨p, k1, k2, k3, rows_move k4 fun k e => hk k (World.ownsRow.lt k4 k e).1⟩
/-- A slice of labels whose cells may be written, in a block from base on and below T. -/
def Lw (w : World) (base T : Nat) (A : Option Addr) (n : Nat) : Prop := n = 0 ∨ ∃ g cs, A = some ⟨g, 0, none⟩ ∧ base ≤ g ∧ g < T ∧ Row w g 35 cs ∧ n * 2 ≤ cs.size ∧ n ≤ maxLen
/-- A row of such slices. -/
def Sw (w : World) (base T : Nat) (P : Option Addr) (ns : List (Option Addr × Nat × Nat)) : Prop :=
  (ns = [] ∨ ∃ g cs, P = some ⟨g, 0, none⟩ ∧ Row w g 31 cs ∧ ∀ (i : Nat) (u : Option Addr × Nat × Nat), ns[i]? = some u → cs[i]? = some (Value.slice u.1 u.2.1 u.2.2)) ∧ ∀ u ∈ ns, Lw w base T u.1 u.2.1
theorem sw_of {w : World} {base : Nat} {P : Option Addr} {n c : Nat} {ss : List (List Lbl)} (h : OwnSets w base (.slice P n c) ss) : ∃ ns : List (Option Addr × Nat × Nat), ns.length = n ∧ n = ss.length ∧ Sw w base w.heap.size P ns := by
  obtain ⟨ps, rfl, h2, h3⟩ := h
  have hn : n = ps.length := by
    obtain ⟨P', c', e, _⟩ := rows_slice h2
    exact (Value.slice.inj e).2.1
  refine ⟨ps.map fun p => (p.1, p.2.2.length, p.2.1), by simp [hn], by simp [hn], ?_, ?_⟩
  · rcases h2.2 with ⟨e, h0⟩ | ⟨g, cap, cur, hv, hg, hh, hnc, hcm, hcs, htk⟩
    · left
      have : ps = [] := List.eq_nil_of_length_eq_zero h0
      rw [this]; rfl
    · right
      injection hv with e1 _ _
      refine ⟨g, cur, e1, hh, fun i u hu => ?_⟩
      rw [List.getElem?_map] at hu
      obtain ⟨p, hp, rfl⟩ := Option.map_eq_some_iff.1 hu
      have h5 : (ps.map slE)[i]? = some (slE p) := by rw [List.getElem?_map, hp]; rfl
      rw [← htk, List.getElem?_take] at h5
      split at h5
      · rw [← Array.getElem?_toList]
        exact h5
      · cases h5
  · intro u hu
    obtain ⟨p, hp, rfl⟩ := List.mem_map.1 hu
    obtain ⟨_, m3⟩ := h3 p hp
    rcases m3.2 with ⟨e, h0⟩ | ⟨g, cap, cur, hv, hg, hh, hnc, hcm, hcs, htk⟩
    · exact .inl h0
    · injection hv with e1 _ _
      refine .inr ⟨g, cur, e1, hg, Row.lt (cs := cur) hh, hh, ?_⟩
      have hlen := flat_len lblE 2 lblE_len p.2.2
      have := congrArg List.length htk
      rw [List.length_take, hlen, Array.length_toList] at this
      exact ⟨by show p.2.2.length * 2 ≤ _; omega, Nat.le_trans hnc hcm⟩
theorem lw_below {w w' : World} {base T : Nat} {A : Option Addr} {n : Nat} (h : Lw w base T A n) (hb : Below w.heap.size w w') : Lw w' base T A n := by
  rcases h with h | ⟨g, cs, e, h1, h2, h3, h4⟩
  · exact .inl h
  · exact .inr ⟨g, cs, e, h1, h2, h3.below hb h3.lt, h4⟩
theorem sw_below {w w' : World} {base T : Nat} {P : Option Addr} {ns : List (Option Addr × Nat × Nat)} (h : Sw w base T P ns) (hb : Below w.heap.size w w') : Sw w' base T P ns := by
  obtain ⟨h1, h2⟩ := h
  refine ⟨?_, fun u hu => lw_below (h2 u hu) hb⟩
  rcases h1 with h1 | ⟨g, cs, e, h3, h4⟩
  · exact .inl h1
  · exact .inr ⟨g, cs, e, h3.below hb h3.lt, h4⟩
theorem lw_set {w : World} {base T : Nat} {A : Option Addr} {n : Nat} (h : Lw w base T A n) (g i : Nat) (v : Value) : Lw (w.setCell ⟨g, i, none⟩ v) base T A n := by
  rcases h with h | ⟨g', cs, rfl, h1, h2, h3, h4⟩
  · exact .inl h
  · by_cases e : g' = g
    · subst e
      exact .inr ⟨g', _, rfl, h1, h2, h3.setAt i v, by simpa using h4⟩
    · exact .inr ⟨g', cs, rfl, h1, h2, h3.setFar e v, h4⟩
theorem sw_set {w : World} {base T : Nat} {P : Option Addr} {ns : List (Option Addr × Nat × Nat)} (h : Sw w base T P ns) {g : Nat} {cs : Array Value} (hg : Row w g 35 cs) (i : Nat) (v : Value) : Sw (w.setCell ⟨g, i, none⟩ v) base T P ns := by
  obtain ⟨h1, h2⟩ := h
  refine ⟨?_, fun u hu => lw_set (h2 u hu) g i v⟩
  rcases h1 with h1 | ⟨g', cs', e, h3, h4⟩
  · exact .inl h1
  · refine .inr ⟨g', cs', e, h3.setFar (fun e => ?_) v, h4⟩
    subst e
    exact absurd (row_kind h3 hg) (by decide)
def spC : List Value := [.string ⟨#[122, 122]⟩, .string ⟨#[115, 112, 111, 105, 108, 116]⟩]
set_option maxHeartbeats 2000000 in
theorem spoil_law (P : Option Addr) (n c base T : Nat) (ns : List (Option Addr × Nat × Nat)) (w0 w : World) (hn : ns.length = n) (hS : Sw w base T P ns) (hl : n ≤ 5864062014634) (hB : Below base w0 w) (hbT : base ≤ T) :
    Calls Tryz.prog 14 #[.slice P n c] w fun e w' => (∃ v, e = .returned v) ∧ Below base w0 w' ∧ ∀ k, T ≤ k → w'.heap[k]? = w.heap[k]? := by
  go_enter Tryz.func14, Tryz.ntmps14
  go_wp2_with fail
  go_loopw [2] (fun i wr => ∃ j : Nat, j ≤ n ∧ i = .int .i64 (j : Int) ∧ Sw wr base T P ns ∧ Below base w0 wr ∧ ∀ k, T ≤ k → wr.heap[k]? = w.heap[k]?) (fun i _ => n - (intOf i).toNat)
  case atStart => exact ⟨0, Nat.zero_le _, rfl, hS, hB, fun k hk => rfl⟩
  case round =>
    obtain ⟨j, hj, rfl, hs, hb, hk⟩ := hrel
    by_cases hlt : j < n
    · obtain ⟨⟨A, m, d⟩, hu⟩ : ∃ u, ns[j]? = some u := ⟨_, List.getElem?_eq_getElem (by omega)⟩
      have hum : (A, m, d) ∈ ns := List.mem_of_getElem? hu
      rcases hs.1 with rfl | ⟨g, cs, rfl, hr, hcs⟩
      · exact absurd hu (by simp)
      have c0 : wr.cell? ⟨g, j, none⟩ = some (.slice A m d) := (hr.cell j).trans (hcs j _ hu)
      have i1 : (j : Int) < (n : Int) := by omega
      have HUM := Lib.hid hum
      have HU := Lib.hid hu
      clear hr hcs hum hu
      go_wp2_with fail
      go_loopw [3] (fun i wr => ∃ k : Nat, k ≤ m ∧ i = .int .i64 (k : Int) ∧ Sw wr base T (some ⟨g, 0, none⟩) ns ∧ wr.cell? ⟨g, j, none⟩ = some (.slice A m d) ∧ Below base w0 wr ∧ ∀ k, T ≤ k → wr.heap[k]? = w.heap[k]?) (fun i _ => m - (intOf i).toNat)
      case atStart => exact ⟨0, Nat.zero_le _, rfl, hs, c0, hb, hk⟩
      case round =>
        obtain ⟨k, hkm, rfl, hs2, c2, hb2, hk2⟩ := hrel
        by_cases hlt2 : k < m
        · rcases hs2.2 _ HUM.out with h0 | ⟨g2, cs2, e2, hb3, hT3, hr3, hm3, hm5⟩
          · exact absurd h0 (by simp only; omega)
          obtain rfl : A = some ⟨g2, 0, none⟩ := e2
          have hm4 : m * 2 ≤ cs2.size := hm3
          have hm6 : m ≤ 9223372036854775807 := by simpa [maxLen] using hm5
          have hr4 := hr3.setAt (k * 2) (.string ⟨#[122, 122]⟩)
          have hr5 := hr4.setAt (k * 2 + 1) (.string ⟨#[115, 112, 111, 105, 108, 116]⟩)
          have f1 := hr3.frozen (k * 2)
          have f2 := hr4.frozen (k * 2 + 1)
          have d1 : wr.cell? ⟨g2, k * 2, none⟩ = some cs2[k * 2] := (hr3.cell (k * 2)).trans (Array.getElem?_eq_getElem (by omega))
          have d2 : (wr.setCell ⟨g2, k * 2, none⟩ (.string ⟨#[122, 122]⟩)).cell? ⟨g2, k * 2 + 1, none⟩ = some _ := (hr4.cell (k * 2 + 1)).trans (Array.getElem?_eq_getElem (by simp; omega))
          have HS3 := Lib.hid (sw_set (sw_set hs2 hr3 (k * 2) (.string ⟨#[122, 122]⟩)) hr4 (k * 2 + 1) (.string ⟨#[115, 112, 111, 105, 108, 116]⟩))
          have HB3 := Lib.hid (Below.setCell (Below.setCell hb2 (p := ⟨g2, k * 2, none⟩) hb3 (.string ⟨#[122, 122]⟩)) (p := ⟨g2, k * 2 + 1, none⟩) hb3 (.string ⟨#[115, 112, 111, 105, 108, 116]⟩))
          have HK3 := Lib.hid (fun q (hq : T ≤ q) => ((Below.heap_setCell (wr.setCell ⟨g2, k * 2, none⟩ (.string ⟨#[122, 122]⟩)) ⟨g2, k * 2 + 1, none⟩ (.string ⟨#[115, 112, 111, 105, 108, 116]⟩) q (by show q ≠ g2; omega)).trans (Below.heap_setCell wr ⟨g2, k * 2, none⟩ (.string ⟨#[122, 122]⟩) q (by show q ≠ g2; omega))).trans (hk2 q hq))
          have HC3 := Lib.hid (show ((wr.setCell ⟨g2, k * 2, none⟩ (.string ⟨#[122, 122]⟩)).setCell ⟨g2, k * 2 + 1, none⟩ (.string ⟨#[115, 112, 111, 105, 108, 116]⟩)).cell? ⟨g, j, none⟩ = some (.slice (some ⟨g2, 0, none⟩) m d) from by
            rcases HS3.out.1 with e | ⟨g', cs', e, hr', hcs'⟩
            · rw [e] at HUM; exact absurd HUM.out (by simp)
            · injection e with e
              injection e with e
              subst e
              exact (hr'.cell j).trans (hcs' j _ HU.out))
          clear hs2 hb2 hk2 hr4 hr5 hr3
          have i2 : (k : Int) < (m : Int) := by omega
          go_wp2_with fail
          go_roundw
          case rel => exact ⟨k + 1, hlt2, by go_num, HS3.out, HC3.out, HB3.out, HK3.out⟩
          case measure => simp [intOf]; omega
        · have HS2 := Lib.hid hs2
          have HB2 := Lib.hid hb2
          have HK2 := Lib.hid hk2
          clear hs2 hb2 hk2
          obtain rfl : k = m := by omega
          go_wp2_with fail
          go_roundw
          case rel => exact ⟨j + 1, hlt, by go_num, HS2.out, HB2.out, HK2.out⟩
          case measure => simp [intOf]; omega
    · obtain rfl : j = n := by omega
      go_wp2_with fail
      go_end0
      exact ⟨⟨_, rfl⟩, hb, hk⟩
end Go.Proofs.YtojlcipphnegaaaGreat
