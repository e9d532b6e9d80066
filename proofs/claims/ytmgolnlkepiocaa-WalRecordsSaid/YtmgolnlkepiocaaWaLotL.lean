/- In one text, written by lotify.py: WaGet, WaTgt. -/
import Derived.Test.YtmgolnlkepiocaaWaLotK
import Derived.Test.YtmgolnlkepiocaaWaLotG
namespace Go.Proofs.Ytmgolnlkepiocaa
open Go.RowKit Go.Maps
set_option linter.unusedVariables false

theorem gs_end {b : List UInt8} {a : Int} {ls : List Nat} {p : Int} {e : Nat} (h : GS b 0 a ls p e) : ls = [] ∧ p = a ∧ e = 0 := by
  cases h
  exact ⟨rfl, rfl, rfl⟩
theorem gs_step {b : List UInt8} {k : Nat} {a : Int} {ls : List Nat} {p : Int} {e : Nat} (h : GS b (k + 1) a ls p e) : ∃ n nx e0, GX b a n nx e0 ∧ ((e0 ≠ 0 ∧ p = 0 ∧ e = e0) ∨ (e0 = 0 ∧ ∃ ls', ls = n :: ls' ∧ GS b k nx ls' p e)) := by
  cases h with
  | bad _ _ n nx e h he => exact ⟨n, nx, e, h, .inl ⟨he, rfl, rfl⟩⟩
  | more _ _ n nx ls p e h r => exact ⟨n, nx, 0, h, .inr ⟨rfl, ls, rfl, r⟩⟩
def intL (ls : List Nat) : List Int := ls.map fun n : Nat => (n : Int)
/-- What pointers name may be written one behind the other. -/
structure Targets (g : Nat) (qs : List (Nat × Nat)) (base : Nat) (T : List Int → World → Prop) : Prop where
  stays : ∀ vs W W', T vs W → Below W.heap.size W W' → T vs W'
  next : ∀ vs W q, T vs W → qs[vs.length]? = some q → W.cell? ⟨g, vs.length, none⟩ = some (.pointer (some ⟨q.1, q.2, none⟩)) ∧ (∃ old, W.cell? ⟨q.1, q.2, none⟩ = some old) ∧ W.frozen? ⟨q.1, q.2, none⟩ = false ∧ base ≤ q.1 ∧ ∀ x, T (vs ++ [x]) (W.setCell ⟨q.1, q.2, none⟩ (.int .i64 x))
theorem wget_prog (A : Option Addr) (l : List UInt8) (c : Nat) (a : Int) (g : Nat) (qs : List (Nat × Nat)) (cq : Nat) (base : Nat) (w : World) (T : List Int → World → Prop)
    (hA : ∀ W, Below base w W → Bys W A l) (hlc : l.length ≤ c) (hl : l.length ≤ 140737488355328) (hb : base ≤ w.heap.size) (hn10 : qs.length ≤ 10) (hT0 : T [] w) (hT : Targets g qs base T) {ls : List Nat} {p : Int} {E : Nat} (hg : GS l qs.length a ls p E) :
    Calls Try.prog 67 #[.slice A l.length c, .int .i64 a, .slice (some ⟨g, 0, none⟩) qs.length cq] w fun e' w' => e' = .returned (.tuple #[.int .i64 p, .int .i64 E]) ∧ (∃ vs, T vs w' ∧ (E = 0 → vs = intL ls)) ∧ Below base w w' := by
  have HA := Lib.hid hA
  have HT := Lib.hid hT
  have HT0 := Lib.hid hT0
  have HG := Lib.hid hg
  have HB := Lib.hid hb
  generalize hnl : qs.length = nl at *
  have HNL := Lib.hid hnl
  clear hA hT hT0 hg hb hnl
  go_enter Try.func67, Try.ntmps67
  go_wp2_with fail
  go_loopw [1, 13] (fun u i wr => ∃ (vs : List Int) (a2 : Int) (ls2 : List Nat), vs.length ≤ nl ∧ i = .int .i64 (vs.length : Int) ∧ u = .int .i64 a2 ∧ GS l (nl - vs.length) a2 ls2 p E ∧ (E = 0 → vs ++ intL ls2 = intL ls) ∧ T vs wr ∧ Below base w wr) (fun _ i _ => nl - (intOf i).toNat)
  case atStart => exact ⟨[], a, ls, Nat.zero_le _, rfl, rfl, HG.out, fun _ => rfl, HT0.out, Below.refl _ _⟩
  case round =>
    obtain ⟨vs, a2, ls2, hk, rfl, rfl, hgs, hvs, ht, hbr⟩ := hrel
    have HB1 := Lib.hid hbr
    have HT1 := Lib.hid ht
    have HVS := Lib.hid hvs
    by_cases hlt : vs.length < nl
    · have hlt' : vs.length < qs.length := by have := HNL.out; omega
      obtain ⟨⟨qb, qo⟩, hq⟩ : ∃ q, qs[vs.length]? = some q := ⟨_, List.getElem?_eq_getElem hlt'⟩
      obtain ⟨c0, ⟨old, c1⟩, f1, hqb, hnx⟩ := HT.out.next vs wr (qb, qo) ht hq
      simp only at c0 c1 f1 hqb
      have i1 : (vs.length : Int) < (nl : Int) := by omega
      rw [show nl - vs.length = (nl - (vs.length + 1)) + 1 from by omega] at hgs
      obtain ⟨n, nx, e0, hx, hres⟩ := gs_step hgs
      have HP := Lib.hid (gx_prog hx A c wr (HA.out _ hbr) hlc hl)
      have HRES := Lib.hid hres
      have HQ := Lib.hid hq
      have HQB := Lib.hid hqb
      have HS : Hid (base ≤ wr.heap.size) := Lib.hid (Nat.le_trans HB.out hbr.size)
      generalize hvl : vs.length = vl at *
      have HVL := Lib.hid hvl
      have HLT := Lib.hid hlt
      clear hgs hx hres ht hbr hq hnx hqb hvs hvl hlt' hk
      by_cases he : e0 = 0
      · subst he
        rcases HRES.out with ⟨h1, _⟩ | ⟨_, ls', rfl, hr'⟩
        · exact absurd rfl h1
        have HR2 := Lib.hid hr'
        clear hr' HRES
        go_wp2_with (go_at_call 95; refine HP.out.mono ?_; rintro e w2 ⟨rfl, hb2⟩; have HT2 := Lib.hid (HT.out.stays vs wr w2 HT1.out hb2); have HB2 := Lib.hid (HB1.out.trans (hb2.mono HS.out)); obtain ⟨d0, ⟨old2, d1⟩, d2, d3, d4⟩ := HT.out.next vs w2 (qb, qo) HT2.out (by rw [HVL.out]; exact HQ.out); have HN2 := Lib.hid d4; (simp only at d1 d2); clear d0 d3 d4 hb2)
        go_roundw
        case rel =>
          have hlen : (vs ++ [(n : Int)]).length = vl + 1 := by rw [List.length_append, HVL.out]; rfl
          exact ⟨vs ++ [(n : Int)], nx, ls', by rw [hlen]; exact HLT.out, by rw [hlen]; go_num, rfl, by rw [hlen]; exact HR2.out, fun h => by rw [← HVS.out h]; simp [intL], HN2.out _, HB2.out.setCell (p := ⟨qb, qo, none⟩) HQB.out _⟩
        case measure => simp [intOf]; omega
      · have i2 : ((e0 : Int) != 0) = true := bne_iff_ne.2 (by omega)
        have i3 : ((e0 : Int) == 0) = false := beq_eq_false_iff_ne.2 (by omega)
        have HE := Lib.hid (show p = 0 ∧ E = e0 by
          rcases HRES.out with ⟨_, h2, h3⟩ | ⟨h1, _⟩
          · exact ⟨h2, h3⟩
          · exact absurd h1 he)
        have HE0 := Lib.hid he
        clear HRES he
        go_wp2_with (go_at_call 95; refine HP.out.mono ?_; rintro e w2 ⟨rfl, hb2⟩; have HT2 := Lib.hid (HT.out.stays vs wr w2 HT1.out hb2); have HB2 := Lib.hid (HB1.out.trans (hb2.mono HS.out)); obtain ⟨d0, ⟨old2, d1⟩, d2, d3, d4⟩ := HT.out.next vs w2 (qb, qo) HT2.out (by rw [HVL.out]; exact HQ.out); have HN2 := Lib.hid d4; (simp only at d1 d2); clear d0 d3 d4 hb2)
        go_ret2
        obtain ⟨e1, e2⟩ := HE.out
        exact ⟨by rw [e1, e2]; rfl, ⟨_, HN2.out _, fun h => absurd (e2.symm.trans h) HE0.out⟩, HB2.out.setCell (p := ⟨qb, qo, none⟩) HQB.out _⟩
    · obtain rfl : vs.length = nl := by omega
      rw [Nat.sub_self] at hgs
      obtain ⟨rfl, rfl, rfl⟩ := gs_end hgs
      have HV := Lib.hid (show vs = intL ls by have := hvs rfl; simpa [intL] using this)
      clear hgs hvs ht hbr HVS
      go_wp2_with fail
      go_ret2
      exact ⟨rfl, by rw [← HV.out]; exact HT1.out, HB1.out⟩
theorem zag_prog (n : Nat) (h : n < 9223372036854775808) (w : World) :
    Calls Try.prog 97 #[.int .i64 (n : Int)] w fun e w' => e = .returned (.int .i64 (zagV n)) ∧ w = w' := by
  obtain ⟨N, hN⟩ : ∃ N, zagV n = N := ⟨_, rfl⟩
  rw [hN]
  unfold zagV at hN
  by_cases h0 : n % 2 = 1
  · rw [if_pos h0] at hN
    have m2 : (n : Int) % 2 = 1 := by omega
    have e0 : wrap64 ((n : Int) / 2) = ((n / 2 : Nat) : Int) := by rw [IntWalk.wrap64_in _ (by omega)]; omega
    have e1 : wrap64 (-((n / 2 : Nat) : Int)) = -((n / 2 : Nat) : Int) := by rw [IntWalk.wrap64_in _ (by omega)]
    have e2 : wrap64 (-((n / 2 : Nat) : Int) - 1) = N := by rw [IntWalk.wrap64_in _ (by omega)]; omega
    have HF := Lib.hid (show wrap64 (wrap64 (-wrap64 ((n : Int) / 2)) - 1) = N by rw [e0, e1, e2])
    clear hN h e0 e1 e2
    go_enter Try.func97, Try.ntmps97
    go_wp2
    go_ret
    exact ⟨by rw [← HF.out]; rfl, rfl⟩
  · rw [if_neg h0] at hN
    have m2 : (n : Int) % 2 = 0 := by omega
    have HF := Lib.hid (show wrap64 ((n : Int) / 2) = N by rw [IntWalk.wrap64_in _ (by omega)]; omega)
    clear hN h
    go_enter Try.func97, Try.ntmps97
    go_wp2
    go_ret
    exact ⟨by rw [← HF.out]; rfl, rfl⟩
end Go.Proofs.Ytmgolnlkepiocaa

namespace Go.Proofs.Ytmgolnlkepiocaa
open Go.RowKit Go.Maps
set_option linter.unusedVariables false

def ptr (b o : Nat) : Value := .pointer (some ⟨b, o, none⟩)
theorem row_apart {w : World} {g g' : Nat} {t t' : TypeId} {cs cs' : Array Value} (h : Row w g t cs) (k : Row w g' t' cs') (ht : t ≠ t') : g ≠ g' := by
  intro e
  subst e
  unfold Row at h k
  rw [h] at k
  injection k with k
  injection k with _ k _
  exact ht k
def T1 (g X : Nat) (vs : List Int) (W : World) : Prop := vs.length ≤ 1 ∧ Row W g 121 #[ptr X 0] ∧ Row W X 3 #[.int .i64 (vs.getD 0 0)]
theorem t1_ok (g X base : Nat) (hX : base ≤ X) : Targets g [(X, 0)] base (T1 g X) := by
  refine ⟨fun vs W W' h hb => ⟨h.1, h.2.1.below hb h.2.1.lt, h.2.2.below hb h.2.2.lt⟩, fun vs W q h hq => ?_⟩
  obtain ⟨hl, h1, h2⟩ := h
  match vs, hl with
  | [], _ =>
    simp only [List.length_nil, List.getElem?_cons_zero, Option.some.injEq] at hq
    subst hq
    refine ⟨h1.cell 0, ⟨_, h2.cell 0⟩, h2.frozen 0, hX, fun x => ⟨by simp, h1.setFar (row_apart h1 h2 (by decide)) _, ?_⟩⟩
    simpa using h2.setAt 0 (.int .i64 x)
  | [a], _ => simp at hq
def T3 (g X : Nat) (vs : List Int) (W : World) : Prop :=
  vs.length ≤ 3 ∧ Row W g 121 #[ptr X 0, ptr (X + 1) 0, ptr (X + 2) 0] ∧ Row W X 3 #[.int .i64 (vs.getD 0 0)] ∧ Row W (X + 1) 3 #[.int .i64 (vs.getD 1 0)] ∧ Row W (X + 2) 3 #[.int .i64 (vs.getD 2 0)]
theorem t3_ok (g X base : Nat) (hX : base ≤ X) : Targets g [(X, 0), (X + 1, 0), (X + 2, 0)] base (T3 g X) := by
  refine ⟨fun vs W W' h hb => ⟨h.1, h.2.1.below hb h.2.1.lt, h.2.2.1.below hb h.2.2.1.lt, h.2.2.2.1.below hb h.2.2.2.1.lt, h.2.2.2.2.below hb h.2.2.2.2.lt⟩, fun vs W q h hq => ?_⟩
  obtain ⟨hl, h0, h1, h2, h3⟩ := h
  match vs, hl with
  | [], _ =>
    simp only [List.length_nil, List.getElem?_cons_zero, Option.some.injEq] at hq
    subst hq
    refine ⟨h0.cell 0, ⟨_, h1.cell 0⟩, h1.frozen 0, hX, fun x => ⟨by simp, h0.setFar (row_apart h0 h1 (by decide)) _, ?_, h2.setFar (p := ⟨X, 0, none⟩) (by simp) _, h3.setFar (p := ⟨X, 0, none⟩) (by simp) _⟩⟩
    simpa using h1.setAt 0 (.int .i64 x)
  | [a], _ =>
    simp only [List.length_cons, List.length_nil, Nat.zero_add, List.getElem?_cons_succ, List.getElem?_cons_zero, Option.some.injEq] at hq
    subst hq
    refine ⟨h0.cell 1, ⟨_, h2.cell 0⟩, h2.frozen 0, Nat.le_trans hX (by simp), fun x => ⟨by simp, h0.setFar (row_apart h0 h2 (by decide)) _, h1.setFar (p := ⟨X + 1, 0, none⟩) (by simp) _, ?_, h3.setFar (p := ⟨X + 1, 0, none⟩) (by simp) _⟩⟩
    simpa using h2.setAt 0 (.int .i64 x)
  | [a, b], _ =>
    simp only [List.length_cons, List.length_nil, Nat.zero_add, List.getElem?_cons_succ, List.getElem?_cons_zero, Option.some.injEq] at hq
    subst hq
    refine ⟨h0.cell 2, ⟨_, h3.cell 0⟩, h3.frozen 0, Nat.le_trans hX (by simp), fun x => ⟨by simp, h0.setFar (row_apart h0 h3 (by decide)) _, h1.setFar (p := ⟨X + 2, 0, none⟩) (by simp) _, h2.setFar (p := ⟨X + 2, 0, none⟩) (by simp) _, ?_⟩⟩
    simpa using h3.setAt 0 (.int .i64 x)
  | [a, b, c], _ => simp at hq
/-- The kind alone. -/
def TK (g X : Nat) (vs : List Int) (W : World) : Prop := vs.length ≤ 1 ∧ Row W g 121 #[ptr X 0] ∧ Row W X 26 #[.int .i64 (vs.getD 0 0), .slice none 0 0, .slice none 0 0, .slice none 0 0, .int .i64 0, .int .i64 0]
theorem tk_ok (g X base : Nat) (hX : base ≤ X) : Targets g [(X, 0)] base (TK g X) := by
  refine ⟨fun vs W W' h hb => ⟨h.1, h.2.1.below hb h.2.1.lt, h.2.2.below hb h.2.2.lt⟩, fun vs W q h hq => ?_⟩
  obtain ⟨hl, h1, h2⟩ := h
  match vs, hl with
  | [], _ =>
    simp only [List.length_nil, List.getElem?_cons_zero, Option.some.injEq] at hq
    subst hq
    refine ⟨h1.cell 0, ⟨_, h2.cell 0⟩, h2.frozen 0, hX, fun x => ⟨by simp, h1.setFar (row_apart h1 h2 (by decide)) _, ?_⟩⟩
    simpa using h2.setAt 0 (.int .i64 x)
  | [a], _ => simp at hq
/-- The bounds of what is gone. -/
def TL (g X : Nat) (v : Value) (b : Nat) (ids : List Int) (vs : List Int) (W : World) : Prop := vs.length ≤ 2 ∧ Row W g 121 #[ptr X 4, ptr X 5] ∧ Row W X 26 #[.int .i64 3, .slice none 0 0, .slice none 0 0, v, .int .i64 (vs.getD 0 0), .int .i64 (vs.getD 1 0)] ∧ OwnZ W b v ids
theorem tl_ok (g X base : Nat) (v : Value) (b : Nat) (ids : List Int) (hX : base ≤ X) : Targets g [(X, 4), (X, 5)] base (TL g X v b ids) := by
  refine ⟨fun vs W W' h hb => ⟨h.1, h.2.1.below hb h.2.1.lt, h.2.2.1.below hb h.2.2.1.lt, ownz_below h.2.2.2 hb⟩, fun vs W q h hq => ?_⟩
  obtain ⟨hl, h1, h2, h3⟩ := h
  match vs, hl with
  | [], _ =>
    simp only [List.length_nil, List.getElem?_cons_zero, Option.some.injEq] at hq
    subst hq
    refine ⟨h1.cell 0, ⟨_, h2.cell 4⟩, h2.frozen 4, hX, fun x => ⟨by simp, h1.setFar (row_apart h1 h2 (by decide)) _, ?_, rows_setFar h3 h2 (by decide) 4 _⟩⟩
    simpa using h2.setAt 4 (.int .i64 x)
  | [a], _ =>
    simp only [List.length_cons, List.length_nil, Nat.zero_add, List.getElem?_cons_succ, List.getElem?_cons_zero, Option.some.injEq] at hq
    subst hq
    refine ⟨h1.cell 1, ⟨_, h2.cell 5⟩, h2.frozen 5, hX, fun x => ⟨by simp, h1.setFar (row_apart h1 h2 (by decide)) _, ?_, rows_setFar h3 h2 (by decide) 5 _⟩⟩
    simpa using h2.setAt 5 (.int .i64 x)
  | [a, b], _ => simp at hq

/-! ### rows that are read -/
def rows3 : List Nat → List Wrow
  | a :: b :: c :: r => ((a : Int), (b : Int), zagV c) :: rows3 r
  | _ => []
theorem gs_split {b : List UInt8} : ∀ (k m : Nat) {a : Int} {xs : List Nat} {p : Int} {e : Nat}, GS b (k + m) a xs p e →
    ∃ ys q e1, GS b k a ys q e1 ∧ ((e1 ≠ 0 ∧ p = 0 ∧ e = e1) ∨ (e1 = 0 ∧ ∃ zs, xs = ys ++ zs ∧ GS b m q zs p e)) := by
  intro k
  induction k with
  | zero =>
    intro m a xs p e h
    rw [Nat.zero_add] at h
    exact ⟨[], a, 0, .done a, .inr ⟨rfl, xs, rfl, h⟩⟩
  | succ k ih =>
    intro m a xs p e h
    rw [show k + 1 + m = (k + m) + 1 from by omega] at h
    obtain ⟨n, nx, e0, hx, hr⟩ := gs_step h
    rcases hr with ⟨h1, h2, h3⟩ | ⟨rfl, ls', rfl, hr⟩
    · exact ⟨[], 0, e0, .bad k a n nx e0 hx h1, .inl ⟨h1, h2, h3⟩⟩
    · obtain ⟨ys, q, e1, i1, i2⟩ := ih m hr
      refine ⟨n :: ys, q, e1, .more k a n nx ys q e1 hx i1, ?_⟩
      rcases i2 with i2 | ⟨j1, zs, j2, j3⟩
      · exact .inl i2
      · exact .inr ⟨j1, zs, by rw [j2]; rfl, j3⟩
theorem gs_len {b : List UInt8} {k : Nat} {a : Int} {ls : List Nat} {p : Int} {e : Nat} (h : GS b k a ls p e) : (e = 0 → ls.length = k) ∧ ∀ n ∈ ls, n < 9223372036854775808 := by
  induction h with
  | done a => exact ⟨fun _ => rfl, by simp⟩
  | bad k a n nx e h he => exact ⟨fun h => absurd h he, by simp⟩
  | more k a n nx ls p e h r ih =>
    refine ⟨fun h => by rw [List.length_cons, ih.1 h], fun m hm => ?_⟩
    rcases List.mem_cons.1 hm with rfl | hm
    · exact (gx_place h).2
    · exact ih.2 m hm
theorem rows3_app : ∀ (k : Nat) (ys zs : List Nat), ys.length = 3 * k → rows3 (ys ++ zs) = rows3 ys ++ rows3 zs := by
  intro k
  induction k with
  | zero => intro ys zs h; obtain rfl := List.eq_nil_of_length_eq_zero (by omega : ys.length = 0); rfl
  | succ k ih =>
    intro ys zs h
    match ys, h with
    | a :: b :: c :: r, h => 
      have := ih r zs (by simp at h; omega)
      show _ :: rows3 (r ++ zs) = _
      rw [this]
      rfl
    | [], h => simp at h
    | [a], h => simp at h; omega
    | [a, b], h => simp at h; omega
theorem rows3_len : ∀ (k : Nat) (ys : List Nat), ys.length = 3 * k → (rows3 ys).length = k := by
  intro k
  induction k with
  | zero => intro ys h; obtain rfl := List.eq_nil_of_length_eq_zero (by omega : ys.length = 0); rfl
  | succ k ih =>
    intro ys h
    match ys, h with
    | a :: b :: c :: r, h =>
      have := ih r (by simp at h; omega)
      show (rows3 r).length + 1 = _
      rw [this]
    | [], h => simp at h
    | [a], h => simp at h; omega
    | [a, b], h => simp at h; omega
/-- What is read as a record's rows at a place. -/
def RX (b : List UInt8) (a : Int) (rs : List Wrow) (p : Int) (E : Nat) : Prop :=
  ∃ n nx e, GX b a n nx e ∧ ((e ≠ 0 ∧ E = e ∧ rs = [] ∧ p = 0) ∨ (e = 0 ∧ 64 < n ∧ E = 3 ∧ rs = [] ∧ p = 0) ∨ (e = 0 ∧ n ≤ 64 ∧ ∃ xs, GS b (3 * n) nx xs p E ∧ (E = 0 → rs = rows3 xs) ∧ (E ≠ 0 → rs = [])))
theorem rx_total (b : List UInt8) (a : Int) : ∃ rs p E, RX b a rs p E := by
  obtain ⟨n, nx, e, h⟩ := gx_total b a
  by_cases he : e = 0
  · subst he
    by_cases hn : 64 < n
    · exact ⟨[], 0, 3, n, nx, 0, h, .inr (.inl ⟨rfl, hn, rfl, rfl, rfl⟩)⟩
    · obtain ⟨xs, p, E, hg⟩ := gs_total b (3 * n) nx
      exact ⟨if E = 0 then rows3 xs else [], p, E, n, nx, 0, h, .inr (.inr ⟨rfl, by omega, xs, hg, fun h => by rw [if_pos h], fun h => by rw [if_neg h]⟩)⟩
  · exact ⟨[], 0, e, n, nx, e, h, .inl ⟨he, rfl, rfl, rfl⟩⟩
def RowsTold (w : World) (rs : List Wrow) (p : Int) (E : Nat) (e' : Ending) (w' : World) : Prop :=
  ∃ v, e' = .returned (.tuple #[v, .int .i64 p, .int .i64 E]) ∧ OwnW w' w.heap.size v rs ∧ Below w.heap.size w w'
end Go.Proofs.Ytmgolnlkepiocaa
