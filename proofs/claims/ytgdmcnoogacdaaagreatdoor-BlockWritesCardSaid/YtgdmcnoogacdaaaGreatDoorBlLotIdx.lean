/- In one text, written by lotify.py: BlRows, BlIdx. -/
import Derived.Test.YtgdmcnoogacdaaaGreatDoorBlMath
import Derived.Test.YtgdmcnoogacdaaaGreatDoorBlLotL
import Derived.Test.YtgdmcnoogacdaaaGreatDoorBlLotOp
import Derived.Test.YtgdmcnoogacdaaaGreatDoorBlLotF
import Derived.Test.YtgdmcnoogacdaaaGreatDoorBlLotQ
namespace Go.Proofs.YtgdmcnoogacdaaaGreatDoor
open Go.ChangeShapes Go.WideShapes Go.ChangeAt Go.RowKit Go.Joins Go.Maps
open Ch
set_option linter.unusedVariables false

/-- Where a series' slices lie. -/
structure SerM where
  la : Option Addr
  lc : Nat
  sa : Option Addr
  sc : Nat
abbrev SPl := Ser × SerM
def ser0 : Ser := ([], [])
def spl0 : SPl := (ser0, ⟨none, 0, none, 0⟩)
instance spl_inh : Inhabited SPl := ⟨spl0⟩
def lsV (x : SPl) : Value := .slice x.2.la x.1.1.length x.2.lc
def ssV (x : SPl) : Value := .slice x.2.sa x.1.2.length x.2.sc
def spE (x : SPl) : List Value := [lsV x, ssV x]
theorem spE_len (x : SPl) : (spE x).length = 2 := rfl
structure SerIn (w : World) (x : SPl) : Prop where
  labels : Lbls w x.2.la x.1.1
  samples : Smps w x.2.sa x.1.2
  lc : x.1.1.length ≤ x.2.lc
  sc : x.1.2.length ≤ x.2.sc
theorem SerIn.below {w w' : World} {x : SPl} (h : SerIn w x) (hb : Below w.heap.size w w') : SerIn w' x := ⟨h.labels.below hb, h.samples.below hb, h.lc, h.sc⟩
def Sers (w : World) (A : Option Addr) (S : List Ser) : Prop := ∃ ps : List SPl, ps.map (·.1) = S ∧ At w A (ps.flatMap spE) ∧ ∀ x ∈ ps, SerIn w x
theorem Sers.below {w w' : World} {A : Option Addr} {S : List Ser} (h : Sers w A S) (hb : Below w.heap.size w w') : Sers w' A S := by
  obtain ⟨ps, h1, h2, h3⟩ := h
  exact ⟨ps, h1, h2.below hb, fun x hx => (h3 x hx).below hb⟩
theorem Sers.alloc {w : World} {A : Option Addr} {S : List Ser} (h : Sers w A S) (o : Obj) : Sers (w.alloc o) A S := h.below (below_one w o)
theorem Sers.nil (w : World) (A : Option Addr) : Sers w A [] := ⟨[], rfl, .inl rfl, fun x hx => by cases hx⟩
/-- The i-th series: its two slices, and what they hold. -/
def SerAt (w : World) (b o : Nat) (S : List Ser) (i : Nat) (m : SerM) : Prop :=
  w.cell? ⟨b, o + i * 2, none⟩ = some (.slice m.la (S.getD i ser0).1.length m.lc) ∧ w.cell? ⟨b, o + i * 2 + 1, none⟩ = some (.slice m.sa (S.getD i ser0).2.length m.sc) ∧ SerIn w (S.getD i ser0, m)
theorem Sers.all {w : World} {A : Option Addr} {S : List Ser} (h : Sers w A S) (hl : 0 < S.length) :
    ∃ b o, A = some ⟨b, o, none⟩ ∧ b < w.heap.size ∧ ∀ i, i < S.length → ∃ m, SerAt w b o S i m := by
  obtain ⟨ps, rfl, h2, h3⟩ := h
  rw [List.length_map] at hl
  have hlen := flat_len spE 2 spE_len ps
  rcases h2 with h2 | ⟨b, o, rfl, hb, hc⟩
  · rw [h2] at hlen; simp at hlen; omega
  · refine ⟨b, o, rfl, hb, fun i hi => ?_⟩
    rw [List.length_map] at hi
    have hg : (ps.map (·.1)).getD i ser0 = (ps.getD i spl0).1 := by simp [List.getD_eq_getElem?_getD, hi]
    have hm : ps.getD i spl0 ∈ ps := List.mem_of_getElem? (getD_some ps spl0 hi)
    refine ⟨(ps.getD i spl0).2, ?_, ?_, ?_⟩
    · rw [hg]
      exact hc (i * 2 + 0) _ (flat_get spE 2 spE_len ps i _ 0 (getD_some ps spl0 hi) (by omega))
    · rw [hg, Nat.add_assoc]
      exact hc (i * 2 + 1) _ (flat_get spE 2 spE_len ps i _ 1 (getD_some ps spl0 hi) (by omega))
    · rw [hg]
      exact h3 _ hm
theorem SerAt.below {w w' : World} {b o : Nat} {S : List Ser} {i : Nat} {m : SerM} (h : SerAt w b o S i m) (hb : Below w.heap.size w w') (hlt : b < w.heap.size) : SerAt w' b o S i m :=
  ⟨(hb.cell hlt).trans h.1, (hb.cell hlt).trans h.2.1, h.2.2.below hb⟩
/-- No series is longer than a law's argument may be. -/
structure SerFit (s : Ser) : Prop where
  lf : LFits s.1
  ll : s.1.length * 32 ≤ 140737488351232
  sf : Fits s.2
  sl : s.2.length * 16 ≤ 140737488351232
theorem serFit0 : SerFit ser0 := ⟨fun i hi => by simp [ser0] at hi, by simp [ser0], fun i hi => by simp [ser0] at hi, by simp [ser0]⟩
theorem ser_at {S : List Ser} {i : Nat} (hi : i < S.length) : S.getD i ser0 ∈ S := List.mem_of_getElem? (getD_some S ser0 hi)

/-! ### opening -/
section
variable {H : Type} {enc : TypeId × Value → H} {W : World} {base : Nat} {sp : Nat → Bool} {held : Bool}
theorem ser_cells : Tryz.prog.cellsOf 65 = 2 := by kernel_rfl
theorem ser_two : ∃ f0 f1 : Field, Tryz.prog.underlying 65 = some (.struct #[f0, f1]) ∧ Go.Deep.oneCellFields Tryz.prog #[f0, f1] = true ∧ [f0.type, f1.type] = [56, 49] :=
  ⟨_, _, Tryz.underlying65, by kernel_rfl, rfl⟩
theorem open_ser {fuel : Nat} {cs : List Value} {x : DataW H × List MemPlace} (h : DataW.trod enc Tryz.prog W base sp held fuel 65 cs = some x) (hw : ∀ n ∈ x.1.weights Tryz.prog 65, n ≤ reachBytes) : ∃ p : SPl, cs = spE p ∧ SerIn W p ∧ SerFit p.1 := by
  obtain ⟨f0, f1, hu, hone, hty⟩ := ser_two
  simp only [List.cons.injEq, and_true] at hty
  obtain ⟨e0, e1⟩ := hty
  obtain ⟨y0, y1, n, hx, hl, h0, h1⟩ := trod_struct2 hu h
  rw [ser_cells] at hl
  obtain ⟨c0, c1, rfl⟩ := two_of hl
  obtain ⟨o0, k0⟩ := Go.Deep.hone_of hone 0 f0 rfl
  obtain ⟨o1, k1⟩ := Go.Deep.hone_of hone 1 f1 rfl
  have h0' : DataW.trod enc Tryz.prog W base sp held n 56 [c0] = some y0 := by rw [← e0]; simpa [o0, k0] using h0
  have h1' : DataW.trod enc Tryz.prog W base sp held n 49 [c1] = some y1 := by rw [← e1]; simpa [o1, k1] using h1
  rw [hx] at hw
  have hwe : ∀ n ∈ DataW.weightsEach Tryz.prog [56, 49] [y0.1, y1.1], n ≤ reachBytes := by
    intro m hm
    refine hw m ?_
    unfold DataW.weights
    rw [hu]
    show m ∈ DataW.weightsEach Tryz.prog ([f0, f1].map (·.type)) _
    rw [show [f0, f1].map (fun x : Field => x.type) = [56, 49] from by simp [e0, e1]]
    exact hm
  obtain ⟨V0, l0, cc0, g0, b0, ft0, r0, lc0⟩ := open_lbls h0' (fun m hm => hwe m (DataW.weights_mem_each (j := 0) rfl rfl m hm))
  obtain ⟨V1, l1, cc1, g1, b1, ft1, r1, lc1⟩ := open_smps h1' (fun m hm => hwe m (DataW.weights_mem_each (j := 1) rfl rfl m hm))
  refine ⟨((l0, l1), ⟨V0, cc0, V1, cc1⟩), ?_, ⟨b0, b1, lc0, lc1⟩, ⟨ft0, r0, ft1, r1⟩⟩
  rw [g0, g1]
  rfl
theorem open_sers {fuel : Nat} {v : Value} {x : DataW H × List MemPlace} (hf : DataW.trod enc Tryz.prog W base sp held fuel 22 [v] = some x) (hw : ∀ n ∈ x.1.weights Tryz.prog 22, n ≤ reachBytes) :
    ∃ (V : Option Addr) (S : List Ser) (c : Nat), v = .slice V S.length c ∧ Sers W V S ∧ (∀ s ∈ S, SerFit s) ∧ S.length * 48 ≤ 140737488351232 ∧ S.length ≤ c := by
  rcases Go.Deep.open_slice Tryz.underlying22 hf with ⟨hcs, hx⟩ | ⟨a, len, cap, m, n, D, Pq, hcs, hb, hl, hm, hmm, hx, hcell⟩
  · simp only [List.cons.injEq, and_true] at hcs
    subst hcs
    exact ⟨none, [], 0, rfl, Sers.nil _ _, fun p hp => (by cases hp), by simp, Nat.le_refl _⟩
  · simp only [List.cons.injEq, and_true] at hcs
    subst hcs
    rw [ser_cells] at hcell
    have hml : len ≤ m := by rw [hmm]; split <;> omega
    rw [hx] at hw
    simp only [DataW.weights, Tryz.underlying22] at hw
    have hbytes : Tryz.prog.bytesOf 65 = 48 := by kernel_rfl
    have hlen48 := hw ((((List.range len).map D).length + ((List.range (m - len)).map fun j => D (len + j)).length) * Tryz.prog.bytesOf 65) (by simp)
    rw [hbytes] at hlen48
    simp only [List.length_map, List.length_range] at hlen48
    rw [reach_is] at hlen48
    have each : ∀ i, i < len → ∃ y : SPl, (SerIn W y ∧ SerFit y.1) ∧ W.cells? base (a.add (i * 2)) 2 = some (spE y) := by
      intro i hi
      obtain ⟨cs', h1, h2⟩ := hcell i (by omega)
      obtain ⟨y, rfl, hy⟩ := open_ser h2 (fun q hq => hw q (by
        simp only [List.mem_cons, List.mem_append]
        exact .inr (.inl (weights_all (List.mem_map.2 ⟨i, List.mem_range.2 hi, rfl⟩) q hq))))
      exact ⟨y, hy, h1⟩
    obtain ⟨y, hy⟩ := Go.Deep.choose_lt each
    have hlen : ((List.range len).map y).length = len := by simp
    have hget : ∀ i, i < len → ((List.range len).map y).getD i spl0 = y i := by
      intro i hi
      simp [List.getD_eq_getElem?_getD, hi]
    have hmem : ∀ p ∈ (List.range len).map y, SerIn W p ∧ SerFit p.1 := by
      intro p hp
      obtain ⟨i, hi, rfl⟩ := List.mem_map.1 hp
      exact (hy i (List.mem_range.1 hi)).1
    refine ⟨some a, ((List.range len).map y).map (·.1), cap, by simp, ⟨(List.range len).map y, rfl, ?_, fun p hp => (hmem p hp).1⟩, fun s hs => ?_, by simp; omega, by simp; exact hl⟩
    · rcases Nat.eq_zero_or_pos len with h0 | h0
      · have : (List.range len).map y = [] := List.eq_nil_of_length_eq_zero (by rw [hlen]; exact h0)
        rw [this]
        exact .inl rfl
      · obtain ⟨b, o, spot⟩ := a
        obtain ⟨_, hcs0⟩ := hy 0 h0
        obtain ⟨_, _, hc0⟩ := World.cells?_some hcs0
        have hc := hc0 0 (by omega)
        have hspot : spot = none := by
          have := World.cell?_spot (hc.trans rfl)
          simpa [Addr.add] using this
        subst hspot
        have hc00 : W.cell? ⟨b, o, none⟩ = some (lsV (y 0)) := by
          have : (spE (y 0))[0]? = some (lsV (y 0)) := rfl
          rw [this] at hc
          simpa [Addr.add] using hc
        refine .inr ⟨b, o, rfl, cell_lt hc00, fun j u hj => ?_⟩
        have hj2 : j < len * 2 := by
          have := (List.getElem?_eq_some_iff.1 hj).1
          rw [flat_len spE 2 spE_len, hlen] at this
          exact this
        have hi : j / 2 < len := by omega
        obtain ⟨_, hcs⟩ := hy (j / 2) hi
        obtain ⟨_, _, hcj⟩ := World.cells?_some hcs
        have h1 := hcj (j % 2) (by omega)
        rw [add_at, add_at] at h1
        have h2 := flat_get spE 2 spE_len ((List.range len).map y) (j / 2) _ (j % 2) (getD_some _ spl0 (by rw [hlen]; exact hi)) (by omega)
        rw [hget _ hi, show j / 2 * 2 + j % 2 = j from by omega, hj] at h2
        rw [← h2, show o + j / 2 * 2 + j % 2 = o + j from by omega] at h1
        exact h1
    · obtain ⟨p, hp, rfl⟩ := List.mem_map.1 hs
      exact (hmem p hp).2
end
end Go.Proofs.YtgdmcnoogacdaaaGreatDoor

namespace Go.Proofs.YtgdmcnoogacdaaaGreatDoor
open Go.RowKit Go.Maps
open Ch
set_option linter.unusedVariables false
set_option linter.unusedSimpArgs false
set_option maxRecDepth 100000

theorem pair_chk {l : List Smp} {k : Nat} (hk : k < l.length) (h : 0 < k → errAt l (k - 1) = 0) : chk ((l.drop (k - 1)).take (k + 1 - (k - 1))) = errAt l k := by
  have hg : ∀ j, j < k + 1 - (k - 1) → ((l.drop (k - 1)).take (k + 1 - (k - 1))).getD j (0, 0) = l.getD (k - 1 + j) (0, 0) := by
    intro j hj
    simp [List.getD_eq_getElem?_getD, List.getElem?_take, List.getElem?_drop, hj]
  have hlen : ((l.drop (k - 1)).take (k + 1 - (k - 1))).length = k + 1 - (k - 1) := by
    rw [List.length_take, List.length_drop]
    omega
  generalize hm : (l.drop (k - 1)).take (k + 1 - (k - 1)) = m at *
  unfold chk
  rw [if_neg (by omega), hlen]
  rcases Nat.eq_zero_or_pos k with h0 | h0
  · subst h0
    have e : errAt m 0 = errAt l 0 := by
      unfold errAt
      rw [hg 0 (by omega)]
      simp
    show (if errAt m 0 = 0 then 0 else errAt m 0) = errAt l 0
    rw [e]
    split <;> simp_all
  · have e2 : k + 1 - (k - 1) = 2 := by omega
    rw [e2] at hg ⊢
    have hp := (errAt_zero.1 (h h0)).1
    have a0 : errAt m 0 = 0 := by
      refine errAt_zero.2 ⟨by rw [hg 0 (by omega)]; exact hp, fun h => absurd h (by omega)⟩
    have a1 : errAt m 1 = errAt l k := by
      unfold errAt tOf
      rw [hg 1 (by omega), Nat.sub_self, hg 0 (by omega), Nat.add_zero, show k - 1 + 1 = k by omega]
      simp [h0]
    show (if errAt m 0 = 0 then (if errAt m 1 = 0 then 0 else errAt m 1) else errAt m 0) = errAt l k
    rw [if_pos a0, a1]
    split <;> simp_all
theorem errF_first {l : List Smp} : ∀ (n i k : Nat), k < n → (∀ j, j < k → errAt l (i + j) = 0) → errAt l (i + k) ≠ 0 → errF l n i = errAt l (i + k) := by
  intro n
  induction n with
  | zero => intro i k h; omega
  | succ n ih =>
    intro i k hk h hne
    show (if errAt l i = 0 then errF l n (i + 1) else errAt l i) = _
    rcases Nat.eq_zero_or_pos k with h0 | h0
    · subst h0
      rw [if_neg (by simpa using hne), Nat.add_zero]
    · have := h 0 h0
      rw [Nat.add_zero] at this
      rw [if_pos this, ih (i + 1) (k - 1) (by omega) (fun j hj => by rw [show i + 1 + j = i + (j + 1) by omega]; exact h (j + 1) (by omega)) (by rw [show i + 1 + (k - 1) = i + k by omega]; exact hne), show i + 1 + (k - 1) = i + k by omega]
set_option maxHeartbeats 2000000 in
theorem chks_prog (A : Option Addr) (l : List Smp) (c : Nat) (w : World) (hA : Smps w A l) (hl : l.length ≤ 100000000000000) (hlc : l.length ≤ c) :
    Calls Tryz.prog 59 #[.slice A l.length c] w fun e w' => e = .returned (.int .i64 (serE l)) ∧ Below w.heap.size w w' := by
  by_cases h0 : l.length = 0
  · have hs : serE l = 2 := by unfold serE; rw [if_pos h0]
    rw [hs, h0]
    clear hA hl hlc h0 hs
    go_enter Tryz.func59, Tryz.ntmps59
    go_wp2_with fail
    go_ret
    exact ⟨rfl, Below.refl _ _⟩
  · obtain ⟨b, o, rfl, hb, _⟩ := hA.all (by omega)
    have HA := Lib.hid hA
    have HCK := Lib.hid (fun k (hk : k < l.length) (h : 0 < k → errAt l (k - 1) = 0) (x : World) (hx : Below w.heap.size w x) => by
      have h1 := ((hA.below hx).from (k - 1) (by omega)).front (k + 1 - (k - 1))
      have hlen : ((l.drop (k - 1)).take (k + 1 - (k - 1))).length = k + 1 - (k - 1) := by
        rw [List.length_take, List.length_drop]
        omega
      have h2 := chk_prog (some ⟨b, o + (k - 1) * 2, none⟩) ((l.drop (k - 1)).take (k + 1 - (k - 1))) (c - (k - 1)) x h1 (by omega)
      rw [hlen, pair_chk hk h] at h2
      exact h2)
    have HE := Lib.hid (show ∀ k, k < l.length → (∀ j, j < k → errAt l j = 0) → errAt l k ≠ 0 → serE l = errAt l k from fun k hk h hne => by
      unfold serE
      rw [if_neg h0, errF_first l.length 0 k hk (fun j hj => by rw [Nat.zero_add]; exact h j hj) (by rw [Nat.zero_add]; exact hne), Nat.zero_add])
    have HZ := Lib.hid (show (∀ j, j < l.length → errAt l j = 0) → serE l = 0 from fun h => by
      unfold serE
      rw [if_neg h0, errF_zero]
      exact fun j _ hj => h j (by omega))
    obtain ⟨n, hn⟩ : ∃ n, l.length = n := ⟨_, rfl⟩
    rw [hn] at h0 hl hlc HCK HE HZ ⊢
    have q0 : ((n : Int) == 0) = false := by rw [beq_eq_false_iff_ne]; omega
    clear hA hn
    go_enter Tryz.func59, Tryz.ntmps59
    go_wp2_with fail
    go_loopw [10] (fun i wr => ∃ k : Nat, k ≤ n ∧ i = .int .i64 (k : Int) ∧ (∀ j, j < k → errAt l j = 0) ∧ Below w.heap.size w wr) (fun i _ => n - (intOf i).toNat)
    case atStart => exact ⟨0, Nat.zero_le _, rfl, fun j hj => absurd hj (by omega), Below.refl _ _⟩
    case round =>
      obtain ⟨k, hk, rfl, hz, hbr⟩ := hrel
      have HB := Lib.hid hbr
      have HZK := Lib.hid hz
      by_cases hlt : k < n
      · have i1 : decide ((k : Int) < (n : Int)) = true := decide_eq_true (by omega)
        have i2 : (k : Int) < (n : Int) := by omega
        have HC := Lib.hid (HCK.out k hlt (fun h => hz _ (by omega)) wr hbr)
        have HN := Lib.hid (fun h => HE.out k hlt hz h)
        obtain ⟨m, hm⟩ : ∃ m, k - 1 = m := ⟨_, rfl⟩
        rw [hm] at HC
        have hmx : max ((k : Int) - 1) 0 = (m : Int) := by omega
        have w1 : IntKind.i64.wrap ((k : Int) - 1) = (k : Int) - 1 := IntWalk.i64_in _ (by omega)
        have w2 : IntKind.i64.wrap ((k : Int) + 1) = ((k + 1 : Nat) : Int) := by rw [show ((k : Int) + 1) = ((k + 1 : Nat) : Int) by omega]; exact IntWalk.i64_in _ (by omega)
        have hmk : m ≤ k + 1 := by omega
        have hmki : (m : Int) ≤ ((k + 1 : Nat) : Int) := by omega
        have hkc : ((k + 1 : Nat) : Int) ≤ (c : Int) := by omega
        have hmc : ¬ c = m := by omega
        have HM := Lib.hid hm
        clear hz hbr hm
        obtain ⟨E, hEE⟩ : ∃ E, errAt l k = E := ⟨_, rfl⟩
        have HEE := Lib.hid hEE
        rw [hEE] at HC HN
        clear hEE
        go_wp2_with fail
        refine HC.out.mono ?_
        rintro e w3 ⟨rfl, hb3⟩
        have HB3 := Lib.hid (HB.out.trans (hb3.mono HB.out.size))
        clear hb3
        by_cases hE : E = 0
        · have q1 : (E != 0) = false := by rw [hE]; rfl
          have HZ2 := Lib.hid (show ∀ j, j < k + 1 → errAt l j = 0 from fun j hj => by
            rcases Nat.lt_or_ge j k with h | h
            · exact HZK.out j h
            · obtain rfl : j = k := by omega
              rw [HEE.out, hE])
          go_wp2_with fail
          go_roundw
          case rel => exact ⟨k + 1, by omega, by go_num, HZ2.out, HB3.out⟩
          case measure => simp [intOf]; omega
        · have q1 : (E != 0) = true := bne_iff_ne.2 hE
          have HF := Lib.hid (HN.out hE)
          go_wp2_with fail
          go_ret
          exact ⟨by rw [HF.out] <;> rfl, HB3.out⟩
      · have i1 : decide ((k : Int) < (n : Int)) = false := decide_eq_false (by omega)
        have i2 : ¬ (k : Int) < (n : Int) := by omega
        have HF := Lib.hid (HZ.out fun j hj => hz j (by omega))
        clear hz hbr
        go_wp2_with fail
        go_ret
        exact ⟨by rw [HF.out] <;> rfl, HB.out⟩

/-! ### indexed -/
theorem sets_small {S : List Ser} (h : ∀ s ∈ S, SerFit s) : ∀ i, ((blSets S).getD i []).length ≤ 100000000000000 := by
  intro i
  unfold blSets
  rw [List.getD_eq_getElem?_getD, List.getElem?_map]
  rcases Nat.lt_or_ge i S.length with hi | hi
  · rw [List.getElem?_eq_getElem hi]
    have := (h _ (List.getElem_mem hi)).ll
    simp only [Option.map_some, Option.getD_some]
    omega
  · rw [List.getElem?_eq_none hi]
    simp
theorem blSets_len (S : List Ser) : (blSets S).length = S.length := by simp [blSets]
/-- append of one more set that lies below. -/
theorem app_gset {w : World} {ops : Array Oper} {rest : List Oper} {o : Oper} {a : Act} {Q : Exit → Act → World → Prop} (hgd : o.guard = none) (s y : Operand)
    (ho : o.op = .call { callee := .builtin .append, args := #[s, y], argTypes := #[78, 78] })
    (w00 : World) (v : Value) (ss : List (List Lbl)) (hs : a.eval s = v)
    (ps : List LPl) (hps : ps.map (fun p => p.2.2) = ss) (hown : w.ownsRow w00.heap.size 56 1 v ps.length (ps.map slE)) (hall : ∀ p ∈ ps, Lbls w00 p.1 p.2.2 ∧ p.2.2.length ≤ p.2.1)
    (p : LPl) (hp : Lbls w00 p.1 p.2.2 ∧ p.2.2.length ≤ p.2.1) (c g : Nat) (hy : a.eval y = .slice (some ⟨g, 0, none⟩) 1 c) (hg : Row w g 56 #[slE p]) (hn : ps.length ≤ 1000000) (hbase : w00.heap.size ≤ w.heap.size)
    (h : ∀ (v' : Value) (w' : World) (ps' : List LPl), ps'.map (fun p => p.2.2) = ss ++ [p.2.2] → w'.ownsRow w00.heap.size 56 1 v' ps'.length (ps'.map slE) → (∀ p ∈ ps', Lbls w00 p.1 p.2.2 ∧ p.2.2.length ≤ p.2.1) → Below w00.heap.size w w' → w.grownBy w' v.ownBlock → wpList Tryz.prog ops Q rest (a.put o.dst v') w') :
    wpList Tryz.prog ops Q (o :: rest) a w := by
  obtain ⟨i0, hi, hz0, hz1, hz2⟩ := info_parts set_info
  refine wpList_app_at hgd s y 78 ho w00.heap.size 56 i0 _ 1 24 Tryz.underlying78 hi hz0 hz1 hz2 rfl (by omega) v ps.length (ps.map slE) hs hown (some ⟨g, 0, none⟩) 1 c [slE p] hy rfl (At.row hg) (by intro u hu; simp at hu; subst hu; rfl)
    (by simp only [maxLen]; omega) (by omega) hbase ?_
  intro v' w' k1 k2 k3
  refine h v' w' (ps ++ [p]) (by rw [List.map_append, hps]; rfl) (by rw [List.length_append, List.map_append]; exact k1) (fun q hq => ?_) k2 k3
  rcases List.mem_append.1 hq with hq | hq
  · exact hall q hq
  · obtain rfl := List.mem_singleton.1 hq
    exact hp
theorem cnt_step (S : List Ser) {k : Nat} (h : k < S.length) : cntS (S.take (k + 1)) = cntS (S.take k) + (S.getD k ser0).2.length := by
  rw [List.take_add_one, List.getElem?_eq_getElem h, cntS_app, List.getD_eq_getElem?_getD, List.getElem?_eq_getElem h]
  simp [cntS]
theorem cnt_take (S : List Ser) (k : Nat) : cntS (S.take k) ≤ cntS S := by
  conv => rhs; rw [← List.take_append_drop k S, cntS_app]
  omega
theorem sets_step (S : List Ser) {k : Nat} (h : k < S.length) : blSets (S.take (k + 1)) = blSets (S.take k) ++ [(S.getD k ser0).1] := by
  unfold blSets
  rw [List.take_add_one, List.getElem?_eq_getElem h, List.map_append, List.getD_eq_getElem?_getD, List.getElem?_eq_getElem h]
  rfl
theorem cnt_bound {S : List Ser} (h : ∀ s ∈ S, SerFit s) : cntS S ≤ 8796093022208 * S.length := by
  induction S with
  | nil => simp [cntS]
  | cons a r ih =>
    unfold cntS
    have h1 := (h a (by simp)).sl
    have h2 := ih fun s hs => h s (List.mem_cons_of_mem _ hs)
    rw [List.length_cons]
    omega
theorem serF_first {S : List Ser} {k : Nat} (hk : k < S.length) (h : ∀ j, j < k → serE (S.getD j ser0).2 = 0) (hne : serE (S.getD k ser0).2 ≠ 0) : serF S = serE (S.getD k ser0).2 := by
  induction S generalizing k with
  | nil => simp at hk
  | cons a r ih =>
    unfold serF
    cases k with
    | zero =>
      have e : (a :: r).getD 0 ser0 = a := rfl
      rw [e] at hne ⊢
      rw [if_neg hne]
    | succ k =>
      have e : ∀ j, (a :: r).getD (j + 1) ser0 = r.getD j ser0 := fun j => rfl
      have h0 := h 0 (by omega)
      have e0 : (a :: r).getD 0 ser0 = a := rfl
      rw [e0] at h0
      rw [if_pos h0, e]
      rw [e] at hne
      exact ih (by simpa using hk) (fun j hj => by have := h (j + 1) (by omega); rw [e] at this; exact this) hne
theorem serF_none {S : List Ser} (h : ∀ j, j < S.length → serE (S.getD j ser0).2 = 0) : serF S = 0 := by
  refine serF_zero.2 fun s hs => ?_
  obtain ⟨i, hi, rfl⟩ := List.getElem_of_mem hs
  have := h i hi
  rw [List.getD_eq_getElem?_getD, List.getElem?_eq_getElem hi] at this
  exact serE_zero.1 this
/-- What indexed tells. -/
def BixTold (w : World) (S : List Ser) (e : Ending) (w' : World) : Prop :=
  Below w.heap.size w w' ∧ ((blChk S ≠ 0 ∧ e = .returned (.tuple #[.pointer none, .int .i64 (blChk S)])) ∨ (blChk S = 0 ∧ ∃ X B, e = .returned (.tuple #[.pointer (some ⟨X, 0, none⟩), .int .i64 0]) ∧ w.heap.size ≤ B ∧ IdxAt w' B X (blSets S)))
set_option maxHeartbeats 8000000 in
theorem indexed_prog (A : Option Addr) (S : List Ser) (c : Nat) (w : World) (hA : Sers w A S) (hf : ∀ s ∈ S, SerFit s) (hl : S.length * 48 ≤ 140737488351232) (hlc : S.length ≤ c) :
    Calls Tryz.prog 28 #[.slice A S.length c] w (BixTold w S) := by
  by_cases h256 : 256 < S.length
  · have hz : blChk S = 3 := by unfold blChk; rw [if_pos h256]
    have HZ := Lib.hid hz
    have d1 : decide ((256 : Int) < (S.length : Int)) = true := decide_eq_true (by omega)
    have d2 : decide (256 < S.length) = true := decide_eq_true h256
    clear hA hf hl hlc hz
    go_enter Tryz.func28, Tryz.ntmps28
    go_wp2_with fail
    go_ret2
    exact ⟨Below.refl _ _, .inl ⟨by rw [HZ.out]; decide, by rw [HZ.out] <;> rfl⟩⟩
  · have hcb := cnt_bound hf
    have HA := Lib.hid hA
    have HF := Lib.hid hf
    obtain ⟨n, hn⟩ : ∃ n, S.length = n := ⟨_, rfl⟩
    have HN := Lib.hid hn
    rw [hn] at h256 hl hlc hcb ⊢
    have HCS := Lib.hid (fun k (hk : k < n) => cnt_step S (k := k) (by omega))
    have HCB := Lib.hid (fun k => Nat.le_trans (cnt_take S k) hcb)
    have HST := Lib.hid (fun k (hk : k < n) => sets_step S (k := k) (by omega))
    have d1 : decide ((256 : Int) < (n : Int)) = false := decide_eq_false (by omega)
    have d2 : decide (256 < n) = false := decide_eq_false h256
    clear hA hf hl hcb hn
    go_enter Tryz.func28, Tryz.ntmps28
    go_wp2_with fail
    go_loopw [4, 5, 18] (fun v t i wr => ∃ (k m : Nat) (ps : List LPl), k ≤ n ∧ i = .int .i64 (k : Int) ∧ t = .int .i64 (m : Int) ∧ m = cntS (S.take k) ∧ ps.length = k ∧ ps.map (fun p => p.2.2) = blSets (S.take k) ∧ wr.ownsRow w.heap.size 56 1 v ps.length (ps.map slE) ∧ (∀ p ∈ ps, Lbls w p.1 p.2.2 ∧ p.2.2.length ≤ p.2.1) ∧ Below w.heap.size w wr)
      (fun _ _ i _ => n - (intOf i).toNat)
    case atStart => exact ⟨0, 0, [], Nat.zero_le _, rfl, rfl, rfl, rfl, rfl, ⟨rfl, .inl ⟨rfl, rfl⟩⟩, fun p hp => (by cases hp), Below.refl _ _⟩
    case round =>
      obtain ⟨k, m, ps, hk, rfl, rfl, hm, hpl, hps, hown, hall, hbr⟩ := hrel
      by_cases hlt : k < n
      · obtain ⟨b, o, rfl, hb, hat⟩ := HA.out.all (by rw [HN.out]; omega)
        obtain ⟨mm, hsa⟩ := hat k (by rw [HN.out]; exact hlt)
        have hs := HF.out _ (ser_at (S := S) (i := k) (by rw [HN.out]; exact hlt))
        obtain ⟨g0, g1, _⟩ := hsa.below hbr hb
        have i1 : decide ((k : Int) < (n : Int)) = true := decide_eq_true (by omega)
        have i2 : (k : Int) < (n : Int) := by omega
        have hcs := HCS.out k hlt
        have hcb := HCB.out (k + 1)
        have HM := Lib.hid (show m + (S.getD k ser0).2.length = cntS (S.take (k + 1)) by omega)
        have hw1 : IntKind.i64.wrap ((m : Int) + ((S.getD k ser0).2.length : Int)) = ((m + (S.getD k ser0).2.length : Nat) : Int) := by rw [← Int.natCast_add]; exact IntWalk.i64_in _ (by omega)
        have HSS := Lib.hid (HST.out k hlt)
        have HIN := Lib.hid hsa.2.2
        have HPS := Lib.hid hps
        have HALL := Lib.hid hall
        have HBR := Lib.hid hbr
        have HPL := Lib.hid (show ps.length ≤ 1000000 by omega)
        have HK := Lib.hid (show k + 1 ≤ n ∧ ps.length + 1 = k + 1 by omega)
        generalize S.getD k ser0 = s at *
        generalize s.2.length = l2 at *
        have HOW := Lib.hid (rows_below (rows_below hown (below_one wr (.cells #[.slice mm.la s.1.length mm.lc, .slice mm.sa l2 mm.sc] 65))) (below_one _ (.cells #[.slice mm.la s.1.length mm.lc] 56)))
        have HG := Lib.hid (row_at wr (.cells #[.slice mm.la s.1.length mm.lc, .slice mm.sa l2 mm.sc] 65) #[.slice mm.la s.1.length mm.lc] 56)
        have HB2 := Lib.hid (show Below w.heap.size w ((wr.alloc (.cells #[.slice mm.la s.1.length mm.lc, .slice mm.sa l2 mm.sc] 65)).alloc (.cells #[.slice mm.la s.1.length mm.lc] 56)) from (hbr.alloc hbr.size _).alloc (by have := hbr.size; simp; omega) _)
        obtain ⟨Pv, cv, hv, _⟩ := rows_slice hown
        subst hv
        have HLI := Lib.hid (And.intro HIN.out.labels HIN.out.lc)
        clear hown hps hall hbr hpl hm hcs hcb hat hsa hs HIN
        have HPN := Lib.hid (show ps.length = k by have := HK.out.2; omega)
        go_wp2_with (at_builtin; refine app_gset rfl (.tmp 22) (.tmp 25) rfl w _ (blSets (S.take k)) rfl ps HPS.out HOW.out HALL.out (mm.la, mm.lc, s.1) HLI.out 1 (wr.heap.size + 1) rfl HG.out HPL.out HB2.out.size ?_; intro v7 w7 ps7 hp7 ho7 ha7 hb7 hg7; have HP7 := Lib.hid hp7; have HO7 := Lib.hid ho7; have HA7 := Lib.hid ha7; have HB7 := Lib.hid (HB2.out.trans hb7); have hS7 : Row w7 wr.heap.size 65 #[.slice mm.la s.1.length mm.lc, .slice mm.sa l2 mm.sc] := grown_row ((Row.new wr _ _).alloc _) hg7 (fun e => by have := rows_ne ((Row.new wr 65 #[.slice mm.la s.1.length mm.lc, .slice mm.sa l2 mm.sc]).alloc (.cells #[.slice mm.la s.1.length mm.lc] 56)) HOW.out (by decide); exact this e.symm); have y1 : w7.cell? ⟨wr.heap.size, 1, none⟩ = some (.slice mm.sa l2 mm.sc) := hS7.cell 1; obtain ⟨P7, c7, hv7, _⟩ := rows_slice ho7; have HL7 := Lib.hid (show ps7.length = k + 1 by have e := congrArg List.length hp7; rw [List.length_map, List.length_append, ← HPS.out, List.length_map, HPN.out] at e; exact e); subst hv7; clear hp7 ho7 ha7 hb7 hg7 hS7)
        go_roundw
        case rel => exact ⟨k + 1, m + l2, ps7, HK.out.1, by go_num, by first | rfl | go_num, HM.out, HL7.out, by rw [HP7.out, HSS.out], HO7.out, HA7.out, HB7.out⟩
        case measure => simp [intOf]; omega
      · have hkn : k = S.length := by rw [HN.out]; omega
        rw [hkn, List.take_length] at hm hps
        have i1 : decide ((k : Int) < (n : Int)) = false := decide_eq_false (by omega)
        have i2 : ¬ (k : Int) < (n : Int) := by omega
        have h256' : ¬ 256 < S.length := by rw [HN.out]; exact h256
        have HBR := Lib.hid hbr
        by_cases hc : 65536 < m
        · have hz : blChk S = 3 := by unfold blChk; rw [if_neg h256', if_pos (by omega)]
          have HZ := Lib.hid hz
          have q1 : decide ((65536 : Int) < (m : Int)) = true := decide_eq_true (by omega)
          have q2 : decide (65536 < m) = true := decide_eq_true hc
          clear hm hpl hps hown hall hbr hz hkn
          go_wp2_with fail
          go_ret2
          exact ⟨HBR.out, .inl ⟨by rw [HZ.out]; decide, by rw [HZ.out] <;> rfl⟩⟩
        · have q1 : decide ((65536 : Int) < (m : Int)) = false := decide_eq_false (by omega)
          have q2 : decide (65536 < m) = false := decide_eq_false hc
          obtain ⟨P, cp, hv, _, hat, _⟩ := rows_slice hown
          subst hv
          have hS : Sets wr P (blSets S) := ⟨ps, hps, hat, fun p hp => ⟨(hall p hp).1.below hbr, (hall p hp).2⟩⟩
          have hpn : ps.length = (blSets S).length := by rw [← hps, List.length_map]
          have HNW := Lib.hid (new_prog P (blSets S) cp wr hS (by rw [blSets_len, HN.out]; omega) (sets_small HF.out))
          rw [← hpn] at HNW
          have hcs : cntS S = m := hm.symm
          by_cases hz : ixChk (blSets S) = 0
          · have HNY := Lib.hid (HNW.out.mono fun e w' h => new_yes hz h)
            have HZ0 := Lib.hid hz
            have HCH := Lib.hid (show blChk S = serF S by unfold blChk; rw [if_neg h256', if_neg (by omega), if_pos hz])
            have HSF := Lib.hid (fun k (hk : k < n) => serF_first (S := S) (k := k) (by rw [HN.out]; exact hk))
            have HSN := Lib.hid (fun h => serF_none (S := S) h)
            generalize ps.length = pl at *
            clear hm hpl hps hown hall hbr hkn hS hpn hcs HNW hat hz
            go_wp2_with fail
            refine HNY.out.mono ?_
            rintro e w3 ⟨X, rfl, hI3, hb3⟩
            have HI3 := Lib.hid (show ∃ B0, w.heap.size ≤ B0 ∧ IdxAt w3 B0 X (blSets S) from ⟨_, HBR.out.size, hI3⟩)
            have HB3 := Lib.hid (HBR.out.trans (hb3.mono HBR.out.size))
            clear hI3 hb3 HNY
            go_wp2_with fail
            go_loopw [45] (fun i wr => ∃ j : Nat, j ≤ n ∧ i = .int .i64 (j : Int) ∧ (∀ t, t < j → serE (S.getD t ser0).2 = 0) ∧ Below w3.heap.size w3 wr) (fun i _ => n - (intOf i).toNat)
            case atStart => exact ⟨0, Nat.zero_le _, rfl, fun t ht => absurd ht (by omega), Below.refl _ _⟩
            case round =>
              obtain ⟨j, hj, rfl, hz, hbq⟩ := hrel
              have HBQ := Lib.hid hbq
              have HZQ := Lib.hid hz
              have HWQ := Lib.hid (HB3.out.trans (hbq.mono HB3.out.size))
              by_cases hjl : j < n
              · obtain ⟨b, o, rfl, hb, hat⟩ := HA.out.all (by rw [HN.out]; omega)
                obtain ⟨mm, hsa⟩ := hat j (by rw [HN.out]; exact hjl)
                have hs := HF.out _ (ser_at (S := S) (i := j) (by rw [HN.out]; exact hjl))
                obtain ⟨g0, g1, hin⟩ := hsa.below HWQ.out hb
                have j1 : decide ((j : Int) < (n : Int)) = true := decide_eq_true (by omega)
                have j2 : (j : Int) < (n : Int) := by omega
                have HCK := Lib.hid (chks_prog mm.sa (S.getD j ser0).2 mm.sc _ (hin.samples.below (below_one wr (.cells #[.slice mm.la (S.getD j ser0).1.length mm.lc, .slice mm.sa (S.getD j ser0).2.length mm.sc] 65))) (by have := hs.sl; omega) hin.sc)
                have HW5 := Lib.hid (hbq.alloc hbq.size (.cells #[.slice mm.la (S.getD j ser0).1.length mm.lc, .slice mm.sa (S.getD j ser0).2.length mm.sc] 65))
                have HFI := Lib.hid (fun h => HSF.out j hjl hz h)
                have HJJ := Lib.hid (show j + 1 ≤ n by omega)
                obtain ⟨E, hE⟩ : ∃ E, serE (S.getD j ser0).2 = E := ⟨_, rfl⟩
                have HE := Lib.hid hE
                rw [hE] at HCK HFI
                generalize (S.getD j ser0).2.length = l2 at *
                generalize (S.getD j ser0).1.length = l1 at *
                clear hsa hat hs hin hz hbq hE
                go_wp2_with fail
                refine HCK.out.mono ?_
                rintro e w6 ⟨rfl, hb6⟩
                have HB6 := Lib.hid (HW5.out.trans (hb6.mono HW5.out.size))
                clear hb6 HCK
                by_cases he : E = 0
                · have q3 : (E != 0) = false := by rw [he]; rfl
                  have HZ6 := Lib.hid (show ∀ t, t < j + 1 → serE (S.getD t ser0).2 = 0 from fun t ht => by
                    rcases Nat.lt_or_ge t j with h | h
                    · exact HZQ.out t h
                    · obtain rfl : t = j := by omega
                      rw [HE.out, he])
                  go_wp2_with fail
                  go_roundw
                  case rel => exact ⟨j + 1, HJJ.out, by go_num, HZ6.out, HB6.out⟩
                  case measure => simp [intOf]; omega
                · have q3 : (E != 0) = true := bne_iff_ne.2 he
                  have HFF := Lib.hid (show blChk S = E by rw [HCH.out, HFI.out he])
                  have HEN := Lib.hid he
                  clear he HFI
                  go_wp2_with fail
                  go_ret2
                  exact ⟨HB3.out.trans (HB6.out.mono HB3.out.size), .inl ⟨by rw [HFF.out]; exact HEN.out, by rw [HFF.out] <;> rfl⟩⟩
              · have j1 : decide ((j : Int) < (n : Int)) = false := decide_eq_false (by omega)
                have j2 : ¬ (j : Int) < (n : Int) := by omega
                have HFF := Lib.hid (show blChk S = 0 by rw [HCH.out]; exact HSN.out fun t ht => hz t (by rw [HN.out] at ht; omega))
                clear hz hbq
                go_wp2_with fail
                go_ret2
                obtain ⟨B0, k1, k2⟩ := HI3.out
                exact ⟨HWQ.out, .inr ⟨HFF.out, X, B0, rfl, k1, k2.below HBQ.out⟩⟩
          · have HNN := Lib.hid (HNW.out.mono fun e w' h => new_no hz h)
            have HCH := Lib.hid (show blChk S = ixChk (blSets S) by unfold blChk; rw [if_neg h256', if_neg (by omega), if_neg hz])
            have q3 : (ixChk (blSets S) != 0) = true := bne_iff_ne.2 hz
            have HZN := Lib.hid hz
            generalize ps.length = pl at *
            generalize ixChk (blSets S) = E at *
            clear hm hpl hps hown hall hbr hkn hS hpn hcs HNW hat hz
            go_wp2_with fail
            refine HNN.out.mono ?_
            rintro e w3 ⟨rfl, hb3⟩
            have HB3 := Lib.hid (HBR.out.trans (hb3.mono HBR.out.size))
            clear hb3
            go_wp2_with fail
            go_ret2
            exact ⟨HB3.out, .inl ⟨by rw [HCH.out]; exact HZN.out, by rw [HCH.out] <;> rfl⟩⟩
set_option maxHeartbeats 1000000 in
theorem blcheck_prog (A : Option Addr) (S : List Ser) (c : Nat) (w : World) (hA : Sers w A S) (hf : ∀ s ∈ S, SerFit s) (hl : S.length * 48 ≤ 140737488351232) (hlc : S.length ≤ c) :
    Calls Tryz.prog 13 #[.slice A S.length c] w fun e w' => e = .returned (.int .i64 (blChk S)) ∧ Below w.heap.size w w' := by
  have HI := Lib.hid (indexed_prog A S c w hA hf hl hlc)
  clear hA hf hl hlc
  generalize S.length = n at *
  go_enter Tryz.func13, Tryz.ntmps13
  go_wp2_with fail
  refine HI.out.mono ?_
  rintro e w2 ⟨hb2, ⟨h1, rfl⟩ | ⟨h1, X, B, rfl, _⟩⟩
  · have HB2 := Lib.hid hb2
    clear hb2 h1
    obtain ⟨E, hE⟩ : ∃ E, blChk S = E := ⟨_, rfl⟩
    rw [hE]
    have HE := Lib.hid hE
    clear hE
    go_wp2_with fail
    go_ret
    exact ⟨by rw [HE.out] <;> rfl, HB2.out⟩
  · have HB2 := Lib.hid hb2
    have H1 := Lib.hid h1
    clear hb2 h1
    go_wp2_with fail
    go_ret
    exact ⟨by rw [H1.out] <;> rfl, HB2.out⟩
end Go.Proofs.YtgdmcnoogacdaaaGreatDoor
