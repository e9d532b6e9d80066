/- The writer of layer 5: numbers laid down one behind the other, whole bytes kept apart from the bits that fill none yet. -/
import Derived.Test.YtheaebkegncdlaaChSmp
import Derived.Deep.RegionLaw
import Derived.Deep.RegionWith
import Derived.BigRegion
namespace Go.Proofs.Ytheaebkegncdlaa
open Go.RowKit Go.Maps
set_option linter.unusedVariables false

theorem right_drop {y : List UInt8} {M : Nat} (h : rightB y (M : Int) = true) : rightB (y.drop (M / 8)) ((M % 8 : Nat) : Int) = true := by
  obtain ⟨_, h1, h2⟩ := rightB_iff.1 h
  rw [Int.toNat_natCast] at h1 h2
  refine rightB_iff.2 ⟨by omega, ?_, fun i hi => ?_⟩
  · rw [Int.toNat_natCast, List.length_drop, h1]; omega
  · rw [Int.toNat_natCast] at hi
    have e : y = y.take (M / 8) ++ y.drop (M / 8) := (List.take_append_drop _ _).symm
    have hl : (y.take (M / 8)).length = M / 8 := by rw [List.length_take, h1]; omega
    have := h2 (8 * (M / 8) + i) (by omega)
    have e2 : bitN y (8 * (M / 8) + i) = bitN (y.drop (M / 8)) i := by
      have k := bitN_behind (a := y.take (M / 8)) (l := y.drop (M / 8)) (i := i)
      rw [← e, hl] at k
      exact k
    rw [← e2]
    exact this

/-- The writer at block X holds the bits (l, N): whole bytes a in a row of its own, and the rest r, of fewer than eight bits. -/
def Wr (w : World) (X base : Nat) (l : List UInt8) (N : Nat) : Prop :=
  ∃ (a r : List UInt8) (n : Nat) (vw : Value) (B : Option Addr) (d : Nat), l = a ++ r ∧ N = 8 * a.length + n ∧ n < 8 ∧ rightB r (n : Int) = true ∧
    Row w X 60 #[vw, .slice B r.length d, .int .i64 (n : Int)] ∧ Own w base vw a ∧ Bys w B r ∧ (r = [] ∨ ∃ G o cs, B = some ⟨G, o, none⟩ ∧ Row w G 5 cs)
theorem wr_new {w : World} {X base : Nat} (h : Row w X 60 #[.slice none 0 0, .slice none 0 0, .int .i64 0]) : Wr w X base [] 0 :=
  ⟨[], [], 0, _, none, 0, rfl, rfl, by omega, right_nil, h, own_nil _ _, Bys.empty _ _, .inl rfl⟩
theorem Wr.below {w w' : World} {X base : Nat} {l : List UInt8} {N : Nat} (h : Wr w X base l N) (hb : Below w.heap.size w w') : Wr w' X base l N := by
  obtain ⟨a, r, n, vw, B, d, h1, h2, h3, h4, h5, h6, h7, h8⟩ := h
  refine ⟨a, r, n, vw, B, d, h1, h2, h3, h4, h5.below hb h5.lt, own_below h6 hb, h7.below hb, ?_⟩
  rcases h8 with h8 | ⟨G, o, cs, e, hG⟩
  · exact .inl h8
  · exact .inr ⟨G, o, cs, e, hG.below hb hG.lt⟩
theorem row_types {w : World} {g g' : Nat} {t t' : TypeId} {cs cs' : Array Value} (h : Row w g t cs) (k : Row w g' t' cs') (ht : t ≠ t') : g ≠ g' := by
  rintro rfl
  unfold Row at h k
  rw [h] at k
  injection k with k
  injection k with _ k _
  exact ht k
theorem Wr.setFar {w : World} {X base : Nat} {l : List UInt8} {N : Nat} (h : Wr w X base l N) {F : Nat} {t : TypeId} {cs : Array Value} (hF : Row w F t cs) (ht : t ≠ 5) (hX : F ≠ X) (i : Nat) (u : Value) : Wr (w.setCell ⟨F, i, none⟩ u) X base l N := by
  obtain ⟨a, r, n, vw, B, d, h1, h2, h3, h4, h5, h6, h7, h8⟩ := h
  have hne : vw.ownBlock ≠ some F := fun e => own_ne h6 hF ht e.symm
  refine ⟨a, r, n, vw, B, d, h1, h2, h3, h4, h5.setFar (p := ⟨F, i, none⟩) (Ne.symm hX) _, own_setFar h6 (p := ⟨F, i, none⟩) hne _, ?_, ?_⟩
  · rcases h8 with h8 | ⟨G, o, cs', e, hG⟩
    · exact .inl h8
    · exact h7.setAway (p := ⟨F, i, none⟩) (fun ad e2 => by rw [e] at e2; injection e2 with e2; subst e2; exact Ne.symm (row_types hF hG ht)) _
  · rcases h8 with h8 | ⟨G, o, cs', e, hG⟩
    · exact .inl h8
    · exact .inr ⟨G, o, cs', e, hG.setFar (p := ⟨F, i, none⟩) (Ne.symm (row_types hF hG ht)) _⟩

/-- Rows of other kinds than bytes stand as they are, but for the block X. -/
def Others (w w' : World) (X : Nat) : Prop := ∀ g t cs, Row w g t cs → t ≠ 5 → g ≠ X → Row w' g t cs
theorem Others.refl (w : World) (X : Nat) : Others w w X := fun _ _ _ h _ _ => h
theorem Others.trans {a b c : World} {X : Nat} (h : Others a b X) (k : Others b c X) : Others a c X := fun g t cs hr ht hg => k g t cs (h g t cs hr ht hg) ht hg
theorem Others.below {w w' : World} {X : Nat} (h : Below w.heap.size w w') : Others w w' X := fun g t cs hr _ _ => hr.below h hr.lt
theorem Others.set {w w' : World} {X : Nat} (h : Others w w' X) (i : Nat) (u : Value) : Others w (w'.setCell ⟨X, i, none⟩ u) X := fun g t cs hr ht hg => (h g t cs hr ht hg).setFar (p := ⟨X, i, none⟩) hg u

set_option maxRecDepth 20000 in
set_option maxHeartbeats 2000000 in
theorem num_prog {w : World} {X base : Nat} {l : List UInt8} {N u : Nat} (h : Wr w X base l N) (hX : base ≤ X) (hN : N ≤ 1000000) (hu : u ≤ 18446744073709551615) :
    Calls Try.prog 28 #[.pointer (some ⟨X, 0, none⟩), .int .u64 u] w fun e w' => e = .returned (.tuple #[]) ∧ Wr w' X base (numL l N u) (N + (7 + digs u)) ∧ Below base w w' ∧ Others w w' X := by
  obtain ⟨a, r, n, vw, B, d, rfl, rfl, hn, hr, hR, hO, hB, _⟩ := h
  have hrl : r.length ≤ 1 := by have := (rightB_iff.1 hr).2.1; rw [Int.toNat_natCast] at this; omega
  have hd := digs_64 hu
  have HP := Lib.hid (fun W hV => putnum_ok B r d n u W hV (by omega) hu hr)
  have hy := right_num r n u
  have hyl := numL_length r n u
  have hfr := numL_front a r n u
  rw [hfr]
  generalize hM : n + (7 + digs u) = M at *
  generalize numL r n u = y at *
  have hcut := right_drop hy
  have HF := Lib.hid (show ∀ (w3 : World) (v3 : Value) (cs : Array Value) (x0 x1 x2 : Value) (G L cap : Nat) (V : Option Addr), X ≠ G → Below base w w3 → Others w w3 X → Row w3 X 60 #[x0, x1, x2] → Row w3 G 5 (bcells y) → Own w3 base v3 (a ++ y.take (M / 8)) →
      ((L = y.length - M / 8 ∧ V = some ⟨G, M / 8, none⟩) ∨ (y.length = M / 8 ∧ L = 0)) →
      (Wr (((w3.setCell ⟨X, 0, none⟩ v3).setCell ⟨X, 1, none⟩ (.slice V L cap)).setCell ⟨X, 2, none⟩ (.int .i64 ((M % 8 : Nat) : Int))).drew X base (a ++ y) (8 * a.length + n + (7 + digs u)) ∧
        Below base w (((w3.setCell ⟨X, 0, none⟩ v3).setCell ⟨X, 1, none⟩ (.slice V L cap)).setCell ⟨X, 2, none⟩ (.int .i64 ((M % 8 : Nat) : Int))).drew ∧
        Others w (((w3.setCell ⟨X, 0, none⟩ v3).setCell ⟨X, 1, none⟩ (.slice V L cap)).setCell ⟨X, 2, none⟩ (.int .i64 ((M % 8 : Nat) : Int))).drew X) by
    intro w3 v3 cs x0 x1 x2 G L cap V hXG hb hoth h1 h2 h3 hV
    have hne : v3.ownBlock ≠ some X := fun e => own_ne h3 h1 (by decide) e.symm
    have r1 := ((h1.setAt 0 v3).setAt 1 (.slice V L cap)).setAt 2 (.int .i64 ((M % 8 : Nat) : Int))
    have o1 := own_setFar (own_setFar (own_setFar h3 (p := ⟨X, 0, none⟩) hne v3) (p := ⟨X, 1, none⟩) hne (.slice V L cap)) (p := ⟨X, 2, none⟩) hne (.int .i64 ((M % 8 : Nat) : Int))
    have g1 := ((h2.setFar (p := ⟨X, 0, none⟩) (Ne.symm hXG) v3).setFar (p := ⟨X, 1, none⟩) (Ne.symm hXG) (.slice V L cap)).setFar (p := ⟨X, 2, none⟩) (Ne.symm hXG) (.int .i64 ((M % 8 : Nat) : Int))
    refine ⟨⟨a ++ y.take (M / 8), y.drop (M / 8), M % 8, v3, V, cap, by rw [List.append_assoc, List.take_append_drop], ?_, by omega, hcut, ?_, o1, ?_, ?_⟩, (((hb.setCell (p := ⟨X, 0, none⟩) hX _).setCell (p := ⟨X, 1, none⟩) hX _).setCell (p := ⟨X, 2, none⟩) hX _).drew, ((hoth.set 0 _).set 1 _).set 2 _⟩
    · rw [List.length_append, List.length_take, hyl]; omega
    · have hL : (y.drop (M / 8)).length = L := by rw [List.length_drop]; omega
      rw [hL]
      exact r1
    · rcases hV with ⟨rfl, rfl⟩ | ⟨e, rfl⟩
      · have := g1.bys.from (M / 8)
        rw [Nat.zero_add] at this
        exact this
      · rw [List.drop_eq_nil_of_le (by omega)]
        exact Bys.empty _ _
    · rcases hV with ⟨rfl, rfl⟩ | ⟨e, rfl⟩
      · exact .inr ⟨G, M / 8, _, rfl, g1⟩
      · exact .inl (List.drop_eq_nil_of_le (by omega)))
  have c1 : w.cell? ⟨X, 1, none⟩ = some (.slice B r.length d) := hR.cell 1
  have c2 : w.cell? ⟨X, 2, none⟩ = some (.int .i64 (n : Int)) := hR.cell 2
  have HR := Lib.hid hR
  have HO := Lib.hid hO
  have hXl := hR.lt
  have hyM : M / 8 ≤ y.length := by omega
  have hMle : M ≤ 100 := by omega
  have hk0 : (M : Int) / 8 = ((M / 8 : Nat) : Int) := by omega
  have hm0 : (M : Int) % 8 = ((M % 8 : Nat) : Int) := by omega
  have hm8 : M % 8 < 8 := by omega
  have hkm : M / 8 ≤ 100 := by omega
  generalize M / 8 = k at *
  generalize M % 8 = m8 at *
  have hyM' : (k : Int) ≤ (y.length : Int) := by omega
  clear hR hO hy hfr hcut hr hyl
  go_enter Try.func28, Try.ntmps28
  go_wp2_with fail
  refine (HP.out w hB).mono ?_
  rintro e w1 ⟨G, rfl, hG, hb1, hGw⟩
  have hR1 := HR.out.below hb1 hXl
  have hO1 := own_below HO.out hb1
  obtain ⟨Pw, cw, hvw, _, _⟩ := own_slice' hO1
  have hk1 : (y.take (k)).length = k := by rw [List.length_take]; omega
  have hne := own_ne hO1 hR1 (by decide)
  have hneG : some G ≠ vw.ownBlock := by
    intro e
    have := (World.ownsRow.lt HO.out G e.symm).2
    omega
  have hneB : some w1.heap.size ≠ vw.ownBlock := by
    intro e
    have := (World.ownsRow.lt hO1 _ e.symm).2
    omega
  have hXl1 := hR1.lt
  have hGl := hG.lt
  have hXw : ¬ X = w1.heap.size := by omega
  have hXw' : ¬ w1.heap.size = X := by omega
  obtain ⟨i0, hi, hz0, hz1, hz2⟩ := info_parts u8_info
  have hbw : base ≤ w1.heap.size := by have := hb1.size; omega
  have HB0 := Lib.hid (show Below base w w1 from hb1.mono (by omega))
  generalize hW : (w1.alloc (.cells #[.slice (some ⟨G, 0, none⟩) y.length y.length, .int .i64 (M : Int)] 58)) = w2
  have hRX : Row w2.drew X 60 #[vw, .slice B r.length d, .int .i64 (n : Int)] := by subst hW; exact hR1.alloc _
  have hRB : Row w2.drew w1.heap.size 58 #[.slice (some ⟨G, 0, none⟩) y.length y.length, .int .i64 (M : Int)] := by subst hW; exact Row.new w1 _ _
  have hRG : Row w2.drew G 5 (bcells y) := by subst hW; exact hG.alloc _
  have hO2 : Own w2.drew base vw a := by subst hW; exact own_alloc hO1 _
  have hB2 : Below base w w2.drew := by subst hW; exact (HB0.out.alloc hbw _).drew
  have hs2 : base ≤ w2.drew.heap.size := Nat.le_trans (by omega) hB2.size
  have hy1 : Bys w2.drew (some ⟨G, 0, none⟩) (y.take (k)) := hRG.bys.front _
  have x0 : w2.cell? ⟨X, 0, none⟩ = some vw := hRX.cell 0
  have q0 : w2.cell? ⟨w1.heap.size, 0, none⟩ = some (.slice (some ⟨G, 0, none⟩) y.length y.length) := hRB.cell 0
  have q1 : w2.cell? ⟨w1.heap.size, 1, none⟩ = some (.int .i64 (M : Int)) := hRB.cell 1
  rw [hvw] at x0
  have hT2 : Others w w2.drew X := by
    intro g t cs hr ht hg
    have h1 := (hr.below hb1 hr.lt).alloc (.cells #[.slice (some ⟨G, 0, none⟩) y.length y.length, .int .i64 (M : Int)] 58)
    subst hW
    exact h1
  have HT2 := Lib.hid hT2
  have HVW := Lib.hid hvw
  have HRX := Lib.hid hRX
  have HRB := Lib.hid hRB
  have HRG := Lib.hid hRG
  have HO2 := Lib.hid hO2
  have HB2 := Lib.hid hB2
  have HY1 := Lib.hid hy1
  have HK1 := Lib.hid hk1
  have hlen : a.length + (y.take (k)).length ≤ 211106232532992 := by rw [hk1]; omega
  have HLEN := Lib.hid hlen
  clear hT2 hR1 hG hO1 hvw hRX hRB hRG hO2 hB2 hy1 hk1 hlen
  go_wp2_with fail
  clear hW
  go_region_law
    (first
      | (refine step_app _ rfl (.tmp 23) (.tmp 27) 24 rfl base i0 Try.underlying24 hi hz0 hz1 hz2 vw a HVW.out.symm HO2.out (some ⟨G, 0, none⟩) (y.take (k)) y.length (by rw [HK1.out]; rfl) HY1.out HLEN.out hs2 ?_
         intro v3 w3 hown3 hg3 hat3
         have hX3 := grown_row HRX.out hg3 hne
         have hB3 := grown_row HRB.out hg3 hneB
         have hG3 := grown_row HRG.out hg3 hneG
         have y0 : w3.cell? ⟨X, 0, none⟩ = some vw := hX3.cell 0
         have y1 : w3.cell? ⟨X, 1, none⟩ = some (.slice B r.length d) := hX3.cell 1
         have y2 : w3.cell? ⟨X, 2, none⟩ = some (.int .i64 (n : Int)) := hX3.cell 2
         have z0 := hX3.frozen 0
         have z1 := hX3.frozen 1
         have z2 := hX3.frozen 2
         have p0 : w3.cell? ⟨w1.heap.size, 0, none⟩ = some (.slice (some ⟨G, 0, none⟩) y.length y.length) := hB3.cell 0
         have p1 : w3.cell? ⟨w1.heap.size, 1, none⟩ = some (.int .i64 (M : Int)) := hB3.cell 1
         obtain ⟨B3, d3, hv3, _, _⟩ := own_slice' hown3
         generalize (a ++ y.take (k)).length = ln at hv3
         subst hv3
         have HO3 := Lib.hid hown3
         have HG3 := Lib.hid hG3
         have HX3 := Lib.hid hX3
         have HB3 := Lib.hid (show Below base w w3 from Below.grown HB2.out hg3 hs2 (fun k hk => (World.ownsRow.lt HO2.out _ hk).1))
         have HT3 := Lib.hid (show Others w w3 X from fun g t cs hr ht hg => by have h2 := HT2.out g t cs hr ht hg; exact grown_row h2 hg3 (own_ne HO2.out h2 ht))
         clear hX3 hB3 hG3 hown3 hg3 hat3))
  all_goals
    clear x0 q0 q1 c1 c2
    go_wp2_with fail
    go_region
  all_goals
    clear y0 y1 y2 z0 z1 z2 p0 p1
    go_wp2
    all_goals
      go_end0
      refine ⟨rfl, HF.out w3 _ #[] _ _ _ G _ _ _ (by omega) HB3.out HT3.out HX3.out HG3.out HO3.out ?_⟩
      first
        | exact .inl ⟨rfl, rfl⟩
        | exact .inr ⟨by assumption, rfl⟩

set_option maxRecDepth 20000 in
set_option maxHeartbeats 2000000 in
theorem bytes_prog {w : World} {X base : Nat} {l : List UInt8} {N : Nat} (h : Wr w X base l N) (hX : base ≤ X) (hN : N ≤ 1000000) :
    Calls Try.prog 29 #[.pointer (some ⟨X, 0, none⟩)] w fun e w' => ∃ v, e = .returned v ∧ Own w' base v l ∧ Below base w w' := by
  obtain ⟨a, r, n, vw, B, d, rfl, rfl, hn, hr, hR, hO, hB, _⟩ := h
  have hrl : r.length ≤ 1 := by have := (rightB_iff.1 hr).2.1; rw [Int.toNat_natCast] at this; omega
  obtain ⟨Pw, cw, hvw, _, _⟩ := own_slice' hO
  obtain ⟨i0, hi, hz0, hz1, hz2⟩ := info_parts u8_info
  have c0 : w.cell? ⟨X, 0, none⟩ = some vw := hR.cell 0
  have c1 : w.cell? ⟨X, 1, none⟩ = some (.slice B r.length d) := hR.cell 1
  have hXl := hR.lt
  have hs2 : base ≤ w.drew.heap.size := by show base ≤ w.heap.size; omega
  have HO : Hid (Own w.drew base vw a) := Lib.hid hO
  have HB : Hid (Bys w.drew B r) := Lib.hid hB
  have HVW := Lib.hid hvw
  have HLEN := Lib.hid (show a.length + r.length ≤ 211106232532992 by omega)
  have HD := Lib.hid (show Below base w w.drew from (Below.refl _ _).drew)
  rw [hvw] at c0
  clear hO hB hvw hR hr
  go_enter Try.func29, Try.ntmps29
  go_wp2_with fail
  go_region_law
    (first
      | (refine step_app _ rfl (.tmp 6) (.tmp 11) 24 rfl base i0 Try.underlying24 hi hz0 hz1 hz2 vw a HVW.out.symm HO.out B r d rfl HB.out HLEN.out hs2 ?_
         intro v3 w3 hown3 hg3 hat3
         obtain ⟨B3, d3, hv3, _, _⟩ := own_slice' hown3
         generalize (a ++ r).length = ln at hv3
         subst hv3
         have HO3 := Lib.hid hown3
         have HB3 := Lib.hid (show Below base w w3 from Below.grown HD.out hg3 hs2 (fun k hk => (World.ownsRow.lt HO.out _ hk).1))
         clear hown3 hg3 hat3))
  all_goals
    go_wp2_with fail
    go_ret
    exact ⟨_, rfl, HO3.out, HB3.out⟩
end Go.Proofs.Ytheaebkegncdlaa
