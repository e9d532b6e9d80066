/- Rows of samples (two cells each): that stand at an address, that are the call's own; append of such a row to an own one; how a law's argument of that type is opened. -/
import Derived.Test.YtheaebkegncdlaaRowsG
import Derived.Test.YtheaebkegncdlaaChMath
import Derived.Test.YtheaebkegncdlaaOpen
import Derived.Deep.Slices
import Derived.Deep.Strs
import Derived.Deep.Fields
import Derived.Lib.SmallJoins
namespace Go.Proofs.Ytheaebkegncdlaa
open Go.ChangeShapes Go.WideShapes Go.ChangeAt Go.RowKit Go.Joins Go.Maps
set_option linter.unusedVariables false

def smpE (s : Smp) : List Value := [.int .i64 s.1, .int .i64 s.2]
theorem smpE_len (s : Smp) : (smpE s).length = 2 := rfl
def Smps (w : World) (A : Option Addr) (l : List Smp) : Prop := At w A (l.flatMap smpE)
theorem Smps.below {w w' : World} {A : Option Addr} {l : List Smp} (h : Smps w A l) (hb : Below w.heap.size w w') : Smps w' A l := At.below h hb
theorem Smps.alloc {w : World} {A : Option Addr} {l : List Smp} (h : Smps w A l) (o : Obj) : Smps (w.alloc o) A l := At.alloc h o
theorem Smps.nil (w : World) (A : Option Addr) : Smps w A [] := .inl rfl
theorem Smps.at_ {w : World} {A : Option Addr} {l : List Smp} (h : Smps w A l) {i : Nat} (hi : i < l.length) :
    ∃ b o, A = some ⟨b, o, none⟩ ∧ b < w.heap.size ∧ w.cell? ⟨b, o + i * 2, none⟩ = some (.int .i64 (tOf l i)) ∧ w.cell? ⟨b, o + i * 2 + 1, none⟩ = some (.int .i64 (vOf l i)) := by
  have hlen := flat_len smpE 2 smpE_len l
  rcases h with h | ⟨b, o, rfl, hb, hc⟩
  · rw [h] at hlen; simp at hlen; omega
  · refine ⟨b, o, rfl, hb, ?_, ?_⟩
    · have := hc (i * 2 + 0) _ (flat_get smpE 2 smpE_len l i _ 0 (getD_some l (0, 0) hi) (by omega))
      exact this
    · have := hc (i * 2 + 1) _ (flat_get smpE 2 smpE_len l i _ 1 (getD_some l (0, 0) hi) (by omega))
      exact this
/-- The first address is the same for every element. -/
theorem Smps.all {w : World} {A : Option Addr} {l : List Smp} (h : Smps w A l) (hl : 0 < l.length) :
    ∃ b o, A = some ⟨b, o, none⟩ ∧ b < w.heap.size ∧ ∀ i, i < l.length → w.cell? ⟨b, o + i * 2, none⟩ = some (.int .i64 (tOf l i)) ∧ w.cell? ⟨b, o + i * 2 + 1, none⟩ = some (.int .i64 (vOf l i)) := by
  obtain ⟨b, o, rfl, hb, _⟩ := h.at_ hl
  refine ⟨b, o, rfl, hb, fun i hi => ?_⟩
  obtain ⟨b', o', e, _, h1, h2⟩ := h.at_ hi
  injection e with e
  injection e with e1 e2 _
  subst e1 e2
  exact ⟨h1, h2⟩
theorem Smps.front {w : World} {A : Option Addr} {l : List Smp} (h : Smps w A l) (k : Nat) : Smps w A (l.take k) := by
  rcases Nat.eq_zero_or_pos (min k l.length) with h0 | h0
  · have : l.take k = [] := List.eq_nil_of_length_eq_zero (by rw [List.length_take]; exact h0)
    rw [this]; exact Smps.nil _ _
  · rcases h with h | ⟨b, o, rfl, hb, hc⟩
    · have hlen := flat_len smpE 2 smpE_len l
      rw [h] at hlen; simp at hlen; omega
    · refine .inr ⟨b, o, rfl, hb, fun j u hj => hc j u ?_⟩
      have : l.flatMap smpE = (l.take k).flatMap smpE ++ (l.drop k).flatMap smpE := by rw [← List.flatMap_append, List.take_append_drop]
      rw [this, List.getElem?_append_left (List.getElem?_eq_some_iff.1 hj).1]
      exact hj
theorem Smps.from {w : World} {b o : Nat} {l : List Smp} (h : Smps w (some ⟨b, o, none⟩) l) (k : Nat) (hk : k ≤ l.length) : Smps w (some ⟨b, o + k * 2, none⟩) (l.drop k) := by
  rcases Nat.eq_zero_or_pos (l.length - k) with h0 | h0
  · have : l.drop k = [] := List.eq_nil_of_length_eq_zero (by rw [List.length_drop]; exact h0)
    rw [this]; exact Smps.nil _ _
  · rcases h with h | ⟨b', o', e, hb, hc⟩
    · have hlen := flat_len smpE 2 smpE_len l
      rw [h] at hlen; simp at hlen; omega
    · injection e with e
      injection e with e1 e2 _
      subst e1 e2
      refine .inr ⟨b, o + k * 2, rfl, hb, fun j u hj => ?_⟩
      rw [Nat.add_assoc]
      refine hc _ _ ?_
      have : l.flatMap smpE = (l.take k).flatMap smpE ++ (l.drop k).flatMap smpE := by rw [← List.flatMap_append, List.take_append_drop]
      have hl1 : ((l.take k).flatMap smpE).length = k * 2 := by rw [flat_len smpE 2 smpE_len, List.length_take, Nat.min_eq_left hk]
      rw [this, List.getElem?_append_right (by omega), hl1, Nat.add_sub_cancel_left]
      exact hj

/-- The value v is a row of samples of the call's own, from block base on, and holds l. -/
def OwnS (w : World) (base : Nat) (v : Value) (l : List Smp) : Prop := w.ownsRow base 44 2 v l.length (l.flatMap smpE)
section
variable {w w' : World} {base : Nat} {v : Value} {l : List Smp}
theorem owns_nil (w : World) (base : Nat) : OwnS w base (.slice none 0 0) [] := ⟨rfl, .inl ⟨rfl, rfl⟩⟩
theorem owns_empty {g : Nat} (h : Row w g 44 #[]) (hb : base ≤ g) : OwnS w base (.slice (some ⟨g, 0, none⟩) 0 0) [] :=
  ⟨rfl, .inr ⟨g, 0, #[], rfl, hb, h, Nat.le_refl _, by simp [maxLen], by simp, by simp⟩⟩
theorem owns_below (h : OwnS w base v l) (hb : Below w.heap.size w w') : OwnS w' base v l := rows_below h hb
theorem owns_lower {base' : Nat} (h : OwnS w base v l) (hb : base' ≤ base) : OwnS w base' v l := rows_lower h hb
theorem owns_slice (h : OwnS w base v l) : ∃ P c, v = .slice P l.length c ∧ l.length ≤ c ∧ Smps w P l ∧ ∀ ad, P = some ad → base ≤ ad.block := rows_slice h
end
theorem sample_info : (Try.prog.info? 44).map (fun i => (i.zero, i.size, i.bytes)) = some (some (.agg #[.int .i64 0, .int .i64 0]), 2, 16) := by kernel_rfl
theorem smp_one (l : List Smp) : ∀ u ∈ l.flatMap smpE, u.oneCell' = true := by
  intro u hu
  simp only [List.mem_flatMap, smpE, List.mem_cons, List.not_mem_nil, or_false] at hu
  obtain ⟨x, _, rfl | rfl⟩ := hu <;> rfl
/-- append of samples to an own row, at a walk's built-in. -/
theorem app_smps {w : World} {ops : Array Oper} {rest : List Oper} {o : Oper} {a : Act} {Q : Exit → Act → World → Prop} (hgd : o.guard = none) (s y : Operand)
    (ho : o.op = .call { callee := .builtin .append, args := #[s, y], argTypes := #[22, 22] })
    (base : Nat) (v : Value) (x : List Smp) (hs : a.eval s = v) (hown : OwnS w base v x) (A : Option Addr) (l : List Smp) (c : Nat) (hy : a.eval y = .slice A l.length c) (hA : Smps w A l) (hn : (x.length + l.length) * 16 ≤ 140737488355328) (hbase : base ≤ w.heap.size)
    (h : ∀ v' w', OwnS w' base v' (x ++ l) → Below base w w' → w.grownBy w' v.ownBlock → wpList Try.prog ops Q rest (a.put o.dst v') w') : wpList Try.prog ops Q (o :: rest) a w := by
  obtain ⟨i0, hi, hz0, hz1, hz2⟩ := info_parts sample_info
  refine wpList_app_at hgd s y 22 ho base 44 i0 _ 2 16 Try.underlying22 hi hz0 hz1 hz2 rfl (by omega) v x.length (x.flatMap smpE) hs hown A l.length c (l.flatMap smpE) hy (flat_len smpE 2 smpE_len l) hA (smp_one l)
    (by simp only [maxLen]; omega) hn hbase ?_
  intro v' w' h1 h2 h3
  refine h v' w' ?_ h2 h3
  unfold OwnS
  rw [List.flatMap_append, List.length_append]
  exact h1
theorem smps_cell {w : World} {g : Nat} {t v : Int} (h : Row w g 44 #[.int .i64 t, .int .i64 v]) : Smps w (some ⟨g, 0, none⟩) [(t, v)] := At.row h

/-! ### opening -/
theorem reach_is : reachBytes = 140737488351232 := rfl
def Fit (s : Smp) : Prop := -9223372036854775808 ≤ s.1 ∧ s.1 ≤ 9223372036854775807 ∧ -9223372036854775808 ≤ s.2 ∧ s.2 ≤ 9223372036854775807
def Fits (l : List Smp) : Prop := ∀ i, i < l.length → Fit (l.getD i (0, 0))
section
variable {H : Type} {enc : TypeId × Value → H} {W : World} {base : Nat} {sp : Nat → Bool} {held : Bool}
theorem trod_struct2 {P : Program} {w : World} {t : TypeId} {f0 f1 : Field} {fuel : Nat} {cs : List Value} {x : DataW H × List MemPlace} (ht : P.underlying t = some (.struct #[f0, f1])) (h : DataW.trod enc P w base sp held fuel t cs = some x) :
    ∃ y0 y1 n, x.1 = .agg [y0.1, y1.1] ∧ cs.length = P.cellsOf t ∧ DataW.trod enc P w base sp held n f0.type ((cs.drop f0.offset).take (P.cellsOf f0.type)) = some y0 ∧
      DataW.trod enc P w base sp held n f1.type ((cs.drop f1.offset).take (P.cellsOf f1.type)) = some y1 := by
  obtain ⟨xs, n, _, rfl, hl, hlen, hf⟩ := DataW.trod_struct ht h
  match xs, hlen with
  | [y0, y1], _ => exact ⟨y0, y1, n, by simp, hl, by simpa using hf 0 f0 rfl, by simpa using hf 1 f1 rfl⟩
theorem two_of {α : Type} {l : List α} (h : l.length = 2) : ∃ c0 c1, l = [c0, c1] := by
  match l, h with
  | [c0, c1], _ => exact ⟨c0, c1, rfl⟩
theorem smp_cells : Try.prog.cellsOf 44 = 2 := by kernel_rfl
theorem smp_two : ∃ f0 f1 : Field, Try.prog.underlying 44 = some (.struct #[f0, f1]) ∧ Go.Deep.oneCellFields Try.prog #[f0, f1] = true ∧ [f0.type, f1.type] = [3, 3] :=
  ⟨_, _, Try.underlying44, by kernel_rfl, rfl⟩
theorem open_smp {fuel : Nat} {cs : List Value} {x : DataW H × List MemPlace} (h : DataW.trod enc Try.prog W base sp held fuel 44 cs = some x) : ∃ s : Smp, cs = smpE s ∧ Fit s := by
  obtain ⟨f0, f1, hu, hone, hty⟩ := smp_two
  simp only [List.cons.injEq, and_true] at hty
  obtain ⟨e0, e1⟩ := hty
  obtain ⟨y0, y1, n, hx, hl, h0, h1⟩ := trod_struct2 hu h
  rw [smp_cells] at hl
  obtain ⟨c0, c1, rfl⟩ := two_of hl
  obtain ⟨o0, k0⟩ := Go.Deep.hone_of hone 0 f0 rfl
  obtain ⟨o1, k1⟩ := Go.Deep.hone_of hone 1 f1 rfl
  have h0' : DataW.trod enc Try.prog W base sp held n 3 [c0] = some y0 := by rw [← e0]; simpa [o0, k0] using h0
  have h1' : DataW.trod enc Try.prog W base sp held n 3 [c1] = some y1 := by rw [← e1]; simpa [o1, k1] using h1
  obtain ⟨z0, g0, d0, w0⟩ := DataW.trod_int Try.underlying3 h0'
  obtain ⟨z1, g1, d1, w1⟩ := DataW.trod_int Try.underlying3 h1'
  simp only [List.cons.injEq, and_true] at g0 g1
  subst g0 g1
  have b0 := bounds_i64 w0
  have b1 := bounds_i64 w1
  exact ⟨(z0, z1), rfl, b0.1, b0.2, b1.1, b1.2⟩
theorem open_smps {fuel : Nat} {v : Value} {x : DataW H × List MemPlace} (hf : DataW.trod enc Try.prog W base sp held fuel 22 [v] = some x) (hw : ∀ n ∈ x.1.weights Try.prog 22, n ≤ reachBytes) :
    ∃ (V : Option Addr) (l : List Smp) (c : Nat), v = .slice V l.length c ∧ Smps W V l ∧ Fits l ∧ l.length * 16 ≤ 140737488351232 ∧ l.length ≤ c := by
  rcases Go.Deep.open_slice Try.underlying22 hf with ⟨hcs, hx⟩ | ⟨a, len, cap, m, n, D, Pl, hcs, hb, hl, hm, hmm, hx, hcell⟩
  · simp only [List.cons.injEq, and_true] at hcs
    subst hcs
    exact ⟨none, [], 0, rfl, .inl rfl, fun i hi => by simp at hi, by simp, Nat.le_refl _⟩
  · simp only [List.cons.injEq, and_true] at hcs
    subst hcs
    rw [smp_cells] at hcell
    have hml : len ≤ m := by rw [hmm]; split <;> omega
    rw [hx] at hw
    simp only [DataW.weights, Try.underlying22] at hw
    have hbytes : Try.prog.bytesOf 44 = 16 := by kernel_rfl
    have hlen16 := hw ((((List.range len).map D).length + ((List.range (m - len)).map fun j => D (len + j)).length) * Try.prog.bytesOf 44) (by simp)
    rw [hbytes] at hlen16
    simp only [List.length_map, List.length_range] at hlen16
    rw [reach_is] at hlen16
    have each : ∀ i, i < len → ∃ y : Smp, Fit y ∧ W.cells? base (a.add (i * 2)) 2 = some (smpE y) := by
      intro i hi
      obtain ⟨cs', h1, h2⟩ := hcell i (by omega)
      obtain ⟨y, rfl, hy⟩ := open_smp h2
      exact ⟨y, hy, h1⟩
    obtain ⟨y, hy⟩ := Go.Deep.choose_lt each
    have hlen : ((List.range len).map y).length = len := by simp
    have hget : ∀ i, i < len → ((List.range len).map y).getD i (0, 0) = y i := by
      intro i hi
      simp [List.getD_eq_getElem?_getD, hi]
    refine ⟨some a, (List.range len).map y, cap, by rw [hlen], ?_, ?_, by rw [hlen]; omega, by rw [hlen]; exact hl⟩
    · rcases Nat.eq_zero_or_pos len with h0 | h0
      · have : (List.range len).map y = [] := List.eq_nil_of_length_eq_zero (by rw [hlen]; exact h0)
        rw [this]
        exact Smps.nil _ _
      · obtain ⟨b, o, spot⟩ := a
        obtain ⟨_, hcs0⟩ := hy 0 h0
        obtain ⟨_, _, hc0⟩ := World.cells?_some hcs0
        have hc := hc0 0 (by omega)
        have hspot : spot = none := by
          have := World.cell?_spot (hc.trans rfl)
          simpa [Addr.add] using this
        subst hspot
        have hc00 : W.cell? ⟨b, o, none⟩ = some (.int .i64 (y 0).1) := by
          have : (smpE (y 0))[0]? = some (.int .i64 (y 0).1) := rfl
          rw [this] at hc
          simpa [Addr.add] using hc
        refine .inr ⟨b, o, rfl, cell_lt hc00, fun j u hj => ?_⟩
        have hj2 : j < len * 2 := by
          have := (List.getElem?_eq_some_iff.1 hj).1
          rw [flat_len smpE 2 smpE_len, hlen] at this
          exact this
        have hi : j / 2 < len := by omega
        obtain ⟨_, hcs⟩ := hy (j / 2) hi
        obtain ⟨_, _, hcj⟩ := World.cells?_some hcs
        have h1 := hcj (j % 2) (by omega)
        rw [add_at, add_at] at h1
        have h2 := flat_get smpE 2 smpE_len ((List.range len).map y) (j / 2) _ (j % 2) (getD_some _ (0, 0) (by rw [hlen]; exact hi)) (by omega)
        rw [hget _ hi, show j / 2 * 2 + j % 2 = j from by omega, hj] at h2
        rw [← h2, show o + j / 2 * 2 + j % 2 = o + j from by omega] at h1
        exact h1
    · intro i hi
      rw [hlen] at hi
      rw [hget i hi]
      exact (hy i hi).1
end
end Go.Proofs.Ytheaebkegncdlaa
