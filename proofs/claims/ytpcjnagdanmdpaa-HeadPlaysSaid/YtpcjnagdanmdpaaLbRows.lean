/- Rows of labels (two texts each): that stand at an address, that are the call's own; append of such a row to an own one; how a law's argument of that type is opened. -/
import Derived.Test.YtpcjnagdanmdpaaHdLotM
import Derived.Test.YtpcjnagdanmdpaaHdLotL
namespace Go.Proofs.Ytpcjnagdanmdpaa
open Go.ChangeShapes Go.WideShapes Go.ChangeAt Go.RowKit Go.Joins Go.Maps
set_option linter.unusedVariables false
def lblE (s : Lbl) : List Value := [.string s.1, .string s.2]
theorem lblE_len (s : Lbl) : (lblE s).length = 2 := rfl
def Lbls (w : World) (A : Option Addr) (l : List Lbl) : Prop := At w A (l.flatMap lblE)
theorem Lbls.below {w w' : World} {A : Option Addr} {l : List Lbl} (h : Lbls w A l) (hb : Below w.heap.size w w') : Lbls w' A l := At.below h hb
theorem Lbls.alloc {w : World} {A : Option Addr} {l : List Lbl} (h : Lbls w A l) (o : Obj) : Lbls (w.alloc o) A l := At.alloc h o
theorem Lbls.nil (w : World) (A : Option Addr) : Lbls w A [] := .inl rfl
theorem Lbls.at_ {w : World} {A : Option Addr} {l : List Lbl} (h : Lbls w A l) {i : Nat} (hi : i < l.length) :
    ∃ b o, A = some ⟨b, o, none⟩ ∧ b < w.heap.size ∧ w.cell? ⟨b, o + i * 2, none⟩ = some (.string (nmOf l i)) ∧ w.cell? ⟨b, o + i * 2 + 1, none⟩ = some (.string (vlOf l i)) := by
  have hlen := flat_len lblE 2 lblE_len l
  rcases h with h | ⟨b, o, rfl, hb, hc⟩
  · rw [h] at hlen; simp at hlen; omega
  · refine ⟨b, o, rfl, hb, ?_, ?_⟩
    · have := hc (i * 2 + 0) _ (flat_get lblE 2 lblE_len l i _ 0 (getD_some l lbl0 hi) (by omega))
      exact this
    · have := hc (i * 2 + 1) _ (flat_get lblE 2 lblE_len l i _ 1 (getD_some l lbl0 hi) (by omega))
      exact this
/-- The first address is the same for every element. -/
theorem Lbls.all {w : World} {A : Option Addr} {l : List Lbl} (h : Lbls w A l) (hl : 0 < l.length) :
    ∃ b o, A = some ⟨b, o, none⟩ ∧ b < w.heap.size ∧ ∀ i, i < l.length → w.cell? ⟨b, o + i * 2, none⟩ = some (.string (nmOf l i)) ∧ w.cell? ⟨b, o + i * 2 + 1, none⟩ = some (.string (vlOf l i)) := by
  obtain ⟨b, o, rfl, hb, _⟩ := h.at_ hl
  refine ⟨b, o, rfl, hb, fun i hi => ?_⟩
  obtain ⟨b', o', e, _, h1, h2⟩ := h.at_ hi
  injection e with e
  injection e with e1 e2 _
  subst e1 e2
  exact ⟨h1, h2⟩
/-- The value v is a row of labels of the call's own, from block base on, and holds l. -/
def OwnL (w : World) (base : Nat) (v : Value) (l : List Lbl) : Prop := w.ownsRow base 69 2 v l.length (l.flatMap lblE)
section
variable {w w' : World} {base : Nat} {v : Value} {l : List Lbl}
theorem ownl_nil (w : World) (base : Nat) : OwnL w base (.slice none 0 0) [] := ⟨rfl, .inl ⟨rfl, rfl⟩⟩
theorem ownl_empty {g : Nat} (h : Row w g 69 #[]) (hb : base ≤ g) : OwnL w base (.slice (some ⟨g, 0, none⟩) 0 0) [] :=
  ⟨rfl, .inr ⟨g, 0, #[], rfl, hb, h, Nat.le_refl _, by simp [maxLen], by simp, by simp⟩⟩
theorem ownl_below (h : OwnL w base v l) (hb : Below w.heap.size w w') : OwnL w' base v l := rows_below h hb
theorem ownl_lower {base' : Nat} (h : OwnL w base v l) (hb : base' ≤ base) : OwnL w base' v l := rows_lower h hb
theorem ownl_slice (h : OwnL w base v l) : ∃ P c, v = .slice P l.length c ∧ l.length ≤ c ∧ Lbls w P l ∧ ∀ ad, P = some ad → base ≤ ad.block := rows_slice h
end
theorem label_info : (Try.prog.info? 69).map (fun i => (i.zero, i.size, i.bytes)) = some (some (.agg #[.string ⟨#[]⟩, .string ⟨#[]⟩]), 2, 32) := by kernel_rfl
theorem lbl_one (l : List Lbl) : ∀ u ∈ l.flatMap lblE, u.oneCell' = true := by
  intro u hu
  simp only [List.mem_flatMap, lblE, List.mem_cons, List.not_mem_nil, or_false] at hu
  obtain ⟨x, _, rfl | rfl⟩ := hu <;> rfl
/-- append of labels to an own row, at a walk's built-in. -/
theorem app_lbls {w : World} {ops : Array Oper} {rest : List Oper} {o : Oper} {a : Act} {Q : Exit → Act → World → Prop} (hgd : o.guard = none) (s y : Operand)
    (ho : o.op = .call { callee := .builtin .append, args := #[s, y], argTypes := #[26, 26] })
    (base : Nat) (v : Value) (x : List Lbl) (hs : a.eval s = v) (hown : OwnL w base v x) (A : Option Addr) (l : List Lbl) (c : Nat) (hy : a.eval y = .slice A l.length c) (hA : Lbls w A l) (hn : (x.length + l.length) * 32 ≤ 140737488355328) (hbase : base ≤ w.heap.size)
    (h : ∀ v' w', OwnL w' base v' (x ++ l) → Below base w w' → w.grownBy w' v.ownBlock → wpList Try.prog ops Q rest (a.put o.dst v') w') : wpList Try.prog ops Q (o :: rest) a w := by
  obtain ⟨i0, hi, hz0, hz1, hz2⟩ := info_parts label_info
  refine wpList_app_at hgd s y 26 ho base 69 i0 _ 2 32 Try.underlying26 hi hz0 hz1 hz2 rfl (by omega) v x.length (x.flatMap lblE) hs hown A l.length c (l.flatMap lblE) hy (flat_len lblE 2 lblE_len l) hA (lbl_one l)
    (by simp only [maxLen]; omega) hn hbase ?_
  intro v' w' h1 h2 h3
  refine h v' w' ?_ h2 h3
  unfold OwnL
  rw [List.flatMap_append, List.length_append]
  exact h1
theorem lbls_cell {w : World} {g : Nat} {t v : ByteArray} (h : Row w g 69 #[.string t, .string v]) : Lbls w (some ⟨g, 0, none⟩) [(t, v)] := At.row h
/-! ### opening -/
theorem reach_is : reachBytes = 140737488351232 := rfl
/-- No text is longer than a law's argument may be. -/
def LFit (s : Lbl) : Prop := s.1.size ≤ 140737488351232 ∧ s.2.size ≤ 140737488351232
def LFits (l : List Lbl) : Prop := ∀ i, i < l.length → (nmOf l i).size ≤ 140737488351232 ∧ (vlOf l i).size ≤ 140737488351232
section
variable {H : Type} {enc : TypeId × Value → H} {W : World} {base : Nat} {sp : Nat → Bool} {held : Bool}
theorem trod_struct2 {P : Program} {w : World} {t : TypeId} {f0 f1 : Field} {fuel : Nat} {cs : List Value} {x : DataW H × List MemPlace} (ht : P.underlying t = some (.struct #[f0, f1])) (h : DataW.trod enc P w base sp held fuel t cs = some x) :
    ∃ y0 y1 n, x.1 = .agg [y0.1, y1.1] ∧ cs.length = P.cellsOf t ∧ DataW.trod enc P w base sp held n f0.type ((cs.drop f0.offset).take (P.cellsOf f0.type)) = some y0 ∧
      DataW.trod enc P w base sp held n f1.type ((cs.drop f1.offset).take (P.cellsOf f1.type)) = some y1 := by
  obtain ⟨xs, n, _, rfl, hl, hlen, hf⟩ := DataW.trod_struct ht h
  match xs, hlen with
  | [y0, y1], _ => exact ⟨y0, y1, n, by simp, hl, by simpa using hf 0 f0 rfl, by simpa using hf 1 f1 rfl⟩
theorem two_of {α : Type} {l : List α} (h : l.length = 2) : ∃ c0 c1, l = [c0, c1] := by
  match l, h with
  | [c0, c1], _ => exact ⟨c0, c1, rfl⟩
theorem lbl_cells : Try.prog.cellsOf 69 = 2 := by kernel_rfl
theorem lbl_two : ∃ f0 f1 : Field, Try.prog.underlying 69 = some (.struct #[f0, f1]) ∧ Go.Deep.oneCellFields Try.prog #[f0, f1] = true ∧ [f0.type, f1.type] = [9, 9] :=
  ⟨_, _, Try.underlying69, by kernel_rfl, rfl⟩
theorem open_lbl {fuel : Nat} {cs : List Value} {x : DataW H × List MemPlace} (h : DataW.trod enc Try.prog W base sp held fuel 69 cs = some x) (hw : ∀ n ∈ x.1.weights Try.prog 69, n ≤ reachBytes) : ∃ s : Lbl, cs = lblE s ∧ LFit s := by
  obtain ⟨f0, f1, hu, hone, hty⟩ := lbl_two
  simp only [List.cons.injEq, and_true] at hty
  obtain ⟨e0, e1⟩ := hty
  obtain ⟨y0, y1, n, hx, hl, h0, h1⟩ := trod_struct2 hu h
  rw [lbl_cells] at hl
  obtain ⟨c0, c1, rfl⟩ := two_of hl
  obtain ⟨o0, k0⟩ := Go.Deep.hone_of hone 0 f0 rfl
  obtain ⟨o1, k1⟩ := Go.Deep.hone_of hone 1 f1 rfl
  have h0' : DataW.trod enc Try.prog W base sp held n 9 [c0] = some y0 := by rw [← e0]; simpa [o0, k0] using h0
  have h1' : DataW.trod enc Try.prog W base sp held n 9 [c1] = some y1 := by rw [← e1]; simpa [o1, k1] using h1
  have hwe : ∀ n ∈ DataW.weightsEach Try.prog [9, 9] [y0.1, y1.1], n ≤ reachBytes := by
    intro m hm
    refine hw m ?_
    rw [hx]
    unfold DataW.weights
    rw [hu]
    show m ∈ DataW.weightsEach Try.prog ([f0, f1].map (·.type)) _
    rw [show [f0, f1].map (fun x : Field => x.type) = [9, 9] from by simp [e0, e1]]
    exact hm
  have hsz : (DataW.weightsEach Try.prog [9, 9] [y0.1, y1.1]).all (· ≤ reachBytes) = true := List.all_eq_true.2 fun m hm => by simpa using hwe m hm
  obtain ⟨s0, g0, d0, _⟩ := DataW.trod_string Try.underlying9 h0'
  obtain ⟨s1, g1, d1, _⟩ := DataW.trod_string Try.underlying9 h1'
  simp only [List.cons.injEq, and_true] at g0 g1
  subst g0 g1
  have r0 := sized_string hsz (j := 0) rfl (bytes := s0.data.toList) (by rw [d0]; rfl)
  have r1 := sized_string hsz (j := 1) rfl (bytes := s1.data.toList) (by rw [d1]; rfl)
  rw [reach_is] at r0 r1
  refine ⟨(s0, s1), rfl, ?_, ?_⟩
  · have : s0.data.toList.length = s0.size := Array.length_toList
    show s0.size ≤ 140737488351232
    omega
  · have : s1.data.toList.length = s1.size := Array.length_toList
    show s1.size ≤ 140737488351232
    omega
theorem weights_all {P : Program} {e : TypeId} : ∀ {ds : List (DataW H)} {d : DataW H}, d ∈ ds → ∀ n ∈ d.weights P e, n ∈ DataW.weightsAll P e ds := by
  intro ds
  induction ds with
  | nil => intro d h; cases h
  | cons x r ih =>
    intro d h n hn
    simp only [DataW.weightsAll, List.mem_append]
    rcases List.mem_cons.1 h with rfl | h
    · exact .inl hn
    · exact .inr (ih h n hn)
theorem open_lbls {fuel : Nat} {v : Value} {x : DataW H × List MemPlace} (hf : DataW.trod enc Try.prog W base sp held fuel 26 [v] = some x) (hw : ∀ n ∈ x.1.weights Try.prog 26, n ≤ reachBytes) :
    ∃ (V : Option Addr) (l : List Lbl) (c : Nat), v = .slice V l.length c ∧ Lbls W V l ∧ LFits l ∧ l.length * 32 ≤ 140737488351232 ∧ l.length ≤ c := by
  rcases Go.Deep.open_slice Try.underlying26 hf with ⟨hcs, hx⟩ | ⟨a, len, cap, m, n, D, Pl, hcs, hb, hl, hm, hmm, hx, hcell⟩
  · simp only [List.cons.injEq, and_true] at hcs
    subst hcs
    exact ⟨none, [], 0, rfl, .inl rfl, fun i hi => by simp at hi, by simp, Nat.le_refl _⟩
  · simp only [List.cons.injEq, and_true] at hcs
    subst hcs
    rw [lbl_cells] at hcell
    have hml : len ≤ m := by rw [hmm]; split <;> omega
    rw [hx] at hw
    simp only [DataW.weights, Try.underlying26] at hw
    have hbytes : Try.prog.bytesOf 69 = 32 := by kernel_rfl
    have hlen32 := hw ((((List.range len).map D).length + ((List.range (m - len)).map fun j => D (len + j)).length) * Try.prog.bytesOf 69) (by simp)
    rw [hbytes] at hlen32
    simp only [List.length_map, List.length_range] at hlen32
    rw [reach_is] at hlen32
    have each : ∀ i, i < len → ∃ y : Lbl, LFit y ∧ W.cells? base (a.add (i * 2)) 2 = some (lblE y) := by
      intro i hi
      obtain ⟨cs', h1, h2⟩ := hcell i (by omega)
      obtain ⟨y, rfl, hy⟩ := open_lbl h2 (fun q hq => hw q (by
        simp only [List.mem_cons, List.mem_append]
        exact .inr (.inl (weights_all (List.mem_map.2 ⟨i, List.mem_range.2 hi, rfl⟩) q hq))))
      exact ⟨y, hy, h1⟩
    obtain ⟨y, hy⟩ := Go.Deep.choose_lt each
    have hlen : ((List.range len).map y).length = len := by simp
    have hget : ∀ i, i < len → ((List.range len).map y).getD i lbl0 = y i := by
      intro i hi
      simp [List.getD_eq_getElem?_getD, hi]
    refine ⟨some a, (List.range len).map y, cap, by rw [hlen], ?_, ?_, by rw [hlen]; omega, by rw [hlen]; exact hl⟩
    · rcases Nat.eq_zero_or_pos len with h0 | h0
      · have : (List.range len).map y = [] := List.eq_nil_of_length_eq_zero (by rw [hlen]; exact h0)
        rw [this]
        exact Lbls.nil _ _
      · obtain ⟨b, o, spot⟩ := a
        obtain ⟨_, hcs0⟩ := hy 0 h0
        obtain ⟨_, _, hc0⟩ := World.cells?_some hcs0
        have hc := hc0 0 (by omega)
        have hspot : spot = none := by
          have := World.cell?_spot (hc.trans rfl)
          simpa [Addr.add] using this
        subst hspot
        have hc00 : W.cell? ⟨b, o, none⟩ = some (.string (y 0).1) := by
          have : (lblE (y 0))[0]? = some (.string (y 0).1) := rfl
          rw [this] at hc
          simpa [Addr.add] using hc
        refine .inr ⟨b, o, rfl, cell_lt hc00, fun j u hj => ?_⟩
        have hj2 : j < len * 2 := by
          have := (List.getElem?_eq_some_iff.1 hj).1
          rw [flat_len lblE 2 lblE_len, hlen] at this
          exact this
        have hi : j / 2 < len := by omega
        obtain ⟨_, hcs⟩ := hy (j / 2) hi
        obtain ⟨_, _, hcj⟩ := World.cells?_some hcs
        have h1 := hcj (j % 2) (by omega)
        rw [add_at, add_at] at h1
        have h2 := flat_get lblE 2 lblE_len ((List.range len).map y) (j / 2) _ (j % 2) (getD_some _ lbl0 (by rw [hlen]; exact hi)) (by omega)
        rw [hget _ hi, show j / 2 * 2 + j % 2 = j from by omega, hj] at h2
        rw [← h2, show o + j / 2 * 2 + j % 2 = o + j from by omega] at h1
        exact h1
    · intro i hi
      rw [hlen] at hi
      unfold nmOf vlOf
      rw [hget i hi]
      exact (hy i hi).1
end
end Go.Proofs.Ytpcjnagdanmdpaa
