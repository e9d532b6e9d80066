/- Trees that a call of the reader's collects in a row of its own; what such a call tells and leaves. -/
import Derived.Test.YtjljfilflajogaaReItem
import Derived.Maps.AppendAt
namespace Go.Proofs.Ytjljfilflajogaa
open Go.RowKit Go.Maps
set_option linter.unusedVariables false

theorem NodeAt.two {w w' : World} {X B : Nat} {r : Re} {v : Value} {M : List Nat} (h : NodeAt w r v M) (k : Two w w' X X) (hM : ∀ x ∈ M, B ≤ x) (hX : X < B) : NodeAt w' r v M :=
  h.keep fun x hx => k.block x (h.lt x hx) (by have := hM x hx; omega) (by have := hM x hx; omega)
/-- The value v is a row of the call's own, from block base on, and holds the trees l, no two of which share a block. -/
def Grp (w : World) (base : Nat) (v : Value) (l : List Re) : Prop :=
  ∃ vs Ms, w.ownsRow base 54 1 v l.length vs ∧ NodesAt w l vs Ms ∧ Sep Ms ∧ (∀ k ∈ Ms.flatten, base ≤ k) ∧ ∀ k, v.ownBlock = some k → k ∉ Ms.flatten
theorem Grp.nil (w : World) (base : Nat) : Grp w base (.slice none 0 0) [] :=
  ⟨[], [], ⟨rfl, .inl ⟨rfl, rfl⟩⟩, by simp [NodesAt], by intro j k Lj Lk h; simp at h, by simp, by simp⟩
theorem Grp.keep {w w' : World} {base : Nat} {v : Value} {l : List Re} (h : Grp w base v l) (hk : ∀ k, base ≤ k → k < w.heap.size → w'.heap[k]? = w.heap[k]?) : Grp w' base v l := by
  obtain ⟨vs, Ms, ho, hN, hS, hB, hO⟩ := h
  exact ⟨vs, Ms, rows_move ho (fun k e => hk k (World.ownsRow.lt ho k e).1 (World.ownsRow.lt ho k e).2), hN.keep (fun k hm => hk k (hB k hm) (hN.lt k hm)), hS, hB, hO⟩
theorem Grp.two {w w' : World} {base X : Nat} {v : Value} {l : List Re} (h : Grp w base v l) (k : Two w w' X X) (hX : X < base) : Grp w' base v l :=
  h.keep fun q h1 h2 => k.block q h2 (by omega) (by omega)
theorem sep_snoc {Ms : List (List Nat)} {M : List Nat} (h : Sep Ms) (hd : ∀ x ∈ M, x ∉ Ms.flatten) : Sep (Ms ++ [M]) := by
  have mem : ∀ {j : Nat} {L : List Nat}, (Ms ++ [M])[j]? = some L → Ms[j]? = some L ∨ (j = Ms.length ∧ L = M) := by
    intro j L hj
    rcases Nat.lt_or_ge j Ms.length with hlt | hge
    · rw [List.getElem?_append_left hlt] at hj; exact .inl hj
    · rw [List.getElem?_append_right hge] at hj
      obtain ⟨i, hi⟩ : ∃ i, j = Ms.length + i := ⟨j - Ms.length, by omega⟩
      subst hi
      cases i with
      | zero => simp at hj; exact .inr ⟨rfl, hj.symm⟩
      | succ i => simp at hj
  have fl : ∀ {j : Nat} {L : List Nat} {x : Nat}, Ms[j]? = some L → x ∈ L → x ∈ Ms.flatten := fun hj hx => List.mem_flatten.2 ⟨_, List.mem_of_getElem? hj, hx⟩
  intro j k Lj Lk hj hk hne x hx hx2
  rcases mem hj with j1 | ⟨j1, j2⟩
  · rcases mem hk with k1 | ⟨k1, k2⟩
    · exact h j k Lj Lk j1 k1 hne x hx hx2
    · exact hd x (by rw [← k2]; exact hx2) (fl j1 hx)
  · rcases mem hk with k1 | ⟨k1, k2⟩
    · exact hd x (by rw [← j2]; exact hx) (fl k1 hx2)
    · exact hne (j1.trans k1.symm)
theorem nodes_snoc {w : World} {r : Re} {v : Value} {M : List Nat} (hN : NodeAt w r v M) : ∀ {l : List Re} {vs : List Value} {Ms : List (List Nat)}, NodesAt w l vs Ms → NodesAt w (l ++ [r]) (vs ++ [v]) (Ms ++ [M])
  | [], vs, Ms, h => by
    simp only [NodesAt] at h
    obtain ⟨rfl, rfl⟩ := h
    simp only [List.nil_append, NodesAt]
    exact ⟨v, [], M, [], rfl, rfl, hN, rfl, rfl⟩
  | r0 :: l, vs, Ms, h => by
    simp only [NodesAt] at h
    obtain ⟨v0, vs', M0, Ms', rfl, rfl, h0, hs⟩ := h
    simp only [List.cons_append, NodesAt]
    exact ⟨v0, vs' ++ [v], M0, Ms' ++ [M], rfl, rfl, h0, nodes_snoc hN hs⟩
theorem node_info : (Try.prog.info? 54).map (fun i => (i.zero, i.size, i.bytes)) = some (some .nilIface, 1, 16) := by kernel_rfl
theorem node_iface {w : World} : ∀ {r : Re} {v : Value} {M : List Nat}, NodeAt w r v M → v.oneCell' = true
  | .atom sp neg tk, v, M, h => by simp only [NodeAt] at h; obtain ⟨b, A, c, K, rfl, _⟩ := h; rfl
  | .row l, v, M, h => by simp only [NodeAt] at h; obtain ⟨A, c, vs, K, Ms, rfl, _⟩ := h; rfl
  | .alt l, v, M, h => by simp only [NodeAt] at h; obtain ⟨A, c, vs, K, Ms, rfl, _⟩ := h; rfl
  | .rep r no many, v, M, h => by simp only [NodeAt] at h; obtain ⟨x, rfl, _⟩ := h; rfl
theorem node_form {w : World} : ∀ {r : Re} {v : Value} {M : List Nat}, NodeAt w r v M → ∃ T x, v = .iface T x
  | .atom sp neg tk, v, M, h => by simp only [NodeAt] at h; obtain ⟨b, A, c, K, rfl, _⟩ := h; exact ⟨_, _, rfl⟩
  | .row l, v, M, h => by simp only [NodeAt] at h; obtain ⟨A, c, vs, K, Ms, rfl, _⟩ := h; exact ⟨_, _, rfl⟩
  | .alt l, v, M, h => by simp only [NodeAt] at h; obtain ⟨A, c, vs, K, Ms, rfl, _⟩ := h; exact ⟨_, _, rfl⟩
  | .rep r no many, v, M, h => by simp only [NodeAt] at h; obtain ⟨x, rfl, _⟩ := h; exact ⟨_, _, rfl⟩
/-- append of one more tree, at a walk's built-in. -/
theorem app_node {W w0 w : World} {ops : Array Oper} {rest : List Oper} {o : Oper} {a : Act} {Q : Exit → Act → World → Prop} (hgd : o.guard = none) (s y : Operand) (t : TypeId)
    (ho : o.op = .call { callee := .builtin .append, args := #[s, y], argTypes := #[t, t] }) (ht : Try.prog.underlying t = some (.slice 54))
    {X : Nat} {l : List Re} {r : Re} {M : List Nat} {nv : Value} (v : Value) (hs : a.eval s = v) (hG : Grp w0 W.heap.size v l) (hW : Two W w0 X X) (hK : Two w0 w X X) (hX : X < W.heap.size)
    (hN : NodeAt w r nv M) (hM : ∀ k ∈ M, w0.heap.size ≤ k) (hl : l.length ≤ 1000) (c : Nat) (hy : a.eval y = .slice (some ⟨w.heap.size, 0, none⟩) 1 c)
    (h : ∀ v' w', Grp w' W.heap.size v' (l ++ [r]) → Two W w' X X → w'.heap[X]? = w.heap[X]? → wpList Try.prog ops Q rest (a.put o.dst v') w') :
    wpList Try.prog ops Q (o :: rest) a (w.alloc (.cells #[nv] 54)) := by
  obtain ⟨i0, hi, hz0, hz1, hz2⟩ := info_parts node_info
  have hG1 : Grp (w.alloc (.cells #[nv] 54)) W.heap.size v l := (hG.two hK hX).keep fun k _ hk => (below_one w (.cells #[nv] 54)).block k hk
  have hlt0 : ∀ vs Ms, NodesAt w0 l vs Ms → ∀ k ∈ Ms.flatten, k < w0.heap.size := fun vs Ms hN => hN.lt
  obtain ⟨vs, Ms, ho0, hN0, hS, hB, hO⟩ := id hG
  have hown : (w.alloc (.cells #[nv] 54)).ownsRow W.heap.size 54 1 v l.length vs := by
    refine rows_move (rows_move ho0 fun k e => ?_) fun k e => (below_one w (.cells #[nv] 54)).block k (Nat.lt_of_lt_of_le (World.ownsRow.lt ho0 k e).2 hK.size)
    have := World.ownsRow.lt ho0 k e
    exact hK.block k this.2 (by omega) (by omega)
  have hN1 : NodesAt (w.alloc (.cells #[nv] 54)) l vs Ms := hN0.keep fun k hk => ((below_one w (.cells #[nv] 54)).block k (Nat.lt_of_lt_of_le (hN0.lt k hk) hK.size)).trans (hK.block k (hN0.lt k hk) (by have := hB k hk; omega) (by have := hB k hk; omega))
  have hsz : W.heap.size ≤ w.heap.size := Nat.le_trans hW.size hK.size
  refine wpList_append_own_at _ hgd s y t ho W.heap.size 54 i0 _ 1 16 ht hi hz0 hz1 hz2 rfl (by omega) v l.length vs hs hown _ 1 c [nv] hy rfl (cell_one_new w nv _) (by intro u hu; simp at hu; subst hu; exact node_iface hN) (by simp only [maxLen]; omega) (by omega) (by simp; omega) ?_
  intro v' w' h1 h2 _ h4
  have hsa : (w.alloc (.cells #[nv] 54)).heap.size = w.heap.size + 1 := by simp
  have hold : ∀ k, k < w.heap.size → v.ownBlock ≠ some k → w'.heap[k]? = w.heap[k]? := fun k hk hne => (h2.block k (by omega) (fun e => hne e.symm)).trans ((below_one w _).block k hk)
  have hMo : ∀ k ∈ M, v.ownBlock ≠ some k := fun k hk e => by have := (World.ownsRow.lt ho0 k e).2; have := hM k hk; omega
  have hN' : NodeAt w' r nv M := hN.keep fun k hk => hold k (hN.lt k hk) (hMo k hk)
  have hNs' : NodesAt w' l vs Ms := (hN0.keep fun k hk => hK.block k (hN0.lt k hk) (by have := hB k hk; omega) (by have := hB k hk; omega)).keep fun k hk => hold k (Nat.lt_of_lt_of_le (hN0.lt k hk) hK.size) (fun e => hO k e hk)
  have hfl : (Ms ++ [M]).flatten = Ms.flatten ++ M := by simp
  refine h v' w' ⟨vs ++ [nv], Ms ++ [M], ?_, nodes_snoc hN' hNs', sep_snoc hS (fun x hx hx2 => by have := hN0.lt x hx2; have := hM x hx; omega), ?_, ?_⟩ ⟨?_, ?_, ?_, ?_, ?_⟩ ?_
  · rw [List.length_append, List.length_singleton]; exact h1
  · intro k hk
    rw [hfl] at hk
    rcases List.mem_append.1 hk with hk | hk
    · exact hB k hk
    · have := hM k hk; have := hW.size; omega
  · intro k e hk
    rw [hfl] at hk
    rcases h4 with h4 | h4
    · rw [h4] at e
      rcases List.mem_append.1 hk with hk | hk
      · exact hO k e hk
      · exact hMo k hk e
    · rw [h4] at e
      injection e with e
      rcases List.mem_append.1 hk with hk | hk
      · have := hN0.lt k hk; have := hK.size; omega
      · have := hN.lt k hk; omega
  · exact h2.os.trans ((show _ = w.os from rfl).trans (hK.os.trans hW.os))
  · exact h2.tape.trans ((show _ = w.tape from rfl).trans (hK.tape.trans hW.tape))
  · exact h2.output.trans ((show _ = w.output from rfl).trans (hK.output.trans hW.output))
  · exact Nat.le_trans hsz (Nat.le_trans (by omega) h2.size)
  · intro k hk hx _
    have hne : v.ownBlock ≠ some k := fun e => by have := (World.ownsRow.lt ho0 k e).1; omega
    exact (hold k (by omega) hne).trans ((hK.block k (Nat.lt_of_lt_of_le hk hW.size) hx hx).trans (hW.block k hk hx hx))
  · exact hold X (by omega) (fun e => by have := (World.ownsRow.lt ho0 X e).1; omega)
theorem grp_blk {w : World} {base n : Nat} {v : Value} {vs : List Value} (h : w.ownsRow base 54 1 v n vs) : ∃ A c K, v = .slice A n c ∧ Blk w A 54 vs K ∧ (∀ k ∈ K, v.ownBlock = some k) ∧ ∀ k ∈ K, base ≤ k := by
  rcases h.2 with ⟨rfl, h0⟩ | ⟨g, cap, cur, rfl, hg, hh, hnc, hcm, hcs, htk⟩
  · have h1 := h.1
    rw [h0, Nat.zero_mul] at h1
    exact ⟨none, 0, [], by rw [h0], .inl ⟨List.eq_nil_of_length_eq_zero h1, rfl⟩, by simp, by simp⟩
  · refine ⟨_, cap, [g], rfl, .inr ⟨g, cur, rfl, rfl, hh, fun j u hj => ?_⟩, by simp [Value.ownBlock], by simpa using hg⟩
    have hlt := (List.getElem?_eq_some_iff.1 hj).1
    rw [← htk, List.getElem?_take] at hj
    rw [← Array.getElem?_toList]
    split at hj
    · exact hj
    · cases hj
theorem sep_cons {K : List Nat} {Ms : List (List Nat)} (h : Sep Ms) (hd : ∀ x ∈ K, x ∉ Ms.flatten) : Sep (K :: Ms) := by
  have fl : ∀ {j : Nat} {L : List Nat} {x : Nat}, Ms[j]? = some L → x ∈ L → x ∈ Ms.flatten := fun hj hx => List.mem_flatten.2 ⟨_, List.mem_of_getElem? hj, hx⟩
  intro j k Lj Lk hj hk hne x hx hx2
  cases j with
  | zero =>
    cases k with
    | zero => exact hne rfl
    | succ k => simp at hj hk; subst hj; exact hd x hx (fl hk hx2)
  | succ j =>
    cases k with
    | zero => simp at hj hk; subst hk; exact hd x hx2 (fl hj hx)
    | succ k => simp at hj hk; exact h j k Lj Lk hj hk (by omega) x hx hx2
theorem Grp.row {w : World} {base : Nat} {v : Value} {l : List Re} (h : Grp w base v l) (hl : l.length ≤ 1000) : ∃ M, NodeAt w (.row l) (.iface 90 v) M ∧ ∀ k ∈ M, base ≤ k := by
  obtain ⟨vs, Ms, ho, hN, hS, hB, hO⟩ := h
  obtain ⟨A, c, K, rfl, hK, hk1, hk2⟩ := grp_blk ho
  refine ⟨K ++ Ms.flatten, ?_, ?_⟩
  · simp only [NodeAt]
    exact ⟨A, c, vs, K, Ms, rfl, hl, hK, hN, sep_cons hS fun x hx => hO x (hk1 x hx), rfl⟩
  · intro k hk
    rcases List.mem_append.1 hk with hk | hk
    · exact hk2 k hk
    · exact hB k hk
theorem Grp.alt {w : World} {base : Nat} {v : Value} {l : List Re} (h : Grp w base v l) (hl : l.length ≤ 1000) : ∃ M, NodeAt w (.alt l) (.iface 84 v) M ∧ ∀ k ∈ M, base ≤ k := by
  obtain ⟨vs, Ms, ho, hN, hS, hB, hO⟩ := h
  obtain ⟨A, c, K, rfl, hK, hk1, hk2⟩ := grp_blk ho
  refine ⟨K ++ Ms.flatten, ?_, ?_⟩
  · simp only [NodeAt]
    exact ⟨A, c, vs, K, Ms, rfl, hl, hK, hN, sep_cons hS fun x hx => hO x (hk1 x hx), rfl⟩
  · intro k hk
    rcases List.mem_append.1 hk with hk | hk
    · exact hk2 k hk
    · exact hB k hk
theorem Grp.slice {w : World} {base : Nat} {v : Value} {l : List Re} (h : Grp w base v l) : ∃ A c, v = .slice A l.length c := by
  obtain ⟨vs, Ms, ho, hN, hS, hB, hO⟩ := h
  obtain ⟨A, c, K, rfl, hK, hk1, hk2⟩ := grp_blk ho
  exact ⟨A, c, rfl⟩
theorem Rdr.stay {w w' : World} {X : Nat} {x : List UInt8} {op dp : Nat} (h : Rdr w X x op dp) (e : w'.heap[X]? = w.heap[X]?) : Rdr w' X x op dp := by
  obtain ⟨s, hs, hr⟩ := h
  exact ⟨s, hs, e.trans hr⟩

/-- What a call of the reader's tells of a part, and leaves. -/
def Tells (w w' : World) (X op dp : Nat) (e : Ending) : Option (Re × List UInt8 × Nat) → Prop
  | none => Two w w' X X ∧ RdrAny w' X ∧ ∃ v, e = .returned (.tuple #[v, .bool false])
  | some (r, y, d) => Two w w' X X ∧ Rdr w' X y op (max dp (op + d)) ∧ ∃ v M, e = .returned (.tuple #[v, .bool true]) ∧ NodeAt w' r v M ∧ ∀ k ∈ M, w.heap.size ≤ k
def Reads (f : Nat) (q : List UInt8 → Option (Re × List UInt8 × Nat)) (m : Nat) : Prop :=
  ∀ (w : World) (X : Nat) (x : List UInt8) (op dp : Nat), Rdr w X x op dp → op ≤ dp → op + x.length ≤ 64 → x.length ≤ m →
    Calls Try.prog f #[.pointer (some ⟨X, 0, none⟩)] w fun e w' => Tells w w' X op dp e (q x)
def patR (n : Nat) (x : List UInt8) : Option (Re × List UInt8 × Nat) := (patM n x).map fun q => (.alt q.1, q.2.1, q.2.2)
def altR (n : Nat) (x : List UInt8) : Option (Re × List UInt8 × Nat) := (altM n x).map fun q => (.row q.1, q.2.1, q.2.2)
end Go.Proofs.Ytjljfilflajogaa
