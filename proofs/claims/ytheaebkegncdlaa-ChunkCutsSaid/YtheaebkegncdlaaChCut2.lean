/- Cut: the pieces that it collects. -/
import Derived.Test.YtheaebkegncdlaaChCut1
namespace Go.Proofs.Ytheaebkegncdlaa
open Go.RowKit Go.Shelf
set_option linter.unusedVariables false
attribute [local go_sem] Oper.semAt_some

theorem rows_in {w w' : World} {base e k n : Nat} {v : Value} {xs : List Value} (h : w.ownsRow base e k v n xs) (hb : ∀ g cs, base ≤ g → Row w g e cs → w'.heap[g]? = w.heap[g]?) : w'.ownsRow base e k v n xs := by
  refine ⟨h.1, ?_⟩
  rcases h.2 with h2 | ⟨g, cap, cur, hv, hg, hh, r⟩
  · exact .inl h2
  · exact .inr ⟨g, cap, cur, hv, hg, (hb g cur hg hh).trans hh, r⟩
theorem rows_at_block {w : World} {base e k n g : Nat} {v : Value} {xs : List Value} (h : w.ownsRow base e k v n xs) (hv : v.ownBlock = some g) : base ≤ g ∧ ∃ cs, Row w g e cs := by
  rcases h.2 with ⟨rfl, _⟩ | ⟨g', cap, cur, rfl, hg, hh, _⟩
  · cases hv
  · simp only [Value.ownBlock, Option.some.injEq] at hv
    subst hv
    exact ⟨hg, cur, hh⟩

/-- The value v is an own row of own rows: the pieces of l that pre numbers. -/
def PcsAt (W : World) (n₀ : Nat) (l : List Smp) (v : Value) (vs : List Value) (pre : List Nat) : Prop :=
  W.ownsRow n₀ 22 1 v pre.length vs ∧ ∀ i, i < pre.length → OwnS W n₀ (vs.getD i undef) (pieceL l (pre.getD i 0))
theorem PcsAt.move {W W' : World} {n₀ : Nat} {l : List Smp} {v : Value} {vs : List Value} {pre : List Nat} (h : PcsAt W n₀ l v vs pre) (hb : ∀ g t cs, n₀ ≤ g → Row W g t cs → (t = 22 ∨ t = 44) → W'.heap[g]? = W.heap[g]?) : PcsAt W' n₀ l v vs pre :=
  ⟨rows_in h.1 fun g cs hg hr => hb g _ cs hg hr (.inl rfl), fun i hi => rows_in (h.2 i hi) fun g cs hg hr => hb g _ cs hg hr (.inr rfl)⟩
theorem PcsAt.below {W W' : World} {n₀ : Nat} {l : List Smp} {v : Value} {vs : List Value} {pre : List Nat} (h : PcsAt W n₀ l v vs pre) (hb : Below W.heap.size W W') : PcsAt W' n₀ l v vs pre := h.move fun g t cs _ hr _ => hb.block g hr.lt
theorem PcsAt.none_ (W : World) (n₀ : Nat) (l : List Smp) : PcsAt W n₀ l (.slice none 0 0) [] [] := ⟨⟨rfl, .inl ⟨rfl, rfl⟩⟩, fun i hi => by simp at hi⟩
theorem PcsAt.lower {W : World} {n₀ n₁ : Nat} {l : List Smp} {v : Value} {vs : List Value} {pre : List Nat} (h : PcsAt W n₀ l v vs pre) (hn : n₁ ≤ n₀) : PcsAt W n₁ l v vs pre := ⟨rows_lower h.1 hn, fun i hi => rows_lower (h.2 i hi) hn⟩
def Held (B n₀ : Nat) (l : List Smp) (pre : List Nat) (W : World) : Prop := ∃ v vs, Boxed W B 52 v ∧ PcsAt W n₀ l v vs pre
theorem held_own (B n₀ : Nat) (l : List Smp) : Go.Own (Held B n₀ l) := by
  rintro pre X Y row ⟨v, vs, hv, hp⟩ hg hrow
  refine ⟨v, vs, hv.kept hg (fun e => ?_), hp.move fun g t cs _ hr _ => hg.block g hr.lt (fun e => ?_)⟩
  · obtain ⟨o, ho, hc⟩ := hrow B e.symm
    rw [show X.heap[B]? = _ from hv] at ho; cases ho; cases hc
  · obtain ⟨o, ho, hc⟩ := hrow g e.symm
    rw [show X.heap[g]? = _ from hr] at ho; cases ho; cases hc

/-- A round: a piece's clone is appended, and the row goes back into its box. -/
theorem held_step {W w1 w2 : World} {B n₀ x : Nat} {l : List Smp} {pre : List Nat} {v v' cv : Value} {vs : List Value} {o : Obj} (hv : Boxed W B 52 v) (hp : PcsAt W n₀ l v vs pre) (hB : B < n₀) (hn : n₀ ≤ W.heap.size)
    (hcb : Below W.heap.size W w1) (hcv : OwnS w1 W.heap.size cv (pieceL l x)) (hg : (w1.alloc o).grownBy w2 v.ownBlock) (hr : w2.ownsRow n₀ 22 1 v' (pre.length + 1) (vs ++ [cv])) :
    Boxed w2 B 52 v ∧ Held B n₀ l (pre ++ [x]) (w2.setCell ⟨B, 0, none⟩ v') ∧ KeepsOthers W (w2.setCell ⟨B, 0, none⟩ v') ∧ ∀ m, m ≤ B → Below m W (w2.setCell ⟨B, 0, none⟩ v') ∧ ∀ k, k < n₀ → k ≠ B → (w2.setCell ⟨B, 0, none⟩ v').heap[k]? = W.heap[k]? := by
  have hlen : vs.length = pre.length := by have := hp.1.1; omega
  have hA := below_one w1 o
  have hb1 : ∀ k, k < W.heap.size → (w1.alloc o).heap[k]? = W.heap[k]? := fun k hk => (hA.block k (Nat.lt_of_lt_of_le hk hcb.size)).trans (hcb.block k hk)
  have hs1 : W.heap.size ≤ (w1.alloc o).heap.size := Nat.le_trans hcb.size hA.size
  have hset : ∀ k, k ≠ B → (w2.setCell ⟨B, 0, none⟩ v').heap[k]? = w2.heap[k]? := fun k hk => Below.heap_setCell w2 ⟨B, 0, none⟩ v' k hk
  have hfar : ∀ k, v.ownBlock ≠ some k → k < (w1.alloc o).heap.size → w2.heap[k]? = (w1.alloc o).heap[k]? := fun k hk hlt => hg.block k hlt (fun e => hk e.symm)
  have hvb : ∀ g, v.ownBlock = some g → n₀ ≤ g ∧ ∃ cs, Row W g 22 cs := fun g e => rows_at_block hp.1 e
  have hvB : v.ownBlock ≠ some B := fun e => by have := (hvb B e).1; omega
  have hv2 : Boxed w2 B 52 v := (hfar B hvB (Nat.lt_of_lt_of_le hv.lt hs1)).trans ((hb1 B hv.lt).trans hv)
  -- a row of samples stays
  have hsm : ∀ g t cs, Row W g t cs → t = 44 → (w2.setCell ⟨B, 0, none⟩ v').heap[g]? = W.heap[g]? := by
    intro g t cs hr ht
    have h1 : v.ownBlock ≠ some g := fun e => by
      obtain ⟨_, cs', h2⟩ := hvb g e
      unfold Row at hr h2
      rw [hr] at h2
      injection h2 with h2
      injection h2 with _ h2 _
      rw [ht] at h2
      exact absurd h2 (by decide)
    have h2 : g ≠ B := fun e => by
      subst e
      have h3 := (show W.heap[g]? = _ from hv)
      unfold Row at hr
      rw [hr] at h3
      injection h3 with h3
      injection h3 with _ h3 _
      rw [ht] at h3
      exact absurd h3 (by decide)
    exact (hset g h2).trans ((hfar g h1 (Nat.lt_of_lt_of_le hr.lt hs1)).trans (hb1 g hr.lt))
  have hrow' : (w2.setCell ⟨B, 0, none⟩ v').ownsRow n₀ 22 1 v' (pre ++ [x]).length (vs ++ [cv]) := by
    rw [List.length_append, List.length_singleton]
    exact rows_in hr fun g cs hg' _ => hset g (by omega)
  refine ⟨hv2, ⟨v', vs ++ [cv], hv2.set v', hrow', fun i hi => ?_⟩, ⟨?_, fun k ob hk ho => ?_⟩, fun m hm => ⟨?_, fun k hk hkB => ?_⟩⟩
  · rw [List.length_append, List.length_singleton] at hi
    by_cases he : i < pre.length
    · have e1 : (vs ++ [cv]).getD i undef = vs.getD i undef := by simp [List.getD_eq_getElem?_getD, List.getElem?_append_left (show i < vs.length by omega)]
      have e2 : (pre ++ [x]).getD i 0 = pre.getD i 0 := by simp [List.getD_eq_getElem?_getD, List.getElem?_append_left he]
      rw [e1, e2]
      exact rows_in (hp.2 i he) fun g cs _ hr => hsm g _ cs hr rfl
    · obtain rfl : i = pre.length := by omega
      have e1 : (vs ++ [cv]).getD pre.length undef = cv := by rw [← hlen]; simp [List.getD_eq_getElem?_getD]
      have e2 : (pre ++ [x]).getD pre.length 0 = x := by simp [List.getD_eq_getElem?_getD]
      rw [e1, e2]
      refine rows_lower (rows_in hcv fun g cs hgW hr => ?_) hn
      have h1 : v.ownBlock ≠ some g := fun e => by
        obtain ⟨_, cs', h2⟩ := hvb g e
        have := h2.lt
        omega
      exact (hset g (by have := hv.lt; omega)).trans ((hfar g h1 (Nat.lt_of_lt_of_le hr.lt hA.size)).trans (hA.block g hr.lt))
  · exact Nat.le_trans hs1 (Nat.le_trans hg.size (by simp [World.setCell]))
  · have hkB : k ≠ B := fun e => by
      subst e
      rw [show W.heap[k]? = _ from hv] at hk; cases hk; cases ho
    have hkv : v.ownBlock ≠ some k := fun e => by
      obtain ⟨_, cs', h2⟩ := hvb k e
      rw [show W.heap[k]? = _ from h2] at hk; cases hk; cases ho
    have hlt := (Array.getElem?_eq_some_iff.1 hk).1
    exact (hset k hkB).trans ((hfar k hkv (Nat.lt_of_lt_of_le hlt hs1)).trans ((hb1 k hlt).trans hk))
  · have h1 : Below m W (w1.alloc o) := (hcb.mono (by omega)).trans (hA.mono (Nat.le_trans (by omega) hcb.size))
    exact (h1.grown hg (Nat.le_trans (by omega) hs1) (fun k e => by have := (hvb k e).1; omega)).setCell (p := ⟨B, 0, none⟩) hm v'
  · have hkv : v.ownBlock ≠ some k := fun e => by have := (hvb k e).1; omega
    exact (hset k hkB).trans ((hfar k hkv (by omega)).trans (hb1 k (by omega)))
end Go.Proofs.Ytheaebkegncdlaa
