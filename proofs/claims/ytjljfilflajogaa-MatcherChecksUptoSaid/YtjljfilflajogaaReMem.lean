/- Trees of a pattern in memory: a node is an interface value; the atoms' marks may turn, all else stands. What a method called through such a value tells. -/
import Derived.Test.YtjljfilflajogaaReFacts
import Derived.Test.YtjljfilflajogaaRowsG
import Derived.Shelf.Abstract
namespace Go.Proofs.Ytjljfilflajogaa
open Go.RowKit
set_option linter.unusedVariables false

/-- The values vs stand from the address A on, in the blocks K. -/
def Blk (w : World) (A : Option Addr) (t : TypeId) (vs : List Value) (K : List Nat) : Prop :=
  (vs = [] ∧ K = []) ∨ ∃ b cs, A = some ⟨b, 0, none⟩ ∧ K = [b] ∧ Row w b t cs ∧ ∀ (j : Nat) (u : Value), vs[j]? = some u → cs[j]? = some u
def spanCells (s : UInt8 × UInt8) : List Value := [.int .u8 (s.1.toNat : Int), .int .u8 (s.2.toNat : Int)]
/-- No two of these lists have one number. -/
def Sep (Ls : List (List Nat)) : Prop := ∀ (j k : Nat) (Lj Lk : List Nat), Ls[j]? = some Lj → Ls[k]? = some Lk → j ≠ k → ∀ x, x ∈ Lj → x ∉ Lk
mutual
def NodeAt (w : World) : Re → Value → List Nat → Prop
  | .atom sp neg tk, v, M => ∃ b A c K, v = .iface 86 (.pointer (some ⟨b, 0, none⟩)) ∧ sp.length ≤ 1000 ∧ Row w b 89 #[.slice A sp.length c, .bool neg, .bool tk] ∧ Blk w A 97 (sp.flatMap spanCells) K ∧ b ∉ K ∧ M = b :: K
  | .row l, v, M => ∃ A c vs K Ms, v = .iface 90 (.slice A l.length c) ∧ l.length ≤ 1000 ∧ Blk w A 54 vs K ∧ NodesAt w l vs Ms ∧ Sep (K :: Ms) ∧ M = K ++ Ms.flatten
  | .alt l, v, M => ∃ A c vs K Ms, v = .iface 84 (.slice A l.length c) ∧ l.length ≤ 1000 ∧ Blk w A 54 vs K ∧ NodesAt w l vs Ms ∧ Sep (K :: Ms) ∧ M = K ++ Ms.flatten
  | .rep r no many, v, M => ∃ x, v = .iface 92 (.agg #[x, .bool no, .bool many]) ∧ NodeAt w r x M
def NodesAt (w : World) : List Re → List Value → List (List Nat) → Prop
  | [], vs, Ms => vs = [] ∧ Ms = []
  | r :: l, vs, Ms => ∃ v vs' M Ms', vs = v :: vs' ∧ Ms = M :: Ms' ∧ NodeAt w r v M ∧ NodesAt w l vs' Ms'
end
theorem Blk.keep {w w' : World} {A : Option Addr} {t : TypeId} {vs : List Value} {K : List Nat} (h : Blk w A t vs K) (hk : ∀ k ∈ K, w'.heap[k]? = w.heap[k]?) : Blk w' A t vs K := by
  rcases h with h | ⟨b, cs, rfl, rfl, hr, hc⟩
  · exact .inl h
  · exact .inr ⟨b, cs, rfl, rfl, (hk b (by simp)).trans hr, hc⟩
mutual
theorem NodeAt.keep {w w' : World} : ∀ {r : Re} {v : Value} {M : List Nat}, NodeAt w r v M → (∀ k ∈ M, w'.heap[k]? = w.heap[k]?) → NodeAt w' r v M
  | .atom sp neg tk, v, M, h, hk => by
    simp only [NodeAt] at h ⊢
    obtain ⟨b, A, c, K, rfl, hs, hr, hB, hn, rfl⟩ := h
    exact ⟨b, A, c, K, rfl, hs, (hk b (by simp)).trans hr, hB.keep fun k hm => hk k (by simp [hm]), hn, rfl⟩
  | .row l, v, M, h, hk => by
    simp only [NodeAt] at h ⊢
    obtain ⟨A, c, vs, K, Ms, rfl, hs, hB, hN, hS, rfl⟩ := h
    exact ⟨A, c, vs, K, Ms, rfl, hs, hB.keep fun k hm => hk k (List.mem_append_left _ hm), NodesAt.keep hN fun k hm => hk k (List.mem_append_right _ hm), hS, rfl⟩
  | .alt l, v, M, h, hk => by
    simp only [NodeAt] at h ⊢
    obtain ⟨A, c, vs, K, Ms, rfl, hs, hB, hN, hS, rfl⟩ := h
    exact ⟨A, c, vs, K, Ms, rfl, hs, hB.keep fun k hm => hk k (List.mem_append_left _ hm), NodesAt.keep hN fun k hm => hk k (List.mem_append_right _ hm), hS, rfl⟩
  | .rep r no many, v, M, h, hk => by
    simp only [NodeAt] at h ⊢
    obtain ⟨x, rfl, hN⟩ := h
    exact ⟨x, rfl, NodeAt.keep hN hk⟩
theorem NodesAt.keep {w w' : World} : ∀ {l : List Re} {vs : List Value} {Ms : List (List Nat)}, NodesAt w l vs Ms → (∀ k ∈ Ms.flatten, w'.heap[k]? = w.heap[k]?) → NodesAt w' l vs Ms
  | [], vs, Ms, h, hk => by simpa only [NodesAt] using h
  | r :: l, vs, Ms, h, hk => by
    simp only [NodesAt] at h ⊢
    obtain ⟨v, vs', M, Ms', rfl, rfl, hN, hNs⟩ := h
    exact ⟨v, vs', M, Ms', rfl, rfl, NodeAt.keep hN fun k hm => hk k (by simp [hm]), NodesAt.keep hNs fun k hm => hk k (by rw [List.flatten_cons]; exact List.mem_append_right _ hm)⟩
end
theorem Row.ltr {w : World} {b : Nat} {t : TypeId} {cs : Array Value} (h : Row w b t cs) : b < w.heap.size := h.lt
theorem Blk.lt {w : World} {A : Option Addr} {t : TypeId} {vs : List Value} {K : List Nat} (h : Blk w A t vs K) : ∀ k ∈ K, k < w.heap.size := by
  rcases h with ⟨_, rfl⟩ | ⟨b, cs, rfl, rfl, hr, hc⟩
  · intro k hk; cases hk
  · intro k hk; simp at hk; subst hk; exact hr.lt
mutual
theorem NodeAt.lt {w : World} : ∀ {r : Re} {v : Value} {M : List Nat}, NodeAt w r v M → ∀ k ∈ M, k < w.heap.size
  | .atom sp neg tk, v, M, h => by
    simp only [NodeAt] at h
    obtain ⟨b, A, c, K, rfl, hs, hr, hB, hn, rfl⟩ := h
    intro k hk
    rcases List.mem_cons.1 hk with rfl | hk
    · exact hr.lt
    · exact hB.lt k hk
  | .row l, v, M, h => by
    simp only [NodeAt] at h
    obtain ⟨A, c, vs, K, Ms, rfl, hs, hB, hN, hS, rfl⟩ := h
    intro k hk
    rcases List.mem_append.1 hk with hk | hk
    · exact hB.lt k hk
    · exact NodesAt.lt hN k hk
  | .alt l, v, M, h => by
    simp only [NodeAt] at h
    obtain ⟨A, c, vs, K, Ms, rfl, hs, hB, hN, hS, rfl⟩ := h
    intro k hk
    rcases List.mem_append.1 hk with hk | hk
    · exact hB.lt k hk
    · exact NodesAt.lt hN k hk
  | .rep r no many, v, M, h => by
    simp only [NodeAt] at h
    obtain ⟨x, rfl, hN⟩ := h
    exact NodeAt.lt hN
theorem NodesAt.lt {w : World} : ∀ {l : List Re} {vs : List Value} {Ms : List (List Nat)}, NodesAt w l vs Ms → ∀ k ∈ Ms.flatten, k < w.heap.size
  | [], vs, Ms, h => by simp only [NodesAt] at h; obtain ⟨_, rfl⟩ := h; intro k hk; simp at hk
  | r :: l, vs, Ms, h => by
    simp only [NodesAt] at h
    obtain ⟨v, vs', M, Ms', rfl, rfl, hN, hNs⟩ := h
    intro k hk
    rw [List.flatten_cons] at hk
    rcases List.mem_append.1 hk with hk | hk
    · exact NodeAt.lt hN k hk
    · exact NodesAt.lt hNs k hk
end
theorem NodeAt.below {w w' : World} {r : Re} {v : Value} {M : List Nat} (h : NodeAt w r v M) (hb : Below w.heap.size w w') : NodeAt w' r v M := h.keep fun k hk => hb.block k (h.lt k hk)
theorem NodesAt.below {w w' : World} {l : List Re} {vs : List Value} {Ms : List (List Nat)} (h : NodesAt w l vs Ms) (hb : Below w.heap.size w w') : NodesAt w' l vs Ms := h.keep fun k hk => hb.block k (h.lt k hk)
theorem Blk.below {w w' : World} {A : Option Addr} {t : TypeId} {vs : List Value} {K : List Nat} (h : Blk w A t vs K) (hb : Below w.heap.size w w') : Blk w' A t vs K := h.keep fun k hk => hb.block k (h.lt k hk)
theorem NodesAt.len {w : World} : ∀ {l : List Re} {vs : List Value} {Ms : List (List Nat)}, NodesAt w l vs Ms → vs.length = l.length ∧ Ms.length = l.length
  | [], vs, Ms, h => by simp only [NodesAt] at h; obtain ⟨rfl, rfl⟩ := h; exact ⟨rfl, rfl⟩
  | r :: l, vs, Ms, h => by
    simp only [NodesAt] at h
    obtain ⟨v, vs', M, Ms', rfl, rfl, hN, hNs⟩ := h
    have := NodesAt.len hNs
    simp [this.1, this.2]
theorem NodesAt.at_ {w : World} : ∀ {l : List Re} {vs : List Value} {Ms : List (List Nat)}, NodesAt w l vs Ms → ∀ (k : Nat) (r : Re), l[k]? = some r → ∃ v M, vs[k]? = some v ∧ Ms[k]? = some M ∧ NodeAt w r v M
  | [], vs, Ms, h, k, r, hk => by simp at hk
  | r0 :: l, vs, Ms, h, k, r, hk => by
    simp only [NodesAt] at h
    obtain ⟨v, vs', M, Ms', rfl, rfl, hN, hNs⟩ := h
    cases k with
    | zero => simp at hk; subst hk; exact ⟨v, M, rfl, rfl, hN⟩
    | succ k => simp only [List.getElem?_cons_succ] at hk ⊢; exact NodesAt.at_ hNs k r hk
theorem NodesAt.of {w : World} : ∀ {l : List Re} {vs : List Value} {Ms : List (List Nat)}, vs.length = l.length → Ms.length = l.length → (∀ (k : Nat) (r : Re) (v : Value) (M : List Nat), l[k]? = some r → vs[k]? = some v → Ms[k]? = some M → NodeAt w r v M) → NodesAt w l vs Ms
  | [], vs, Ms, h1, h2, h => by simp only [NodesAt]; exact ⟨List.eq_nil_of_length_eq_zero h1, List.eq_nil_of_length_eq_zero h2⟩
  | r0 :: l, [], Ms, h1, h2, h => by simp at h1
  | r0 :: l, v :: vs, [], h1, h2, h => by simp at h2
  | r0 :: l, v :: vs, M :: Ms, h1, h2, h => by
    simp only [NodesAt]
    exact ⟨v, vs, M, Ms, rfl, rfl, h 0 r0 v M rfl rfl rfl, NodesAt.of (by simpa using h1) (by simpa using h2) fun k r v M a b c => h (k + 1) r v M (by simpa using a) (by simpa using b) (by simpa using c)⟩
/-- The cell of the k-th part. -/
theorem Blk.cell {w : World} {A : Option Addr} {t : TypeId} {vs : List Value} {K : List Nat} (h : Blk w A t vs K) {k : Nat} {v : Value} (hk : vs[k]? = some v) : ∃ b, A = some ⟨b, 0, none⟩ ∧ K = [b] ∧ b < w.heap.size ∧ ∀ (j : Nat) (u : Value), vs[j]? = some u → w.cell? ⟨b, j, none⟩ = some u := by
  rcases h with ⟨rfl, _⟩ | ⟨b, cs, rfl, rfl, hr, hc⟩
  · simp at hk
  · exact ⟨b, rfl, rfl, hr.lt, fun j u hj => by rw [hr.cell]; exact hc j u hj⟩

/-- The method m, called of v, tells R. -/
def Meth (v : Value) (m : String) (w : World) (R : Ending → World → Prop) : Prop :=
  ∃ T x f, v = .iface T x ∧ (∀ w, (method 221 T x m).run Try.prog w = .ok (f, x) w) ∧ (∀ args w, (callFunc f args).run Try.prog w = .ok (.enter f args) w) ∧ Calls Try.prog f #[x] w R
def DoneP (r : Re) : Prop := ∀ (w : World) (v : Value) (M : List Nat), NodeAt w r v M → Meth v "gauge/regex.done" w fun e w' => e = .returned (.bool (doneM r)) ∧ Below w.heap.size w w'
def EmptyP (r : Re) : Prop := ∀ (w : World) (v : Value) (M : List Nat), NodeAt w r v M → Meth v "gauge/regex.empty" w fun e w' => e = .returned (.bool (emptyM r)) ∧ Below w.heap.size w w'
end Go.Proofs.Ytjljfilflajogaa
