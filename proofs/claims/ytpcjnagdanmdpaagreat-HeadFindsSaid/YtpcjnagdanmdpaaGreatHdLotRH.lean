/- In one text, written by lotify.py: ReFacts, ReMem, ReDone, ReDone2, ReHas, ReFeed, ReFeed2, ReFits, RePars. -/
import Derived.Test.YtpcjnagdanmdpaaGreatHdLotRA
import Derived.Test.YtpcjnagdanmdpaaGreatHdLotM
import Derived.Shelf.Abstract
import Derived.StillTailTactics
import Derived.Test.YtpcjnagdanmdpaaGreatShelf
import Derived.Lib.IndexAny
namespace Go.Proofs.YtpcjnagdanmdpaaGreat
open Go.RowKit
set_option linter.unusedVariables false
@[go_sem] theorem m_done_atom (b : Nat) (w : World) : (method 311 181 (.pointer (some ⟨b, 0, none⟩)) "gauge/regex.done").run Tryz.prog w = .ok (166, (.pointer (some ⟨b, 0, none⟩))) w := by kernel_rfl
@[go_sem] theorem m_empty_atom (b : Nat) (w : World) : (method 311 181 (.pointer (some ⟨b, 0, none⟩)) "gauge/regex.empty").run Tryz.prog w = .ok (167, (.pointer (some ⟨b, 0, none⟩))) w := by kernel_rfl
@[go_sem] theorem m_done_row (p : Option Addr) (n c : Nat) (w : World) : (method 311 179 (.slice p n c) "gauge/regex.done").run Tryz.prog w = .ok (164, (.slice p n c)) w := by kernel_rfl
@[go_sem] theorem m_empty_row (p : Option Addr) (n c : Nat) (w : World) : (method 311 179 (.slice p n c) "gauge/regex.empty").run Tryz.prog w = .ok (165, (.slice p n c)) w := by kernel_rfl
@[go_sem] theorem m_done_alt (p : Option Addr) (n c : Nat) (w : World) : (method 311 175 (.slice p n c) "gauge/regex.done").run Tryz.prog w = .ok (162, (.slice p n c)) w := by kernel_rfl
@[go_sem] theorem m_empty_alt (p : Option Addr) (n c : Nat) (w : World) : (method 311 175 (.slice p n c) "gauge/regex.empty").run Tryz.prog w = .ok (163, (.slice p n c)) w := by kernel_rfl
@[go_sem] theorem m_done_rep (x : Value) (no many : Bool) (w : World) : (method 311 186 (.agg #[x, .bool no, .bool many]) "gauge/regex.done").run Tryz.prog w = .ok (168, (.agg #[x, .bool no, .bool many])) w := by kernel_rfl
@[go_sem] theorem m_empty_rep (x : Value) (no many : Bool) (w : World) : (method 311 186 (.agg #[x, .bool no, .bool many]) "gauge/regex.empty").run Tryz.prog w = .ok (169, (.agg #[x, .bool no, .bool many])) w := by kernel_rfl
@[go_sem] theorem as_atom_atom (b : Nat) (w : World) : (Instr.typeAssert (.iface 181 (.pointer (some ⟨b, 0, none⟩))) 148 181 true).run Tryz.prog w = .ok (.tuple #[(.pointer (some ⟨b, 0, none⟩)), .bool true]) w := by kernel_rfl
@[go_sem] theorem as_row_atom (p : Option Addr) (n c : Nat) (w : World) : (Instr.typeAssert (.iface 179 (.slice p n c)) 148 181 true).run Tryz.prog w = .ok (.tuple #[.pointer none, .bool false]) w := by kernel_rfl
@[go_sem] theorem as_row_row (p : Option Addr) (n c : Nat) (w : World) : (Instr.typeAssert (.iface 179 (.slice p n c)) 148 179 true).run Tryz.prog w = .ok (.tuple #[(.slice p n c), .bool true]) w := by kernel_rfl
@[go_sem] theorem as_alt_atom (p : Option Addr) (n c : Nat) (w : World) : (Instr.typeAssert (.iface 175 (.slice p n c)) 148 181 true).run Tryz.prog w = .ok (.tuple #[.pointer none, .bool false]) w := by kernel_rfl
@[go_sem] theorem as_alt_row (p : Option Addr) (n c : Nat) (w : World) : (Instr.typeAssert (.iface 175 (.slice p n c)) 148 179 true).run Tryz.prog w = .ok (.tuple #[.slice none 0 0, .bool false]) w := by kernel_rfl
@[go_sem] theorem as_alt_alt (p : Option Addr) (n c : Nat) (w : World) : (Instr.typeAssert (.iface 175 (.slice p n c)) 148 175 true).run Tryz.prog w = .ok (.tuple #[(.slice p n c), .bool true]) w := by kernel_rfl
@[go_sem] theorem as_rep_atom (x : Value) (no many : Bool) (w : World) : (Instr.typeAssert (.iface 186 (.agg #[x, .bool no, .bool many])) 148 181 true).run Tryz.prog w = .ok (.tuple #[.pointer none, .bool false]) w := by kernel_rfl
@[go_sem] theorem as_rep_row (x : Value) (no many : Bool) (w : World) : (Instr.typeAssert (.iface 186 (.agg #[x, .bool no, .bool many])) 148 179 true).run Tryz.prog w = .ok (.tuple #[.slice none 0 0, .bool false]) w := by kernel_rfl
@[go_sem] theorem as_rep_alt (x : Value) (no many : Bool) (w : World) : (Instr.typeAssert (.iface 186 (.agg #[x, .bool no, .bool many])) 148 175 true).run Tryz.prog w = .ok (.tuple #[.slice none 0 0, .bool false]) w := by kernel_rfl
@[go_sem] theorem as_rep_rep (x : Value) (no many : Bool) (w : World) : (Instr.typeAssert (.iface 186 (.agg #[x, .bool no, .bool many])) 148 186 true).run Tryz.prog w = .ok (.tuple #[(.agg #[x, .bool no, .bool many]), .bool true]) w := by kernel_rfl
/-- The values vs stand from the address A on, in the blocks K. -/
def Blk (w : World) (A : Option Addr) (t : TypeId) (vs : List Value) (K : List Nat) : Prop :=
  (vs = [] ∧ K = []) ∨ ∃ b cs, A = some ⟨b, 0, none⟩ ∧ K = [b] ∧ Row w b t cs ∧ ∀ (j : Nat) (u : Value), vs[j]? = some u → cs[j]? = some u
def spanCells (s : UInt8 × UInt8) : List Value := [.int .u8 (s.1.toNat : Int), .int .u8 (s.2.toNat : Int)]
/-- No two of these lists have one number. -/
def Sep (Ls : List (List Nat)) : Prop := ∀ (j k : Nat) (Lj Lk : List Nat), Ls[j]? = some Lj → Ls[k]? = some Lk → j ≠ k → ∀ x, x ∈ Lj → x ∉ Lk
mutual
def NodeAt (w : World) : Re → Value → List Nat → Prop
  | .atom sp neg tk, v, M => ∃ b A c K, v = .iface 181 (.pointer (some ⟨b, 0, none⟩)) ∧ sp.length ≤ 1000 ∧ Row w b 184 #[.slice A sp.length c, .bool neg, .bool tk] ∧ Blk w A 189 (sp.flatMap spanCells) K ∧ b ∉ K ∧ M = b :: K
  | .row l, v, M => ∃ A c vs K Ms, v = .iface 179 (.slice A l.length c) ∧ l.length ≤ 1000 ∧ Blk w A 148 vs K ∧ NodesAt w l vs Ms ∧ Sep (K :: Ms) ∧ M = K ++ Ms.flatten
  | .alt l, v, M => ∃ A c vs K Ms, v = .iface 175 (.slice A l.length c) ∧ l.length ≤ 1000 ∧ Blk w A 148 vs K ∧ NodesAt w l vs Ms ∧ Sep (K :: Ms) ∧ M = K ++ Ms.flatten
  | .rep r no many, v, M => ∃ x, v = .iface 186 (.agg #[x, .bool no, .bool many]) ∧ NodeAt w r x M
def NodesAt (w : World) : List Re → List Value → List (List Nat) → Prop
  | [], vs, Ms => vs = [] ∧ Ms = []
  | r :: l, vs, Ms => ∃ v vs' M Ms', vs = v :: vs' ∧ Ms = M :: Ms' ∧ NodeAt w r v M ∧ NodesAt w l vs' Ms'
end
theorem Blk.keep {w w' : World} {A : Option Addr} {t : TypeId} {vs : List Value} {K : List Nat} (h : Blk w A t vs K) (hk : ∀ k ∈ K, w'.heap[k]? = w.heap[k]?) : Blk w' A t vs K := by
  rcases h with h | ⟨b, cs, rfl, rfl, hr, hc⟩
  · exact .inl h
  · exact .inr ⟨b, cs, rfl, rfl, (hk b (by simp)).trans hr, hc⟩
mutual
theorem NodeAt.keep {w w' : World} : ∀ {r : Re} {v : Value} {M : List Nat}, NodeAt w r v M → (∀ k ∈ M, w'.heap[k]? = w.heap[k]?) → NodeAt w' r v M
  | .atom sp neg tk, v, M, h, hk => by
    simp only [NodeAt] at h ⊢
    obtain ⟨b, A, c, K, rfl, hs, hr, hB, hn, rfl⟩ := h
    exact ⟨b, A, c, K, rfl, hs, (hk b (by simp)).trans hr, hB.keep fun k hm => hk k (by simp [hm]), hn, rfl⟩
  | .row l, v, M, h, hk => by
    simp only [NodeAt] at h ⊢
    obtain ⟨A, c, vs, K, Ms, rfl, hs, hB, hN, hS, rfl⟩ := h
    exact ⟨A, c, vs, K, Ms, rfl, hs, hB.keep fun k hm => hk k (List.mem_append_left _ hm), NodesAt.keep hN fun k hm => hk k (List.mem_append_right _ hm), hS, rfl⟩
  | .alt l, v, M, h, hk => by
    simp only [NodeAt] at h ⊢
    obtain ⟨A, c, vs, K, Ms, rfl, hs, hB, hN, hS, rfl⟩ := h
    exact ⟨A, c, vs, K, Ms, rfl, hs, hB.keep fun k hm => hk k (List.mem_append_left _ hm), NodesAt.keep hN fun k hm => hk k (List.mem_append_right _ hm), hS, rfl⟩
  | .rep r no many, v, M, h, hk => by
    simp only [NodeAt] at h ⊢
    obtain ⟨x, rfl, hN⟩ := h
    exact ⟨x, rfl, NodeAt.keep hN hk⟩
theorem NodesAt.keep {w w' : World} : ∀ {l : List Re} {vs : List Value} {Ms : List (List Nat)}, NodesAt w l vs Ms → (∀ k ∈ Ms.flatten, w'.heap[k]? = w.heap[k]?) → NodesAt w' l vs Ms
  | [], vs, Ms, h, hk => by simpa only [NodesAt] using h
  | r :: l, vs, Ms, h, hk => by
    simp only [NodesAt] at h ⊢
    obtain ⟨v, vs', M, Ms', rfl, rfl, hN, hNs⟩ := h
    exact ⟨v, vs', M, Ms', rfl, rfl, NodeAt.keep hN fun k hm => hk k (by simp [hm]), NodesAt.keep hNs fun k hm => hk k (by rw [List.flatten_cons]; exact List.mem_append_right _ hm)⟩
end
theorem Blk.lt {w : World} {A : Option Addr} {t : TypeId} {vs : List Value} {K : List Nat} (h : Blk w A t vs K) : ∀ k ∈ K, k < w.heap.size := by
  rcases h with ⟨_, rfl⟩ | ⟨b, cs, rfl, rfl, hr, hc⟩
  · intro k hk; cases hk
  · intro k hk; simp at hk; subst hk; exact hr.lt
mutual
theorem NodeAt.lt {w : World} : ∀ {r : Re} {v : Value} {M : List Nat}, NodeAt w r v M → ∀ k ∈ M, k < w.heap.size
  | .atom sp neg tk, v, M, h => by
    simp only [NodeAt] at h
    obtain ⟨b, A, c, K, rfl, hs, hr, hB, hn, rfl⟩ := h
    intro k hk
    rcases List.mem_cons.1 hk with rfl | hk
    · exact hr.lt
    · exact hB.lt k hk
  | .row l, v, M, h => by
    simp only [NodeAt] at h
    obtain ⟨A, c, vs, K, Ms, rfl, hs, hB, hN, hS, rfl⟩ := h
    intro k hk
    rcases List.mem_append.1 hk with hk | hk
    · exact hB.lt k hk
    · exact NodesAt.lt hN k hk
  | .alt l, v, M, h => by
    simp only [NodeAt] at h
    obtain ⟨A, c, vs, K, Ms, rfl, hs, hB, hN, hS, rfl⟩ := h
    intro k hk
    rcases List.mem_append.1 hk with hk | hk
    · exact hB.lt k hk
    · exact NodesAt.lt hN k hk
  | .rep r no many, v, M, h => by
    simp only [NodeAt] at h
    obtain ⟨x, rfl, hN⟩ := h
    exact NodeAt.lt hN
theorem NodesAt.lt {w : World} : ∀ {l : List Re} {vs : List Value} {Ms : List (List Nat)}, NodesAt w l vs Ms → ∀ k ∈ Ms.flatten, k < w.heap.size
  | [], vs, Ms, h => by simp only [NodesAt] at h; obtain ⟨_, rfl⟩ := h; intro k hk; simp at hk
  | r :: l, vs, Ms, h => by
    simp only [NodesAt] at h
    obtain ⟨v, vs', M, Ms', rfl, rfl, hN, hNs⟩ := h
    intro k hk
    rw [List.flatten_cons] at hk
    rcases List.mem_append.1 hk with hk | hk
    · exact NodeAt.lt hN k hk
    · exact NodesAt.lt hNs k hk
end
theorem NodeAt.below {w w' : World} {r : Re} {v : Value} {M : List Nat} (h : NodeAt w r v M) (hb : Below w.heap.size w w') : NodeAt w' r v M := h.keep fun k hk => hb.block k (h.lt k hk)
theorem Blk.below {w w' : World} {A : Option Addr} {t : TypeId} {vs : List Value} {K : List Nat} (h : Blk w A t vs K) (hb : Below w.heap.size w w') : Blk w' A t vs K := h.keep fun k hk => hb.block k (h.lt k hk)
theorem NodesAt.len {w : World} : ∀ {l : List Re} {vs : List Value} {Ms : List (List Nat)}, NodesAt w l vs Ms → vs.length = l.length ∧ Ms.length = l.length
  | [], vs, Ms, h => by simp only [NodesAt] at h; obtain ⟨rfl, rfl⟩ := h; exact ⟨rfl, rfl⟩
  | r :: l, vs, Ms, h => by
    simp only [NodesAt] at h
    obtain ⟨v, vs', M, Ms', rfl, rfl, hN, hNs⟩ := h
    have := NodesAt.len hNs
    simp [this.1, this.2]
theorem NodesAt.at_ {w : World} : ∀ {l : List Re} {vs : List Value} {Ms : List (List Nat)}, NodesAt w l vs Ms → ∀ (k : Nat) (r : Re), l[k]? = some r → ∃ v M, vs[k]? = some v ∧ Ms[k]? = some M ∧ NodeAt w r v M
  | [], vs, Ms, h, k, r, hk => by simp at hk
  | r0 :: l, vs, Ms, h, k, r, hk => by
    simp only [NodesAt] at h
    obtain ⟨v, vs', M, Ms', rfl, rfl, hN, hNs⟩ := h
    cases k with
    | zero => simp at hk; subst hk; exact ⟨v, M, rfl, rfl, hN⟩
    | succ k => simp only [List.getElem?_cons_succ] at hk ⊢; exact NodesAt.at_ hNs k r hk
theorem NodesAt.of {w : World} : ∀ {l : List Re} {vs : List Value} {Ms : List (List Nat)}, vs.length = l.length → Ms.length = l.length → (∀ (k : Nat) (r : Re) (v : Value) (M : List Nat), l[k]? = some r → vs[k]? = some v → Ms[k]? = some M → NodeAt w r v M) → NodesAt w l vs Ms
  | [], vs, Ms, h1, h2, h => by simp only [NodesAt]; exact ⟨List.eq_nil_of_length_eq_zero h1, List.eq_nil_of_length_eq_zero h2⟩
  | r0 :: l, [], Ms, h1, h2, h => by simp at h1
  | r0 :: l, v :: vs, [], h1, h2, h => by simp at h2
  | r0 :: l, v :: vs, M :: Ms, h1, h2, h => by
    simp only [NodesAt]
    exact ⟨v, vs, M, Ms, rfl, rfl, h 0 r0 v M rfl rfl rfl, NodesAt.of (by simpa using h1) (by simpa using h2) fun k r v M a b c => h (k + 1) r v M (by simpa using a) (by simpa using b) (by simpa using c)⟩
/-- The cell of the k-th part. -/
theorem Blk.cell {w : World} {A : Option Addr} {t : TypeId} {vs : List Value} {K : List Nat} (h : Blk w A t vs K) {k : Nat} {v : Value} (hk : vs[k]? = some v) : ∃ b, A = some ⟨b, 0, none⟩ ∧ K = [b] ∧ b < w.heap.size ∧ ∀ (j : Nat) (u : Value), vs[j]? = some u → w.cell? ⟨b, j, none⟩ = some u := by
  rcases h with ⟨rfl, _⟩ | ⟨b, cs, rfl, rfl, hr, hc⟩
  · simp at hk
  · exact ⟨b, rfl, rfl, hr.lt, fun j u hj => by rw [hr.cell]; exact hc j u hj⟩
/-- The method m, called of v, tells R. -/
def Meth (v : Value) (m : String) (w : World) (R : Ending → World → Prop) : Prop :=
  ∃ T x f, v = .iface T x ∧ (∀ w, (method 311 T x m).run Tryz.prog w = .ok (f, x) w) ∧ (∀ args w, (callFunc f args).run Tryz.prog w = .ok (.enter f args) w) ∧ Calls Tryz.prog f #[x] w R
def DoneP (r : Re) : Prop := ∀ (w : World) (v : Value) (M : List Nat), NodeAt w r v M → Meth v "gauge/regex.done" w fun e w' => e = .returned (.bool (doneM r)) ∧ Below w.heap.size w w'
def EmptyP (r : Re) : Prop := ∀ (w : World) (v : Value) (M : List Nat), NodeAt w r v M → Meth v "gauge/regex.empty" w fun e w' => e = .returned (.bool (emptyM r)) ∧ Below w.heap.size w w'
theorem done_atom (sp : List (UInt8 × UInt8)) (neg tk : Bool) : DoneP (.atom sp neg tk) := by
  intro w v M h
  simp only [NodeAt] at h
  obtain ⟨b, A, c, K, rfl, hs, hr, hB, hn, rfl⟩ := h
  refine ⟨_, _, 166, rfl, fun w => m_done_atom b w, enters_of Tryz.func166 (by kernel_rfl) rfl, ?_⟩
  have c2 : w.cell? ⟨b, 2, none⟩ = some (.bool tk) := hr.cell 2
  go_enter Tryz.func166, Tryz.ntmps166
  go_wp2_with fail
  go_ret
  exact ⟨rfl, Below.refl _ _⟩
theorem empty_atom (sp : List (UInt8 × UInt8)) (neg tk : Bool) : EmptyP (.atom sp neg tk) := by
  intro w v M h
  simp only [NodeAt] at h
  obtain ⟨b, A, c, K, rfl, hs, hr, hB, hn, rfl⟩ := h
  refine ⟨_, _, 167, rfl, fun w => m_empty_atom b w, enters_of Tryz.func167 (by kernel_rfl) rfl, ?_⟩
  go_enter Tryz.func167, Tryz.ntmps167
  go_wp2_with fail
  go_ret
  exact ⟨rfl, Below.refl _ _⟩
theorem done_rep (r : Re) (no many : Bool) (ih : DoneP r) : DoneP (.rep r no many) := by
  intro w v M h
  simp only [NodeAt] at h
  obtain ⟨x, rfl, hN⟩ := h
  refine ⟨_, _, 168, rfl, fun w => m_done_rep x no many w, enters_of Tryz.func168 (by kernel_rfl) rfl, ?_⟩
  obtain ⟨T, y, f, rfl, hm, he, hc⟩ := ih (w.alloc (.cells #[x, .bool no, .bool many] 186)) x M (hN.below (below_one w _))
  have HC := Lib.hid hc
  clear hc hN
  go_enter Tryz.func168, Tryz.ntmps168
  go_wp2_with (go_at_fn f; refine HC.out.mono ?_; rintro e w1 ⟨rfl, hb1⟩)
  go_ret
  exact ⟨rfl, below_then (below_one w _) hb1⟩
theorem empty_rep (r : Re) (no many : Bool) (ih : EmptyP r) : EmptyP (.rep r no many) := by
  intro w v M h
  simp only [NodeAt] at h
  obtain ⟨x, rfl, hN⟩ := h
  refine ⟨_, _, 169, rfl, fun w => m_empty_rep x no many w, enters_of Tryz.func169 (by kernel_rfl) rfl, ?_⟩
  obtain ⟨T, y, f, rfl, hm, he, hc⟩ := ih (w.alloc (.cells #[x, .bool no, .bool many] 186)) x M (hN.below (below_one w _))
  have HC := Lib.hid hc
  clear hc hN
  cases no
  · go_enter Tryz.func169, Tryz.ntmps169
    go_wp2_with (go_at_fn f; refine HC.out.mono ?_; rintro e w1 ⟨rfl, hb1⟩)
    go_ret
    exact ⟨by simp [emptyM], below_then (below_one w _) hb1⟩
  · go_enter Tryz.func169, Tryz.ntmps169
    go_wp2_with (go_at_fn f; refine HC.out.mono ?_; rintro e w1 ⟨rfl, hb1⟩)
    go_ret
    exact ⟨by simp [emptyM], below_one w _⟩
/-- A suffix, one shorter. -/
theorem drop_at {α : Type} {l : List α} {k : Nat} {r : α} (h : l[k]? = some r) : l.drop k = r :: l.drop (k + 1) := by
  obtain ⟨hk, rfl⟩ := List.getElem?_eq_some_iff.1 h
  exact List.drop_eq_getElem_cons hk
theorem part_at {α : Type} (l : List α) {k : Nat} (h : k < l.length) : ∃ r, l[k]? = some r ∧ r ∈ l := ⟨l[k], List.getElem?_eq_getElem h, List.getElem_mem h⟩
theorem done_alt_ (l : List Re) (ih : ∀ r ∈ l, DoneP r) : DoneP (.alt l) := by
  intro w v M h
  simp only [NodeAt] at h
  obtain ⟨A, c, vs, K, Ms, rfl, hs, hB, hN, hS, rfl⟩ := h
  refine ⟨_, _, 162, rfl, fun w => m_done_alt A l.length c w, enters_of Tryz.func162 (by kernel_rfl) rfl, ?_⟩
  have HB := Lib.hid hB
  have HN := Lib.hid hN
  have HI := Lib.hid ih
  clear hB hN ih hS
  go_enter Tryz.func162, Tryz.ntmps162
  go_wp2_with fail
  go_loopw [7] (fun i wr => ∃ k : Nat, k ≤ l.length ∧ i = .int .i64 (k : Int) ∧ doneAny (l.drop k) = doneAny l ∧ Below w.heap.size w wr) (fun i _ => l.length - (intOf i).toNat)
  case atStart => exact ⟨0, Nat.zero_le _, rfl, rfl, Below.refl _ _⟩
  case round =>
    obtain ⟨k, hk, rfl, hd, hbr⟩ := hrel
    by_cases hlt : k < l.length
    · obtain ⟨r, hr, hmem⟩ := part_at l hlt
      obtain ⟨v, M, hv, hM, hNr⟩ := HN.out.at_ k r hr
      obtain ⟨b, rfl, rfl, hb, hcell⟩ := HB.out.cell hv
      have c0 := (hbr.cell (p := ⟨b, k, none⟩) hb).trans (hcell k v hv)
      obtain ⟨T, y, f, rfl, hm, he, hc⟩ := HI.out r hmem wr v M (hNr.below hbr)
      rw [drop_at hr, doneAny] at hd
      have HD := Lib.hid hd
      have HC := Lib.hid hc
      clear hc hd hNr hcell hv hM hr hmem
      cases hdr : doneM r
      · rw [hdr] at HC HD
        go_wp2_with fail
        go_at_fn f
        refine HC.out.mono ?_
        rintro e w1 ⟨rfl, hb1⟩
        go_wp2_with fail
        exact ⟨⟨k + 1, by omega, by go_num, by rw [← HD.out]; simp, below_then hbr hb1⟩, by simp [intOf]; omega⟩
      · rw [hdr] at HC HD
        go_wp2_with fail
        go_at_fn f
        refine HC.out.mono ?_
        rintro e w1 ⟨rfl, hb1⟩
        go_wp2_with fail
        go_ret
        exact ⟨by simp only [doneM]; rw [← HD.out]; simp, below_then hbr hb1⟩
    · obtain rfl : k = l.length := by omega
      rw [List.drop_length, doneAny] at hd
      have HD := Lib.hid hd
      clear hd
      go_wp2_with fail
      go_ret
      exact ⟨by simp only [doneM]; rw [← HD.out]; rfl, hbr⟩
theorem empty_alt_ (l : List Re) (ih : ∀ r ∈ l, EmptyP r) : EmptyP (.alt l) := by
  intro w v M h
  simp only [NodeAt] at h
  obtain ⟨A, c, vs, K, Ms, rfl, hs, hB, hN, hS, rfl⟩ := h
  refine ⟨_, _, 163, rfl, fun w => m_empty_alt A l.length c w, enters_of Tryz.func163 (by kernel_rfl) rfl, ?_⟩
  have HB := Lib.hid hB
  have HN := Lib.hid hN
  have HI := Lib.hid ih
  clear hB hN ih hS
  go_enter Tryz.func163, Tryz.ntmps163
  go_wp2_with fail
  go_loopw [7] (fun i wr => ∃ k : Nat, k ≤ l.length ∧ i = .int .i64 (k : Int) ∧ emptyAny (l.drop k) = emptyAny l ∧ Below w.heap.size w wr) (fun i _ => l.length - (intOf i).toNat)
  case atStart => exact ⟨0, Nat.zero_le _, rfl, rfl, Below.refl _ _⟩
  case round =>
    obtain ⟨k, hk, rfl, hd, hbr⟩ := hrel
    by_cases hlt : k < l.length
    · obtain ⟨r, hr, hmem⟩ := part_at l hlt
      obtain ⟨v, M, hv, hM, hNr⟩ := HN.out.at_ k r hr
      obtain ⟨b, rfl, rfl, hb, hcell⟩ := HB.out.cell hv
      have c0 := (hbr.cell (p := ⟨b, k, none⟩) hb).trans (hcell k v hv)
      obtain ⟨T, y, f, rfl, hm, he, hc⟩ := HI.out r hmem wr v M (hNr.below hbr)
      rw [drop_at hr, emptyAny] at hd
      have HD := Lib.hid hd
      have HC := Lib.hid hc
      clear hc hd hNr hcell hv hM hr hmem
      cases hdr : emptyM r
      · rw [hdr] at HC HD
        go_wp2_with fail
        go_at_fn f
        refine HC.out.mono ?_
        rintro e w1 ⟨rfl, hb1⟩
        go_wp2_with fail
        exact ⟨⟨k + 1, by omega, by go_num, by rw [← HD.out]; simp, below_then hbr hb1⟩, by simp [intOf]; omega⟩
      · rw [hdr] at HC HD
        go_wp2_with fail
        go_at_fn f
        refine HC.out.mono ?_
        rintro e w1 ⟨rfl, hb1⟩
        go_wp2_with fail
        go_ret
        exact ⟨by simp only [emptyM]; rw [← HD.out]; simp, below_then hbr hb1⟩
    · obtain rfl : k = l.length := by omega
      rw [List.drop_length, emptyAny] at hd
      have HD := Lib.hid hd
      clear hd
      go_wp2_with fail
      go_ret
      exact ⟨by simp only [emptyM]; rw [← HD.out]; rfl, hbr⟩
theorem empty_row_ (l : List Re) (ih : ∀ r ∈ l, EmptyP r) : EmptyP (.row l) := by
  intro w v M h
  simp only [NodeAt] at h
  obtain ⟨A, c, vs, K, Ms, rfl, hs, hB, hN, hS, rfl⟩ := h
  refine ⟨_, _, 165, rfl, fun w => m_empty_row A l.length c w, enters_of Tryz.func165 (by kernel_rfl) rfl, ?_⟩
  have HB := Lib.hid hB
  have HN := Lib.hid hN
  have HI := Lib.hid ih
  clear hB hN ih hS
  go_enter Tryz.func165, Tryz.ntmps165
  go_wp2_with fail
  go_loopw [7] (fun i wr => ∃ k : Nat, k ≤ l.length ∧ i = .int .i64 (k : Int) ∧ emptyAll (l.drop k) = emptyAll l ∧ Below w.heap.size w wr) (fun i _ => l.length - (intOf i).toNat)
  case atStart => exact ⟨0, Nat.zero_le _, rfl, rfl, Below.refl _ _⟩
  case round =>
    obtain ⟨k, hk, rfl, hd, hbr⟩ := hrel
    by_cases hlt : k < l.length
    · obtain ⟨r, hr, hmem⟩ := part_at l hlt
      obtain ⟨v, M, hv, hM, hNr⟩ := HN.out.at_ k r hr
      obtain ⟨b, rfl, rfl, hb, hcell⟩ := HB.out.cell hv
      have c0 := (hbr.cell (p := ⟨b, k, none⟩) hb).trans (hcell k v hv)
      obtain ⟨T, y, f, rfl, hm, he, hc⟩ := HI.out r hmem wr v M (hNr.below hbr)
      rw [drop_at hr, emptyAll] at hd
      have HD := Lib.hid hd
      have HC := Lib.hid hc
      clear hc hd hNr hcell hv hM hr hmem
      cases hdr : emptyM r
      rotate_left
      · rw [hdr] at HC HD
        go_wp2_with fail
        go_at_fn f
        refine HC.out.mono ?_
        rintro e w1 ⟨rfl, hb1⟩
        go_wp2_with fail
        exact ⟨⟨k + 1, by omega, by go_num, by rw [← HD.out]; simp, below_then hbr hb1⟩, by simp [intOf]; omega⟩
      · rw [hdr] at HC HD
        go_wp2_with fail
        go_at_fn f
        refine HC.out.mono ?_
        rintro e w1 ⟨rfl, hb1⟩
        go_wp2_with fail
        go_ret
        exact ⟨by simp only [emptyM]; rw [← HD.out]; simp, below_then hbr hb1⟩
    · obtain rfl : k = l.length := by omega
      rw [List.drop_length, emptyAll] at hd
      have HD := Lib.hid hd
      clear hd
      go_wp2_with fail
      go_ret
      exact ⟨by simp only [emptyM]; rw [← HD.out]; rfl, hbr⟩
theorem done_row_ (l : List Re) (ih : ∀ r ∈ l, DoneP r) (ie : ∀ r ∈ l, EmptyP r) : DoneP (.row l) := by
  intro w v M h
  simp only [NodeAt] at h
  obtain ⟨A, c, vs, K, Ms, rfl, hs, hB, hN, hS, rfl⟩ := h
  refine ⟨_, _, 164, rfl, fun w => m_done_row A l.length c w, enters_of Tryz.func164 (by kernel_rfl) rfl, ?_⟩
  have HB := Lib.hid hB
  have HN := Lib.hid hN
  have HI := Lib.hid ih
  have HE := Lib.hid ie
  clear hB hN ih ie hS
  go_enter Tryz.func164, Tryz.ntmps164
  go_wp2_with fail
  go_loopw [3, 8] (fun d i wr => ∃ (k : Nat) (dd : Bool), k ≤ l.length ∧ d = .bool dd ∧ i = .int .i64 (k : Int) ∧ doneRow dd (l.drop k) = doneRow false l ∧ Below w.heap.size w wr) (fun _ i _ => l.length - (intOf i).toNat)
  case atStart => exact ⟨0, false, Nat.zero_le _, rfl, rfl, rfl, Below.refl _ _⟩
  case round =>
    obtain ⟨k, dd, hk, rfl, rfl, hd, hbr⟩ := hrel
    by_cases hlt : k < l.length
    · obtain ⟨r, hr, hmem⟩ := part_at l hlt
      obtain ⟨v, M, hv, hM, hNr⟩ := HN.out.at_ k r hr
      obtain ⟨b, rfl, rfl, hb, hcell⟩ := HB.out.cell hv
      have c0 := (hbr.cell (p := ⟨b, k, none⟩) hb).trans (hcell k v hv)
      obtain ⟨T, y, f, rfl, hm, he, hc⟩ := HI.out r hmem wr v M (hNr.below hbr)
      rw [drop_at hr, doneRow] at hd
      have HD := Lib.hid hd
      have HC := Lib.hid hc
      have HNr := Lib.hid (hNr.below hbr)
      have HEr := Lib.hid (HE.out r hmem)
      clear hc hd hNr hcell hv hM hr hmem
      cases hdr : doneM r
      · cases dd
        · rw [hdr] at HC HD
          go_wp2_with fail
          go_at_fn f
          refine HC.out.mono ?_
          rintro e w1 ⟨rfl, hb1⟩
          go_wp2_with fail
          exact ⟨⟨k + 1, false, by omega, rfl, by go_num, by rw [← HD.out]; simp, below_then hbr hb1⟩, by simp [intOf]; omega⟩
        · rw [hdr] at HC HD
          go_wp2_with fail
          go_at_fn f
          refine HC.out.mono ?_
          rintro e w1 ⟨rfl, hb1⟩
          obtain ⟨T2, y2, f2, e2, hm2, he2, hc2⟩ := HEr.out w1 _ M (HNr.out.below hb1)
          injection e2 with e2 e3
          subst e2
          subst e3
          have HC2 := Lib.hid hc2
          clear hc2
          go_wp2_with fail
          go_at_fn f2
          refine HC2.out.mono ?_
          rintro e w2 ⟨rfl, hb2⟩
          go_wp2_with fail
          exact ⟨⟨k + 1, emptyM r, by omega, rfl, by go_num, by rw [← HD.out]; simp, below_then (below_then hbr hb1) hb2⟩, by simp [intOf]; omega⟩
      · rw [hdr] at HC HD
        go_wp2_with fail
        go_at_fn f
        refine HC.out.mono ?_
        rintro e w1 ⟨rfl, hb1⟩
        go_wp2_with fail
        exact ⟨⟨k + 1, true, by omega, rfl, by go_num, by rw [← HD.out]; simp, below_then hbr hb1⟩, by simp [intOf]; omega⟩
    · obtain rfl : k = l.length := by omega
      rw [List.drop_length, doneRow] at hd
      have HD := Lib.hid hd
      clear hd
      go_wp2_with fail
      go_ret
      exact ⟨by simp only [doneM]; rw [← HD.out]; rfl, hbr⟩
mutual
theorem empty_all : ∀ (r : Re), EmptyP r
  | .atom sp neg tk => empty_atom sp neg tk
  | .row l => empty_row_ l (empty_list l)
  | .alt l => empty_alt_ l (empty_list l)
  | .rep r no many => empty_rep r no many (empty_all r)
theorem empty_list : ∀ (l : List Re), ∀ r ∈ l, EmptyP r
  | [], r, h => nomatch h
  | r0 :: l, r, h => (List.mem_cons.1 h).elim (fun e => e ▸ empty_all r0) (fun h => empty_list l r h)
end
mutual
theorem done_all : ∀ (r : Re), DoneP r
  | .atom sp neg tk => done_atom sp neg tk
  | .row l => done_row_ l (done_list l) (empty_list l)
  | .alt l => done_alt_ l (done_list l)
  | .rep r no many => done_rep r no many (done_all r)
theorem done_list : ∀ (l : List Re), ∀ r ∈ l, DoneP r
  | [], r, h => nomatch h
  | r0 :: l, r, h => (List.mem_cons.1 h).elim (fun e => e ▸ done_all r0) (fun h => done_list l r h)
end
theorem spanCells_len (s : UInt8 × UInt8) : (spanCells s).length = 2 := rfl
theorem has_prog {w : World} {b : Nat} {A : Option Addr} {cc : Nat} {K : List Nat} {sp : List (UInt8 × UInt8)} {neg tk : Bool} (hr : Row w b 184 #[.slice A sp.length cc, .bool neg, .bool tk]) (hB : Blk w A 189 (sp.flatMap spanCells) K) (hs : sp.length ≤ 1000) (c : UInt8) :
    Calls Tryz.prog 133 #[.pointer (some ⟨b, 0, none⟩), .int .u8 (c.toNat : Int)] w fun e w' => e = .returned (.bool (hasB sp neg c)) ∧ Below w.heap.size w w' := by
  have hnot : ∀ (x : Bool) (w : World), (Op.unary .not (.bool x)).run Tryz.prog w = .ok (.bool (!x)) w := fun _ _ => rfl
  have c0 : w.cell? ⟨b, 0, none⟩ = some (.slice A sp.length cc) := hr.cell 0
  have HB := Lib.hid hB
  have HR := Lib.hid hr
  have hbl := hr.lt
  clear hB hr
  go_enter Tryz.func133, Tryz.ntmps133
  go_wp2_with fail
  go_loopw [12] (fun i wr => ∃ k : Nat, k ≤ sp.length ∧ i = .int .i64 (k : Int) ∧ (sp.take k).any (spanHas c) = false ∧ Below w.heap.size w wr) (fun i _ => sp.length - (intOf i).toNat)
  case atStart => exact ⟨0, Nat.zero_le _, rfl, rfl, Below.refl _ _⟩
  case round =>
    obtain ⟨k, hk, rfl, hd, hbr⟩ := hrel
    have hsz := hbr.size
    have hbw : b < wr.heap.size := by omega
    have k1 : wr.cell? ⟨b, 1, none⟩ = some (.bool neg) := (hbr.cell (p := ⟨b, 1, none⟩) hbl).trans (HR.out.cell 1)
    by_cases hlt : k < sp.length
    · obtain ⟨s, hsk, _⟩ := part_at sp hlt
      have f0 : (sp.flatMap spanCells)[k * 2]? = some (.int .u8 (s.1.toNat : Int)) := by rw [show k * 2 = k * 2 + 0 from rfl, flat_get spanCells 2 spanCells_len sp k s 0 hsk (by omega)]; rfl
      have f1 : (sp.flatMap spanCells)[k * 2 + 1]? = some (.int .u8 (s.2.toNat : Int)) := by rw [flat_get spanCells 2 spanCells_len sp k s 1 hsk (by omega)]; rfl
      obtain ⟨g, rfl, rfl, hg, hcell⟩ := HB.out.cell f0
      have e0 := (hbr.cell (p := ⟨g, k * 2, none⟩) hg).trans (hcell _ _ f0)
      have e1 := (hbr.cell (p := ⟨g, k * 2 + 1, none⟩) hg).trans (hcell _ _ f1)
      have HA := Lib.hid (show (sp.take (k + 1)).any (spanHas c) = (decide (s.1 ≤ c) && decide (c ≤ s.2)) by rw [List.take_add_one, hsk, List.any_append, hd]; simp [spanHas])
      have HY := Lib.hid (fun (h : (decide (s.1 ≤ c) && decide (c ≤ s.2)) = true) => show hasB sp neg c = !neg by
        have : sp.any (spanHas c) = true := List.any_eq_true.2 ⟨s, List.mem_of_getElem? hsk, h⟩
        unfold hasB; rw [this]; rfl)
      have q1 : decide ((s.1.toNat : Int) ≤ (c.toNat : Int)) = decide (s.1 ≤ c) := by rw [decide_eq_decide, UInt8.le_iff_toNat_le]; omega
      have q2 : decide ((c.toNat : Int) ≤ (s.2.toNat : Int)) = decide (c ≤ s.2) := by rw [decide_eq_decide, UInt8.le_iff_toNat_le]; omega
      have q3 : decide (s.1.toNat ≤ c.toNat) = decide (s.1 ≤ c) := by rw [decide_eq_decide, UInt8.le_iff_toNat_le]
      have q4 : decide (c.toNat ≤ s.2.toNat) = decide (c ≤ s.2) := by rw [decide_eq_decide, UInt8.le_iff_toNat_le]
      clear hsk f0 f1 hcell hd
      generalize s.1.toNat = n1 at *
      generalize s.2.toNat = n2 at *
      cases h1 : decide (s.1 ≤ c)
      · rw [h1] at HA HY q1 q3
        go_wp2_with fail
        exact ⟨⟨k + 1, by omega, by go_num, by rw [HA.out]; rfl, hbr.alloc hsz _⟩, by simp [intOf]; omega⟩
      · cases h2 : decide (c ≤ s.2)
        · rw [h1, h2] at HA HY
          rw [h1] at q1 q3
          rw [h2] at q2 q4
          go_wp2_with fail
          exact ⟨⟨k + 1, by omega, by go_num, by rw [HA.out]; rfl, hbr.alloc hsz _⟩, by simp [intOf]; omega⟩
        · rw [h1, h2] at HA HY
          rw [h1] at q1 q3
          rw [h2] at q2 q4
          go_wp2_with fail
          go_ret
          exact ⟨by rw [HY.out rfl]; rfl, hbr.alloc hsz _⟩
    · obtain rfl : k = sp.length := by omega
      rw [List.take_length] at hd
      have HD := Lib.hid (show hasB sp neg c = neg by unfold hasB; rw [hd]; rfl)
      clear hd
      go_wp2_with fail
      go_ret
      exact ⟨by rw [HD.out]; rfl, hbr⟩
/-- But for the blocks of M, and for what is new, nothing has turned. -/
structure Touch (w w' : World) (M : List Nat) : Prop where
  os : w'.os = w.os
  tape : w'.tape = w.tape
  output : w'.output = w.output
  size : w.heap.size ≤ w'.heap.size
  block : ∀ k, k < w.heap.size → k ∉ M → w'.heap[k]? = w.heap[k]?
theorem Touch.refl (w : World) (M : List Nat) : Touch w w M := ⟨rfl, rfl, rfl, Nat.le_refl _, fun _ _ _ => rfl⟩
theorem Touch.trans {a b c : World} {M : List Nat} (h : Touch a b M) (k : Touch b c M) : Touch a c M := ⟨k.os.trans h.os, k.tape.trans h.tape, k.output.trans h.output, Nat.le_trans h.size k.size, fun i hi hn => (k.block i (Nat.lt_of_lt_of_le hi h.size) hn).trans (h.block i hi hn)⟩
theorem Touch.mono {a b : World} {M M' : List Nat} (h : Touch a b M) (hm : ∀ k ∈ M, k ∈ M') : Touch a b M' := ⟨h.os, h.tape, h.output, h.size, fun i hi hn => h.block i hi fun hh => hn (hm i hh)⟩
theorem Touch.below {a b c : World} {M : List Nat} (h : Touch a b M) (k : Below b.heap.size b c) : Touch a c M := ⟨k.os.trans h.os, k.tape.trans h.tape, k.output.trans h.output, Nat.le_trans h.size k.size, fun i hi hn => (k.block i (Nat.lt_of_lt_of_le hi h.size)).trans (h.block i hi hn)⟩
theorem Touch.of_below {a b : World} {M : List Nat} (k : Below a.heap.size a b) : Touch a b M := (Touch.refl a M).below k
theorem Touch.set {a b : World} {M : List Nat} (h : Touch a b M) {p : Addr} (hp : p.block ∈ M) (u : Value) : Touch a (b.setCell p u) M :=
  ⟨h.os, h.tape, h.output, by simpa [World.setCell] using h.size, fun i hi hn => (Below.heap_setCell b p u i (fun e => hn (e ▸ hp))).trans (h.block i hi hn)⟩
theorem Touch.node {w w' : World} {M N : List Nat} {r : Re} {v : Value} (h : Touch w w' M) (hN : NodeAt w r v N) (hd : ∀ x ∈ N, x ∉ M) : NodeAt w' r v N := hN.keep fun k hk => h.block k (hN.lt k hk) (hd k hk)
theorem Touch.blk {w w' : World} {M N : List Nat} {A : Option Addr} {t : TypeId} {vs : List Value} (h : Touch w w' M) (hN : Blk w A t vs N) (hd : ∀ x ∈ N, x ∉ M) : Blk w' A t vs N := hN.keep fun k hk => h.block k (hN.lt k hk) (hd k hk)
theorem Sep.tail {K : List Nat} {Ms : List (List Nat)} (h : Sep (K :: Ms)) : Sep Ms := fun j k Lj Lk hj hk hne => h (j + 1) (k + 1) Lj Lk (by simpa using hj) (by simpa using hk) (by omega)
theorem Sep.head {K : List Nat} {Ms : List (List Nat)} (h : Sep (K :: Ms)) : ∀ x ∈ K, x ∉ Ms.flatten := by
  intro x hx hf
  obtain ⟨M, hM, hxM⟩ := List.mem_flatten.1 hf
  obtain ⟨k, hk⟩ := List.getElem?_of_mem hM
  exact h 0 (k + 1) K M rfl (by simpa using hk) (by omega) x hx hxM
theorem nodes_turn {w w' : World} {pre rest : List Re} {r r' : Re} {vs : List Value} {Ms : List (List Nat)} {v : Value} {M : List Nat} (h : NodesAt w (pre ++ r :: rest) vs Ms) (hS : Sep Ms) (hv : vs[pre.length]? = some v) (hM : Ms[pre.length]? = some M) (hN : NodeAt w' r' v M) (ht : Touch w w' M) :
    NodesAt w' (pre ++ r' :: rest) vs Ms := by
  have hl := h.len
  refine NodesAt.of (by rw [hl.1]; simp) (by rw [hl.2]; simp) ?_
  intro k r2 v2 M2 hr2 hv2 hM2
  by_cases hk : k = pre.length
  · subst hk
    rw [hv] at hv2
    rw [hM] at hM2
    cases hv2
    cases hM2
    simp at hr2
    subst hr2
    exact hN
  · have e : (pre ++ r' :: rest)[k]? = (pre ++ r :: rest)[k]? := by
      rcases Nat.lt_or_ge k pre.length with hlt | hge
      · rw [List.getElem?_append_left hlt, List.getElem?_append_left hlt]
      · rw [List.getElem?_append_right hge, List.getElem?_append_right hge]
        obtain ⟨j, hj⟩ : ∃ j, k - pre.length = j + 1 := ⟨k - pre.length - 1, by omega⟩
        rw [hj]
        simp
    rw [e] at hr2
    obtain ⟨v3, M3, hv3, hM3, hN3⟩ := h.at_ k r2 hr2
    rw [hv2] at hv3
    rw [hM2] at hM3
    cases hv3
    cases hM3
    exact ht.node hN3 (fun x hx => hS k pre.length M2 M hM2 hM hk x hx)
theorem empty_feed (c : UInt8) (b : Bool) (r : Re) : emptyM (feedM c b r) = emptyM r := by
  rw [Bool.eq_iff_iff, empty_L, empty_L, feed_L]
def FeedP (r : Re) : Prop := ∀ (w : World) (v : Value) (M : List Nat) (c : UInt8) (b : Bool), NodeAt w r v M →
  Calls Tryz.prog 126 #[v, .int .u8 (c.toNat : Int), .bool b] w fun e w' => e = .returned (.tuple #[]) ∧ NodeAt w' (feedM c b r) v M ∧ Touch w w' M
theorem feed_atom (sp : List (UInt8 × UInt8)) (neg tk : Bool) : FeedP (.atom sp neg tk) := by
  intro w v M c b0 h
  simp only [NodeAt, feedM] at h ⊢
  obtain ⟨b, A, cc, K, rfl, hs, hr, hB, hn, rfl⟩ := h
  have HR := Lib.hid hr
  have HB := Lib.hid hB
  have HP := Lib.hid (fun (w1 : World) (hb1 : Below w.heap.size w w1) (x : Bool) => show (∃ b_1 A_1 c_1 K_1, Value.iface 181 (.pointer (some ⟨b, 0, none⟩)) = .iface 181 (.pointer (some ⟨b_1, 0, none⟩)) ∧ sp.length ≤ 1000 ∧ Row (w1.setCell ⟨b, 2, none⟩ (.bool x)) b_1 184 #[.slice A_1 sp.length c_1, .bool neg, .bool x] ∧ Blk (w1.setCell ⟨b, 2, none⟩ (.bool x)) A_1 189 (sp.flatMap spanCells) K_1 ∧ b_1 ∉ K_1 ∧ b :: K = b_1 :: K_1) ∧ Touch w (w1.setCell ⟨b, 2, none⟩ (.bool x)) (b :: K) from by
    have hr1 : Row w1 b _ _ := hr.below hb1 hr.lt
    have ht : Touch w (w1.setCell ⟨b, 2, none⟩ (.bool x)) (b :: K) := (Touch.of_below hb1).set (p := ⟨b, 2, none⟩) (by simp) _
    exact ⟨⟨b, A, cc, K, rfl, hs, hr1.setAt 2 _, (hB.below hb1).keep fun k hk => Below.heap_setCell w1 ⟨b, 2, none⟩ _ k (fun e => hn (by have e' : k = b := e; rw [← e']; exact hk)), hn, rfl⟩, ht⟩)
  have f2 := hr.frozen 2
  have c2 := hr.cell 2
  have hlt := hr.lt
  have hH := has_prog hr hB hs c
  have HH := Lib.hid hH
  clear hr hB hH
  cases b0
  · go_enter Tryz.func126, Tryz.ntmps126
    go_wp2_with fail
    go_end0
    exact ⟨rfl, HP.out w (Below.refl _ _) false⟩
  · go_enter Tryz.func126, Tryz.ntmps126
    go_wp2_with (go_at_call 133; refine HH.out.mono ?_; rintro e w1 ⟨rfl, hb1⟩; have f2' := (hb1.frozen (p := ⟨b, 2, none⟩) hlt).trans f2; have c2' := (hb1.cell (p := ⟨b, 2, none⟩) hlt).trans c2; have HB1 := Lib.hid hb1)
    go_end0
    exact ⟨rfl, HP.out _ HB1.out _⟩
theorem feed_alt_ (l : List Re) (ih : ∀ r ∈ l, FeedP r) : FeedP (.alt l) := by
  intro w v M c b0 h
  simp only [NodeAt, feedM] at h ⊢
  obtain ⟨A, cc, vs, K, Ms, rfl, hs, hB, hN, hS, rfl⟩ := h
  have HB := Lib.hid hB
  have HN := Lib.hid hN
  have HI := Lib.hid ih
  have HS := Lib.hid hS
  clear hB hN ih hS
  go_enter Tryz.func126, Tryz.ntmps126
  go_wp2_with fail
  go_loopw [57] (fun i wr => ∃ (k : Nat) (pre : List Re), pre.length = k ∧ k ≤ l.length ∧ i = .int .i64 (k : Int) ∧ NodesAt wr (pre ++ l.drop k) vs Ms ∧ pre ++ feedAll c b0 (l.drop k) = feedAll c b0 l ∧ Touch w wr Ms.flatten) (fun i _ => l.length - (intOf i).toNat)
  case atStart => exact ⟨0, [], rfl, Nat.zero_le _, rfl, by simpa using HN.out, rfl, Touch.refl _ _⟩
  case round =>
    obtain ⟨k, pre, hpl, hk, rfl, hNr, hd, ht⟩ := hrel
    by_cases hlt : k < l.length
    · obtain ⟨r, hr, hmem⟩ := part_at l hlt
      rw [drop_at hr] at hNr hd
      obtain ⟨v, M, hv, hM, hNk⟩ := hNr.at_ k r (by rw [← hpl]; simp)
      obtain ⟨b, rfl, rfl, hb, hcell⟩ := HB.out.cell hv
      have hbn : b ∉ Ms.flatten := HS.out.head b (by simp)
      have c0 : wr.cell? ⟨b, k, none⟩ = some v := (World.cell?_of_block (w := w) (a := ⟨b, k, none⟩) (ht.block b hb hbn)).trans (hcell k v hv)
      rw [feedAll] at hd
      have HD := Lib.hid hd
      have HNr := Lib.hid hNr
      have HNk := Lib.hid hNk
      have HV := Lib.hid hv
      have HM := Lib.hid hM
      have HT := Lib.hid ht
      have HP := Lib.hid hpl
      have HIr := Lib.hid (HI.out r hmem)
      clear hd hNr hNk hcell hv hM hr hmem ht hpl
      go_wp2_with (go_at_call 126; refine (HIr.out _ _ M c b0 HNk.out).mono ?_; rintro e w1 ⟨rfl, hn1, ht1⟩)
      have hl := HP.out
      refine ⟨⟨k + 1, pre ++ [feedM c b0 r], by rw [List.length_append, hl]; rfl, by omega, by go_num, ?_, by rw [List.append_assoc]; exact HD.out, HT.out.trans (ht1.mono fun x hx => List.mem_flatten.2 ⟨M, List.mem_of_getElem? HM.out, hx⟩)⟩, by simp [intOf]; omega⟩
      rw [List.append_assoc]
      exact nodes_turn HNr.out HS.out.tail (by rw [hl]; exact HV.out) (by rw [hl]; exact HM.out) hn1 ht1
    · obtain rfl : k = l.length := by omega
      rw [List.drop_length] at hNr hd
      rw [List.append_nil] at hNr
      simp only [feedAll, List.append_nil] at hd
      have HD := Lib.hid hd
      have HNr := Lib.hid hNr
      have HT := Lib.hid ht
      have HP := Lib.hid hpl
      clear hd hNr ht hpl
      go_wp2_with fail
      go_end0
      refine ⟨rfl, ⟨A, cc, vs, K, Ms, ?_, ?_, HT.out.blk HB.out HS.out.head, by rw [← HD.out]; exact HNr.out, HS.out, rfl⟩, HT.out.mono fun x hx => List.mem_append_right _ hx⟩
      · rw [← HD.out, HP.out]
      · rw [← HD.out, HP.out]; exact hs
theorem feed_row_ (l : List Re) (ih : ∀ r ∈ l, FeedP r) : FeedP (.row l) := by
  intro w v M c b0 h
  simp only [NodeAt, feedM] at h ⊢
  obtain ⟨A, cc, vs, K, Ms, rfl, hs, hB, hN, hS, rfl⟩ := h
  have HB := Lib.hid hB
  have HN := Lib.hid hN
  have HI := Lib.hid ih
  have HS := Lib.hid hS
  clear hB hN ih hS
  go_enter Tryz.func126, Tryz.ntmps126
  go_wp2_with fail
  go_loopw [2, 33] (fun bb i wr => ∃ (k : Nat) (b1 : Bool) (pre : List Re), pre.length = k ∧ k ≤ l.length ∧ bb = .bool b1 ∧ i = .int .i64 (k : Int) ∧ NodesAt wr (pre ++ l.drop k) vs Ms ∧ pre ++ feedRow c b1 (l.drop k) = feedRow c b0 l ∧ Touch w wr Ms.flatten) (fun _ i _ => l.length - (intOf i).toNat)
  case atStart => exact ⟨0, b0, [], rfl, Nat.zero_le _, rfl, rfl, by simpa using HN.out, rfl, Touch.refl _ _⟩
  case round =>
    obtain ⟨k, b1, pre, hpl, hk, rfl, rfl, hNr, hd, ht⟩ := hrel
    by_cases hlt : k < l.length
    · obtain ⟨r, hr, hmem⟩ := part_at l hlt
      rw [drop_at hr] at hNr hd
      obtain ⟨v, M, hv, hM, hNk⟩ := hNr.at_ k r (by rw [← hpl]; simp)
      obtain ⟨b, rfl, rfl, hb, hcell⟩ := HB.out.cell hv
      have hbn : b ∉ Ms.flatten := HS.out.head b (by simp)
      have c0 : wr.cell? ⟨b, k, none⟩ = some v := (World.cell?_of_block (w := w) (a := ⟨b, k, none⟩) (ht.block b hb hbn)).trans (hcell k v hv)
      obtain ⟨T, y, f, rfl, hm, he, hc⟩ := done_all r wr v M hNk
      rw [feedRow] at hd
      have HD := Lib.hid hd
      have HNr := Lib.hid hNr
      have HNk := Lib.hid hNk
      have HV := Lib.hid hv
      have HM := Lib.hid hM
      have HT := Lib.hid ht
      have HP := Lib.hid hpl
      have HC := Lib.hid hc
      have HIr := Lib.hid (HI.out r hmem)
      clear hd hNr hNk hcell hv hM hr hmem ht hpl hc
      have HQ := Lib.hid (fun (w1 w2 w3 : World) (b2 : Bool) (hb1 : Below wr.heap.size wr w1) (hn1 : NodeAt w2 (feedM c b1 r) (.iface T y) M) (ht1 : Touch w1 w2 M) (hb3 : Below w2.heap.size w2 w3) (e2 : b2 = (doneM r || b1 && emptyM r)) =>
        show (∃ (k' : Nat) (b1' : Bool) (pre' : List Re), pre'.length = k' ∧ k' ≤ l.length ∧ Value.bool b2 = .bool b1' ∧ Value.int .i64 ((k : Int) + 1) = .int .i64 (k' : Int) ∧ NodesAt w3 (pre' ++ l.drop k') vs Ms ∧ pre' ++ feedRow c b1' (l.drop k') = feedRow c b0 l ∧ Touch w w3 Ms.flatten) from by
          have ht3 : Touch wr w3 M := ((Touch.of_below hb1).trans ht1).below hb3
          refine ⟨k + 1, b2, pre ++ [feedM c b1 r], by rw [List.length_append, HP.out]; rfl, by omega, rfl, by simp, ?_, by rw [List.append_assoc, e2]; exact HD.out, HT.out.trans (ht3.mono fun x hx => List.mem_flatten.2 ⟨M, List.mem_of_getElem? HM.out, hx⟩)⟩
          rw [List.append_assoc]
          exact nodes_turn HNr.out HS.out.tail (by rw [HP.out]; exact HV.out) (by rw [HP.out]; exact HM.out) (hn1.below hb3) ht3)
      cases hdr : doneM r
      · cases b1
        · rw [hdr] at HC HQ
          go_wp2_with (first
            | (go_at_fn f; refine HC.out.mono ?_; rintro e w1 ⟨rfl, hb1⟩; have HB1 := Lib.hid hb1; clear hb1)
            | (go_at_call 126; refine (HIr.out _ _ M c false (HNk.out.below HB1.out)).mono ?_; rintro e w2 ⟨rfl, hn1, ht1⟩; have HN1 := Lib.hid hn1; have HT1 := Lib.hid ht1; clear hn1 ht1))
          exact ⟨HQ.out _ _ _ _ HB1.out HN1.out HT1.out (Below.refl _ _) rfl, by simp [intOf]; omega⟩
        · rw [hdr] at HC HQ
          go_wp2_with (first
            | (go_at_fn f; refine HC.out.mono ?_; rintro e w1 ⟨rfl, hb1⟩; have HB1 := Lib.hid hb1; clear hb1)
            | (go_at_call 126; refine (HIr.out _ _ M c true (HNk.out.below HB1.out)).mono ?_; rintro e w2 ⟨rfl, hn1, ht1⟩; have HN1 := Lib.hid hn1; have HT1 := Lib.hid ht1; clear hn1 ht1
               obtain ⟨T2, y2, f2, e2, hm2, he2, hc2⟩ := empty_all _ w2 _ M HN1.out
               rw [empty_feed] at hc2
               injection e2 with e2 e3
               subst e2
               subst e3
               have HC2 := Lib.hid hc2
               clear hc2)
            | (go_at_fn f2; refine HC2.out.mono ?_; rintro e w3 ⟨rfl, hb3⟩; have HB3 := Lib.hid hb3; clear hb3))
          exact ⟨HQ.out _ _ _ _ HB1.out HN1.out HT1.out HB3.out (by simp), by simp [intOf]; omega⟩
      · rw [hdr] at HC HQ
        go_wp2_with (first
          | (go_at_fn f; refine HC.out.mono ?_; rintro e w1 ⟨rfl, hb1⟩; have HB1 := Lib.hid hb1; clear hb1)
          | (go_at_call 126; refine (HIr.out _ _ M c b1 (HNk.out.below HB1.out)).mono ?_; rintro e w2 ⟨rfl, hn1, ht1⟩; have HN1 := Lib.hid hn1; have HT1 := Lib.hid ht1; clear hn1 ht1))
        exact ⟨HQ.out _ _ _ _ HB1.out HN1.out HT1.out (Below.refl _ _) rfl, by simp [intOf]; omega⟩
    · obtain rfl : k = l.length := by omega
      rw [List.drop_length] at hNr hd
      rw [List.append_nil] at hNr
      simp only [feedRow, List.append_nil] at hd
      have HD := Lib.hid hd
      have HNr := Lib.hid hNr
      have HT := Lib.hid ht
      have HP := Lib.hid hpl
      clear hd hNr ht hpl
      go_wp2_with fail
      go_end0
      refine ⟨rfl, ⟨A, cc, vs, K, Ms, ?_, ?_, HT.out.blk HB.out HS.out.head, by rw [← HD.out]; exact HNr.out, HS.out, rfl⟩, HT.out.mono fun x hx => List.mem_append_right _ hx⟩
      · rw [← HD.out, HP.out]
      · rw [← HD.out, HP.out]; exact hs
/-- The walk of a still head, its own unfolding out of sight: where operations are passed over, nothing runs on by itself. -/
theorem still_opaque {P : Program} {ops : Array Oper} {w : World} {Q : Act → Prop} {l : List Oper} {a : Act}
    (h : ∀ Z : List Oper → Act → Prop, (∀ a, Q a → Z [] a) → (∀ o rest a, (∀ K : Act → Prop, (∀ a, Z rest a → K a) → if Region.wanted o (yielded ops a.tmps) then o.still P a w K else K (a.put o.dst undef)) → Z (o :: rest) a) → Z l a) : wpStill P ops w Q l a :=
  h _ (fun _ h => h) (fun _ _ _ h => wpStill_step h)
set_option maxRecDepth 100000 in
set_option maxHeartbeats 2000000 in
theorem feed_rep_ (r : Re) (no many : Bool) (ih : FeedP r) : FeedP (.rep r no many) := by
  intro w v M c b0 h
  simp only [NodeAt, feedM] at h ⊢
  obtain ⟨x, rfl, hN⟩ := h
  have HM := Lib.hid (fun (hk : w.heap.size ∈ M) => Nat.lt_irrefl _ (hN.lt _ hk))
  have hN1 : NodeAt (w.alloc (.cells #[x, .bool no, .bool many] 186)).drew r x M := hN.below (below_one w (.cells #[x, .bool no, .bool many] 186)).drew
  obtain ⟨T, y, f, rfl, hm, he, hc⟩ := done_all r (w.alloc (.cells #[x, .bool no, .bool many] 186)).drew x M hN1
  have R1 : Row (w.alloc (.cells #[.iface T y, .bool no, .bool many] 186)).drew w.heap.size 186 #[.iface T y, .bool no, .bool many] := Row.new w _ _
  have c0 : (w.alloc (.cells #[.iface T y, .bool no, .bool many] 186)).drew.cell? ⟨w.heap.size, 0, none⟩ = some (.iface T y) := R1.cell 0
  have c2 : (w.alloc (.cells #[.iface T y, .bool no, .bool many] 186)).drew.cell? ⟨w.heap.size, 2, none⟩ = some (.bool many) := R1.cell 2
  have HI := Lib.hid ih
  have HC := Lib.hid hc
  have HR := Lib.hid R1
  have HN := Lib.hid hN1
  have HW := Lib.hid (below_one w (.cells #[.iface T y, .bool no, .bool many] 186)).drew
  clear hc R1 hN1 hN ih
  cases b0
  · cases many
    · have HRa := Lib.hid (show Row (w.alloc (.cells #[.iface T y, .bool no, .bool false] 186)) w.heap.size 186 #[.iface T y, .bool no, .bool false] from Row.new w _ _)
      go_enter Tryz.func126, Tryz.ntmps126
      go_wp2_with fail
      have k0 : (w.alloc (.cells #[.iface T y, .bool no, .bool false] 186)).cell? ⟨w.heap.size, 0, none⟩ = some (.iface T y) := HRa.out.cell 0
      have k2 : (w.alloc (.cells #[.iface T y, .bool no, .bool false] 186)).cell? ⟨w.heap.size, 2, none⟩ = some (.bool false) := HRa.out.cell 2
      generalize w.alloc (.cells #[.iface T y, .bool no, .bool false] 186) = wa at *
      go_still_tail 13, (by kernel_rfl)
      change wpList _ _ _ _ _ wa.drew
      go_wp2_with (go_at_call 126; refine (HI.out _ _ M c _ HN.out).mono ?_; rintro e w2 ⟨rfl, hn1, ht1⟩; have HN1 := Lib.hid hn1; have HT1 := Lib.hid ht1)
      go_end0
      exact ⟨rfl, ⟨_, rfl, by simpa using HN1.out⟩, (Touch.of_below HW.out).trans HT1.out⟩
    · go_enter Tryz.func126, Tryz.ntmps126
      go_wp2_with fail
      go_region_held3 (fun w' => w'.cell? ⟨w.heap.size, 0, none⟩ = some (.iface T y) ∧ w'.cell? ⟨w.heap.size, 2, none⟩ = some (.bool true)) (go_keep)
        (first
          | (go_at_fn f; refine HC.out.mono ?_; rintro e w1 ⟨rfl, hb1⟩; have HB1 := Lib.hid hb1
             have HR1 := Lib.hid (HR.out.below hb1 HR.out.lt)
             have d0 : w1.cell? ⟨w.heap.size, 0, none⟩ = some (.iface T y) := HR1.out.cell 0
             have d2 : w1.cell? ⟨w.heap.size, 2, none⟩ = some (.bool true) := HR1.out.cell 2
             clear hb1)
          | (go_at_call 126; refine (HI.out _ _ M c _ (HN.out.below HB1.out)).mono ?_; rintro e w2 ⟨rfl, hn1, ht1⟩; have HN1 := Lib.hid hn1; have HT1 := Lib.hid ht1
             have e0 : w2.cell? ⟨w.heap.size, 0, none⟩ = some (.iface T y) := (World.cell?_of_block (a := ⟨w.heap.size, 0, none⟩) (ht1.block w.heap.size HR1.out.lt HM.out)).trans d0
             have e2 : w2.cell? ⟨w.heap.size, 2, none⟩ = some (.bool true) := (World.cell?_of_block (a := ⟨w.heap.size, 2, none⟩) (ht1.block w.heap.size HR1.out.lt HM.out)).trans d2
             clear hn1 ht1))
      all_goals
        go_wp2_with fail
        go_end0
        exact ⟨rfl, ⟨_, rfl, by simpa using HN1.out⟩, (Touch.of_below HW.out).trans ((Touch.of_below HB1.out).trans HT1.out)⟩
  · · have HRa := Lib.hid (show Row (w.alloc (.cells #[.iface T y, .bool no, .bool many] 186)) w.heap.size 186 #[.iface T y, .bool no, .bool many] from Row.new w _ _)
      go_enter Tryz.func126, Tryz.ntmps126
      go_wp2_with fail
      have k0 : (w.alloc (.cells #[.iface T y, .bool no, .bool many] 186)).cell? ⟨w.heap.size, 0, none⟩ = some (.iface T y) := HRa.out.cell 0
      have k2 : (w.alloc (.cells #[.iface T y, .bool no, .bool many] 186)).cell? ⟨w.heap.size, 2, none⟩ = some (.bool many) := HRa.out.cell 2
      generalize w.alloc (.cells #[.iface T y, .bool no, .bool many] 186) = wa at *
      refine wp_region_still_tail 13 (by kernel_rfl) (by kernel_rfl) ?_
      simp only [List.take_succ_cons, List.take_zero, List.drop_succ_cons, List.drop_zero]
      refine still_opaque (fun Z z0 z1 => ?_)
      iterate 13 (refine z1 _ _ _ (fun K hK => ?_); go_simp; refine hK _ ?_; clear hK K)
      refine z0 _ ?_
      change wpList _ _ _ _ _ wa.drew
      go_wp2_with (go_at_call 126; refine (HI.out _ _ M c _ HN.out).mono ?_; rintro e w2 ⟨rfl, hn1, ht1⟩; have HN1 := Lib.hid hn1; have HT1 := Lib.hid ht1)
      go_end0
      exact ⟨rfl, ⟨_, rfl, by simpa using HN1.out⟩, (Touch.of_below HW.out).trans HT1.out⟩
mutual
theorem feed_all : ∀ (r : Re), FeedP r
  | .atom sp neg tk => feed_atom sp neg tk
  | .row l => feed_row_ l (feed_list l)
  | .alt l => feed_alt_ l (feed_list l)
  | .rep r no many => feed_rep_ r no many (feed_all r)
theorem feed_list : ∀ (l : List Re), ∀ r ∈ l, FeedP r
  | [], r, h => nomatch h
  | r0 :: l, r, h => (List.mem_cons.1 h).elim (fun e => e ▸ feed_all r0) (fun h => feed_list l r h)
end
theorem strG (s : ByteArray) {k : Nat} (h : k < s.size) : (strL s)[k]? = some s[k] := by
  rw [List.getElem?_eq_getElem (by rw [strL_length]; exact h)]
  rfl
theorem fitsI_prog {w : World} {r : Re} {v : Value} {M : List Nat} (h : NodeAt w r v M) (s : ByteArray) (hs : s.size ≤ 1000) :
    Calls Tryz.prog 118 #[v, .string s] w fun e w' => e = .returned (.bool (fitsM r (strL s))) ∧ Touch w w' M := by
  have hl := strL_length s
  by_cases h0 : s.size = 0
  · have e0 : fitsM r (strL s) = emptyM r := by
      unfold fitsM
      rw [show strL s = [] from List.eq_nil_of_length_eq_zero (by omega)]
      rfl
    obtain ⟨T, y, f, rfl, hm, he, hc⟩ := empty_all r w v M h
    have HC := Lib.hid hc
    have d0 : ((s.size : Int) == 0) = true := by rw [h0]; rfl
    rw [e0]
    clear hc e0 h hl
    go_enter Tryz.func118, Tryz.ntmps118
    go_wp2_with (go_at_fn f; refine HC.out.mono ?_; rintro e w1 ⟨rfl, hb1⟩)
    go_ret
    exact ⟨rfl, Touch.of_below hb1⟩
  have d0 : ((s.size : Int) == 0) = false := by rw [beq_eq_false_iff_ne]; omega
  have HE := Lib.hid (show fitsM r (strL s) = doneM (feeds true r (strL s)) by
    unfold fitsM
    cases hx : strL s with
    | nil => rw [hx] at hl; simp at hl; omega
    | cons c t => rfl)
  have HN := Lib.hid h
  have HL := Lib.hid hl
  clear h hl
  go_enter Tryz.func118, Tryz.ntmps118
  go_wp2_with fail
  go_loopw [13] (fun i wr => ∃ k : Nat, k ≤ s.size ∧ i = .int .i64 (k : Int) ∧ NodeAt wr (feeds true r ((strL s).take k)) v M ∧ Touch w wr M) (fun i _ => s.size - (intOf i).toNat)
  case atStart => exact ⟨0, Nat.zero_le _, rfl, HN.out, Touch.refl _ _⟩
  case round =>
    obtain ⟨k, hk, rfl, hn, ht⟩ := hrel
    by_cases hlt : k < s.size
    · have HS := Lib.hid (show feeds true r ((strL s).take (k + 1)) = feedM s[k] (decide (k = 0)) (feeds true r ((strL s).take k)) by
        rw [List.take_add_one, strG s hlt]
        have e2 : ((strL s).take k).isEmpty = decide (k = 0) := by
          rw [Bool.eq_iff_iff, List.isEmpty_iff, decide_eq_true_eq, List.take_eq_nil_iff]
          constructor
          · rintro (h1 | h1)
            · exact h1
            · have := HL.out; rw [h1] at this; simp at this; omega
          · intro h1; exact .inl h1
        rw [show (some s[k]).toList = [s[k]] from rfl, feeds_snoc, e2, Bool.true_and])
      have HF := Lib.hid (feed_all (feeds true r ((strL s).take k)) wr v M s[k] (decide (k = 0)) hn)
      have HT := Lib.hid ht
      clear hn ht
      by_cases hk0 : k = 0
      · have i0 : ((k : Int) == 0) = true := by rw [hk0]; rfl
        rw [decide_eq_true hk0] at HF HS
        clear hk0
        go_wp2_with fail
        refine HF.out.mono ?_
        rintro e w1 ⟨rfl, hn1, ht1⟩
        go_wp2_with fail
        exact ⟨⟨k + 1, by omega, by go_num, by rw [HS.out]; exact hn1, HT.out.trans ht1⟩, by simp [intOf]; omega⟩
      · have i0 : ((k : Int) == 0) = false := by rw [beq_eq_false_iff_ne]; omega
        rw [decide_eq_false hk0] at HF HS
        clear hk0
        go_wp2_with fail
        refine HF.out.mono ?_
        rintro e w1 ⟨rfl, hn1, ht1⟩
        go_wp2_with fail
        exact ⟨⟨k + 1, by omega, by go_num, by rw [HS.out]; exact hn1, HT.out.trans ht1⟩, by simp [intOf]; omega⟩
    · obtain rfl : k = s.size := by omega
      rw [List.take_of_length_le (by rw [HL.out]; exact Nat.le_refl _)] at hn
      obtain ⟨T, y, f, rfl, hm, he, hc⟩ := done_all _ wr v M hn
      have HC := Lib.hid hc
      have HT := Lib.hid ht
      clear hc hn ht
      go_wp2_with (go_at_fn f; refine HC.out.mono ?_; rintro e w1 ⟨rfl, hb1⟩)
      go_ret
      exact ⟨by rw [HE.out]; rfl, HT.out.below hb1⟩
/-- The reader at block X has x before it, so many groups open, the deepest place so far. -/
def Rdr (w : World) (X : Nat) (x : List UInt8) (op dp : Nat) : Prop := ∃ s : ByteArray, strL s = x ∧ Row w X 162 #[.string s, .int .i64 (op : Int), .int .i64 (dp : Int)]
/-- A reader, whatever it holds. -/
def RdrAny (w : World) (X : Nat) : Prop := ∃ (s : ByteArray) (a b : Int), Row w X 162 #[.string s, .int .i64 a, .int .i64 b]
theorem Rdr.any {w : World} {X : Nat} {x : List UInt8} {op dp : Nat} (h : Rdr w X x op dp) : RdrAny w X := by
  obtain ⟨s, _, h⟩ := h
  exact ⟨s, _, _, h⟩
theorem index_has (q : ByteArray) (c : UInt8) : (decide ((0 : Int) ≤ Lib.indexByte q.data.toList c)) = (strL q).contains c := (Lib.contains_iff_indexByte _ _).symm
theorem ahead_prog {w : World} {X : Nat} {x : List UInt8} {op dp : Nat} (h : Rdr w X x op dp) (q : ByteArray) :
    Calls Tryz.prog 130 #[.pointer (some ⟨X, 0, none⟩), .string q] w fun e w' => e = .returned (.bool (aheadM (strL q) x)) ∧ w' = w := by
  obtain ⟨s, rfl, hr⟩ := h
  have c0 : w.cell? ⟨X, 0, none⟩ = some (.string s) := hr.cell 0
  have hl := strL_length s
  by_cases h0 : s.size = 0
  · have e1 : (s.toList == []) = true := by rw [ByteArray.toList_eq, beq_iff_eq]; exact List.eq_nil_of_length_eq_zero (by unfold strL at hl; omega)
    have e2 : aheadM (strL q) (strL s) = false := by rw [show strL s = [] from List.eq_nil_of_length_eq_zero (by omega)]; rfl
    rw [e2]
    clear e2 hl hr
    go_enter Tryz.func130, Tryz.ntmps130
    go_wp2_with fail
    go_ret
    exact ⟨rfl, rfl⟩
  · have e1 : (s.toList == []) = false := by
      rw [ByteArray.toList_eq, beq_eq_false_iff_ne]
      intro e
      unfold strL at hl
      rw [e] at hl
      simp at hl
      omega
    have hp : 0 < s.size := by omega
    have e2 : aheadM (strL q) (strL s) = (strL q).contains s[0] := by
      have := strG s hp
      cases hx : strL s with
      | nil => rw [hx] at this; simp at this
      | cons c y => rw [hx] at this; simp at this; rw [aheadM, this]
    have HI := Lib.hid (index_has q s[0])
    rw [e2]
    have HC := Lib.hid (fun W => Tryz.strings_IndexByte q (s[0].toNat : Int) W)
    clear e2 hl hr
    go_enter Tryz.func130, Tryz.ntmps130
    go_wp2_with (go_at_call 137; refine (HC.out _).mono ?_; rintro e w1 ⟨rfl, rfl⟩)
    go_ret
    exact ⟨by rw [← HI.out]; rfl, rfl⟩
theorem take_prog {w : World} {X : Nat} {c : UInt8} {y : List UInt8} {op dp : Nat} (h : Rdr w X (c :: y) op dp) :
    Calls Tryz.prog 132 #[.pointer (some ⟨X, 0, none⟩)] w fun e w' => e = .returned (.int .u8 (c.toNat : Int)) ∧ Rdr w' X y op dp ∧ Two w w' X X := by
  obtain ⟨s, hx, hr⟩ := h
  have c0 : w.cell? ⟨X, 0, none⟩ = some (.string s) := hr.cell 0
  have f0 : w.frozen? ⟨X, 0, none⟩ = false := hr.frozen 0
  have hl := strL_length s
  have hp : 0 < s.size := by rw [← hl, hx]; simp
  have hc : s[0] = c := by
    have := strG s hp
    rw [hx] at this
    simpa using this.symm
  have HY := Lib.hid (show strL (s.extract 1 s.size) = y by
    unfold strL at *
    rw [ByteArray.data_extract, Array.toList_extract, List.extract_eq_take_drop, hx]
    simp only [List.drop_succ_cons, List.drop_zero]
    apply List.take_of_length_le
    rw [hx] at hl
    simp at hl
    omega)
  have HR := Lib.hid hr
  have i1 : (1 : Int) ≤ (s.size : Int) := by omega
  rw [← hc]
  clear hl hr hx hc
  go_enter Tryz.func132, Tryz.ntmps132
  go_wp2_with fail
  go_ret
  exact ⟨rfl, ⟨_, HY.out, HR.out.setAt 0 _⟩, (Two.refl w X X).set (p := ⟨X, 0, none⟩) (.inl rfl) _⟩
theorem ahead_tail {q x : List UInt8} (h : aheadM q x = true) : ∃ c y, x = c :: y ∧ q.contains c = true := by
  cases x with
  | nil => simp [aheadM] at h
  | cons c y => exact ⟨c, y, rfl, h⟩
theorem skip_prog {w : World} {X : Nat} {x : List UInt8} {op dp : Nat} (h : Rdr w X x op dp) (q : ByteArray) :
    Calls Tryz.prog 125 #[.pointer (some ⟨X, 0, none⟩), .string q] w fun e w' => e = .returned (.bool (aheadM (strL q) x)) ∧ Rdr w' X (if aheadM (strL q) x then x.tail else x) op dp ∧ Two w w' X X := by
  have HA := Lib.hid (ahead_prog h q)
  have HR := Lib.hid h
  clear h
  cases ha : aheadM (strL q) x
  · rw [ha] at HA
    go_enter Tryz.func125, Tryz.ntmps125
    go_wp2_with (go_at_call 130; refine HA.out.mono ?_; rintro e w1 ⟨rfl, rfl⟩)
    go_ret
    exact ⟨rfl, by simpa using HR.out, Two.refl _ _ _⟩
  · rw [ha] at HA
    obtain ⟨c, y, rfl, _⟩ := ahead_tail ha
    have HT := Lib.hid (take_prog HR.out)
    clear ha
    go_enter Tryz.func125, Tryz.ntmps125
    go_wp2_with (first
      | (go_at_call 130; refine HA.out.mono ?_; rintro e w1 ⟨rfl, rfl⟩)
      | (go_at_call 132; refine HT.out.mono ?_; rintro e w2 ⟨rfl, hr2, ht2⟩))
    go_ret
    exact ⟨rfl, by simpa using hr2, ht2⟩
def tellBut (r : Option (UInt8 × List UInt8)) : Value := match r with | none => .tuple #[.int .u8 0, .bool false] | some (c, _) => .tuple #[.int .u8 (c.toNat : Int), .bool true]
def leftBut (x : List UInt8) (r : Option (UInt8 × List UInt8)) : List UInt8 := match r with | none => x | some (_, y) => y
theorem takeBut_prog {w : World} {X : Nat} {x : List UInt8} {op dp : Nat} (h : Rdr w X x op dp) (q : ByteArray) :
    Calls Tryz.prog 144 #[.pointer (some ⟨X, 0, none⟩), .string q] w fun e w' => e = .returned (tellBut (takeButM (strL q) x)) ∧ Rdr w' X (leftBut x (takeButM (strL q) x)) op dp ∧ Two w w' X X := by
  obtain ⟨s, hx, hr⟩ := id h
  have c0 : w.cell? ⟨X, 0, none⟩ = some (.string s) := hr.cell 0
  have hl := strL_length s
  have HA := Lib.hid (ahead_prog h q)
  have HR := Lib.hid h
  clear h hr
  cases x with
  | nil =>
    have e1 : (s.toList == []) = true := by rw [ByteArray.toList_eq, beq_iff_eq]; exact hx
    clear hx hl
    go_enter Tryz.func144, Tryz.ntmps144
    go_wp2_with fail
    go_ret2
    exact ⟨rfl, HR.out, Two.refl _ _ _⟩
  | cons c y =>
    have e1 : (s.toList == []) = false := by rw [ByteArray.toList_eq, beq_eq_false_iff_ne]; intro e; unfold strL at hx; rw [e] at hx; cases hx
    clear hx hl
    simp only [aheadM] at HA
    cases hq : (strL q).contains c
    · rw [hq] at HA
      have HT := Lib.hid (take_prog HR.out)
      have HK := Lib.hid (show takeButM (strL q) (c :: y) = some (c, y) by simp only [takeButM, hq]; rfl)
      clear hq
      go_enter Tryz.func144, Tryz.ntmps144
      go_wp2_with (first
        | (go_at_call 130; refine HA.out.mono ?_; rintro e w1 ⟨rfl, rfl⟩)
        | (go_at_call 132; refine HT.out.mono ?_; rintro e w2 ⟨rfl, hr2, ht2⟩))
      go_ret2
      rw [HK.out]
      exact ⟨rfl, hr2, ht2⟩
    · rw [hq] at HA
      have HK := Lib.hid (show takeButM (strL q) (c :: y) = none by simp only [takeButM, hq]; rfl)
      clear hq
      go_enter Tryz.func144, Tryz.ntmps144
      go_wp2_with (go_at_call 130; refine HA.out.mono ?_; rintro e w1 ⟨rfl, rfl⟩)
      go_ret2
      rw [HK.out]
      exact ⟨rfl, HR.out, Two.refl _ _ _⟩
theorem one_prog (c : UInt8) (w : World) :
    Calls Tryz.prog 143 #[.int .u8 (c.toNat : Int)] w fun e w' => Below w.heap.size w w' ∧ ∃ v M, e = .returned v ∧ NodeAt w' (oneM c) v M ∧ ∀ k ∈ M, w.heap.size ≤ k := by
  go_enter Tryz.func143, Tryz.ntmps143
  go_wp2_with fail
  go_ret
  refine ⟨below_then (below_one w _) (below_one _ _), _, [w.heap.size + 1, w.heap.size], rfl, ?_, ?_⟩
  · simp only [oneM, NodeAt]
    exact ⟨_, _, _, _, rfl, by simp, row_at w _ _ _, .inr ⟨_, _, rfl, rfl, (Row.new w _ _).alloc _, fun j u h => by simpa [spanCells] using h⟩, by simp, rfl⟩
  · intro k hk
    simp at hk
    omega
end Go.Proofs.YtpcjnagdanmdpaaGreat
