/- A class of a pattern, as classM reads it. -/
import Derived.Test.YtjljfilflajogaaReGrp
namespace Go.Proofs.Ytjljfilflajogaa
open Go.RowKit Go.Maps
set_option linter.unusedVariables false

theorem span_info : (Try.prog.info? 97).map (fun i => (i.zero, i.size, i.bytes)) = some (some (.agg #[.int .u8 0, .int .u8 0]), 2, 2) := by kernel_rfl
theorem span_one (l : List (UInt8 × UInt8)) : ∀ u ∈ l.flatMap spanCells, u.oneCell' = true := by
  intro u hu
  simp only [List.mem_flatMap, spanCells, List.mem_cons, List.not_mem_nil, or_false] at hu
  obtain ⟨x, _, rfl | rfl⟩ := hu <;> rfl
/-- The value v is a row of spans of the call's own. -/
def Spn (w : World) (base : Nat) (v : Value) (ss : List (UInt8 × UInt8)) : Prop := w.ownsRow base 97 2 v ss.length (ss.flatMap spanCells)
theorem Spn.nil (w : World) (base : Nat) : Spn w base (.slice none 0 0) [] := ⟨rfl, .inl ⟨rfl, rfl⟩⟩
theorem Spn.two {w w' : World} {base X : Nat} {v : Value} {ss : List (UInt8 × UInt8)} (h : Spn w base v ss) (k : Two w w' X X) (hX : X < base) : Spn w' base v ss :=
  rows_move h fun q e => by
    have := World.ownsRow.lt h q e
    exact k.block q this.2 (by omega) (by omega)
theorem spn_blk {w : World} {base n : Nat} {v : Value} {vs : List Value} (h : w.ownsRow base 97 2 v n vs) : ∃ A c K, v = .slice A n c ∧ Blk w A 97 vs K ∧ (∀ k ∈ K, v.ownBlock = some k) ∧ ∀ k ∈ K, base ≤ k := by
  rcases h.2 with ⟨rfl, h0⟩ | ⟨g, cap, cur, rfl, hg, hh, hnc, hcm, hcs, htk⟩
  · have h1 := h.1
    rw [h0, Nat.zero_mul] at h1
    exact ⟨none, 0, [], by rw [h0], .inl ⟨List.eq_nil_of_length_eq_zero h1, rfl⟩, by simp, by simp⟩
  · refine ⟨_, cap, [g], rfl, .inr ⟨g, cur, rfl, rfl, hh, fun j u hj => ?_⟩, by simp [Value.ownBlock], by simpa using hg⟩
    have hlt := (List.getElem?_eq_some_iff.1 hj).1
    rw [← htk, List.getElem?_take] at hj
    rw [← Array.getElem?_toList]
    split at hj
    · exact hj
    · cases hj
theorem Spn.slice {w : World} {base : Nat} {v : Value} {ss : List (UInt8 × UInt8)} (h : Spn w base v ss) : ∃ A c, v = .slice A ss.length c := by
  obtain ⟨A, c, K, rfl, _⟩ := spn_blk h
  exact ⟨A, c, rfl⟩
/-- An atom whose spans were collected. -/
theorem Spn.atom {w : World} {base g : Nat} {v : Value} {ss : List (UInt8 × UInt8)} {neg : Bool} (h : Spn w base v ss) (hg : Row w g 89 #[v, .bool neg, .bool false]) (hb : base ≤ g) (hl : ss.length ≤ 1000) :
    ∃ M, NodeAt w (.atom ss neg false) (.iface 86 (.pointer (some ⟨g, 0, none⟩))) M ∧ ∀ k ∈ M, base ≤ k := by
  have hne := rows_ne hg h (by decide)
  obtain ⟨A, c, K, rfl, hK, hk1, hk2⟩ := spn_blk h
  refine ⟨g :: K, ?_, ?_⟩
  · simp only [NodeAt]
    exact ⟨g, A, c, K, rfl, hl, hg, hK, fun hm => hne (hk1 g hm), rfl⟩
  · intro k hk
    rcases List.mem_cons.1 hk with rfl | hk
    · exact hb
    · exact hk2 k hk
/-- How much the reader at block X has before it. -/
def restLen (w : World) (X : Nat) : Nat := match w.cell? ⟨X, 0, none⟩ with | some (.string s) => s.size | _ => 0
theorem Rdr.rest {w : World} {X : Nat} {x : List UInt8} {op dp : Nat} (h : Rdr w X x op dp) : restLen w X = x.length := by
  obtain ⟨s, rfl, hr⟩ := h
  have c0 : w.cell? ⟨X, 0, none⟩ = some (.string s) := hr.cell 0
  unfold restLen
  rw [c0, strL_length]
def contM (ss : List (UInt8 × UInt8)) (q : Option (List (UInt8 × UInt8) × List UInt8)) : Option (List (UInt8 × UInt8) × List UInt8) := q.map fun r => (ss ++ r.1, r.2)
/-- A round of class. -/
def ClsIn (W : World) (X g : Nat) (x0 : List UInt8) (op dp n : Nat) (neg : Bool) (wr : World) : Prop :=
  ∃ v ss x m, Row wr g 89 #[v, .bool neg, .bool false] ∧ Spn wr W.heap.size v ss ∧ Rdr wr X x op dp ∧ Two W wr X X ∧ x.length ≤ m ∧ ss.length + x.length ≤ x0.length ∧ itemsM n x0 = contM ss (itemsM m x)
theorem items_step {x y : List UInt8} {s : UInt8 × UInt8} {m : Nat} (h : itemM x = some (s, y)) (hm : x.length ≤ m) : ∃ m', y.length ≤ m' ∧ itemsM m x = (if aheadM [93] y then some ([s], y.tail) else contM [s] (itemsM m' y)) := by
  have := item_len h
  obtain ⟨m', rfl⟩ : ∃ m', m = m' + 1 := ⟨m - 1, by omega⟩
  refine ⟨m', by omega, ?_⟩
  simp only [itemsM, h]
  split
  · rfl
  · cases itemsM m' y with
    | none => rfl
    | some r => rfl
theorem items_stop {x : List UInt8} (h : itemM x = none) (m : Nat) : itemsM m x = none := by
  cases m with
  | zero => rfl
  | succ m => simp only [itemsM, h]
/-- What class tells. -/
def ClsTold (w w' : World) (X op dp : Nat) (e : Ending) : Option (Re × List UInt8) → Prop
  | none => Two w w' X X ∧ RdrAny w' X ∧ ∃ v, e = .returned (.tuple #[v, .bool false])
  | some (r, y) => Two w w' X X ∧ Rdr w' X y op dp ∧ ∃ v M, e = .returned (.tuple #[v, .bool true]) ∧ NodeAt w' r v M ∧ ∀ k ∈ M, w.heap.size ≤ k
/-- The world behind an item: its span in a block of its own. -/
def spanW (w : World) (s : UInt8 × UInt8) : World := w.alloc (.cells #[.int .u8 (s.1.toNat : Int), .int .u8 (s.2.toNat : Int)] 97)
theorem spanW_row (w : World) (s : UInt8 × UInt8) : Row (spanW w s) w.heap.size 97 #[.int .u8 (s.1.toNat : Int), .int .u8 (s.2.toNat : Int)] := Row.new w _ _
theorem spanW_below (w : World) (s : UInt8 × UInt8) : Below w.heap.size w (spanW w s) := below_one w _
theorem spanW_size (w : World) (s : UInt8 × UInt8) : (spanW w s).heap.size = w.heap.size + 1 := by simp [spanW]
end Go.Proofs.Ytjljfilflajogaa
