/- Rows of bytes of the call's own: made, appended to, written over; what of the memory stands. For any seat. -/
import Derived.Test.YtiepepikbophmaaApp
import Derived.Test.YtiepepikbophmaaStr
import Derived.Laws.MakeOwn
import Derived.WalkSpells
import Derived.WalkLawsBesides
import Derived.IntWalk
import Derived.Outline
namespace Go.Proofs.Ytiepepikbophmaa
open Go.RowKit
set_option linter.unusedVariables false

theorem byte_nat (x : UInt8) : x.toNat < 256 := x.toNat_lt
theorem Row.bys {w : World} {g : Nat} {l : List UInt8} (h : Row w g 5 (bcells l)) : Bys w (some ⟨g, 0, none⟩) l :=
  .inr ⟨g, 0, rfl, h.lt, fun i hi => by rw [Nat.zero_add, h.cell i]; exact bcells_get l i hi⟩
theorem grown_row {w w' : World} {row : Option Nat} {g : Nat} {t : TypeId} {cs : Array Value} (h : Row w g t cs) (hg : w.grownBy w' row) (hne : some g ≠ row) : Row w' g t cs := (hg.block g h.lt hne).trans h
theorem row_at (w : World) (o : Obj) (cs : Array Value) (t : TypeId) : Row ((w.alloc o).alloc (.cells cs t)) (w.heap.size + 1) t cs := by
  have := Row.new (w.alloc o) t cs
  rw [show (w.alloc o).heap.size = w.heap.size + 1 from by simp] at this
  exact this
theorem Bys.grown {w w' : World} {V : Option Addr} {l : List UInt8} {row : Option Nat} (h : Bys w V l) (hg : w.grownBy w' row) (hV : ∀ ad, V = some ad → some ad.block ≠ row) : Bys w' V l := by
  rcases h with rfl | ⟨b, o, rfl, hb, hc⟩
  · exact .inl rfl
  · exact .inr ⟨b, o, rfl, Nat.lt_of_lt_of_le hb hg.size, fun i hi => (World.cell?_of_block (w := w) (a := ⟨b, o + i, none⟩) (hg.block b hb (hV ⟨b, o, none⟩ rfl))).trans (hc i hi)⟩
theorem Bys.setAway {w : World} {V : Option Addr} {l : List UInt8} (h : Bys w V l) {p : Addr} (hp : ∀ ad, V = some ad → ad.block ≠ p.block) (u : Value) : Bys (w.setCell p u) V l := by
  rcases h with rfl | ⟨b, o, rfl, hb, hc⟩
  · exact .inl rfl
  · exact .inr ⟨b, o, rfl, by simpa [World.setCell] using hb, fun i hi => (World.cell?_of_block (w := w) (a := ⟨b, o + i, none⟩) (Below.heap_setCell w p u b (hp _ rfl))).trans (hc i hi)⟩
/-- Part of bytes, from a place on. -/
theorem Bys.from {w : World} {b o : Nat} {l : List UInt8} (h : Bys w (some ⟨b, o, none⟩) l) (k : Nat) : Bys w (some ⟨b, o + k, none⟩) (l.drop k) := by
  rcases h with rfl | ⟨b', o', e, hb, hc⟩
  · exact .inl (by simp)
  · injection e with e
    injection e with e1 e2 _
    subst e1
    subst e2
    refine .inr ⟨b, o + k, rfl, hb, fun i hi => ?_⟩
    rw [List.length_drop] at hi
    have := hc (k + i) (by omega)
    rw [← Nat.add_assoc] at this
    rw [this, getD_in l 0 (by omega), getD_in (l.drop k) 0 (by rw [List.length_drop]; omega), List.getElem_drop]
theorem Bys.front {w : World} {A : Option Addr} {l : List UInt8} (h : Bys w A l) (k : Nat) : Bys w A (l.take k) := by
  rcases h with rfl | ⟨b, o, rfl, hb, hc⟩
  · exact .inl (by simp)
  · refine .inr ⟨b, o, rfl, hb, fun i hi => ?_⟩
    rw [List.length_take] at hi
    rw [hc i (by omega), getD_in l 0 (by omega), getD_in (l.take k) 0 (by rw [List.length_take]; omega), List.getElem_take]

section
variable {w : World} {base : Nat} {v : Value} {x : List UInt8}
theorem own_alloc (h : Own w base v x) (o : Obj) : Own (w.alloc o) base v x := World.ownsRow.alloc h o
theorem own_empty {g : Nat} (h : Row w g 5 #[]) (hb : base ≤ g) : Own w base (.slice (some ⟨g, 0, none⟩) 0 0) [] :=
  ⟨by simp [bcells], .inr ⟨g, 0, #[], rfl, hb, h, Nat.le_refl _, by simp [maxLen], by simp, by simp [bcells]⟩⟩
theorem own_whole {g : Nat} (h : Row w g 5 (bcells x)) (hb : base ≤ g) (hx : x.length ≤ maxLen) : Own w base (.slice (some ⟨g, 0, none⟩) x.length x.length) x :=
  ⟨by simp [bcells], .inr ⟨g, x.length, bcells x, rfl, hb, h, Nat.le_refl _, hx, by simp [bcells], List.take_of_length_le (by simp [bcells])⟩⟩
theorem own_room {g n : Nat} (h : Row w g 5 (bcells (List.replicate n 0))) (hb : base ≤ g) (hn : n ≤ maxLen) : Own w base (.slice (some ⟨g, 0, none⟩) 0 n) [] :=
  ⟨by simp [bcells], .inr ⟨g, n, _, rfl, hb, h, Nat.zero_le _, hn, by simp [bcells], by simp [bcells]⟩⟩
theorem own_below {w' : World} (h : Own w base v x) (hb : Below w.heap.size w w') : Own w' base v x := by
  refine ⟨h.1, ?_⟩
  rcases h.2 with h2 | ⟨g, cap, cur, hv, hg, hh, r⟩
  · exact .inl h2
  · exact .inr ⟨g, cap, cur, hv, hg, (hb.block g (Row.lt (cs := cur) hh)).trans hh, r⟩
theorem own_grown {w' : World} {row : Option Nat} (h : Own w base v x) (hg : w.grownBy w' row) (hne : ∀ k, v.ownBlock = some k → some k ≠ row) : Own w' base v x := by
  refine ⟨h.1, ?_⟩
  rcases h.2 with h2 | ⟨g, cap, cur, rfl, hb, hh, r⟩
  · exact .inl h2
  · exact .inr ⟨g, cap, cur, rfl, hb, (hg.block g (Row.lt (cs := cur) hh) (hne g rfl)).trans hh, r⟩
theorem own_lower {base' : Nat} (h : Own w base v x) (hb : base' ≤ base) : Own w base' v x := by
  refine ⟨h.1, ?_⟩
  rcases h.2 with h2 | ⟨g, cap, cur, hv, hg, r⟩
  · exact .inl h2
  · exact .inr ⟨g, cap, cur, hv, by omega, r⟩
theorem own_slice' (h : Own w base v x) : ∃ B d, v = .slice B x.length d ∧ Bys w B x ∧ ∀ ad, B = some ad → base ≤ ad.block := by
  rcases h.2 with ⟨rfl, h0⟩ | ⟨g, cap, cur, rfl, hg, _⟩
  · obtain rfl := List.eq_nil_of_length_eq_zero h0
    exact ⟨none, 0, rfl, Bys.empty _ _, fun ad e => by cases e⟩
  · exact ⟨some ⟨g, 0, none⟩, cap, rfl, own_bys h, fun ad e => by injection e with e; subst e; exact hg⟩
theorem own_cap (h : Own w base v x) : ∃ B d, v = .slice B x.length d ∧ Bys w B x ∧ (∀ ad, B = some ad → base ≤ ad.block) ∧ x.length ≤ d ∧ d ≤ maxLen := by
  rcases h.2 with ⟨rfl, h0⟩ | ⟨g, cap, cur, rfl, hg, hh, hnc, hcm, _⟩
  · obtain rfl := List.eq_nil_of_length_eq_zero h0
    exact ⟨none, 0, rfl, Bys.empty _ _, (fun ad e => by cases e), by simp, by simp [maxLen]⟩
  · exact ⟨some ⟨g, 0, none⟩, cap, rfl, own_bys h, (fun ad e => by injection e with e; subst e; exact hg), hnc, hcm⟩
theorem own_ne {X : Nat} {t : TypeId} {cs : Array Value} (h : Own w base v x) (hX : Row w X t cs) (ht : t ≠ 5) : some X ≠ v.ownBlock := by
  rcases h.2 with ⟨rfl, _⟩ | ⟨g, cap, cur, rfl, hg, hh, _⟩
  · simp [Value.ownBlock]
  · simp only [Value.ownBlock]
    rintro e
    injection e with e
    subst e
    unfold Row at hX
    rw [hX] at hh
    injection hh with hh
    injection hh with h1 h2 h3
    exact ht h2
theorem own_set {g cap i : Nat} (h : Own w base (.slice (some ⟨g, 0, none⟩) x.length cap) x) (hi : i < x.length) (y : UInt8) :
    Own (w.setCell ⟨g, i, none⟩ (.int .u8 (y.toNat : Int))) base (.slice (some ⟨g, 0, none⟩) (x.set i y).length cap) (x.set i y) := by
  rcases h.2 with ⟨e, _⟩ | ⟨g', cap', cur, e, hg, hh, hnc, hcm, hcs, htk⟩
  · cases e
  · injection e with e1 _ e3
    injection e1 with e1
    injection e1 with e1 _ _
    subst e1
    subst e3
    have hrow : Row w g 5 cur := hh
    have h2 : Row _ g 5 _ := hrow.setAt i (.int .u8 (y.toNat : Int))
    refine ⟨by simp [bcells], .inr ⟨g, cap, cur.setIfInBounds i (.int .u8 (y.toNat : Int)), rfl, hg, h2, by rw [List.length_set]; exact hnc, hcm, by rw [Array.size_setIfInBounds]; exact hcs, ?_⟩⟩
    rw [List.length_set, Array.toList_setIfInBounds, List.take_set, htk]
    simp [bcells]
theorem own_setFar {p : Addr} (h : Own w base v x) (hp : v.ownBlock ≠ some p.block) (u : Value) : Own (w.setCell p u) base v x := by
  refine ⟨h.1, ?_⟩
  rcases h.2 with h2 | ⟨g, cap, cur, rfl, hb, hh, r⟩
  · exact .inl h2
  · exact .inr ⟨g, cap, cur, rfl, hb, Row.setFar (cs := cur) hh (fun e => hp (by simp [Value.ownBlock, e])) u, r⟩
theorem own_frozen {g cap n : Nat} (h : Own w base (.slice (some ⟨g, 0, none⟩) n cap) x) (i : Nat) : w.frozen? ⟨g, i, none⟩ = false := by
  rcases h.2 with ⟨e, _⟩ | ⟨g', cap', cur, e, hg, hh, hnc, hcm, hcs, htk⟩
  · cases e
  · injection e with e1 _ _
    injection e1 with e1
    injection e1 with e1 _ _
    subst e1
    exact Row.frozen (cs := cur) hh i
end

theorem u8_info : (Try.prog.info? 5).map (fun i => (i.zero, i.size, i.bytes)) = some (some (.int .u8 0), 1, 1) := by kernel_rfl
theorem u8_size : (Try.prog.info? 5).map (·.size) = some 1 := by kernel_rfl
theorem made_bytes (m : Nat) : madeCells (Value.int .u8 0).cells (m * 1) = bcells (List.replicate m 0) := by
  apply Array.ext
  · simp [madeCells, bcells]
  · intro i h1 h2
    simp [madeCells, bcells, Value.cells, Nat.mod_one]
theorem make_room (m : Int) (h0 : 0 ≤ m) (hm : m ≤ 281474976710656) (W : World) :
    (Instr.makeSlice 35 (.int .i64 0) (.int .i64 m)).run Try.prog W = .ok (.slice (some ⟨W.heap.size, 0, none⟩) 0 m.toNat) (W.alloc (.cells (bcells (List.replicate m.toNat 0)) 5)) := by
  obtain ⟨i0, hi, hz0, hz1, hz2⟩ := info_parts u8_info
  have hr := run_make (P := Try.prog) W 35 5 i0 (.int .u8 0) Try.underlying35 hi hz0 .i64 .i64 0 m (by omega) (by omega) (by rw [hz2]; omega) (by omega)
  simp only [hz1, made_bytes] at hr
  exact hr

/-- append of bytes to a row of the call's own, at a walk's built-in. -/
theorem app_u8 {w : World} {ops : Array Oper} {rest : List Oper} {o : Oper} {a : Act} {Q : Exit → Act → World → Prop} (hgd : o.guard = none) (s y : Operand)
    (ho : o.op = .call { callee := .builtin .append, args := #[s, y], argTypes := #[35, 35] })
    (base : Nat) (v : Value) (x : List UInt8) (hs : a.eval s = v) (hown : Own w base v x) (A : Option Addr) (l : List UInt8) (c : Nat) (hy : a.eval y = .slice A l.length c) (hA : Bys w A l) (hn : x.length + l.length ≤ 211106232532992) (hbase : base ≤ w.heap.size)
    (h : ∀ v' w', Own w' base v' (x ++ l) → Below base w w' → w.grownBy w' v.ownBlock → wpList Try.prog ops Q rest (a.put o.dst v') w') : wpList Try.prog ops Q (o :: rest) a w := by
  obtain ⟨i0, hi, hz0, hz1, hz2⟩ := info_parts u8_info
  exact wpList_app _ hgd s y 35 ho base i0 Try.underlying35 hi hz0 hz1 hz2 v x hs hown A l c hy hA hn hbase
    fun v' w' h1 h2 _ => h v' w' h1 (Below.grown (Below.refl base w) h2 hbase (fun k hk => (World.ownsRow.lt hown _ hk).1)) h2
end Go.Proofs.Ytiepepikbophmaa
