/- Rows of bytes of the call's own: made, appended to, written over; what of the memory stands. For any seat. -/
import Derived.Test.YtpcjnagdanmdpaaApp
import Derived.Test.YtpcjnagdanmdpaaStr
import Derived.WalkSpells
import Derived.WalkLawsBesides
namespace Go.Proofs.Ytpcjnagdanmdpaa
open Go.RowKit
set_option linter.unusedVariables false
theorem Row.bys {w : World} {g : Nat} {l : List UInt8} (h : Row w g 5 (bcells l)) : Bys w (some ⟨g, 0, none⟩) l :=
  .inr ⟨g, 0, rfl, h.lt, fun i hi => by rw [Nat.zero_add, h.cell i]; exact bcells_get l i hi⟩
theorem grown_row {w w' : World} {row : Option Nat} {g : Nat} {t : TypeId} {cs : Array Value} (h : Row w g t cs) (hg : w.grownBy w' row) (hne : some g ≠ row) : Row w' g t cs := (hg.block g h.lt hne).trans h
theorem row_at (w : World) (o : Obj) (cs : Array Value) (t : TypeId) : Row ((w.alloc o).alloc (.cells cs t)) (w.heap.size + 1) t cs := by
  have := Row.new (w.alloc o) t cs
  rw [show (w.alloc o).heap.size = w.heap.size + 1 from by simp] at this
  exact this
section
variable {w : World} {base : Nat} {v : Value} {x : List UInt8}
theorem own_alloc (h : Own w base v x) (o : Obj) : Own (w.alloc o) base v x := World.ownsRow.alloc h o
theorem own_below {w' : World} (h : Own w base v x) (hb : Below w.heap.size w w') : Own w' base v x := by
  refine ⟨h.1, ?_⟩
  rcases h.2 with h2 | ⟨g, cap, cur, hv, hg, hh, r⟩
  · exact .inl h2
  · exact .inr ⟨g, cap, cur, hv, hg, (hb.block g (Row.lt (cs := cur) hh)).trans hh, r⟩
theorem own_slice' (h : Own w base v x) : ∃ B d, v = .slice B x.length d ∧ Bys w B x ∧ ∀ ad, B = some ad → base ≤ ad.block := by
  rcases h.2 with ⟨rfl, h0⟩ | ⟨g, cap, cur, rfl, hg, _⟩
  · obtain rfl := List.eq_nil_of_length_eq_zero h0
    exact ⟨none, 0, rfl, Bys.empty _ _, fun ad e => by cases e⟩
  · exact ⟨some ⟨g, 0, none⟩, cap, rfl, own_bys h, fun ad e => by injection e with e; subst e; exact hg⟩
theorem own_ne {X : Nat} {t : TypeId} {cs : Array Value} (h : Own w base v x) (hX : Row w X t cs) (ht : t ≠ 5) : some X ≠ v.ownBlock := by
  rcases h.2 with ⟨rfl, _⟩ | ⟨g, cap, cur, rfl, hg, hh, _⟩
  · simp [Value.ownBlock]
  · simp only [Value.ownBlock]
    rintro e
    injection e with e
    subst e
    unfold Row at hX
    rw [hX] at hh
    injection hh with hh
    injection hh with h1 h2 h3
    exact ht h2
end
theorem u8_info : (Try.prog.info? 5).map (fun i => (i.zero, i.size, i.bytes)) = some (some (.int .u8 0), 1, 1) := by kernel_rfl
/-- append of bytes to a row of the call's own, at a walk's built-in. -/
theorem app_u8 {w : World} {ops : Array Oper} {rest : List Oper} {o : Oper} {a : Act} {Q : Exit → Act → World → Prop} (hgd : o.guard = none) (s y : Operand)
    (ho : o.op = .call { callee := .builtin .append, args := #[s, y], argTypes := #[115, 115] })
    (base : Nat) (v : Value) (x : List UInt8) (hs : a.eval s = v) (hown : Own w base v x) (A : Option Addr) (l : List UInt8) (c : Nat) (hy : a.eval y = .slice A l.length c) (hA : Bys w A l) (hn : x.length + l.length ≤ 211106232532992) (hbase : base ≤ w.heap.size)
    (h : ∀ v' w', Own w' base v' (x ++ l) → Below base w w' → w.grownBy w' v.ownBlock → wpList Try.prog ops Q rest (a.put o.dst v') w') : wpList Try.prog ops Q (o :: rest) a w := by
  obtain ⟨i0, hi, hz0, hz1, hz2⟩ := info_parts u8_info
  exact wpList_app _ hgd s y 115 ho base i0 Try.underlying115 hi hz0 hz1 hz2 v x hs hown A l c hy hA hn hbase
    fun v' w' h1 h2 _ => h v' w' h1 (Below.grown (Below.refl base w) h2 hbase (fun k hk => (World.ownsRow.lt hown _ hk).1)) h2
end Go.Proofs.Ytpcjnagdanmdpaa
