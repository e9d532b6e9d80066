/- Rows of samples (two cells each): that stand at an address, that are the call's own; append of such a row to an own one; how a law's argument of that type is opened. -/
import Derived.Test.YtpcjnagdanmdpaaRowsG
import Derived.Test.YtpcjnagdanmdpaaChMath
import Derived.Test.YtpcjnagdanmdpaaOpen
namespace Go.Proofs.Ytpcjnagdanmdpaa.Ch
open Go.ChangeShapes Go.WideShapes Go.ChangeAt Go.RowKit Go.Joins Go.Maps
set_option linter.unusedVariables false
def smpE (s : Smp) : List Value := [.int .i64 s.1, .int .i64 s.2]
theorem smpE_len (s : Smp) : (smpE s).length = 2 := rfl
def Smps (w : World) (A : Option Addr) (l : List Smp) : Prop := At w A (l.flatMap smpE)
theorem Smps.below {w w' : World} {A : Option Addr} {l : List Smp} (h : Smps w A l) (hb : Below w.heap.size w w') : Smps w' A l := At.below h hb
theorem Smps.alloc {w : World} {A : Option Addr} {l : List Smp} (h : Smps w A l) (o : Obj) : Smps (w.alloc o) A l := At.alloc h o
theorem Smps.nil (w : World) (A : Option Addr) : Smps w A [] := .inl rfl
theorem Smps.at_ {w : World} {A : Option Addr} {l : List Smp} (h : Smps w A l) {i : Nat} (hi : i < l.length) :
    ∃ b o, A = some ⟨b, o, none⟩ ∧ b < w.heap.size ∧ w.cell? ⟨b, o + i * 2, none⟩ = some (.int .i64 (tOf l i)) ∧ w.cell? ⟨b, o + i * 2 + 1, none⟩ = some (.int .i64 (vOf l i)) := by
  have hlen := flat_len smpE 2 smpE_len l
  rcases h with h | ⟨b, o, rfl, hb, hc⟩
  · rw [h] at hlen; simp at hlen; omega
  · refine ⟨b, o, rfl, hb, ?_, ?_⟩
    · have := hc (i * 2 + 0) _ (flat_get smpE 2 smpE_len l i _ 0 (getD_some l (0, 0) hi) (by omega))
      exact this
    · have := hc (i * 2 + 1) _ (flat_get smpE 2 smpE_len l i _ 1 (getD_some l (0, 0) hi) (by omega))
      exact this
/-- The first address is the same for every element. -/
theorem Smps.all {w : World} {A : Option Addr} {l : List Smp} (h : Smps w A l) (hl : 0 < l.length) :
    ∃ b o, A = some ⟨b, o, none⟩ ∧ b < w.heap.size ∧ ∀ i, i < l.length → w.cell? ⟨b, o + i * 2, none⟩ = some (.int .i64 (tOf l i)) ∧ w.cell? ⟨b, o + i * 2 + 1, none⟩ = some (.int .i64 (vOf l i)) := by
  obtain ⟨b, o, rfl, hb, _⟩ := h.at_ hl
  refine ⟨b, o, rfl, hb, fun i hi => ?_⟩
  obtain ⟨b', o', e, _, h1, h2⟩ := h.at_ hi
  injection e with e
  injection e with e1 e2 _
  subst e1 e2
  exact ⟨h1, h2⟩
/-- The value v is a row of samples of the call's own, from block base on, and holds l. -/
def OwnS (w : World) (base : Nat) (v : Value) (l : List Smp) : Prop := w.ownsRow base 63 2 v l.length (l.flatMap smpE)
section
variable {w w' : World} {base : Nat} {v : Value} {l : List Smp}
theorem owns_nil (w : World) (base : Nat) : OwnS w base (.slice none 0 0) [] := ⟨rfl, .inl ⟨rfl, rfl⟩⟩
theorem owns_empty {g : Nat} (h : Row w g 63 #[]) (hb : base ≤ g) : OwnS w base (.slice (some ⟨g, 0, none⟩) 0 0) [] :=
  ⟨rfl, .inr ⟨g, 0, #[], rfl, hb, h, Nat.le_refl _, by simp [maxLen], by simp, by simp⟩⟩
theorem owns_below (h : OwnS w base v l) (hb : Below w.heap.size w w') : OwnS w' base v l := rows_below h hb
theorem owns_lower {base' : Nat} (h : OwnS w base v l) (hb : base' ≤ base) : OwnS w base' v l := rows_lower h hb
theorem owns_slice (h : OwnS w base v l) : ∃ P c, v = .slice P l.length c ∧ l.length ≤ c ∧ Smps w P l ∧ ∀ ad, P = some ad → base ≤ ad.block := rows_slice h
end
theorem sample_info : (Try.prog.info? 63).map (fun i => (i.zero, i.size, i.bytes)) = some (some (.agg #[.int .i64 0, .int .i64 0]), 2, 16) := by kernel_rfl
theorem smp_one (l : List Smp) : ∀ u ∈ l.flatMap smpE, u.oneCell' = true := by
  intro u hu
  simp only [List.mem_flatMap, smpE, List.mem_cons, List.not_mem_nil, or_false] at hu
  obtain ⟨x, _, rfl | rfl⟩ := hu <;> rfl
/-- append of samples to an own row, at a walk's built-in. -/
theorem app_smps {w : World} {ops : Array Oper} {rest : List Oper} {o : Oper} {a : Act} {Q : Exit → Act → World → Prop} (hgd : o.guard = none) (s y : Operand)
    (ho : o.op = .call { callee := .builtin .append, args := #[s, y], argTypes := #[45, 45] })
    (base : Nat) (v : Value) (x : List Smp) (hs : a.eval s = v) (hown : OwnS w base v x) (A : Option Addr) (l : List Smp) (c : Nat) (hy : a.eval y = .slice A l.length c) (hA : Smps w A l) (hn : (x.length + l.length) * 16 ≤ 140737488355328) (hbase : base ≤ w.heap.size)
    (h : ∀ v' w', OwnS w' base v' (x ++ l) → Below base w w' → w.grownBy w' v.ownBlock → wpList Try.prog ops Q rest (a.put o.dst v') w') : wpList Try.prog ops Q (o :: rest) a w := by
  obtain ⟨i0, hi, hz0, hz1, hz2⟩ := info_parts sample_info
  refine wpList_app_at hgd s y 45 ho base 63 i0 _ 2 16 Try.underlying45 hi hz0 hz1 hz2 rfl (by omega) v x.length (x.flatMap smpE) hs hown A l.length c (l.flatMap smpE) hy (flat_len smpE 2 smpE_len l) hA (smp_one l)
    (by simp only [maxLen]; omega) hn hbase ?_
  intro v' w' h1 h2 h3
  refine h v' w' ?_ h2 h3
  unfold OwnS
  rw [List.flatMap_append, List.length_append]
  exact h1
theorem smps_cell {w : World} {g : Nat} {t v : Int} (h : Row w g 63 #[.int .i64 t, .int .i64 v]) : Smps w (some ⟨g, 0, none⟩) [(t, v)] := At.row h
section
variable {H : Type} {enc : TypeId × Value → H} {W : World} {base : Nat} {sp : Nat → Bool} {held : Bool}
end
end Go.Proofs.Ytpcjnagdanmdpaa.Ch
