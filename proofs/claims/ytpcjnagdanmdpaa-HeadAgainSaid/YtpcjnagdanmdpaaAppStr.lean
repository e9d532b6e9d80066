/- Appending a text's bytes to a row of bytes of the call's own. -/
import Derived.Test.YtpcjnagdanmdpaaOwn
namespace Go.Proofs.Ytpcjnagdanmdpaa
open Go.RowKit
set_option linter.unusedVariables false
/-- A text's bytes. -/
def strL (s : ByteArray) : List UInt8 := s.data.toList
theorem strL_length (s : ByteArray) : (strL s).length = s.size := by
  show s.data.toList.length = s.data.size
  simp
theorem txt_strL (s : ByteArray) : txt (strL s) = s := by simp [txt, strL]
theorem cells_strL (s : ByteArray) : Go.Lib.strCells s = (bcells (strL s)).toList := by simp [Go.Lib.strCells, bcells, strL]
theorem own_made (w : World) (base : Nat) (x l : List UInt8) (old : Nat) (ho : old < x.length + l.length) (hn : x.length + l.length ≤ 211106232532992) (hbase : base ≤ w.heap.size) (row : Option Nat) :
    Own (w.drew.alloc (.cells ((bcells x).toList.toArray ++ (bcells l).toList.toArray ++ Builtin.zeroCells (Value.int .u8 0).cells (grownCap w (x.length + l.length) old 5 - (x.length + l.length))) 5)) base
      (.slice (some ⟨w.heap.size, 0, none⟩) (x.length + l.length) (grownCap w (x.length + l.length) old 5)) (x ++ l) ∧
    w.grownBy (w.drew.alloc (.cells ((bcells x).toList.toArray ++ (bcells l).toList.toArray ++ Builtin.zeroCells (Value.int .u8 0).cells (grownCap w (x.length + l.length) old 5 - (x.length + l.length))) 5)) row := by
  have hge := grownCap_ge w (x.length + l.length) old 5
  have hle := grownCap_le_maxLen w (x.length + l.length) old 5 (by simp only [maxLen]; omega)
  refine ⟨⟨by simp [bcells], .inr ⟨w.heap.size, _, _, by rw [List.length_append], hbase, heap_alloc_new w.drew _, by rw [List.length_append]; exact hge, hle, ?_, ?_⟩⟩, ⟨rfl, rfl, rfl, by simp, fun k hk _ => heap_alloc_old w.drew _ hk⟩⟩
  · simp only [Array.size_append, List.size_toArray, size_zeroCells, Value.cells]
    simp [bcells]
    omega
  · have e : ((bcells x).toList.toArray ++ (bcells l).toList.toArray).toList = (bcells (x ++ l)).toList := by simp [bcells]
    rw [Array.toList_append, e]
    exact List.take_left' (by simp [bcells])
theorem run_app_str (w : World) (base ty : Nat) (v : Value) (x : List UInt8) (hown : Own w base v x) (s : ByteArray) (hn : x.length + s.size ≤ 211106232532992) (hbase : base ≤ w.heap.size) :
    ∃ v' w', (Builtin.append_ #[115, 9] ty #[v, .string s]).run Try.prog w = .ok v' w' ∧ Own w' base v' (x ++ strL s) ∧ w.grownBy w' v.ownBlock := by
  obtain ⟨i, hi, hz, hs, hby⟩ := info_parts u8_info
  have hll := strL_length s
  have e1 : (s.data.map fun b => Value.int .u8 b.toNat) = (bcells (strL s)).toList.toArray := by
    apply Array.ext'
    simp [bcells, strL]
  have e2 : (Go.Lib.strCells s).toArray = (bcells (strL s)).toList.toArray := by rw [cells_strL]
  rcases hown.2 with ⟨rfl, h0⟩ | ⟨g, cap, cur, rfl, hg, hh, hnc, hcm, hcs, htk⟩
  · obtain rfl := List.eq_nil_of_length_eq_zero h0
    by_cases hm : s.size = 0
    · have hx : strL s = [] := List.eq_nil_of_length_eq_zero (by rw [hll, hm])
      have hf := Go.Lib.run_firstCells_string (P := Try.prog) w 1 s
      rw [hm, cells_strL, hx] at hf
      refine ⟨.slice none 0 0, w, ?_, by rw [hx]; exact own_nil _ _, World.grownBy.refl w _⟩
      simp [Builtin.append_, run_underlying Try.underlying115, run_underlying Try.underlying9, sizeOf, typeInfo, hi, hs, Builtin.lenOf, hm, hf]
    · have hr := run_append_nil_string (P := Try.prog) w 115 9 ty 5 i (.int .u8 0) Try.underlying115 Try.underlying9 hi hz s (by omega) (by simp only [List.length_nil] at hn; omega) (by rw [hby]; simp only [List.length_nil] at hn; omega)
      rw [e1] at hr
      obtain ⟨m1, m2⟩ := own_made w base [] (strL s) 0 (by rw [hll]; simp; omega) (by rw [hll]; exact hn) hbase none
      simp only [List.length_nil, Nat.zero_add, hll] at m1 m2
      refine ⟨_, _, hr, ?_, ?_⟩
      · simpa [bcells] using m1
      · simpa [bcells, Value.ownBlock] using m2
  · by_cases hroom : x.length + s.size ≤ cap
    · have hr := Go.Lib.run_append_room_string (P := Try.prog) w 115 9 ty 5 i Try.underlying115 Try.underlying9 hi hs g x.length cap cur hh s hroom (by omega)
      refine ⟨_, _, hr, ⟨by simp [bcells], .inr ⟨g, cap, _, by rw [List.length_append, hll], hg, setRow_heap w g cur _ 5 _ hh, by rw [List.length_append, hll]; exact hroom, hcm, ?_, ?_⟩⟩, ⟨rfl, rfl, rfl, by simp, fun k _ hk => setRow_other w g k _ (fun e => hk (by simp [Value.ownBlock, e]))⟩⟩
      · simp only [List.size_toArray, List.length_append, List.length_take, List.length_drop, Array.length_toList, Go.Lib.strCells_length]
        omega
      · rw [Nat.mul_one] at htk
        rw [htk, cells_strL]
        have e : (bcells x).toList ++ (bcells (strL s)).toList = (bcells (x ++ strL s)).toList := by simp [bcells]
        rw [e]
        exact List.take_left' (by simp [bcells])
    · have hr := Go.Lib.run_append_grow_string (P := Try.prog) w 115 9 ty 5 i (.int .u8 0) Try.underlying115 Try.underlying9 hi hz ⟨g, 0, none⟩ x.length cap (bcells x).toList (by simp [bcells, hs]) (World.ownsRow.cells hown (g := g) rfl) s (by omega) (by omega)
        (by rw [hby]; have := cap_quarter (need := x.length + s.size) (old := cap) (by omega); omega)
      rw [e2] at hr
      obtain ⟨m1, m2⟩ := own_made w base x (strL s) cap (by rw [hll]; omega) (by rw [hll]; exact hn) hbase (some g)
      rw [hll] at m1 m2
      exact ⟨_, _, hr, m1, m2⟩
/-- append of a text's bytes, at a walk's built-in. -/
theorem app_str {w : World} {ops : Array Oper} {rest : List Oper} {o : Oper} {a : Act} {Q : Exit → Act → World → Prop} (hgd : o.guard = none) (sl y : Operand)
    (ho : o.op = .call { callee := .builtin .append, args := #[sl, y], argTypes := #[115, 9] })
    (base : Nat) (v : Value) (x : List UInt8) (hs : a.eval sl = v) (hown : Own w base v x) (s : ByteArray) (hy : a.eval y = .string s) (hn : x.length + s.size ≤ 211106232532992) (hbase : base ≤ w.heap.size)
    (h : ∀ v' w', Own w' base v' (x ++ strL s) → Below base w w' → w.grownBy w' v.ownBlock → wpList Try.prog ops Q rest (a.put o.dst v') w') : wpList Try.prog ops Q (o :: rest) a w := by
  refine wpList_plain hgd fun K hK => ?_
  obtain ⟨v', w', hr, h2, h3⟩ := run_app_str w base o.type v x hown s hn hbase
  unfold Oper.wp execOp
  simp only [ho, resolve, invoke, builtin, Sem.run_bind, Sem.run_pure, Result.andThen_ok, List.map_toArray, List.map_cons, List.map_nil, hs, hy, hr]
  exact hK _ _ (h v' w' h2 (Below.grown (Below.refl base w) h3 hbase (fun k hk => (World.ownsRow.lt hown _ hk).1)) h3)
end Go.Proofs.Ytpcjnagdanmdpaa
