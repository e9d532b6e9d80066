/- Appending bytes to a row of bytes of the call's own, whatever the source: nil, empty or not. Plain lemmas over the library's own law. -/
import Derived.Test.YtpcjnagdanmdpaaMem
import Derived.Test.YtpcjnagdanmdpaaChecked
import Derived.WalkKit
import Derived.ProofKit
import Derived.Deep.AppendLies
namespace Go.Proofs.Ytpcjnagdanmdpaa
open Go.RowKit
set_option linter.unusedVariables false
/-- The value v is a row of bytes of the call's own, from block base on, and holds x. -/
def Own (w : World) (base : Nat) (v : Value) (x : List UInt8) : Prop := w.ownsRow base 5 1 v x.length (bcells x).toList
theorem own_nil (w : World) (base : Nat) : Own w base (.slice none 0 0) [] := ⟨by simp [bcells], .inl ⟨rfl, rfl⟩⟩
theorem own_form {w : World} {base : Nat} {v : Value} {x : List UInt8} (h : Own w base v x) (hx : 0 < x.length) :
    ∃ g cap, v = .slice (some ⟨g, 0, none⟩) x.length cap ∧ base ≤ g ∧ g < w.heap.size ∧ x.length ≤ cap ∧ cap ≤ maxLen ∧ ∀ i, i < x.length → w.cell? ⟨g, i, none⟩ = some (.int .u8 ((x.getD i 0).toNat : Int)) := by
  rcases h.2 with ⟨rfl, h0⟩ | ⟨g, cap, cur, rfl, hg, hh, hnc, hcm, hcs, htk⟩
  · omega
  · have hrow : Row w g 5 cur := hh
    refine ⟨g, cap, rfl, hg, hrow.lt, hnc, hcm, fun i hi => ?_⟩
    rw [hrow.cell i, ← bcells_get x i hi]
    have e : cur.toList[i]? = (bcells x).toList[i]? := by
      rw [← htk, List.getElem?_take]
      rw [if_pos (by omega)]
    simpa [Array.getElem?_toList] using e
theorem own_bys {w : World} {base g cap : Nat} {x : List UInt8} (h : Own w base (.slice (some ⟨g, 0, none⟩) x.length cap) x) : Bys w (some ⟨g, 0, none⟩) x := by
  rcases Nat.eq_zero_or_pos x.length with h0 | h0
  · exact .inl (List.eq_nil_of_length_eq_zero h0)
  · obtain ⟨g', cap', e, _, hlt, _, _, hc⟩ := own_form h h0
    injection e with e1 _ _
    injection e1 with e1
    injection e1 with e1 _ _
    subst e1
    exact .inr ⟨g, 0, rfl, hlt, fun i hi => by rw [Nat.zero_add]; exact hc i hi⟩
/-- A row that grows grows by no more than a quarter and a little. -/
theorem cap_quarter {need old : Nat} (h : old < need) : Builtin.nextslicecap need old ≤ need + need / 4 + 512 := by
  unfold Builtin.nextslicecap
  split
  · omega
  · split
    · omega
    · rw [growBy_four]
      repeat' split
      all_goals omega
section
variable {P : Program} (w : World)
theorem run_app_nil (base t ty : Nat) (i : TypeInfo) (ht : P.underlying t = some (.slice 5)) (hi : P.info? 5 = some i) (v : Value) (x : List UInt8) (hown : Own w base v x) (c : Nat) :
    (Builtin.append_ #[t, t] ty #[v, .slice none 0 c]).run P w = .ok v w := by
  rcases hown.2 with ⟨rfl, _⟩ | ⟨g, cap, cur, rfl, _, _, hnc, _⟩
  · simp [Builtin.append_, run_underlying ht, sizeOf, typeInfo, hi, Builtin.lenOf, Builtin.firstCells]
  · simp [Builtin.append_, run_underlying ht, sizeOf, typeInfo, hi, Builtin.lenOf, Builtin.firstCells, hnc, storeCells]
theorem run_app (base t ty : Nat) (i : TypeInfo) (ht : P.underlying t = some (.slice 5)) (hi : P.info? 5 = some i) (hz : i.zero = some (.int .u8 0)) (hs : i.size = 1) (hby : i.bytes = 1)
    (v : Value) (x : List UInt8) (hown : Own w base v x) (A : Option Addr) (l : List UInt8) (c : Nat) (hA : Bys w A l) (hn : x.length + l.length ≤ 211106232532992) (hbase : base ≤ w.heap.size) :
    ∃ v' w', (Builtin.append_ #[t, t] ty #[v, .slice A l.length c]).run P w = .ok v' w' ∧ Own w' base v' (x ++ l) ∧ w.grownBy w' v.ownBlock ∧ (v'.ownBlock = v.ownBlock ∨ v'.ownBlock = some w.heap.size) := by
  have key : ∀ a : Addr, (∀ j u, (bcells l).toList[j]? = some u → w.cell? (a.add j) = some u) →
      ∃ v' w', (Builtin.append_ #[t, t] ty #[v, .slice (some a) l.length c]).run P w = .ok v' w' ∧ Own w' base v' (x ++ l) ∧ w.grownBy w' v.ownBlock ∧ (v'.ownBlock = v.ownBlock ∨ v'.ownBlock = some w.heap.size) := by
    intro a ha
    by_cases hsm : x.length + l.length ≤ 140737488355328
    · obtain ⟨v', w', h1, h2, h3, _, h5⟩ := run_append_own_at (P := P) w base t ty 5 i (.int .u8 0) 1 1 ht hi hz hs hby rfl (by omega) v x.length (bcells x).toList hown a l.length c (bcells l).toList
        (by simp [bcells]) ha (by intro u hu; simp [bcells] at hu; obtain ⟨y, _, rfl⟩ := hu; rfl) (by simp only [maxLen]; omega) (by omega) hbase
      refine ⟨v', w', h1, ?_, h3, h5⟩
      unfold Own
      rw [List.length_append, show (bcells (x ++ l)).toList = (bcells x).toList ++ (bcells l).toList from by simp [bcells]]
      exact h2
    · have hll : (bcells l).toList.length = l.length * i.size := by simp [bcells, hs]
      have made : ∀ old, old < x.length + l.length → ∀ row : Option Nat,
          Own (w.drew.alloc (.cells ((bcells x).toList.toArray ++ (bcells l).toList.toArray ++ Builtin.zeroCells (Value.int .u8 0).cells (grownCap w (x.length + l.length) old 5 - (x.length + l.length))) 5)) base
            (.slice (some ⟨w.heap.size, 0, none⟩) (x.length + l.length) (grownCap w (x.length + l.length) old 5)) (x ++ l) ∧
          w.grownBy (w.drew.alloc (.cells ((bcells x).toList.toArray ++ (bcells l).toList.toArray ++ Builtin.zeroCells (Value.int .u8 0).cells (grownCap w (x.length + l.length) old 5 - (x.length + l.length))) 5)) row := by
        intro old ho row
        have hge := grownCap_ge w (x.length + l.length) old 5
        have hle := grownCap_le_maxLen w (x.length + l.length) old 5 (by simp only [maxLen]; omega)
        refine ⟨⟨by simp [bcells], .inr ⟨w.heap.size, _, _, by rw [List.length_append], hbase, heap_alloc_new w.drew _, by rw [List.length_append]; exact hge, hle, ?_, ?_⟩⟩, ⟨rfl, rfl, rfl, by simp, fun k hk _ => heap_alloc_old w.drew _ hk⟩⟩
        · simp only [Array.size_append, List.size_toArray, size_zeroCells, Value.cells]
          simp [bcells]
          omega
        · have e : ((bcells x).toList.toArray ++ (bcells l).toList.toArray).toList = (bcells (x ++ l)).toList := by simp [bcells]
          rw [Array.toList_append, e]
          exact List.take_left' (by simp [bcells])
      have hone : ∀ u ∈ (bcells l).toList, u.oneCell' = true := by intro u hu; simp [bcells] at hu; obtain ⟨y, _, rfl⟩ := hu; rfl
      rcases hown.2 with ⟨rfl, h0⟩ | ⟨g, cap, cur, rfl, hg, hh, hnc, hcm, hcs, htk⟩
      · obtain rfl := List.eq_nil_of_length_eq_zero h0
        simp only [List.length_nil, Nat.zero_add] at hn hsm made ⊢
        have hr := run_append_nil (P := P) w t ty 5 i (.int .u8 0) ht hi hz a l.length c (bcells l).toList hll ha (by omega) (by omega) (by rw [hby]; omega)
        obtain ⟨m1, m2⟩ := made 0 (by omega) none
        refine ⟨_, _, hr, ?_, ?_, .inr rfl⟩
        · simpa [bcells] using m1
        · simpa [bcells, Value.ownBlock] using m2
      · by_cases hroom : x.length + l.length ≤ cap
        · have hr := run_append_room (P := P) w t ty 5 i ht hi g x.length cap cur hh a l.length c (bcells l).toList hll ha hone hroom (by rw [hll, hs, hcs]; omega)
          refine ⟨_, _, hr, ⟨by simp [bcells], .inr ⟨g, cap, _, by rw [List.length_append], hg, setRow_heap w g cur _ 5 _ hh, by rw [List.length_append]; exact hroom, hcm, ?_, ?_⟩⟩, ⟨rfl, rfl, rfl, by simp, fun k _ hk => setRow_other w g k _ (fun e => hk (by simp [Value.ownBlock, e]))⟩, .inl rfl⟩
          · rw [hs]
            simp only [List.size_toArray, List.length_append, List.length_take, List.length_drop, Array.length_toList, hll, hs, hcs]
            omega
          · rw [hs, htk]
            have e : (bcells x).toList ++ (bcells l).toList = (bcells (x ++ l)).toList := by simp [bcells]
            rw [e]
            exact List.take_left' (by simp [bcells])
        · have hr := run_append_grow (P := P) w t ty 5 i (.int .u8 0) ht hi hz ⟨g, 0, none⟩ x.length cap (bcells x).toList (by simp [bcells, hs]) (World.ownsRow.cells hown (g := g) rfl) a l.length c (bcells l).toList hll ha (by omega) (by omega)
            (by rw [hby]; have := cap_quarter (need := x.length + l.length) (old := cap) (by omega); omega)
          obtain ⟨m1, m2⟩ := made cap (by omega) (some g)
          exact ⟨_, _, hr, m1, m2, .inr rfl⟩
  rcases hA with rfl | ⟨b, o, rfl, hb, hc⟩
  · rcases A with _ | a
    · exact ⟨v, w, run_app_nil w base t ty i ht hi v x hown c, by rw [List.append_nil]; exact hown, World.grownBy.refl w _, .inl rfl⟩
    · exact key a (fun j u hj => by simp [bcells] at hj)
  · refine key ⟨b, o, none⟩ (fun j u hj => ?_)
    have hjl : j < l.length := by
      have := (List.getElem?_eq_some_iff.1 hj).1
      simpa [bcells] using this
    have e := bcells_get l j hjl
    rw [← Array.getElem?_toList, hj] at e
    rw [e]
    have := hc j hjl
    have hadd : (⟨b, o, none⟩ : Addr).add j = ⟨b, o + j, none⟩ := by
      unfold Addr.add
      split
      · rename_i h; subst h; rfl
      · rfl
    rw [hadd]
    exact this
theorem wp_app {o : Oper} {a : Act} {K : Act → World → Prop} {Q : Exit → Act → World → Prop} (s y : Operand) (t : Nat)
    (ho : o.op = .call { callee := .builtin .append, args := #[s, y], argTypes := #[t, t] })
    (base : Nat) (i : TypeInfo) (ht : P.underlying t = some (.slice 5)) (hi : P.info? 5 = some i) (hz : i.zero = some (.int .u8 0)) (hs1 : i.size = 1) (hby : i.bytes = 1)
    (v : Value) (x : List UInt8) (hs : a.eval s = v) (hown : Own w base v x) (A : Option Addr) (l : List UInt8) (c : Nat) (hy : a.eval y = .slice A l.length c) (hA : Bys w A l) (hn : x.length + l.length ≤ 211106232532992) (hbase : base ≤ w.heap.size)
    (h : ∀ v' w', Own w' base v' (x ++ l) → w.grownBy w' v.ownBlock → (v'.ownBlock = v.ownBlock ∨ v'.ownBlock = some w.heap.size) → K (a.put o.dst v') w') : o.wp P a w K Q := by
  obtain ⟨v', w', hr, h2, h3, h4⟩ := run_app (P := P) w base t o.type i ht hi hz hs1 hby v x hown A l c hA hn hbase
  unfold Oper.wp execOp
  simp only [ho, resolve, invoke, builtin, Sem.run_bind, Sem.run_pure, Result.andThen_ok, List.map_toArray, List.map_cons, List.map_nil, hs, hy, hr]
  exact h v' w' h2 h3 h4
theorem wpList_app {ops : Array Oper} {rest : List Oper} {o : Oper} {a : Act} {Q : Exit → Act → World → Prop} (hgd : o.guard = none) (s y : Operand) (t : Nat)
    (ho : o.op = .call { callee := .builtin .append, args := #[s, y], argTypes := #[t, t] })
    (base : Nat) (i : TypeInfo) (ht : P.underlying t = some (.slice 5)) (hi : P.info? 5 = some i) (hz : i.zero = some (.int .u8 0)) (hs1 : i.size = 1) (hby : i.bytes = 1)
    (v : Value) (x : List UInt8) (hs : a.eval s = v) (hown : Own w base v x) (A : Option Addr) (l : List UInt8) (c : Nat) (hy : a.eval y = .slice A l.length c) (hA : Bys w A l) (hn : x.length + l.length ≤ 211106232532992) (hbase : base ≤ w.heap.size)
    (h : ∀ v' w', Own w' base v' (x ++ l) → w.grownBy w' v.ownBlock → (v'.ownBlock = v.ownBlock ∨ v'.ownBlock = some w.heap.size) → wpList P ops Q rest (a.put o.dst v') w') : wpList P ops Q (o :: rest) a w :=
  wpList_plain hgd fun _ hK => wp_app w s y t ho base i ht hi hz hs1 hby v x hs hown A l c hy hA hn hbase fun v' w' h2 h3 h4 => hK _ _ (h v' w' h2 h3 h4)
theorem step_app {ops : Array Oper} {o : Oper} {a : Act} {K : Act → World → Prop} {Q : Exit → Act → World → Prop} {E : Prop} (hgd : o.guard = none) (s y : Operand) (t : Nat)
    (ho : o.op = .call { callee := .builtin .append, args := #[s, y], argTypes := #[t, t] })
    (base : Nat) (i : TypeInfo) (ht : P.underlying t = some (.slice 5)) (hi : P.info? 5 = some i) (hz : i.zero = some (.int .u8 0)) (hs1 : i.size = 1) (hby : i.bytes = 1)
    (v : Value) (x : List UInt8) (hs : a.eval s = v) (hown : Own w base v x) (A : Option Addr) (l : List UInt8) (c : Nat) (hy : a.eval y = .slice A l.length c) (hA : Bys w A l) (hn : x.length + l.length ≤ 211106232532992) (hbase : base ≤ w.heap.size)
    (h : ∀ v' w', Own w' base v' (x ++ l) → w.grownBy w' v.ownBlock → (v'.ownBlock = v.ownBlock ∨ v'.ownBlock = some w.heap.size) → K (a.put o.dst v') w') :
    if Region.wanted o (yielded ops a.tmps) = true then Oper.wp P o a w K Q else E := by
  have hw : Region.wanted o (yielded ops a.tmps) = true := by simp [Region.wanted, hgd]
  rw [if_pos hw]
  exact wp_app w s y t ho base i ht hi hz hs1 hby v x hs hown A l c hy hA hn hbase h
end
end Go.Proofs.Ytpcjnagdanmdpaa
