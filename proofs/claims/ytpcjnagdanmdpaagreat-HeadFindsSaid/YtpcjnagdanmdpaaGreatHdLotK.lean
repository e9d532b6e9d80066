/- In one text, written by lotify.py: Words, BitMath, Mem, App, Str, Own, AppStr. -/
import Derived.Lib.Hide
import Derived.Test.YtpcjnagdanmdpaaGreatChecked
import Derived.ProofKit
import Derived.Deep.AppendLies
import Derived.WalkSpells
import Derived.WalkLawsBesides
namespace Go.Proofs.YtpcjnagdanmdpaaGreat
open Go.RowKit
/-- The bytes l stand from the address A on (of none nothing is asked). -/
def Bys (w : World) (A : Option Addr) (l : List UInt8) : Prop :=
  l = [] ∨ ∃ b o, A = some ⟨b, o, none⟩ ∧ b < w.heap.size ∧ ∀ i, i < l.length → w.cell? ⟨b, o + i, none⟩ = some (.int .u8 ((l.getD i 0).toNat : Int))
theorem Bys.empty (w : World) (A : Option Addr) : Bys w A [] := .inl rfl
theorem below_drewN' {B : Nat} {a w : World} (h : Below B a w) (n : Nat) : Below B a (w.drewN n) := ⟨h.os, h.tape, h.output, h.size, h.block⟩
theorem below_one (w : World) (o : Obj) : Below w.heap.size w (w.alloc o) := (Below.refl _ _).alloc (Nat.le_refl _) o
theorem below_then {w w1 w2 : World} (h : Below w.heap.size w w1) (k : Below w1.heap.size w1 w2) : Below w.heap.size w w2 := h.trans (k.mono h.size)
end Go.Proofs.YtpcjnagdanmdpaaGreat

namespace Go.Proofs.YtpcjnagdanmdpaaGreat
theorem getD_in {α : Type} (l : List α) (d : α) {i : Nat} (h : i < l.length) : l.getD i d = l[i] := by
  rw [List.getD_eq_getElem?_getD, List.getElem?_eq_getElem h]
  rfl
end Go.Proofs.YtpcjnagdanmdpaaGreat

namespace Go.Proofs.YtpcjnagdanmdpaaGreat
open Go.RowKit
set_option linter.unusedVariables false
def bcells (l : List UInt8) : Array Value := (l.map fun x => Value.int .u8 (x.toNat : Int)).toArray
theorem bcells_get (l : List UInt8) (i : Nat) (h : i < l.length) : (bcells l)[i]? = some (.int .u8 ((l.getD i 0).toNat : Int)) := by
  simp [bcells, h]
/-- Block g is just these cells of type t, none of them frozen. -/
def Row (w : World) (g : Nat) (t : TypeId) (cs : Array Value) : Prop := w.heap[g]? = some (.cells cs t (0, 0))
section
variable {w w' : World} {g : Nat} {t : TypeId} {cs : Array Value}
theorem Row.lt (h : Row w g t cs) : g < w.heap.size := by
  rcases Nat.lt_or_ge g w.heap.size with hlt | hge
  · exact hlt
  · unfold Row at h
    rw [Array.getElem?_eq_none hge] at h
    cases h
theorem Row.cell (h : Row w g t cs) (i : Nat) : w.cell? ⟨g, i, none⟩ = cs[i]? := cell_of_row w g i cs t (0, 0) h
theorem Row.frozen (h : Row w g t cs) (i : Nat) : w.frozen? ⟨g, i, none⟩ = false := by
  unfold Row at h
  simp [World.frozen?, h]
theorem Row.setAt (h : Row w g t cs) (i : Nat) (u : Value) : Row (w.setCell ⟨g, i, none⟩ u) g t (cs.setIfInBounds i u) := by
  unfold Row at h ⊢
  simp [World.setCell, Array.getElem?_modify, h]
theorem Row.setFar (h : Row w g t cs) {p : Addr} (hp : g ≠ p.block) (u : Value) : Row (w.setCell p u) g t cs := (Below.heap_setCell w p u g hp).trans h
theorem Row.below {B : Nat} (h : Row w g t cs) (hb : Below B w w') (hg : g < B) : Row w' g t cs := (hb.block g hg).trans h
theorem Row.new (w : World) (t : TypeId) (cs : Array Value) : Row (w.alloc (.cells cs t)) w.heap.size t cs := heap_alloc_new w _
theorem Row.alloc (h : Row w g t cs) (o : Obj) : Row (w.alloc o) g t cs := (Below.heap_alloc w o g h.lt).trans h
end
/-- But for the blocks g and h, and for what is new, nothing has turned. -/
structure Two (w w' : World) (g h : Nat) : Prop where
  os : w'.os = w.os
  tape : w'.tape = w.tape
  output : w'.output = w.output
  size : w.heap.size ≤ w'.heap.size
  block : ∀ k, k < w.heap.size → k ≠ g → k ≠ h → w'.heap[k]? = w.heap[k]?
theorem Two.refl (w : World) (g h : Nat) : Two w w g h := ⟨rfl, rfl, rfl, Nat.le_refl _, fun _ _ _ _ => rfl⟩
theorem Two.drewN {w w' : World} {g h : Nat} (k : Two w w' g h) (n : Nat) : Two w (w'.drewN n) g h := ⟨k.os, k.tape, k.output, k.size, k.block⟩
theorem Two.set {w w' : World} {g h : Nat} (k : Two w w' g h) {p : Addr} (hp : p.block = g ∨ p.block = h) (u : Value) : Two w (w'.setCell p u) g h :=
  ⟨k.os, k.tape, k.output, by simpa [World.setCell] using k.size, fun i hi h1 h2 => (Below.heap_setCell w' p u i (by omega)).trans (k.block i hi h1 h2)⟩
theorem Two.trans {a b c : World} {g h : Nat} (k : Two a b g h) (m : Two b c g h) : Two a c g h :=
  ⟨m.os.trans k.os, m.tape.trans k.tape, m.output.trans k.output, Nat.le_trans k.size m.size, fun i hi h1 h2 => (m.block i (Nat.lt_of_lt_of_le hi k.size) h1 h2).trans (k.block i hi h1 h2)⟩
theorem Two.below {B : Nat} {a w w' : World} {g h : Nat} (b : Below B a w) (k : Two w w' g h) (hB : B ≤ w.heap.size) (hg : B ≤ g) (hh : B ≤ h) : Below B a w' :=
  b.trans ⟨k.os, k.tape, k.output, k.size, fun i hi => k.block i (by omega) (by omega) (by omega)⟩
/-- The value v is a row of bytes of the call's own, from block base on, and holds x. -/
def Own (w : World) (base : Nat) (v : Value) (x : List UInt8) : Prop := w.ownsRow base 5 1 v x.length (bcells x).toList
theorem own_nil (w : World) (base : Nat) : Own w base (.slice none 0 0) [] := ⟨by simp [bcells], .inl ⟨rfl, rfl⟩⟩
theorem own_form {w : World} {base : Nat} {v : Value} {x : List UInt8} (h : Own w base v x) (hx : 0 < x.length) :
    ∃ g cap, v = .slice (some ⟨g, 0, none⟩) x.length cap ∧ base ≤ g ∧ g < w.heap.size ∧ x.length ≤ cap ∧ cap ≤ maxLen ∧ ∀ i, i < x.length → w.cell? ⟨g, i, none⟩ = some (.int .u8 ((x.getD i 0).toNat : Int)) := by
  rcases h.2 with ⟨rfl, h0⟩ | ⟨g, cap, cur, rfl, hg, hh, hnc, hcm, hcs, htk⟩
  · omega
  · have hrow : Row w g 5 cur := hh
    refine ⟨g, cap, rfl, hg, hrow.lt, hnc, hcm, fun i hi => ?_⟩
    rw [hrow.cell i, ← bcells_get x i hi]
    have e : cur.toList[i]? = (bcells x).toList[i]? := by
      rw [← htk, List.getElem?_take]
      rw [if_pos (by omega)]
    simpa [Array.getElem?_toList] using e
theorem own_bys {w : World} {base g cap : Nat} {x : List UInt8} (h : Own w base (.slice (some ⟨g, 0, none⟩) x.length cap) x) : Bys w (some ⟨g, 0, none⟩) x := by
  rcases Nat.eq_zero_or_pos x.length with h0 | h0
  · exact .inl (List.eq_nil_of_length_eq_zero h0)
  · obtain ⟨g', cap', e, _, hlt, _, _, hc⟩ := own_form h h0
    injection e with e1 _ _
    injection e1 with e1
    injection e1 with e1 _ _
    subst e1
    exact .inr ⟨g, 0, rfl, hlt, fun i hi => by rw [Nat.zero_add]; exact hc i hi⟩
/-- A row that grows grows by no more than a quarter and a little. -/
theorem cap_quarter {need old : Nat} (h : old < need) : Builtin.nextslicecap need old ≤ need + need / 4 + 512 := by
  unfold Builtin.nextslicecap
  split
  · omega
  · split
    · omega
    · rw [growBy_four]
      repeat' split
      all_goals omega
section
variable {P : Program} (w : World)
theorem run_app_nil (base t ty : Nat) (i : TypeInfo) (ht : P.underlying t = some (.slice 5)) (hi : P.info? 5 = some i) (v : Value) (x : List UInt8) (hown : Own w base v x) (c : Nat) :
    (Builtin.append_ #[t, t] ty #[v, .slice none 0 c]).run P w = .ok v w := by
  rcases hown.2 with ⟨rfl, _⟩ | ⟨g, cap, cur, rfl, _, _, hnc, _⟩
  · simp [Builtin.append_, run_underlying ht, sizeOf, typeInfo, hi, Builtin.lenOf, Builtin.firstCells]
  · simp [Builtin.append_, run_underlying ht, sizeOf, typeInfo, hi, Builtin.lenOf, Builtin.firstCells, hnc, storeCells]
theorem run_app (base t ty : Nat) (i : TypeInfo) (ht : P.underlying t = some (.slice 5)) (hi : P.info? 5 = some i) (hz : i.zero = some (.int .u8 0)) (hs : i.size = 1) (hby : i.bytes = 1)
    (v : Value) (x : List UInt8) (hown : Own w base v x) (A : Option Addr) (l : List UInt8) (c : Nat) (hA : Bys w A l) (hn : x.length + l.length ≤ 211106232532992) (hbase : base ≤ w.heap.size) :
    ∃ v' w', (Builtin.append_ #[t, t] ty #[v, .slice A l.length c]).run P w = .ok v' w' ∧ Own w' base v' (x ++ l) ∧ w.grownBy w' v.ownBlock ∧ (v'.ownBlock = v.ownBlock ∨ v'.ownBlock = some w.heap.size) := by
  have key : ∀ a : Addr, (∀ j u, (bcells l).toList[j]? = some u → w.cell? (a.add j) = some u) →
      ∃ v' w', (Builtin.append_ #[t, t] ty #[v, .slice (some a) l.length c]).run P w = .ok v' w' ∧ Own w' base v' (x ++ l) ∧ w.grownBy w' v.ownBlock ∧ (v'.ownBlock = v.ownBlock ∨ v'.ownBlock = some w.heap.size) := by
    intro a ha
    by_cases hsm : x.length + l.length ≤ 140737488355328
    · obtain ⟨v', w', h1, h2, h3, _, h5⟩ := run_append_own_at (P := P) w base t ty 5 i (.int .u8 0) 1 1 ht hi hz hs hby rfl (by omega) v x.length (bcells x).toList hown a l.length c (bcells l).toList
        (by simp [bcells]) ha (by intro u hu; simp [bcells] at hu; obtain ⟨y, _, rfl⟩ := hu; rfl) (by simp only [maxLen]; omega) (by omega) hbase
      refine ⟨v', w', h1, ?_, h3, h5⟩
      unfold Own
      rw [List.length_append, show (bcells (x ++ l)).toList = (bcells x).toList ++ (bcells l).toList from by simp [bcells]]
      exact h2
    · have hll : (bcells l).toList.length = l.length * i.size := by simp [bcells, hs]
      have made : ∀ old, old < x.length + l.length → ∀ row : Option Nat,
          Own (w.drew.alloc (.cells ((bcells x).toList.toArray ++ (bcells l).toList.toArray ++ Builtin.zeroCells (Value.int .u8 0).cells (grownCap w (x.length + l.length) old 5 - (x.length + l.length))) 5)) base
            (.slice (some ⟨w.heap.size, 0, none⟩) (x.length + l.length) (grownCap w (x.length + l.length) old 5)) (x ++ l) ∧
          w.grownBy (w.drew.alloc (.cells ((bcells x).toList.toArray ++ (bcells l).toList.toArray ++ Builtin.zeroCells (Value.int .u8 0).cells (grownCap w (x.length + l.length) old 5 - (x.length + l.length))) 5)) row := by
        intro old ho row
        have hge := grownCap_ge w (x.length + l.length) old 5
        have hle := grownCap_le_maxLen w (x.length + l.length) old 5 (by simp only [maxLen]; omega)
        refine ⟨⟨by simp [bcells], .inr ⟨w.heap.size, _, _, by rw [List.length_append], hbase, heap_alloc_new w.drew _, by rw [List.length_append]; exact hge, hle, ?_, ?_⟩⟩, ⟨rfl, rfl, rfl, by simp, fun k hk _ => heap_alloc_old w.drew _ hk⟩⟩
        · simp only [Array.size_append, List.size_toArray, size_zeroCells, Value.cells]
          simp [bcells]
          omega
        · have e : ((bcells x).toList.toArray ++ (bcells l).toList.toArray).toList = (bcells (x ++ l)).toList := by simp [bcells]
          rw [Array.toList_append, e]
          exact List.take_left' (by simp [bcells])
      have hone : ∀ u ∈ (bcells l).toList, u.oneCell' = true := by intro u hu; simp [bcells] at hu; obtain ⟨y, _, rfl⟩ := hu; rfl
      rcases hown.2 with ⟨rfl, h0⟩ | ⟨g, cap, cur, rfl, hg, hh, hnc, hcm, hcs, htk⟩
      · obtain rfl := List.eq_nil_of_length_eq_zero h0
        simp only [List.length_nil, Nat.zero_add] at hn hsm made ⊢
        have hr := run_append_nil (P := P) w t ty 5 i (.int .u8 0) ht hi hz a l.length c (bcells l).toList hll ha (by omega) (by omega) (by rw [hby]; omega)
        obtain ⟨m1, m2⟩ := made 0 (by omega) none
        refine ⟨_, _, hr, ?_, ?_, .inr rfl⟩
        · simpa [bcells] using m1
        · simpa [bcells, Value.ownBlock] using m2
      · by_cases hroom : x.length + l.length ≤ cap
        · have hr := run_append_room (P := P) w t ty 5 i ht hi g x.length cap cur hh a l.length c (bcells l).toList hll ha hone hroom (by rw [hll, hs, hcs]; omega)
          refine ⟨_, _, hr, ⟨by simp [bcells], .inr ⟨g, cap, _, by rw [List.length_append], hg, setRow_heap w g cur _ 5 _ hh, by rw [List.length_append]; exact hroom, hcm, ?_, ?_⟩⟩, ⟨rfl, rfl, rfl, by simp, fun k _ hk => setRow_other w g k _ (fun e => hk (by simp [Value.ownBlock, e]))⟩, .inl rfl⟩
          · rw [hs]
            simp only [List.size_toArray, List.length_append, List.length_take, List.length_drop, Array.length_toList, hll, hs, hcs]
            omega
          · rw [hs, htk]
            have e : (bcells x).toList ++ (bcells l).toList = (bcells (x ++ l)).toList := by simp [bcells]
            rw [e]
            exact List.take_left' (by simp [bcells])
        · have hr := run_append_grow (P := P) w t ty 5 i (.int .u8 0) ht hi hz ⟨g, 0, none⟩ x.length cap (bcells x).toList (by simp [bcells, hs]) (World.ownsRow.cells hown (g := g) rfl) a l.length c (bcells l).toList hll ha (by omega) (by omega)
            (by rw [hby]; have := cap_quarter (need := x.length + l.length) (old := cap) (by omega); omega)
          obtain ⟨m1, m2⟩ := made cap (by omega) (some g)
          exact ⟨_, _, hr, m1, m2, .inr rfl⟩
  rcases hA with rfl | ⟨b, o, rfl, hb, hc⟩
  · rcases A with _ | a
    · exact ⟨v, w, run_app_nil w base t ty i ht hi v x hown c, by rw [List.append_nil]; exact hown, World.grownBy.refl w _, .inl rfl⟩
    · exact key a (fun j u hj => by simp [bcells] at hj)
  · refine key ⟨b, o, none⟩ (fun j u hj => ?_)
    have hjl : j < l.length := by
      have := (List.getElem?_eq_some_iff.1 hj).1
      simpa [bcells] using this
    have e := bcells_get l j hjl
    rw [← Array.getElem?_toList, hj] at e
    rw [e]
    have := hc j hjl
    have hadd : (⟨b, o, none⟩ : Addr).add j = ⟨b, o + j, none⟩ := by
      unfold Addr.add
      split
      · rename_i h; subst h; rfl
      · rfl
    rw [hadd]
    exact this
theorem wp_app {o : Oper} {a : Act} {K : Act → World → Prop} {Q : Exit → Act → World → Prop} (s y : Operand) (t : Nat)
    (ho : o.op = .call { callee := .builtin .append, args := #[s, y], argTypes := #[t, t] })
    (base : Nat) (i : TypeInfo) (ht : P.underlying t = some (.slice 5)) (hi : P.info? 5 = some i) (hz : i.zero = some (.int .u8 0)) (hs1 : i.size = 1) (hby : i.bytes = 1)
    (v : Value) (x : List UInt8) (hs : a.eval s = v) (hown : Own w base v x) (A : Option Addr) (l : List UInt8) (c : Nat) (hy : a.eval y = .slice A l.length c) (hA : Bys w A l) (hn : x.length + l.length ≤ 211106232532992) (hbase : base ≤ w.heap.size)
    (h : ∀ v' w', Own w' base v' (x ++ l) → w.grownBy w' v.ownBlock → (v'.ownBlock = v.ownBlock ∨ v'.ownBlock = some w.heap.size) → K (a.put o.dst v') w') : o.wp P a w K Q := by
  obtain ⟨v', w', hr, h2, h3, h4⟩ := run_app (P := P) w base t o.type i ht hi hz hs1 hby v x hown A l c hA hn hbase
  unfold Oper.wp execOp
  simp only [ho, resolve, invoke, builtin, Sem.run_bind, Sem.run_pure, Result.andThen_ok, List.map_toArray, List.map_cons, List.map_nil, hs, hy, hr]
  exact h v' w' h2 h3 h4
theorem wpList_app {ops : Array Oper} {rest : List Oper} {o : Oper} {a : Act} {Q : Exit → Act → World → Prop} (hgd : o.guard = none) (s y : Operand) (t : Nat)
    (ho : o.op = .call { callee := .builtin .append, args := #[s, y], argTypes := #[t, t] })
    (base : Nat) (i : TypeInfo) (ht : P.underlying t = some (.slice 5)) (hi : P.info? 5 = some i) (hz : i.zero = some (.int .u8 0)) (hs1 : i.size = 1) (hby : i.bytes = 1)
    (v : Value) (x : List UInt8) (hs : a.eval s = v) (hown : Own w base v x) (A : Option Addr) (l : List UInt8) (c : Nat) (hy : a.eval y = .slice A l.length c) (hA : Bys w A l) (hn : x.length + l.length ≤ 211106232532992) (hbase : base ≤ w.heap.size)
    (h : ∀ v' w', Own w' base v' (x ++ l) → w.grownBy w' v.ownBlock → (v'.ownBlock = v.ownBlock ∨ v'.ownBlock = some w.heap.size) → wpList P ops Q rest (a.put o.dst v') w') : wpList P ops Q (o :: rest) a w :=
  wpList_plain hgd fun _ hK => wp_app w s y t ho base i ht hi hz hs1 hby v x hs hown A l c hy hA hn hbase fun v' w' h2 h3 h4 => hK _ _ (h v' w' h2 h3 h4)
theorem step_app {ops : Array Oper} {o : Oper} {a : Act} {K : Act → World → Prop} {Q : Exit → Act → World → Prop} {E : Prop} (hgd : o.guard = none) (s y : Operand) (t : Nat)
    (ho : o.op = .call { callee := .builtin .append, args := #[s, y], argTypes := #[t, t] })
    (base : Nat) (i : TypeInfo) (ht : P.underlying t = some (.slice 5)) (hi : P.info? 5 = some i) (hz : i.zero = some (.int .u8 0)) (hs1 : i.size = 1) (hby : i.bytes = 1)
    (v : Value) (x : List UInt8) (hs : a.eval s = v) (hown : Own w base v x) (A : Option Addr) (l : List UInt8) (c : Nat) (hy : a.eval y = .slice A l.length c) (hA : Bys w A l) (hn : x.length + l.length ≤ 211106232532992) (hbase : base ≤ w.heap.size)
    (h : ∀ v' w', Own w' base v' (x ++ l) → w.grownBy w' v.ownBlock → (v'.ownBlock = v.ownBlock ∨ v'.ownBlock = some w.heap.size) → K (a.put o.dst v') w') :
    if Region.wanted o (yielded ops a.tmps) = true then Oper.wp P o a w K Q else E := by
  have hw : Region.wanted o (yielded ops a.tmps) = true := by simp [Region.wanted, hgd]
  rw [if_pos hw]
  exact wp_app w s y t ho base i ht hi hz hs1 hby v x hs hown A l c hy hA hn hbase h
end
theorem add_at (b o j : Nat) : (⟨b, o, none⟩ : Addr).add j = ⟨b, o + j, none⟩ := by
  unfold Addr.add
  split
  · rename_i h; subst h; rfl
  · rfl
def txt (l : List UInt8) : ByteArray := ⟨l.toArray⟩
theorem nums_txt (l : List UInt8) : strOfNums (l.map fun x => (x.toNat : Int)) = txt l := by
  unfold strOfNums txt
  congr 2
  rw [List.map_map]
  conv => rhs; rw [← List.map_id l]
  apply List.map_congr_left
  intro x _
  simp
theorem conv_bys (w : World) (A : Option Addr) (l : List UInt8) (c : Nat) (hA : Bys w A l) :
    (convert 113 9 (.slice A l.length c)).run Tryz.prog w = .ok (.string (txt l)) w := by
  rcases hA with rfl | ⟨b, o, rfl, _, hc⟩
  · rcases A with _ | a
    · exact run_convert_bytes_nil w 113 5 Tryz.underlying113 Tryz.underlying5 _ _ 9 Tryz.underlying9
    · have h := run_convert_bytes_string (P := Tryz.prog) w 113 9 5 (some a) 0 c Tryz.underlying113 Tryz.underlying5 Tryz.underlying9
      show (convert 113 9 (.slice (some a) 0 c)).run Tryz.prog w = _
      rw [h, run_bytesToString w a 0 c [] (by simpa using run_loadCells_list (P := Tryz.prog) w a [] (fun j v hj => by simp at hj))]
      rfl
  · have h := run_convert_bytes_arg (P := Tryz.prog) w 113 5 Tryz.underlying113 Tryz.underlying5 b o l.length c (l.map fun x => (x.toNat : Int)) (by simp)
      (fun i hi => by rw [hc i hi]; simp [hi]) 9 Tryz.underlying9
    rw [h, nums_txt]
theorem Row.bys {w : World} {g : Nat} {l : List UInt8} (h : Row w g 5 (bcells l)) : Bys w (some ⟨g, 0, none⟩) l :=
  .inr ⟨g, 0, rfl, h.lt, fun i hi => by rw [Nat.zero_add, h.cell i]; exact bcells_get l i hi⟩
theorem grown_row {w w' : World} {row : Option Nat} {g : Nat} {t : TypeId} {cs : Array Value} (h : Row w g t cs) (hg : w.grownBy w' row) (hne : some g ≠ row) : Row w' g t cs := (hg.block g h.lt hne).trans h
theorem row_at (w : World) (o : Obj) (cs : Array Value) (t : TypeId) : Row ((w.alloc o).alloc (.cells cs t)) (w.heap.size + 1) t cs := by
  have := Row.new (w.alloc o) t cs
  rw [show (w.alloc o).heap.size = w.heap.size + 1 from by simp] at this
  exact this
section
variable {w : World} {base : Nat} {v : Value} {x : List UInt8}
theorem own_alloc (h : Own w base v x) (o : Obj) : Own (w.alloc o) base v x := World.ownsRow.alloc h o
theorem own_below {w' : World} (h : Own w base v x) (hb : Below w.heap.size w w') : Own w' base v x := by
  refine ⟨h.1, ?_⟩
  rcases h.2 with h2 | ⟨g, cap, cur, hv, hg, hh, r⟩
  · exact .inl h2
  · exact .inr ⟨g, cap, cur, hv, hg, (hb.block g (Row.lt (cs := cur) hh)).trans hh, r⟩
theorem own_slice' (h : Own w base v x) : ∃ B d, v = .slice B x.length d ∧ Bys w B x ∧ ∀ ad, B = some ad → base ≤ ad.block := by
  rcases h.2 with ⟨rfl, h0⟩ | ⟨g, cap, cur, rfl, hg, _⟩
  · obtain rfl := List.eq_nil_of_length_eq_zero h0
    exact ⟨none, 0, rfl, Bys.empty _ _, fun ad e => by cases e⟩
  · exact ⟨some ⟨g, 0, none⟩, cap, rfl, own_bys h, fun ad e => by injection e with e; subst e; exact hg⟩
theorem own_ne {X : Nat} {t : TypeId} {cs : Array Value} (h : Own w base v x) (hX : Row w X t cs) (ht : t ≠ 5) : some X ≠ v.ownBlock := by
  rcases h.2 with ⟨rfl, _⟩ | ⟨g, cap, cur, rfl, hg, hh, _⟩
  · simp [Value.ownBlock]
  · simp only [Value.ownBlock]
    rintro e
    injection e with e
    subst e
    unfold Row at hX
    rw [hX] at hh
    injection hh with hh
    injection hh with h1 h2 h3
    exact ht h2
end
theorem u8_info : (Tryz.prog.info? 5).map (fun i => (i.zero, i.size, i.bytes)) = some (some (.int .u8 0), 1, 1) := by kernel_rfl
/-- append of bytes to a row of the call's own, at a walk's built-in. -/
theorem app_u8 {w : World} {ops : Array Oper} {rest : List Oper} {o : Oper} {a : Act} {Q : Exit → Act → World → Prop} (hgd : o.guard = none) (s y : Operand)
    (ho : o.op = .call { callee := .builtin .append, args := #[s, y], argTypes := #[113, 113] })
    (base : Nat) (v : Value) (x : List UInt8) (hs : a.eval s = v) (hown : Own w base v x) (A : Option Addr) (l : List UInt8) (c : Nat) (hy : a.eval y = .slice A l.length c) (hA : Bys w A l) (hn : x.length + l.length ≤ 211106232532992) (hbase : base ≤ w.heap.size)
    (h : ∀ v' w', Own w' base v' (x ++ l) → Below base w w' → w.grownBy w' v.ownBlock → wpList Tryz.prog ops Q rest (a.put o.dst v') w') : wpList Tryz.prog ops Q (o :: rest) a w := by
  obtain ⟨i0, hi, hz0, hz1, hz2⟩ := info_parts u8_info
  exact wpList_app _ hgd s y 113 ho base i0 Tryz.underlying113 hi hz0 hz1 hz2 v x hs hown A l c hy hA hn hbase
    fun v' w' h1 h2 _ => h v' w' h1 (Below.grown (Below.refl base w) h2 hbase (fun k hk => (World.ownsRow.lt hown _ hk).1)) h2
/-- A text's bytes. -/
def strL (s : ByteArray) : List UInt8 := s.data.toList
theorem strL_length (s : ByteArray) : (strL s).length = s.size := by
  show s.data.toList.length = s.data.size
  simp
theorem txt_strL (s : ByteArray) : txt (strL s) = s := by simp [txt, strL]
theorem strL_txt (l : List UInt8) : strL (txt l) = l := by simp [txt, strL]
theorem cells_strL (s : ByteArray) : Go.Lib.strCells s = (bcells (strL s)).toList := by simp [Go.Lib.strCells, bcells, strL]
theorem own_made (w : World) (base : Nat) (x l : List UInt8) (old : Nat) (ho : old < x.length + l.length) (hn : x.length + l.length ≤ 211106232532992) (hbase : base ≤ w.heap.size) (row : Option Nat) :
    Own (w.drew.alloc (.cells ((bcells x).toList.toArray ++ (bcells l).toList.toArray ++ Builtin.zeroCells (Value.int .u8 0).cells (grownCap w (x.length + l.length) old 5 - (x.length + l.length))) 5)) base
      (.slice (some ⟨w.heap.size, 0, none⟩) (x.length + l.length) (grownCap w (x.length + l.length) old 5)) (x ++ l) ∧
    w.grownBy (w.drew.alloc (.cells ((bcells x).toList.toArray ++ (bcells l).toList.toArray ++ Builtin.zeroCells (Value.int .u8 0).cells (grownCap w (x.length + l.length) old 5 - (x.length + l.length))) 5)) row := by
  have hge := grownCap_ge w (x.length + l.length) old 5
  have hle := grownCap_le_maxLen w (x.length + l.length) old 5 (by simp only [maxLen]; omega)
  refine ⟨⟨by simp [bcells], .inr ⟨w.heap.size, _, _, by rw [List.length_append], hbase, heap_alloc_new w.drew _, by rw [List.length_append]; exact hge, hle, ?_, ?_⟩⟩, ⟨rfl, rfl, rfl, by simp, fun k hk _ => heap_alloc_old w.drew _ hk⟩⟩
  · simp only [Array.size_append, List.size_toArray, size_zeroCells, Value.cells]
    simp [bcells]
    omega
  · have e : ((bcells x).toList.toArray ++ (bcells l).toList.toArray).toList = (bcells (x ++ l)).toList := by simp [bcells]
    rw [Array.toList_append, e]
    exact List.take_left' (by simp [bcells])
theorem run_app_str (w : World) (base ty : Nat) (v : Value) (x : List UInt8) (hown : Own w base v x) (s : ByteArray) (hn : x.length + s.size ≤ 211106232532992) (hbase : base ≤ w.heap.size) :
    ∃ v' w', (Builtin.append_ #[113, 9] ty #[v, .string s]).run Tryz.prog w = .ok v' w' ∧ Own w' base v' (x ++ strL s) ∧ w.grownBy w' v.ownBlock := by
  obtain ⟨i, hi, hz, hs, hby⟩ := info_parts u8_info
  have hll := strL_length s
  have e1 : (s.data.map fun b => Value.int .u8 b.toNat) = (bcells (strL s)).toList.toArray := by
    apply Array.ext'
    simp [bcells, strL]
  have e2 : (Go.Lib.strCells s).toArray = (bcells (strL s)).toList.toArray := by rw [cells_strL]
  rcases hown.2 with ⟨rfl, h0⟩ | ⟨g, cap, cur, rfl, hg, hh, hnc, hcm, hcs, htk⟩
  · obtain rfl := List.eq_nil_of_length_eq_zero h0
    by_cases hm : s.size = 0
    · have hx : strL s = [] := List.eq_nil_of_length_eq_zero (by rw [hll, hm])
      have hf := Go.Lib.run_firstCells_string (P := Tryz.prog) w 1 s
      rw [hm, cells_strL, hx] at hf
      refine ⟨.slice none 0 0, w, ?_, by rw [hx]; exact own_nil _ _, World.grownBy.refl w _⟩
      simp [Builtin.append_, run_underlying Tryz.underlying113, run_underlying Tryz.underlying9, sizeOf, typeInfo, hi, hs, Builtin.lenOf, hm, hf]
    · have hr := run_append_nil_string (P := Tryz.prog) w 113 9 ty 5 i (.int .u8 0) Tryz.underlying113 Tryz.underlying9 hi hz s (by omega) (by simp only [List.length_nil] at hn; omega) (by rw [hby]; simp only [List.length_nil] at hn; omega)
      rw [e1] at hr
      obtain ⟨m1, m2⟩ := own_made w base [] (strL s) 0 (by rw [hll]; simp; omega) (by rw [hll]; exact hn) hbase none
      simp only [List.length_nil, Nat.zero_add, hll] at m1 m2
      refine ⟨_, _, hr, ?_, ?_⟩
      · simpa [bcells] using m1
      · simpa [bcells, Value.ownBlock] using m2
  · by_cases hroom : x.length + s.size ≤ cap
    · have hr := Go.Lib.run_append_room_string (P := Tryz.prog) w 113 9 ty 5 i Tryz.underlying113 Tryz.underlying9 hi hs g x.length cap cur hh s hroom (by omega)
      refine ⟨_, _, hr, ⟨by simp [bcells], .inr ⟨g, cap, _, by rw [List.length_append, hll], hg, setRow_heap w g cur _ 5 _ hh, by rw [List.length_append, hll]; exact hroom, hcm, ?_, ?_⟩⟩, ⟨rfl, rfl, rfl, by simp, fun k _ hk => setRow_other w g k _ (fun e => hk (by simp [Value.ownBlock, e]))⟩⟩
      · simp only [List.size_toArray, List.length_append, List.length_take, List.length_drop, Array.length_toList, Go.Lib.strCells_length]
        omega
      · rw [Nat.mul_one] at htk
        rw [htk, cells_strL]
        have e : (bcells x).toList ++ (bcells (strL s)).toList = (bcells (x ++ strL s)).toList := by simp [bcells]
        rw [e]
        exact List.take_left' (by simp [bcells])
    · have hr := Go.Lib.run_append_grow_string (P := Tryz.prog) w 113 9 ty 5 i (.int .u8 0) Tryz.underlying113 Tryz.underlying9 hi hz ⟨g, 0, none⟩ x.length cap (bcells x).toList (by simp [bcells, hs]) (World.ownsRow.cells hown (g := g) rfl) s (by omega) (by omega)
        (by rw [hby]; have := cap_quarter (need := x.length + s.size) (old := cap) (by omega); omega)
      rw [e2] at hr
      obtain ⟨m1, m2⟩ := own_made w base x (strL s) cap (by rw [hll]; omega) (by rw [hll]; exact hn) hbase (some g)
      rw [hll] at m1 m2
      exact ⟨_, _, hr, m1, m2⟩
/-- append of a text's bytes, at a walk's built-in. -/
theorem app_str {w : World} {ops : Array Oper} {rest : List Oper} {o : Oper} {a : Act} {Q : Exit → Act → World → Prop} (hgd : o.guard = none) (sl y : Operand)
    (ho : o.op = .call { callee := .builtin .append, args := #[sl, y], argTypes := #[113, 9] })
    (base : Nat) (v : Value) (x : List UInt8) (hs : a.eval sl = v) (hown : Own w base v x) (s : ByteArray) (hy : a.eval y = .string s) (hn : x.length + s.size ≤ 211106232532992) (hbase : base ≤ w.heap.size)
    (h : ∀ v' w', Own w' base v' (x ++ strL s) → Below base w w' → w.grownBy w' v.ownBlock → wpList Tryz.prog ops Q rest (a.put o.dst v') w') : wpList Tryz.prog ops Q (o :: rest) a w := by
  refine wpList_plain hgd fun K hK => ?_
  obtain ⟨v', w', hr, h2, h3⟩ := run_app_str w base o.type v x hown s hn hbase
  unfold Oper.wp execOp
  simp only [ho, resolve, invoke, builtin, Sem.run_bind, Sem.run_pure, Result.andThen_ok, List.map_toArray, List.map_cons, List.map_nil, hs, hy, hr]
  exact hK _ _ (h v' w' h2 (Below.grown (Below.refl base w) h3 hbase (fun k hk => (World.ownsRow.lt hown _ hk).1)) h3)
end Go.Proofs.YtpcjnagdanmdpaaGreat
