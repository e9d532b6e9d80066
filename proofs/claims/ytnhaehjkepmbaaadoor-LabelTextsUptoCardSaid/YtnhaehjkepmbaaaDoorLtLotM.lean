/- In one text, written by lotify.py: RowsG, Open, LbRows. -/
import Derived.Test.YtnhaehjkepmbaaaDoorRows
import Derived.Lib.SmallJoins
import Derived.Test.YtnhaehjkepmbaaaDoorLtLotL
namespace Go.Proofs.YtnhaehjkepmbaaaDoor
open Go.RowKit Go.Maps
set_option linter.unusedVariables false

theorem flat_get {α : Type} (f : α → List Value) (k : Nat) (hf : ∀ x, (f x).length = k) : ∀ (l : List α) (i : Nat) (x : α) (j : Nat), l[i]? = some x → j < k → (l.flatMap f)[i * k + j]? = (f x)[j]? := by
  intro l
  induction l with
  | nil => intro i x j h; simp at h
  | cons y r ih =>
    intro i x j h hj
    rw [List.flatMap_cons]
    cases i with
    | zero =>
      simp only [List.getElem?_cons_zero, Option.some.injEq] at h
      subst h
      rw [Nat.zero_mul, Nat.zero_add, List.getElem?_append_left (by rw [hf]; exact hj)]
    | succ i =>
      simp only [List.getElem?_cons_succ] at h
      have e : (i + 1) * k + j = (f y).length + (i * k + j) := by rw [hf, Nat.succ_mul]; omega
      rw [e, List.getElem?_append_right (Nat.le_add_right _ _), Nat.add_sub_cancel_left]
      exact ih i x j h hj
theorem flat_len {α : Type} (f : α → List Value) (k : Nat) (hf : ∀ x, (f x).length = k) : ∀ (l : List α), (l.flatMap f).length = l.length * k := by
  intro l
  induction l with
  | nil => simp
  | cons y r ih => rw [List.flatMap_cons, List.length_append, ih, hf, List.length_cons, Nat.succ_mul]; omega
theorem getD_some {α : Type} (l : List α) (d : α) {i : Nat} (h : i < l.length) : l[i]? = some (l.getD i d) := by simp [List.getD, List.getElem?_eq_getElem h]

/-- The cells xs stand from the address A on (of none nothing is asked). -/
def At (w : World) (A : Option Addr) (xs : List Value) : Prop :=
  xs = [] ∨ ∃ b o, A = some ⟨b, o, none⟩ ∧ b < w.heap.size ∧ ∀ j u, xs[j]? = some u → w.cell? ⟨b, o + j, none⟩ = some u
theorem At.keep {w w' : World} {A : Option Addr} {xs : List Value} (h : At w A xs) (hs : w.heap.size ≤ w'.heap.size) (hk : ∀ p : Addr, p.block < w.heap.size → w'.cell? p = w.cell? p) : At w' A xs := by
  rcases h with rfl | ⟨b, o, rfl, hb, hc⟩
  · exact .inl rfl
  · exact .inr ⟨b, o, rfl, by omega, fun i u hi => (hk _ hb).trans (hc i u hi)⟩
theorem At.below {w w' : World} {A : Option Addr} {xs : List Value} (h : At w A xs) (hb : Below w.heap.size w w') : At w' A xs := h.keep hb.size fun _ hp => hb.cell hp
theorem At.alloc {w : World} {A : Option Addr} {xs : List Value} (h : At w A xs) (o : Obj) : At (w.alloc o) A xs := h.below (below_one w o)
theorem At.row {w : World} {g : Nat} {t : TypeId} {cs : Array Value} (h : Row w g t cs) : At w (some ⟨g, 0, none⟩) cs.toList :=
  .inr ⟨g, 0, rfl, h.lt, fun j u hj => by rw [Nat.zero_add, h.cell j, ← Array.getElem?_toList]; exact hj⟩

theorem rows_move {w w' : World} {base e size n : Nat} {v : Value} {xs : List Value} (h : w.ownsRow base e size v n xs) (hb : ∀ k, v.ownBlock = some k → w'.heap[k]? = w.heap[k]?) : w'.ownsRow base e size v n xs := by
  refine ⟨h.1, ?_⟩
  rcases h.2 with hn | ⟨g, cap, cur, rfl, hg, hh, rest⟩
  · exact .inl hn
  · exact .inr ⟨g, cap, cur, rfl, hg, (hb g rfl).trans hh, rest⟩
theorem rows_below {w w' : World} {base e k n : Nat} {v : Value} {xs : List Value} (h : w.ownsRow base e k v n xs) (hb : Below w.heap.size w w') : w'.ownsRow base e k v n xs := rows_move h fun q hq => hb.block q (World.ownsRow.lt h q hq).2
theorem rows_lower {w : World} {base base' e k n : Nat} {v : Value} {xs : List Value} (h : w.ownsRow base e k v n xs) (hb : base' ≤ base) : w.ownsRow base' e k v n xs := by
  refine ⟨h.1, ?_⟩
  rcases h.2 with h2 | ⟨g, cap, cur, hv, hg, r⟩
  · exact .inl h2
  · exact .inr ⟨g, cap, cur, hv, Nat.le_trans hb hg, r⟩
theorem rows_slice {w : World} {base e k n : Nat} {v : Value} {xs : List Value} (h : w.ownsRow base e k v n xs) : ∃ P c, v = .slice P n c ∧ n ≤ c ∧ At w P xs ∧ ∀ ad, P = some ad → base ≤ ad.block := by
  rcases h.2 with ⟨rfl, h0⟩ | ⟨g, cap, cur, rfl, hg, hh, hnc, hcm, hcs, htk⟩
  · have h1 := h.1
    rw [h0, Nat.zero_mul] at h1
    exact ⟨none, 0, by rw [h0], by omega, .inl (List.eq_nil_of_length_eq_zero h1), fun ad e => by cases e⟩
  · refine ⟨some ⟨g, 0, none⟩, cap, rfl, hnc, .inr ⟨g, 0, rfl, (Row.lt (show Row w g _ cur from hh)), fun j u hj => ?_⟩, fun ad e => by injection e with e; subst e; exact hg⟩
    rw [Nat.zero_add, (show Row w g _ cur from hh).cell j]
    have hlt : j < xs.length := by
      rcases Nat.lt_or_ge j xs.length with h2 | h2
      · exact h2
      · rw [List.getElem?_eq_none h2] at hj
        cases hj
    have e2 : cur.toList[j]? = xs[j]? := by
      rw [← htk, List.getElem?_take, if_pos (by have := h.1; omega)]
    rw [← Array.getElem?_toList, e2, hj]

theorem rows_ne {w : World} {g base e n size : Nat} {t : TypeId} {cs : Array Value} {v : Value} {xs : List Value} (hg : Row w g t cs) (hv : w.ownsRow base e size v n xs) (ht : t ≠ e) : v.ownBlock ≠ some g := by
  intro h
  rcases hv.2 with ⟨rfl, _⟩ | ⟨g', cap, cur, rfl, _, hh, _⟩
  · cases h
  · simp only [Value.ownBlock] at h
    injection h with h
    subst h
    unfold Row at hg
    rw [hg] at hh
    injection hh with hh
    injection hh with _ hh _
    exact ht hh
theorem rows_setFar {w : World} {g base e n size : Nat} {t : TypeId} {cs : Array Value} {v : Value} {xs : List Value} (hv : w.ownsRow base e size v n xs) (hg : Row w g t cs) (ht : t ≠ e) (i : Nat) (u : Value) : (w.setCell ⟨g, i, none⟩ u).ownsRow base e size v n xs :=
  rows_move hv fun k hk => Below.heap_setCell w ⟨g, i, none⟩ u k (fun e => rows_ne hg hv ht (by rw [hk, e]))
section
variable {P : Program}
theorem run_app_none (w : World) (base t ty e size n : Nat) (i : TypeInfo) (ht : P.underlying t = some (.slice e)) (hi : P.info? e = some i) (v : Value) (xs : List Value) (hown : w.ownsRow base e size v n xs) (c : Nat) :
    (Builtin.append_ #[t, t] ty #[v, .slice none 0 c]).run P w = .ok v w := by
  rcases hown.2 with ⟨rfl, _⟩ | ⟨g, cap, cur, rfl, _, _, hnc, _⟩
  · simp [Builtin.append_, run_underlying ht, sizeOf, typeInfo, hi, Builtin.lenOf, Builtin.firstCells]
  · simp [Builtin.append_, run_underlying ht, sizeOf, typeInfo, hi, Builtin.lenOf, Builtin.firstCells, hnc, storeCells]
theorem run_app_at {w : World} (t ty : TypeId) (base : Nat) (e : TypeId) (i : TypeInfo) (z : Value) (size bytes : Nat) (ht : P.underlying t = some (.slice e)) (hi : P.info? e = some i) (hz : i.zero = some z)
    (hsize : i.size = size) (hby : i.bytes = bytes) (hzs : z.cells.size = size) (hsz : 0 < size)
    (v : Value) (n : Nat) (xs : List Value) (hown : w.ownsRow base e size v n xs)
    (A : Option Addr) (m c : Nat) (news : List Value) (hl : news.length = m * size) (hA : At w A news) (h1 : ∀ u ∈ news, u.oneCell' = true)
    (h63 : n + m ≤ maxLen) (hbytes : (n + m) * bytes ≤ 140737488355328) (hbase : base ≤ w.heap.size) :
    ∃ v' w', (Builtin.append_ #[t, t] ty #[v, .slice A m c]).run P w = .ok v' w' ∧ w'.ownsRow base e size v' (n + m) (xs ++ news) ∧ Below base w w' ∧ w.grownBy w' v.ownBlock := by
  have below : ∀ w', w.grownBy w' v.ownBlock → Below base w w' := fun w' h2 => Below.grown (Below.refl base w) h2 hbase (fun k hk => (World.ownsRow.lt hown _ hk).1)
  have some_ : ∀ ad : Addr, A = some ad → (∀ j u, news[j]? = some u → w.cell? (ad.add j) = some u) → ∃ v' w', (Builtin.append_ #[t, t] ty #[v, .slice A m c]).run P w = .ok v' w' ∧ w'.ownsRow base e size v' (n + m) (xs ++ news) ∧ Below base w w' ∧ w.grownBy w' v.ownBlock := by
    intro ad hAd hc
    subst hAd
    obtain ⟨v', w', hr, h2, h3, _, _⟩ := run_append_own_at (P := P) w base t ty e i z size bytes ht hi hz hsize hby hzs hsz v n xs hown ad m c news hl hc h1 h63 hbytes hbase
    exact ⟨v', w', hr, h2, below w' h3, h3⟩
  rcases hA with rfl | ⟨b, off, rfl, hb, hc⟩
  · have hm : m = 0 := by
      rcases Nat.eq_zero_or_pos m with h0 | h0
      · exact h0
      · have := Nat.mul_pos h0 hsz
        simp at hl
        omega
    subst hm
    cases A with
    | some ad => exact some_ ad rfl (fun j u hj => by simp at hj)
    | none => exact ⟨v, w, run_app_none (P := P) w base t ty e size n i ht hi v xs hown c, by rw [List.append_nil, Nat.add_zero]; exact hown, Below.refl _ _, World.grownBy.refl w _⟩
  · exact some_ _ rfl (fun j u hj => by rw [add_at]; exact hc j u hj)
theorem wp_app_at {w : World} {o : Oper} {a : Act} {K : Act → World → Prop} {Q : Exit → Act → World → Prop} (s y : Operand) (t : TypeId)
    (ho : o.op = .call { callee := .builtin .append, args := #[s, y], argTypes := #[t, t] })
    (base : Nat) (e : TypeId) (i : TypeInfo) (z : Value) (size bytes : Nat) (ht : P.underlying t = some (.slice e)) (hi : P.info? e = some i) (hz : i.zero = some z)
    (hsize : i.size = size) (hby : i.bytes = bytes) (hzs : z.cells.size = size) (hsz : 0 < size)
    (v : Value) (n : Nat) (xs : List Value) (hs : a.eval s = v) (hown : w.ownsRow base e size v n xs)
    (A : Option Addr) (m c : Nat) (news : List Value) (hy : a.eval y = .slice A m c) (hl : news.length = m * size) (hA : At w A news) (h1 : ∀ u ∈ news, u.oneCell' = true)
    (h63 : n + m ≤ maxLen) (hbytes : (n + m) * bytes ≤ 140737488355328) (hbase : base ≤ w.heap.size)
    (h : ∀ v' w', w'.ownsRow base e size v' (n + m) (xs ++ news) → Below base w w' → w.grownBy w' v.ownBlock → K (a.put o.dst v') w') : o.wp P a w K Q := by
  obtain ⟨v', w', hr, h2, h3, h4⟩ := run_app_at (P := P) t o.type base e i z size bytes ht hi hz hsize hby hzs hsz v n xs hown A m c news hl hA h1 h63 hbytes hbase
  unfold Oper.wp execOp
  simp only [ho, resolve, invoke, builtin, Sem.run_bind, Sem.run_pure, Result.andThen_ok, List.map_toArray, List.map_cons, List.map_nil, hs, hy, hr]
  exact h v' w' h2 h3 h4
/-- append of m elements to an own row, at a walk's built-in, whatever the source. -/
theorem wpList_app_at {w : World} {ops : Array Oper} {rest : List Oper} {o : Oper} {a : Act} {Q : Exit → Act → World → Prop} (hgd : o.guard = none) (s y : Operand) (t : TypeId)
    (ho : o.op = .call { callee := .builtin .append, args := #[s, y], argTypes := #[t, t] })
    (base : Nat) (e : TypeId) (i : TypeInfo) (z : Value) (size bytes : Nat) (ht : P.underlying t = some (.slice e)) (hi : P.info? e = some i) (hz : i.zero = some z)
    (hsize : i.size = size) (hby : i.bytes = bytes) (hzs : z.cells.size = size) (hsz : 0 < size)
    (v : Value) (n : Nat) (xs : List Value) (hs : a.eval s = v) (hown : w.ownsRow base e size v n xs)
    (A : Option Addr) (m c : Nat) (news : List Value) (hy : a.eval y = .slice A m c) (hl : news.length = m * size) (hA : At w A news) (h1 : ∀ u ∈ news, u.oneCell' = true)
    (h63 : n + m ≤ maxLen) (hbytes : (n + m) * bytes ≤ 140737488355328) (hbase : base ≤ w.heap.size)
    (h : ∀ v' w', w'.ownsRow base e size v' (n + m) (xs ++ news) → Below base w w' → w.grownBy w' v.ownBlock → wpList P ops Q rest (a.put o.dst v') w') :
    wpList P ops Q (o :: rest) a w :=
  wpList_plain hgd fun _ hK => wp_app_at s y t ho base e i z size bytes ht hi hz hsize hby hzs hsz v n xs hs hown A m c news hy hl hA h1 h63 hbytes hbase fun v' w' h2 h3 h4 => hK _ _ (h v' w' h2 h3 h4)
/-- The same where a region draws its order. -/
theorem step_app_at {w : World} {ops : Array Oper} {o : Oper} {a : Act} {K : Act → World → Prop} {Q : Exit → Act → World → Prop} {E : Prop} (hgd : o.guard = none) (s y : Operand) (t : TypeId)
    (ho : o.op = .call { callee := .builtin .append, args := #[s, y], argTypes := #[t, t] })
    (base : Nat) (e : TypeId) (i : TypeInfo) (z : Value) (size bytes : Nat) (ht : P.underlying t = some (.slice e)) (hi : P.info? e = some i) (hz : i.zero = some z)
    (hsize : i.size = size) (hby : i.bytes = bytes) (hzs : z.cells.size = size) (hsz : 0 < size)
    (v : Value) (n : Nat) (xs : List Value) (hs : a.eval s = v) (hown : w.ownsRow base e size v n xs)
    (A : Option Addr) (m c : Nat) (news : List Value) (hy : a.eval y = .slice A m c) (hl : news.length = m * size) (hA : At w A news) (h1 : ∀ u ∈ news, u.oneCell' = true)
    (h63 : n + m ≤ maxLen) (hbytes : (n + m) * bytes ≤ 140737488355328) (hbase : base ≤ w.heap.size)
    (h : ∀ v' w', w'.ownsRow base e size v' (n + m) (xs ++ news) → Below base w w' → w.grownBy w' v.ownBlock → K (a.put o.dst v') w') :
    if Region.wanted o (yielded ops a.tmps) = true then Oper.wp P o a w K Q else E := by
  have hw : Region.wanted o (yielded ops a.tmps) = true := by simp [Region.wanted, hgd]
  rw [if_pos hw]
  exact wp_app_at s y t ho base e i z size bytes ht hi hz hsize hby hzs hsz v n xs hs hown A m c news hy hl hA h1 h63 hbytes hbase h
end
end Go.Proofs.YtnhaehjkepmbaaaDoor

namespace Go.Proofs.YtnhaehjkepmbaaaDoor
open Go.ChangeShapes Go.WideShapes Go.ChangeAt Go.RowKit Go.Joins
set_option linter.unusedVariables false

theorem ownK : ownKnob Tryd.prog.godebug = none := by kernel_rfl
theorem laidOutK : laidOutB Tryd.prog = true := by kernel_rfl

theorem byte_wf {x : Int} (h : (Lit.int .u8 x).wf = true) : 0 ≤ x ∧ x < 256 := by
  have := bounds_u8 h
  omega

theorem cell_lt {w : World} {b o : Nat} {v : Value} (h : w.cell? ⟨b, o, none⟩ = some v) : b < w.heap.size := by
  rcases Nat.lt_or_ge b w.heap.size with hlt | hge
  · exact hlt
  · simp [World.cell?, Array.getElem?_eq_none hge] at h

section
variable {H : Type} {enc : TypeId × Value → H} {W : World} {base : Nat} {sp : Nat → Bool} {held : Bool}

/-- A slice of bytes, as a value and as its datum. -/
theorem open_u8s {fuel : Nat} {v : Value} {x : DataW H × List MemPlace} (hf : DataW.trod enc Tryd.prog W base sp held fuel 39 [v] = some x) :
    ∃ (A : Option Addr) (l : List UInt8) (c : Nat), v = .slice A l.length c ∧ Bys W A l ∧ l.length ≤ c ∧ c ≤ maxLen ∧
      ((x.1 = .nil ∧ l = []) ∨ ∃ elems spare, x.1 = .slice elems spare ∧ elems.length = l.length) := by
  rcases open_ints Tryd.underlying39 Tryd.underlying5 (by kernel_rfl) hf with ⟨hcs, hx⟩ | ⟨a, len, cap, zs, hcs, _, hl, hm, hz, hx, hcell, hwz⟩
  · simp only [List.cons.injEq, and_true] at hcs
    subst hcs
    exact ⟨none, [], 0, rfl, Bys.empty _ _, Nat.le_refl _, by simp [maxLen], .inl ⟨by rw [hx], rfl⟩⟩
  · simp only [List.cons.injEq, and_true] at hcs
    subst hcs
    have hlz : len ≤ zs.length := by rw [hz]; split <;> omega
    have hll : ((zs.take len).map fun z => UInt8.ofNat z.toNat).length = len := by simp; omega
    refine ⟨some a, (zs.take len).map fun z => UInt8.ofNat z.toNat, cap, by rw [hll], ?_, by rw [hll]; exact hl, hm, .inr ⟨_, _, by rw [hx], by simp [lits]⟩⟩
    rcases Nat.eq_zero_or_pos len with h0 | h0
    · exact .inl (List.eq_nil_of_length_eq_zero (by rw [hll]; exact h0))
    · obtain ⟨b, off, spot⟩ := a
      have hc := hcell 0 (by omega)
      have hspot : spot = none := by simpa [Addr.add] using World.cell?_spot hc
      subst hspot
      have hc0 : W.cell? ⟨b, off, none⟩ = some (.int .u8 (zs.getD 0 0)) := by simpa [Addr.add] using hc
      refine .inr ⟨b, off, rfl, cell_lt hc0, fun i hi => ?_⟩
      rw [hll] at hi
      have hci := hcell i (by omega)
      rw [add_at] at hci
      rw [hci]
      have hi2 : i < zs.length := by omega
      have hw := byte_wf (hwz (zs.getD i 0) (by rw [getD_in zs 0 hi2]; exact List.getElem_mem hi2))
      congr 2
      rw [getD_in (List.map (fun z : Int => UInt8.ofNat z.toNat) (zs.take len)) 0 (by rw [hll]; exact hi)]
      simp only [List.getElem_map, List.getElem_take, UInt8.toNat_ofNat']
      rw [getD_in zs 0 hi2] at hw ⊢
      omega

theorem reach_u8s {ts : List TypeId} {ds : List (DataW H)} (hsz : (DataW.weightsEach Tryd.prog ts ds).all (· ≤ reachBytes) = true) {j : Nat} {d : DataW H} {l : List UInt8} (ht : ts[j]? = some 39) (hd : ds[j]? = some d)
    (h : (d = .nil ∧ l = []) ∨ ∃ elems spare, d = .slice elems spare ∧ elems.length = l.length) : l.length ≤ 140737488351232 := by
  rcases h with ⟨_, rfl⟩ | ⟨el, spr, rfl, hel⟩
  · simp
  · have := sized_slice hsz ht hd Tryd.underlying39
    have hb : Tryd.prog.bytesOf 5 = 1 := by kernel_rfl
    rw [hb] at this
    simp [reachBytes] at this
    omega
end
end Go.Proofs.YtnhaehjkepmbaaaDoor

namespace Go.Proofs.YtnhaehjkepmbaaaDoor
open Go.ChangeShapes Go.WideShapes Go.ChangeAt Go.RowKit Go.Joins Go.Maps
set_option linter.unusedVariables false

def lblE (s : Lbl) : List Value := [.string s.1, .string s.2]
theorem lblE_len (s : Lbl) : (lblE s).length = 2 := rfl
def Lbls (w : World) (A : Option Addr) (l : List Lbl) : Prop := At w A (l.flatMap lblE)
theorem Lbls.below {w w' : World} {A : Option Addr} {l : List Lbl} (h : Lbls w A l) (hb : Below w.heap.size w w') : Lbls w' A l := At.below h hb
theorem Lbls.alloc {w : World} {A : Option Addr} {l : List Lbl} (h : Lbls w A l) (o : Obj) : Lbls (w.alloc o) A l := At.alloc h o
theorem Lbls.nil (w : World) (A : Option Addr) : Lbls w A [] := .inl rfl
theorem Lbls.at_ {w : World} {A : Option Addr} {l : List Lbl} (h : Lbls w A l) {i : Nat} (hi : i < l.length) :
    ∃ b o, A = some ⟨b, o, none⟩ ∧ b < w.heap.size ∧ w.cell? ⟨b, o + i * 2, none⟩ = some (.string (nmOf l i)) ∧ w.cell? ⟨b, o + i * 2 + 1, none⟩ = some (.string (vlOf l i)) := by
  have hlen := flat_len lblE 2 lblE_len l
  rcases h with h | ⟨b, o, rfl, hb, hc⟩
  · rw [h] at hlen; simp at hlen; omega
  · refine ⟨b, o, rfl, hb, ?_, ?_⟩
    · have := hc (i * 2 + 0) _ (flat_get lblE 2 lblE_len l i _ 0 (getD_some l lbl0 hi) (by omega))
      exact this
    · have := hc (i * 2 + 1) _ (flat_get lblE 2 lblE_len l i _ 1 (getD_some l lbl0 hi) (by omega))
      exact this
/-- The first address is the same for every element. -/
theorem Lbls.all {w : World} {A : Option Addr} {l : List Lbl} (h : Lbls w A l) (hl : 0 < l.length) :
    ∃ b o, A = some ⟨b, o, none⟩ ∧ b < w.heap.size ∧ ∀ i, i < l.length → w.cell? ⟨b, o + i * 2, none⟩ = some (.string (nmOf l i)) ∧ w.cell? ⟨b, o + i * 2 + 1, none⟩ = some (.string (vlOf l i)) := by
  obtain ⟨b, o, rfl, hb, _⟩ := h.at_ hl
  refine ⟨b, o, rfl, hb, fun i hi => ?_⟩
  obtain ⟨b', o', e, _, h1, h2⟩ := h.at_ hi
  injection e with e
  injection e with e1 e2 _
  subst e1 e2
  exact ⟨h1, h2⟩
/-- Two rows, where both have an element. -/
theorem Lbls.front {w : World} {A : Option Addr} {l : List Lbl} (h : Lbls w A l) (k : Nat) : Lbls w A (l.take k) := by
  rcases Nat.eq_zero_or_pos (min k l.length) with h0 | h0
  · have : l.take k = [] := List.eq_nil_of_length_eq_zero (by rw [List.length_take]; exact h0)
    rw [this]; exact Lbls.nil _ _
  · rcases h with h | ⟨b, o, rfl, hb, hc⟩
    · have hlen := flat_len lblE 2 lblE_len l
      rw [h] at hlen; simp at hlen; omega
    · refine .inr ⟨b, o, rfl, hb, fun j u hj => hc j u ?_⟩
      have : l.flatMap lblE = (l.take k).flatMap lblE ++ (l.drop k).flatMap lblE := by rw [← List.flatMap_append, List.take_append_drop]
      rw [this, List.getElem?_append_left (List.getElem?_eq_some_iff.1 hj).1]
      exact hj
theorem Lbls.from {w : World} {b o : Nat} {l : List Lbl} (h : Lbls w (some ⟨b, o, none⟩) l) (k : Nat) (hk : k ≤ l.length) : Lbls w (some ⟨b, o + k * 2, none⟩) (l.drop k) := by
  rcases Nat.eq_zero_or_pos (l.length - k) with h0 | h0
  · have : l.drop k = [] := List.eq_nil_of_length_eq_zero (by rw [List.length_drop]; exact h0)
    rw [this]; exact Lbls.nil _ _
  · rcases h with h | ⟨b', o', e, hb, hc⟩
    · have hlen := flat_len lblE 2 lblE_len l
      rw [h] at hlen; simp at hlen; omega
    · injection e with e
      injection e with e1 e2 _
      subst e1 e2
      refine .inr ⟨b, o + k * 2, rfl, hb, fun j u hj => ?_⟩
      rw [Nat.add_assoc]
      refine hc _ _ ?_
      have : l.flatMap lblE = (l.take k).flatMap lblE ++ (l.drop k).flatMap lblE := by rw [← List.flatMap_append, List.take_append_drop]
      have hl1 : ((l.take k).flatMap lblE).length = k * 2 := by rw [flat_len lblE 2 lblE_len, List.length_take, Nat.min_eq_left hk]
      rw [this, List.getElem?_append_right (by omega), hl1, Nat.add_sub_cancel_left]
      exact hj

/-- The value v is a row of labels of the call's own, from block base on, and holds l. -/
def OwnL (w : World) (base : Nat) (v : Value) (l : List Lbl) : Prop := w.ownsRow base 37 2 v l.length (l.flatMap lblE)
section
variable {w w' : World} {base : Nat} {v : Value} {l : List Lbl}
theorem ownl_nil (w : World) (base : Nat) : OwnL w base (.slice none 0 0) [] := ⟨rfl, .inl ⟨rfl, rfl⟩⟩
theorem ownl_empty {g : Nat} (h : Row w g 37 #[]) (hb : base ≤ g) : OwnL w base (.slice (some ⟨g, 0, none⟩) 0 0) [] :=
  ⟨rfl, .inr ⟨g, 0, #[], rfl, hb, h, Nat.le_refl _, by simp [maxLen], by simp, by simp⟩⟩
theorem ownl_below (h : OwnL w base v l) (hb : Below w.heap.size w w') : OwnL w' base v l := rows_below h hb
theorem ownl_lower {base' : Nat} (h : OwnL w base v l) (hb : base' ≤ base) : OwnL w base' v l := rows_lower h hb
theorem ownl_slice (h : OwnL w base v l) : ∃ P c, v = .slice P l.length c ∧ l.length ≤ c ∧ Lbls w P l ∧ ∀ ad, P = some ad → base ≤ ad.block := rows_slice h
end
theorem label_info : (Tryd.prog.info? 37).map (fun i => (i.zero, i.size, i.bytes)) = some (some (.agg #[.string ⟨#[]⟩, .string ⟨#[]⟩]), 2, 32) := by kernel_rfl
theorem lbl_one (l : List Lbl) : ∀ u ∈ l.flatMap lblE, u.oneCell' = true := by
  intro u hu
  simp only [List.mem_flatMap, lblE, List.mem_cons, List.not_mem_nil, or_false] at hu
  obtain ⟨x, _, rfl | rfl⟩ := hu <;> rfl
/-- append of labels to an own row, at a walk's built-in. -/
theorem app_lbls {w : World} {ops : Array Oper} {rest : List Oper} {o : Oper} {a : Act} {Q : Exit → Act → World → Prop} (hgd : o.guard = none) (s y : Operand)
    (ho : o.op = .call { callee := .builtin .append, args := #[s, y], argTypes := #[22, 22] })
    (base : Nat) (v : Value) (x : List Lbl) (hs : a.eval s = v) (hown : OwnL w base v x) (A : Option Addr) (l : List Lbl) (c : Nat) (hy : a.eval y = .slice A l.length c) (hA : Lbls w A l) (hn : (x.length + l.length) * 32 ≤ 140737488355328) (hbase : base ≤ w.heap.size)
    (h : ∀ v' w', OwnL w' base v' (x ++ l) → Below base w w' → w.grownBy w' v.ownBlock → wpList Tryd.prog ops Q rest (a.put o.dst v') w') : wpList Tryd.prog ops Q (o :: rest) a w := by
  obtain ⟨i0, hi, hz0, hz1, hz2⟩ := info_parts label_info
  refine wpList_app_at hgd s y 22 ho base 37 i0 _ 2 32 Tryd.underlying22 hi hz0 hz1 hz2 rfl (by omega) v x.length (x.flatMap lblE) hs hown A l.length c (l.flatMap lblE) hy (flat_len lblE 2 lblE_len l) hA (lbl_one l)
    (by simp only [maxLen]; omega) hn hbase ?_
  intro v' w' h1 h2 h3
  refine h v' w' ?_ h2 h3
  unfold OwnL
  rw [List.flatMap_append, List.length_append]
  exact h1
theorem lbls_cell {w : World} {g : Nat} {t v : ByteArray} (h : Row w g 37 #[.string t, .string v]) : Lbls w (some ⟨g, 0, none⟩) [(t, v)] := At.row h

/-! ### opening -/
theorem reach_is : reachBytes = 140737488351232 := rfl
/-- No text is longer than a law's argument may be. -/
def LFit (s : Lbl) : Prop := s.1.size ≤ 140737488351232 ∧ s.2.size ≤ 140737488351232
def LFits (l : List Lbl) : Prop := ∀ i, i < l.length → (nmOf l i).size ≤ 140737488351232 ∧ (vlOf l i).size ≤ 140737488351232
section
variable {H : Type} {enc : TypeId × Value → H} {W : World} {base : Nat} {sp : Nat → Bool} {held : Bool}
theorem trod_struct2 {P : Program} {w : World} {t : TypeId} {f0 f1 : Field} {fuel : Nat} {cs : List Value} {x : DataW H × List MemPlace} (ht : P.underlying t = some (.struct #[f0, f1])) (h : DataW.trod enc P w base sp held fuel t cs = some x) :
    ∃ y0 y1 n, x.1 = .agg [y0.1, y1.1] ∧ cs.length = P.cellsOf t ∧ DataW.trod enc P w base sp held n f0.type ((cs.drop f0.offset).take (P.cellsOf f0.type)) = some y0 ∧
      DataW.trod enc P w base sp held n f1.type ((cs.drop f1.offset).take (P.cellsOf f1.type)) = some y1 := by
  obtain ⟨xs, n, _, rfl, hl, hlen, hf⟩ := DataW.trod_struct ht h
  match xs, hlen with
  | [y0, y1], _ => exact ⟨y0, y1, n, by simp, hl, by simpa using hf 0 f0 rfl, by simpa using hf 1 f1 rfl⟩
theorem two_of {α : Type} {l : List α} (h : l.length = 2) : ∃ c0 c1, l = [c0, c1] := by
  match l, h with
  | [c0, c1], _ => exact ⟨c0, c1, rfl⟩
theorem lbl_cells : Tryd.prog.cellsOf 37 = 2 := by kernel_rfl
theorem lbl_two : ∃ f0 f1 : Field, Tryd.prog.underlying 37 = some (.struct #[f0, f1]) ∧ Go.Deep.oneCellFields Tryd.prog #[f0, f1] = true ∧ [f0.type, f1.type] = [9, 9] :=
  ⟨_, _, Tryd.underlying37, by kernel_rfl, rfl⟩
theorem open_lbl {fuel : Nat} {cs : List Value} {x : DataW H × List MemPlace} (h : DataW.trod enc Tryd.prog W base sp held fuel 37 cs = some x) (hw : ∀ n ∈ x.1.weights Tryd.prog 37, n ≤ reachBytes) : ∃ s : Lbl, cs = lblE s ∧ LFit s := by
  obtain ⟨f0, f1, hu, hone, hty⟩ := lbl_two
  simp only [List.cons.injEq, and_true] at hty
  obtain ⟨e0, e1⟩ := hty
  obtain ⟨y0, y1, n, hx, hl, h0, h1⟩ := trod_struct2 hu h
  rw [lbl_cells] at hl
  obtain ⟨c0, c1, rfl⟩ := two_of hl
  obtain ⟨o0, k0⟩ := Go.Deep.hone_of hone 0 f0 rfl
  obtain ⟨o1, k1⟩ := Go.Deep.hone_of hone 1 f1 rfl
  have h0' : DataW.trod enc Tryd.prog W base sp held n 9 [c0] = some y0 := by rw [← e0]; simpa [o0, k0] using h0
  have h1' : DataW.trod enc Tryd.prog W base sp held n 9 [c1] = some y1 := by rw [← e1]; simpa [o1, k1] using h1
  have hwe : ∀ n ∈ DataW.weightsEach Tryd.prog [9, 9] [y0.1, y1.1], n ≤ reachBytes := by
    intro m hm
    refine hw m ?_
    rw [hx]
    unfold DataW.weights
    rw [hu]
    show m ∈ DataW.weightsEach Tryd.prog ([f0, f1].map (·.type)) _
    rw [show [f0, f1].map (fun x : Field => x.type) = [9, 9] from by simp [e0, e1]]
    exact hm
  have hsz : (DataW.weightsEach Tryd.prog [9, 9] [y0.1, y1.1]).all (· ≤ reachBytes) = true := List.all_eq_true.2 fun m hm => by simpa using hwe m hm
  obtain ⟨s0, g0, d0, _⟩ := DataW.trod_string Tryd.underlying9 h0'
  obtain ⟨s1, g1, d1, _⟩ := DataW.trod_string Tryd.underlying9 h1'
  simp only [List.cons.injEq, and_true] at g0 g1
  subst g0 g1
  have r0 := sized_string hsz (j := 0) rfl (bytes := s0.data.toList) (by rw [d0]; rfl)
  have r1 := sized_string hsz (j := 1) rfl (bytes := s1.data.toList) (by rw [d1]; rfl)
  rw [reach_is] at r0 r1
  refine ⟨(s0, s1), rfl, ?_, ?_⟩
  · have : s0.data.toList.length = s0.size := Array.length_toList
    show s0.size ≤ 140737488351232
    omega
  · have : s1.data.toList.length = s1.size := Array.length_toList
    show s1.size ≤ 140737488351232
    omega
theorem weights_all {P : Program} {e : TypeId} : ∀ {ds : List (DataW H)} {d : DataW H}, d ∈ ds → ∀ n ∈ d.weights P e, n ∈ DataW.weightsAll P e ds := by
  intro ds
  induction ds with
  | nil => intro d h; cases h
  | cons x r ih =>
    intro d h n hn
    simp only [DataW.weightsAll, List.mem_append]
    rcases List.mem_cons.1 h with rfl | h
    · exact .inl hn
    · exact .inr (ih h n hn)
theorem open_lbls {fuel : Nat} {v : Value} {x : DataW H × List MemPlace} (hf : DataW.trod enc Tryd.prog W base sp held fuel 22 [v] = some x) (hw : ∀ n ∈ x.1.weights Tryd.prog 22, n ≤ reachBytes) :
    ∃ (V : Option Addr) (l : List Lbl) (c : Nat), v = .slice V l.length c ∧ Lbls W V l ∧ LFits l ∧ l.length * 32 ≤ 140737488351232 ∧ l.length ≤ c := by
  rcases Go.Deep.open_slice Tryd.underlying22 hf with ⟨hcs, hx⟩ | ⟨a, len, cap, m, n, D, Pl, hcs, hb, hl, hm, hmm, hx, hcell⟩
  · simp only [List.cons.injEq, and_true] at hcs
    subst hcs
    exact ⟨none, [], 0, rfl, .inl rfl, fun i hi => by simp at hi, by simp, Nat.le_refl _⟩
  · simp only [List.cons.injEq, and_true] at hcs
    subst hcs
    rw [lbl_cells] at hcell
    have hml : len ≤ m := by rw [hmm]; split <;> omega
    rw [hx] at hw
    simp only [DataW.weights, Tryd.underlying22] at hw
    have hbytes : Tryd.prog.bytesOf 37 = 32 := by kernel_rfl
    have hlen32 := hw ((((List.range len).map D).length + ((List.range (m - len)).map fun j => D (len + j)).length) * Tryd.prog.bytesOf 37) (by simp)
    rw [hbytes] at hlen32
    simp only [List.length_map, List.length_range] at hlen32
    rw [reach_is] at hlen32
    have each : ∀ i, i < len → ∃ y : Lbl, LFit y ∧ W.cells? base (a.add (i * 2)) 2 = some (lblE y) := by
      intro i hi
      obtain ⟨cs', h1, h2⟩ := hcell i (by omega)
      obtain ⟨y, rfl, hy⟩ := open_lbl h2 (fun q hq => hw q (by
        simp only [List.mem_cons, List.mem_append]
        exact .inr (.inl (weights_all (List.mem_map.2 ⟨i, List.mem_range.2 hi, rfl⟩) q hq))))
      exact ⟨y, hy, h1⟩
    obtain ⟨y, hy⟩ := Go.Deep.choose_lt each
    have hlen : ((List.range len).map y).length = len := by simp
    have hget : ∀ i, i < len → ((List.range len).map y).getD i lbl0 = y i := by
      intro i hi
      simp [List.getD_eq_getElem?_getD, hi]
    refine ⟨some a, (List.range len).map y, cap, by rw [hlen], ?_, ?_, by rw [hlen]; omega, by rw [hlen]; exact hl⟩
    · rcases Nat.eq_zero_or_pos len with h0 | h0
      · have : (List.range len).map y = [] := List.eq_nil_of_length_eq_zero (by rw [hlen]; exact h0)
        rw [this]
        exact Lbls.nil _ _
      · obtain ⟨b, o, spot⟩ := a
        obtain ⟨_, hcs0⟩ := hy 0 h0
        obtain ⟨_, _, hc0⟩ := World.cells?_some hcs0
        have hc := hc0 0 (by omega)
        have hspot : spot = none := by
          have := World.cell?_spot (hc.trans rfl)
          simpa [Addr.add] using this
        subst hspot
        have hc00 : W.cell? ⟨b, o, none⟩ = some (.string (y 0).1) := by
          have : (lblE (y 0))[0]? = some (.string (y 0).1) := rfl
          rw [this] at hc
          simpa [Addr.add] using hc
        refine .inr ⟨b, o, rfl, cell_lt hc00, fun j u hj => ?_⟩
        have hj2 : j < len * 2 := by
          have := (List.getElem?_eq_some_iff.1 hj).1
          rw [flat_len lblE 2 lblE_len, hlen] at this
          exact this
        have hi : j / 2 < len := by omega
        obtain ⟨_, hcs⟩ := hy (j / 2) hi
        obtain ⟨_, _, hcj⟩ := World.cells?_some hcs
        have h1 := hcj (j % 2) (by omega)
        rw [add_at, add_at] at h1
        have h2 := flat_get lblE 2 lblE_len ((List.range len).map y) (j / 2) _ (j % 2) (getD_some _ lbl0 (by rw [hlen]; exact hi)) (by omega)
        rw [hget _ hi, show j / 2 * 2 + j % 2 = j from by omega, hj] at h2
        rw [← h2, show o + j / 2 * 2 + j % 2 = o + j from by omega] at h1
        exact h1
    · intro i hi
      rw [hlen] at hi
      unfold nmOf vlOf
      rw [hget i hi]
      exact (hy i hi).1
end
end Go.Proofs.YtnhaehjkepmbaaaDoor
