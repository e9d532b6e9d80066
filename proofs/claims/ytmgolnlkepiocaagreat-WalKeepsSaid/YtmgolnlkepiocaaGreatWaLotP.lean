/- In one text, written by lotify.py: DkMap, DkMem, DkName, DkFind, DkDo, DkStep. -/
import Derived.Test.YtmgolnlkepiocaaGreatWaLotO
import Derived.Test.YtmgolnlkepiocaaGreatChecked
import Derived.Maps.OwnSet
import Derived.Sort.KeysCollected
import Derived.Test.YtmgolnlkepiocaaGreatWaLotA
import Derived.Maps.RangeWalk
namespace Go.Proofs.YtmgolnlkepiocaaGreat.Dk
open Go.Maps
set_option linter.unusedVariables false

/-- How a pointer to a block reads: by the block's number. -/
def ptrR (v : Value) : Option (DataW Unit × List MemPlace) :=
  match v with
  | .pointer none => some (.nil, [])
  | .pointer (some ⟨g, 0, none⟩) => some (.lit (.int .i64 g), [])
  | _ => none
def ptrV (g : Nat) : Value := .pointer (some ⟨g, 0, none⟩)
def ptrD (g : Nat) : DataW Unit := .lit (.int .i64 g)
theorem ptrR_mk (g : Nat) : ptrR (ptrV g) = some (ptrD g, []) := rfl
theorem ptrR_nil : ptrR (.pointer none) = some (.nil, []) := rfl
theorem ptrR_inv {v : Value} {g : Nat} {ps : List MemPlace} (h : ptrR v = some (ptrD g, ps)) : v = ptrV g := by
  unfold ptrR at h
  split at h
  · cases h
  · rename_i g'
    simp only [Option.some.injEq, Prod.mk.injEq, ptrD, DataW.lit.injEq, Lit.int.injEq] at h
    have : g' = g := by omega
    subst this
    rfl
  · cases h
theorem ptrR_inv_nil {v : Value} {ps : List MemPlace} (h : ptrR v = some (.nil, ps)) : v = .pointer none := by
  unfold ptrR at h
  split at h
  · rfl
  · cases h
  · cases h

/-- A directory's datum: fb: where each file lies. -/
def entD (fb : Nat → Nat) (x : Ent) : Lit × DataW Unit := (.string x.name, ptrD (fb x.file))
def dirD (fb : Nat → Nat) (l : List Ent) : DataW Unit := .map (l.map (entD fb))
theorem before_less (a b : List UInt8) : bytesBefore a b = Op.bytesLess a b := by
  induction a generalizing b with
  | nil => cases b <;> rfl
  | cons x r ih =>
    cases b with
    | nil => rfl
    | cons y s => simp only [bytesBefore, Op.bytesLess, ih]
theorem same_name (a b : List UInt8) : (Lit.string a).sameKey (.string b) = decide (a = b) := by
  show (a == b) = _
  by_cases h : a = b
  · simp [h]
  · simp [h]
theorem insert_all (fb : Nat → Nat) (e : Ent) : ∀ (l : List Ent), Rises l → (∀ x ∈ l, x.name ≠ e.name) → DataW.insert (entD fb e) (l.map (entD fb)) = (put l e).map (entD fb) := by
  intro l
  induction l with
  | nil => intro _ _; rfl
  | cons x r ih =>
    intro h hn
    obtain ⟨h1, h2⟩ := rises_cons h
    have hx := hn x (by simp)
    rw [List.map_cons]
    unfold DataW.insert
    have hb : (entD fb e).1.before (entD fb x).1 = Op.bytesLess e.name x.name := before_less _ _
    rw [hb]
    have ep := put_eq (x :: r) e h
    have er := put_eq r e h2
    cases hl : Op.bytesLess e.name x.name
    · have hxe : Op.bytesLess x.name e.name = true := by
        cases hxe : Op.bytesLess x.name e.name
        · exact absurd (less_total _ _ hxe hl) hx
        · rfl
      rw [if_neg (by decide), ih h2 fun y hy => hn y (by simp [hy]), ep, er]
      simp [hxe, hl]
    · rw [if_pos rfl, ep]
      have hall : ∀ y ∈ r, Op.bytesLess e.name y.name = true := fun y hy => less_trans _ _ _ hl (h1 y hy)
      have hno : r.filter (fun y => Op.bytesLess y.name e.name) = [] := by
        rw [List.filter_eq_nil_iff]
        intro y hy
        rw [less_asym (hall y hy)]
        simp
      have hyes : r.filter (fun y => Op.bytesLess e.name y.name) = r := by
        rw [List.filter_eq_self]
        exact hall
      rw [List.filter_cons, List.filter_cons, less_asym hl, hl, hno, hyes]
      simp
theorem strike_all (fb : Nat → Nat) (n : List UInt8) (l : List Ent) : (l.map (entD fb)).filter (fun p => !p.1.sameKey (.string n)) = (lacking l n).map (entD fb) := by
  unfold lacking
  rw [List.filter_map]
  congr 1
  apply List.filter_congr
  intro x _
  show (!(Lit.string x.name).sameKey (.string n)) = decide (x.name ≠ n)
  rw [same_name]
  by_cases h : x.name = n <;> simp [h]
theorem put_lacking {l : List Ent} (e : Ent) (h : Rises l) : put (lacking l e.name) e = put l e := by
  refine rises_ext _ _ (put_rises _ (lacking_rises h _)) (put_rises _ h) fun n => ?_
  rw [whose_put _ _ (lacking_rises h _), whose_put _ _ h]
  split
  · rfl
  · rename_i hn
    rw [whose_lacking _ _ h, if_neg hn]
theorem dirD_put (fb : Nat → Nat) {l : List Ent} (e : Ent) (h : Rises l) : (dirD fb l).put (.string e.name) (ptrD (fb e.file)) = dirD fb (put l e) := by
  show DataW.map (DataW.insert (entD fb e) ((l.map (entD fb)).filter fun p => !p.1.sameKey (.string e.name))) = _
  rw [strike_all, insert_all fb e _ (lacking_rises h _) (fun x hx => ((mem_lacking _ _).1 hx).2), put_lacking e h]
  rfl
theorem dirD_del (fb : Nat → Nat) (l : List Ent) (n : List UInt8) : (dirD fb l).del (.string n) = dirD fb (lacking l n) := by
  show DataW.map ((l.map (entD fb)).filter fun p => !p.1.sameKey (.string n)) = _
  rw [strike_all]
  rfl
theorem dirD_at (fb : Nat → Nat) (l : List Ent) (n : List UInt8) (z : DataW Unit) : (dirD fb l).atKey (.string n) z = match whose l n with | some f => ptrD (fb f) | none => z := by
  have e : (l.map (entD fb)).find? (fun p => p.1.sameKey (.string n)) = (l.find? fun x => decide (x.name = n)).map (entD fb) := by
    rw [List.find?_map]
    congr 1
    congr 1
    funext x
    exact same_name _ _
  unfold DataW.atKey dirD
  simp only [e]
  unfold whose
  cases l.find? fun x => decide (x.name = n) <;> rfl
theorem dirD_size (fb : Nat → Nat) (l : List Ent) : Maps.size (dirD fb l) = l.length := by simp [dirD, Maps.size]
theorem dirD_keys (fb : Nat → Nat) (l : List Ent) : strKeys (dirD fb l) = l.map Ent.name := by
  show (l.map (entD fb)).map (fun p => strOf p.1) = _
  rw [List.map_map]
  rfl
theorem dirD_congr {fb gb : Nat → Nat} {l : List Ent} (h : ∀ x ∈ l, fb x.file = gb x.file) : dirD fb l = dirD gb l := by
  unfold dirD
  congr 1
  apply List.map_congr_left
  intro x hx
  unfold entD
  rw [h x hx]
theorem less_le {a b : List UInt8} (h : Op.bytesLess a b = true) : a ≤ b := by
  have key : ∀ (a b : List UInt8), Op.bytesLess a b = true → a < b := by
    intro a
    induction a with
    | nil =>
      intro b h
      cases b with
      | nil => simp [Op.bytesLess] at h
      | cons y s => exact List.nil_lt_cons _ _
    | cons x r ih =>
      intro b h
      cases b with
      | nil => simp [Op.bytesLess] at h
      | cons y s =>
        simp only [Op.bytesLess, Bool.or_eq_true, Bool.and_eq_true, decide_eq_true_eq, beq_iff_eq] at h
        rw [List.cons_lt_cons_iff]
        rcases h with h | ⟨rfl, h⟩
        · exact .inl h
        · exact .inr ⟨rfl, ih s h⟩
  exact List.le_of_lt (key a b h)
/-- The keys in order are the names as they stand. -/
theorem dirD_sorted (fb : Nat → Nat) {l : List Ent} (h : Rises l) {ss : List (List UInt8)} (hp : ss.Perm (strKeys (dirD fb l))) : ss.mergeSort (fun x y => decide (x ≤ y)) = l.map Ent.name := by
  have e := mergeSort_of_perm hp
  rw [dirD_keys] at e
  show ss.mergeSort leB = _
  rw [e]
  apply List.mergeSort_of_pairwise
  rw [List.pairwise_map]
  exact h.imp fun hab => by simpa [leB] using less_le hab

/-! ### in memory -/
/-- Block b is a directory. -/
def DirAt (w : World) (fb : Nat → Nat) (b : Nat) (l : List Ent) : Prop := w.ownsMap Tryz.prog 9 ptrR b l.length (dirD fb l)
theorem keyed : Keyed Tryz.prog 9 := string_keyed Tryz.underlying9
theorem tight {w : World} {b n : Nat} {D : DataW Unit} (h : w.ownsMap Tryz.prog 9 ptrR b n D) : w.ownsMap Tryz.prog 9 ptrR b (Maps.size D) D := by
  obtain ⟨es, clock, hb, F, hs, rfl⟩ := h
  exact ⟨es, clock, hb, F, by simp [Maps.size, length_sorted], rfl⟩
theorem dir_tight {w : World} {fb : Nat → Nat} {b n : Nat} {l : List Ent} (h : w.ownsMap Tryz.prog 9 ptrR b n (dirD fb l)) : DirAt w fb b l := by
  have := tight h
  rw [dirD_size] at this
  exact this
theorem DirAt.lt {w : World} {fb : Nat → Nat} {b : Nat} {l : List Ent} (h : DirAt w fb b l) : b < w.heap.size := World.ownsMap.lt h
theorem DirAt.map {w : World} {fb : Nat → Nat} {b : Nat} {l : List Ent} (h : DirAt w fb b l) : ∃ es clock, w.heap[b]? = some (.map es clock) := by
  obtain ⟨es, clock, hb, _⟩ := h
  exact ⟨es, clock, hb⟩
theorem DirAt.block {w w' : World} {fb : Nat → Nat} {b : Nat} {l : List Ent} (h : DirAt w fb b l) (hb : w'.heap[b]? = w.heap[b]?) : DirAt w' fb b l := by
  obtain ⟨es, clock, h1, h2⟩ := h
  exact ⟨es, clock, hb.trans h1, h2⟩
theorem DirAt.congr {w : World} {fb gb : Nat → Nat} {b : Nat} {l : List Ent} (h : DirAt w fb b l) (he : ∀ x ∈ l, fb x.file = gb x.file) : DirAt w gb b l := by
  unfold DirAt at h ⊢
  rw [← dirD_congr he]
  exact h
theorem ptr_zero (w : World) : (zeroValue 98).run Tryz.prog w = .ok (.pointer none) w := by kernel_rfl
theorem key_txt {s : ByteArray} (hs : s.size ≤ maxLen) : keyOf Tryz.prog 9 (.string s) = some (.string s.data.toList) := Go.WideMaps.keyOf_string_mk Tryz.underlying9 hs
/-- What stands under a name, in memory. -/
def underV (fb : Nat → Nat) (l : List Ent) (n : List UInt8) : Value := match whose l n with | some f => ptrV (fb f) | none => .pointer none
theorem dir_look {w : World} {fb : Nat → Nat} {b : Nat} {l : List Ent} (h : DirAt w fb b l) (s : ByteArray) (hs : s.size ≤ maxLen) :
    (Instr.lookup 67 (.map (some b)) (.string s) false).run Tryz.prog w = .ok (underV fb l s.data.toList) w := by
  obtain ⟨v, ps, hr, hv⟩ := World.ownsMap.lookup h keyed Tryz.underlying67 (ptr_zero w) ptrR_nil (key_txt hs)
  rw [dirD_at] at hv
  rw [hr]
  unfold underV
  cases hw : whose l s.data.toList with
  | none =>
    rw [hw] at hv
    rw [ptrR_inv_nil hv]
  | some f =>
    rw [hw] at hv
    rw [ptrR_inv hv]
theorem dir_store {w : World} {fb : Nat → Nat} {b : Nat} {l : List Ent} (h : DirAt w fb b l) (hl : l.length < maxLen) (hr : Rises l) (s : ByteArray) (hs : s.size ≤ maxLen) (f : Nat) :
    ∃ w', (Instr.mapUpdate 67 (.map (some b)) (.string s) (ptrV (fb f))).run Tryz.prog w = .ok () w' ∧ DirAt w' fb b (put l ⟨s.data.toList, f⟩) ∧ w.mapTurned w' b := by
  obtain ⟨w', h1, h2, h3⟩ := World.ownsMap.store h keyed Tryz.underlying67 hl (key_txt hs) (ptrR_mk (fb f))
  refine ⟨w', h1, ?_, h3⟩
  rw [dirD_put fb ⟨s.data.toList, f⟩ hr] at h2
  exact dir_tight h2
theorem dir_drop {w : World} {fb : Nat → Nat} {b : Nat} {l : List Ent} (h : DirAt w fb b l) (s : ByteArray) (hs : s.size ≤ maxLen) (ty : TypeId) :
    ∃ w', (Builtin.delete_ #[67, 9] ty #[.map (some b), .string s]).run Tryz.prog w = .ok (.tuple #[]) w' ∧ DirAt w' fb b (lacking l s.data.toList) ∧ w.mapTurned w' b := by
  obtain ⟨w', h1, h2, h3⟩ := World.ownsMap.drop h keyed Tryz.underlying67 (key_txt hs) ty
  refine ⟨w', h1, ?_, h3⟩
  rw [dirD_del] at h2
  exact dir_tight h2
theorem dir_len {w : World} {fb : Nat → Nat} {b : Nat} {l : List Ent} (h : DirAt w fb b l) (ty : TypeId) : (Builtin.len_ #[67] ty #[.map (some b)]).run Tryz.prog w = .ok (.int .i64 l.length) w := by
  have := World.ownsMap.len h Tryz.underlying67 ty
  rw [dirD_size] at this
  exact this
theorem dir_made (w : World) (fb : Nat → Nat) : DirAt (w.alloc (.map #[] 0)) fb w.heap.size [] := World.ownsMap_made w Tryz.prog 9 ptrR
/-- The same entries in another block. -/
theorem dir_clone {w w' : World} {fb : Nat → Nat} {b b' : Nat} {l : List Ent} (h : DirAt w fb b l) (hb : w'.heap[b']? = w.heap[b]?) : DirAt w' fb b' l := by
  obtain ⟨es, clock, h1, h2⟩ := h
  exact ⟨es, clock, hb.trans h1, h2⟩
end Go.Proofs.YtmgolnlkepiocaaGreat.Dk

namespace Go.Proofs.YtmgolnlkepiocaaGreat.Dk
open Go.RowKit Go.Maps
set_option linter.unusedVariables false

/-! ### what turns -/
/-- But for the blocks of S, and for what is new, nothing has turned. -/
structure Kept (S : Nat → Prop) (w w' : World) : Prop where
  os : w'.os = w.os
  tape : w'.tape = w.tape
  output : w'.output = w.output
  size : w.heap.size ≤ w'.heap.size
  block : ∀ k, k < w.heap.size → ¬ S k → w'.heap[k]? = w.heap[k]?
section
variable {S T : Nat → Prop} {w w' w'' : World}
theorem Kept.refl (S : Nat → Prop) (w : World) : Kept S w w := ⟨rfl, rfl, rfl, Nat.le_refl _, fun _ _ _ => rfl⟩
theorem Kept.mono (h : Kept S w w') (hs : ∀ k, S k → T k) : Kept T w w' := ⟨h.os, h.tape, h.output, h.size, fun k hk hn => h.block k hk fun hS => hn (hs k hS)⟩
theorem Kept.trans (h : Kept S w w') (k : Kept T w' w'') (ht : ∀ i, T i → S i ∨ w.heap.size ≤ i) : Kept S w w'' :=
  ⟨k.os.trans h.os, k.tape.trans h.tape, k.output.trans h.output, Nat.le_trans h.size k.size, fun i hi hn =>
    (k.block i (Nat.lt_of_lt_of_le hi h.size) fun hT => (ht i hT).elim hn (fun h2 => by omega)).trans (h.block i hi hn)⟩
theorem Kept.alloc (h : Kept S w w') (o : Obj) : Kept S w (w'.alloc o) := ⟨h.os, h.tape, h.output, Nat.le_trans h.size (by simp), fun k hk hn => (Below.heap_alloc w' o k (Nat.lt_of_lt_of_le hk h.size)).trans (h.block k hk hn)⟩
theorem Kept.set (h : Kept S w w') {p : Addr} (hp : S p.block ∨ w.heap.size ≤ p.block) (u : Value) : Kept S w (w'.setCell p u) :=
  ⟨h.os, h.tape, h.output, by simpa [World.setCell] using h.size, fun k hk hn => (Below.heap_setCell w' p u k (fun e => by subst e; exact hp.elim hn (fun h2 => by omega))).trans (h.block k hk hn)⟩
theorem Kept.below (h : Below w.heap.size w w') : Kept S w w' := ⟨h.os, h.tape, h.output, h.size, fun k hk _ => h.block k hk⟩
theorem Kept.grown {row : Option Nat} (h : w.grownBy w' row) (hr : ∀ k, row = some k → S k) : Kept S w w' := ⟨h.os, h.tape, h.output, h.size, fun k hk hn => h.block k hk fun e => hn (hr k e.symm)⟩
theorem Kept.turned {b : Nat} (h : w.mapTurned w' b) (hb : S b) : Kept S w w' := .grown h.grown fun k e => by cases e; exact hb
theorem Kept.to_below {B : Nat} (h : Kept S w w') (hS : ∀ k, S k → B ≤ k) (hB : B ≤ w.heap.size) : Below B w w' := ⟨h.os, h.tape, h.output, h.size, fun k hk => h.block k (by omega) fun hs => by have := hS k hs; omega⟩
end

/-! ### rows that stand still -/
theorem row_move {w w' : World} {g : Nat} {t : TypeId} {cs : Array Value} (h : Row w g t cs) (hb : w'.heap[g]? = w.heap[g]?) : Row w' g t cs := hb.trans h
theorem rows_move {w w' : World} {base e size n : Nat} {v : Value} {xs : List Value} (h : w.ownsRow base e size v n xs) (hb : ∀ k, v.ownBlock = some k → w'.heap[k]? = w.heap[k]?) : w'.ownsRow base e size v n xs := by
  refine ⟨h.1, ?_⟩
  rcases h.2 with hn | ⟨g, cap, cur, rfl, hg, hh, rest⟩
  · exact .inl hn
  · exact .inr ⟨g, cap, cur, rfl, hg, (hb g rfl).trans hh, rest⟩
theorem own_move {w w' : World} {base : Nat} {v : Value} {x : List UInt8} (h : Own w base v x) (hb : ∀ k, v.ownBlock = some k → w'.heap[k]? = w.heap[k]?) : Own w' base v x := rows_move h hb

/-! ### entries that wait -/
def entOf (l : List Ent) : Stp → List UInt8 × List UInt8 × Option Nat
  | .lay n f => ([], n, some f)
  | .move n t => (n, t, some ((whose l n).getD 0))
  | .take n => (n, [], none)
def entsOf : List Ent → List Stp → List (List UInt8 × List UInt8 × Option Nat)
  | _, [] => []
  | l, s :: r => entOf l s :: entsOf (stepDir l s) r
theorem entsOf_length : ∀ (w : List Stp) (l : List Ent), (entsOf l w).length = w.length := by
  intro w
  induction w with
  | nil => intro l; rfl
  | cons s r ih => intro l; simp [entsOf, ih]
theorem entsOf_snoc : ∀ (w : List Stp) (l : List Ent) (s : Stp), entsOf l (w ++ [s]) = entsOf l w ++ [entOf (dirOf l w) s] := by
  intro w
  induction w with
  | nil => intro l s; rfl
  | cons x r ih => intro l s; simp [entsOf, ih, dirOf]
theorem entsOf_get : ∀ (w : List Stp) (l : List Ent) (k : Nat) (h : k < w.length), (entsOf l w)[k]? = some (entOf (dirOf l (w.take k)) (w[k]'h)) := by
  intro w
  induction w with
  | nil => intro l k h; simp at h
  | cons x r ih =>
    intro l k h
    cases k with
    | zero => rfl
    | succ k =>
      have := ih (stepDir l x) k (by simpa using h)
      simpa [entsOf, dirOf] using this
def fileV (fb : Nat → Nat) : Option Nat → Value
  | some f => ptrV (fb f)
  | none => .pointer none
def entC (fb : Nat → Nat) (x : List UInt8 × List UInt8 × Option Nat) : List Value := [.string (txt x.1), .string (txt x.2.1), fileV fb x.2.2]
def waitC (fb : Nat → Nat) (l : List (List UInt8 × List UInt8 × Option Nat)) : List Value := l.flatMap (entC fb)
theorem waitC_length (fb : Nat → Nat) : ∀ l, (waitC fb l).length = l.length * 3 := by
  intro l
  induction l with
  | nil => rfl
  | cons x r ih =>
    show (entC fb x ++ waitC fb r).length = _
    rw [List.length_append, ih, List.length_cons]
    show 3 + _ = _
    omega
theorem waitC_get (fb : Nat → Nat) : ∀ (l : List (List UInt8 × List UInt8 × Option Nat)) (k : Nat) (x), l[k]? = some x → (waitC fb l)[k * 3]? = some (.string (txt x.1)) ∧ (waitC fb l)[k * 3 + 1]? = some (.string (txt x.2.1)) ∧ (waitC fb l)[k * 3 + 2]? = some (fileV fb x.2.2) := by
  intro l
  induction l with
  | nil => intro k x h; simp at h
  | cons y r ih =>
    intro k x h
    cases k with
    | zero =>
      simp only [List.getElem?_cons_zero, Option.some.injEq] at h
      subst h
      exact ⟨rfl, rfl, rfl⟩
    | succ k =>
      have := ih k x (by simpa using h)
      have e : ∀ j, (waitC fb (y :: r))[(k + 1) * 3 + j]? = (waitC fb r)[k * 3 + j]? := by
        intro j
        show (entC fb y ++ waitC fb r)[(k + 1) * 3 + j]? = _
        rw [List.getElem?_append_right (by show 3 ≤ _; omega)]
        congr 1
        show (k + 1) * 3 + j - 3 = _
        omega
      exact ⟨(e 0).trans this.1, (e 1).trans this.2.1, (e 2).trans this.2.2⟩
theorem waitC_congr {fb gb : Nat → Nat} {l : List (List UInt8 × List UInt8 × Option Nat)} (h : ∀ x ∈ l, ∀ f, x.2.2 = some f → fb f = gb f) : waitC fb l = waitC gb l := by
  induction l with
  | nil => rfl
  | cons x r ih =>
    have e1 : entC fb x = entC gb x := by
      unfold entC
      cases hx : x.2.2 with
      | none => rfl
      | some f => simp [fileV, h x (by simp) f hx]
    show entC fb x ++ waitC fb r = entC gb x ++ waitC gb r
    rw [e1, ih fun y hy => h y (by simp [hy])]

/-! ### the disk -/
def diskC (d : Dsk) (dm bm : Nat) (wv : Value) : Array Value := #[.int .i64 d.room, .map (some dm), .map (some bm), wv, .int .i64 d.left, .bool d.dark, .int .i64 d.count]
structure DiskIn (w : World) (X dm bm : Nat) (wv : Value) (fb : Nat → Nat) (vb : Nat → Value) (d : Dsk) : Prop where
  row : Row w X 70 (diskC d dm bm wv)
  dir : DirAt w fb dm (live d)
  base : DirAt w fb bm d.base
  ne : dm ≠ bm
  wait : w.ownsRow 0 100 3 wv d.wait.length (waitC fb (entsOf d.base d.wait))
  file : ∀ i, i < d.files.length → Row w (fb i) 131 #[vb i, .int .i64 ((d.files.getD i fil0).sure : Int)]
  byts : ∀ i, i < d.files.length → Own w 0 (vb i) (d.files.getD i fil0).b
  fbs : ∀ i j, i < d.files.length → j < d.files.length → i ≠ j → fb i ≠ fb j
  vbs : ∀ i j, i < d.files.length → j < d.files.length → i ≠ j → ∀ k, (vb i).ownBlock = some k → (vb j).ownBlock ≠ some k
/-- The disk's blocks. -/
def Foot (X dm bm : Nat) (wv : Value) (fb : Nat → Nat) (vb : Nat → Value) (n k : Nat) : Prop := k = X ∨ k = dm ∨ k = bm ∨ wv.ownBlock = some k ∨ ∃ i, i < n ∧ (k = fb i ∨ (vb i).ownBlock = some k)
/-- A disk that lies in blocks of S. -/
def DiskAt (S : Nat → Prop) (w : World) (X : Nat) (d : Dsk) : Prop := ∃ dm bm wv fb vb, DiskIn w X dm bm wv fb vb d ∧ ∀ k, Foot X dm bm wv fb vb d.files.length k → S k

theorem DiskIn.lt {w : World} {X dm bm : Nat} {wv : Value} {fb : Nat → Nat} {vb : Nat → Value} {d : Dsk} (h : DiskIn w X dm bm wv fb vb d) : ∀ k, Foot X dm bm wv fb vb d.files.length k → k < w.heap.size := by
  rintro k (rfl | rfl | rfl | hk | ⟨i, hi, rfl | hk⟩)
  · exact h.row.lt
  · exact h.dir.lt
  · exact h.base.lt
  · exact (World.ownsRow.lt h.wait k hk).2
  · exact (h.file i hi).lt
  · exact (World.ownsRow.lt (h.byts i hi) k hk).2
theorem DiskIn.move {w w' : World} {X dm bm : Nat} {wv : Value} {fb : Nat → Nat} {vb : Nat → Value} {d : Dsk} (h : DiskIn w X dm bm wv fb vb d) (hb : ∀ k, Foot X dm bm wv fb vb d.files.length k → w'.heap[k]? = w.heap[k]?) : DiskIn w' X dm bm wv fb vb d :=
  ⟨row_move h.row (hb _ (.inl rfl)), h.dir.block (hb _ (.inr (.inl rfl))), h.base.block (hb _ (.inr (.inr (.inl rfl)))), h.ne, rows_move h.wait fun k hk => hb k (.inr (.inr (.inr (.inl hk)))),
    fun i hi => row_move (h.file i hi) (hb _ (.inr (.inr (.inr (.inr ⟨i, hi, .inl rfl⟩))))), fun i hi => own_move (h.byts i hi) fun k hk => hb k (.inr (.inr (.inr (.inr ⟨i, hi, .inr hk⟩)))), h.fbs, h.vbs⟩
theorem DiskIn.below {w w' : World} {X dm bm : Nat} {wv : Value} {fb : Nat → Nat} {vb : Nat → Value} {d : Dsk} (h : DiskIn w X dm bm wv fb vb d) (hb : Below w.heap.size w w') : DiskIn w' X dm bm wv fb vb d := h.move fun k hk => hb.block k (h.lt k hk)
theorem DiskAt.kept {S T : Nat → Prop} {w w' : World} {X : Nat} {d : Dsk} (h : DiskAt S w X d) (hk : Kept T w w') (hST : ∀ k, S k → ¬ T k) : DiskAt S w' X d := by
  obtain ⟨dm, bm, wv, fb, vb, hin, hf⟩ := h
  exact ⟨dm, bm, wv, fb, vb, hin.move fun k h => hk.block k (hin.lt k h) (hST k (hf k h)), hf⟩
theorem DiskAt.below {S : Nat → Prop} {w w' : World} {X : Nat} {d : Dsk} (h : DiskAt S w X d) (hb : Below w.heap.size w w') : DiskAt S w' X d := by
  obtain ⟨dm, bm, wv, fb, vb, hin, hf⟩ := h
  exact ⟨dm, bm, wv, fb, vb, hin.below hb, hf⟩
theorem DiskAt.mono {S T : Nat → Prop} {w : World} {X : Nat} {d : Dsk} (h : DiskAt S w X d) (hs : ∀ k, S k → T k) : DiskAt T w X d := by
  obtain ⟨dm, bm, wv, fb, vb, hin, hf⟩ := h
  exact ⟨dm, bm, wv, fb, vb, hin, fun k hk => hs k (hf k hk)⟩
theorem DiskAt.within {S : Nat → Prop} {w : World} {X : Nat} {d : Dsk} (h : DiskAt S w X d) : DiskAt (fun k => S k ∧ k < w.heap.size) w X d := by
  obtain ⟨dm, bm, wv, fb, vb, hin, hf⟩ := h
  exact ⟨dm, bm, wv, fb, vb, hin, fun k hk => ⟨hf k hk, hin.lt k hk⟩⟩
/-- The cells of the struct, for a walk. -/
theorem DiskIn.cells {w : World} {X dm bm : Nat} {wv : Value} {fb : Nat → Nat} {vb : Nat → Value} {d : Dsk} (h : DiskIn w X dm bm wv fb vb d) :
    w.cell? ⟨X, 0, none⟩ = some (.int .i64 d.room) ∧ w.cell? ⟨X, 1, none⟩ = some (.map (some dm)) ∧ w.cell? ⟨X, 2, none⟩ = some (.map (some bm)) ∧ w.cell? ⟨X, 3, none⟩ = some wv ∧
    w.cell? ⟨X, 4, none⟩ = some (.int .i64 d.left) ∧ w.cell? ⟨X, 5, none⟩ = some (.bool d.dark) ∧ w.cell? ⟨X, 6, none⟩ = some (.int .i64 d.count) :=
  ⟨(h.row.cell 0).trans rfl, (h.row.cell 1).trans rfl, (h.row.cell 2).trans rfl, (h.row.cell 3).trans rfl, (h.row.cell 4).trans rfl, (h.row.cell 5).trans rfl, (h.row.cell 6).trans rfl⟩
end Go.Proofs.YtmgolnlkepiocaaGreat.Dk

namespace Go.Proofs.YtmgolnlkepiocaaGreat.Dk
open Go.RowKit
set_option linter.unusedVariables false

theorem strL_get (s : ByteArray) {k : Nat} (h : k < s.size) : (strL s).getD k 0 = s[k] := by
  rw [getD_in _ 0 (by rw [strL_length]; exact h)]
  rfl
theorem strL_take (s : ByteArray) {k : Nat} (h : k < s.size) : (strL s).take (k + 1) = (strL s).take k ++ [s[k]] := by
  rw [List.take_succ_eq_append_getElem (by rw [strL_length]; exact h)]
  rfl
theorem ret_bool {a b : Bool} (h : a = b) : Ending.returned (.bool a) = .returned (.bool b) := by rw [h]
theorem named_no {s : ByteArray} {k : Nat} (h : k < s.size) (hd : nameByte s[k] = false) : namedB (strL s) = false := by
  unfold namedB
  have : (strL s).all nameByte = false := by
    rw [List.all_eq_false]
    refine ⟨s[k], ?_, by simp [hd]⟩
    rw [← strL_get s h, getD_in _ 0 (by rw [strL_length]; exact h)]
    exact List.getElem_mem _
  simp [this]
theorem strL_empty (s : ByteArray) : (strL s).isEmpty = decide (s.size = 0) := by
  have := strL_length s
  cases h : strL s with
  | nil => rw [h] at this; rw [decide_eq_true (by simpa using this.symm)]; rfl
  | cons x r => rw [h, List.length_cons] at this; rw [decide_eq_false (by omega)]; rfl
theorem named_yes {s : ByteArray} (h : (strL s).all nameByte = true) : namedB (strL s) = (!decide (s.size = 0) && decide (s.size ≤ 24)) := by
  unfold namedB
  rw [h, strL_empty, strL_length]
  simp
theorem named_size {s : ByteArray} (h : namedB (strL s) = true) : 0 < s.size ∧ s.size ≤ 24 := by
  unfold namedB at h
  rw [strL_empty, strL_length] at h
  simp only [Bool.and_eq_true, Bool.not_eq_true', decide_eq_true_eq, decide_eq_false_iff_not] at h
  omega
theorem class_of (c : UInt8) : (c.toNat < 45 ∨ c.toNat = 47 ∨ (58 ≤ c.toNat ∧ c.toNat ≤ 96) ∨ 123 ≤ c.toNat) ∧ nameByte c = false ∨ (c.toNat = 45 ∨ c.toNat = 46 ∨ (48 ≤ c.toNat ∧ c.toNat ≤ 57) ∨ (97 ≤ c.toNat ∧ c.toNat ≤ 122)) ∧ nameByte c = true := by
  have := c.toNat_lt
  by_cases h : (97 ≤ c.toNat ∧ c.toNat ≤ 122) ∨ (48 ≤ c.toNat ∧ c.toNat ≤ 57) ∨ c.toNat = 46 ∨ c.toNat = 45
  · refine .inr ⟨by omega, ?_⟩
    unfold nameByte
    simp
    omega
  · refine .inl ⟨by omega, ?_⟩
    unfold nameByte
    simp
    omega

set_option maxHeartbeats 1000000 in
theorem isname_loop (s : ByteArray) (w : World) (h0 : 0 < s.size) (hs : s.size ≤ 24) :
    Calls Tryz.prog 125 #[.string s] w fun e w' => e = .returned (.bool (namedB (strL s))) ∧ w = w' := by
  have q0 : decide (s.size = 0) = false := decide_eq_false (by omega)
  have q1 : decide ((24 : Int) < (s.size : Int)) = false := decide_eq_false (by omega)
  have qe : (s.toList == []) = false := by
    rw [ByteArray.toList_eq, beq_eq_false_iff_ne]
    intro e
    have := strL_length s
    unfold strL at this
    rw [e] at this
    simp at this
    omega
  go_enter Tryz.func125, Tryz.ntmps125
  go_wp2_with fail
  go_loop [16] (fun i => ∃ k : Nat, k ≤ s.size ∧ i = .int .i64 (k : Int) ∧ ((strL s).take k).all nameByte = true) (fun i => s.size - (intOf i).toNat)
  case atStart => exact ⟨0, Nat.zero_le _, rfl, by simp⟩
  case round =>
    obtain ⟨k, hk, rfl, hall⟩ := hrel
    by_cases hlt : k < s.size
    · have HT := Lib.hid (strL_take s hlt)
      have HA := Lib.hid hall
      clear hall
      rcases class_of s[k] with ⟨hcl, hnb⟩ | ⟨hcl, hnb⟩
      · have HN := Lib.hid (named_no hlt hnb)
        clear hnb
        rcases hcl with hcl | hcl | hcl | hcl
        · -- lt45
          have c1 : decide ((97 : Int) ≤ (s[k].toNat : Int)) = false := decide_eq_false (by omega)
          have c2 : decide ((s[k].toNat : Int) ≤ 122) = true := decide_eq_true (by omega)
          have c3 : decide ((48 : Int) ≤ (s[k].toNat : Int)) = false := decide_eq_false (by omega)
          have c4 : decide ((s[k].toNat : Int) ≤ 57) = true := decide_eq_true (by omega)
          have c5 : ((s[k].toNat : Int) != 46) = true := bne_iff_ne.2 (by omega)
          have c6 : ((s[k].toNat : Int) != 45) = true := bne_iff_ne.2 (by omega)
          clear hcl
          go_wp2_with fail
          go_ret
          exact ⟨ret_bool HN.out.symm, rfl⟩
        · -- e47
          have c1 : decide ((97 : Int) ≤ (s[k].toNat : Int)) = false := decide_eq_false (by omega)
          have c2 : decide ((s[k].toNat : Int) ≤ 122) = true := decide_eq_true (by omega)
          have c3 : decide ((48 : Int) ≤ (s[k].toNat : Int)) = false := decide_eq_false (by omega)
          have c4 : decide ((s[k].toNat : Int) ≤ 57) = true := decide_eq_true (by omega)
          have c5 : ((s[k].toNat : Int) != 46) = true := bne_iff_ne.2 (by omega)
          have c6 : ((s[k].toNat : Int) != 45) = true := bne_iff_ne.2 (by omega)
          clear hcl
          go_wp2_with fail
          go_ret
          exact ⟨ret_bool HN.out.symm, rfl⟩
        · -- mid
          have c1 : decide ((97 : Int) ≤ (s[k].toNat : Int)) = false := decide_eq_false (by omega)
          have c2 : decide ((s[k].toNat : Int) ≤ 122) = true := decide_eq_true (by omega)
          have c3 : decide ((48 : Int) ≤ (s[k].toNat : Int)) = true := decide_eq_true (by omega)
          have c4 : decide ((s[k].toNat : Int) ≤ 57) = false := decide_eq_false (by omega)
          have c5 : ((s[k].toNat : Int) != 46) = true := bne_iff_ne.2 (by omega)
          have c6 : ((s[k].toNat : Int) != 45) = true := bne_iff_ne.2 (by omega)
          clear hcl
          go_wp2_with fail
          go_ret
          exact ⟨ret_bool HN.out.symm, rfl⟩
        · -- hi
          have c1 : decide ((97 : Int) ≤ (s[k].toNat : Int)) = true := decide_eq_true (by omega)
          have c2 : decide ((s[k].toNat : Int) ≤ 122) = false := decide_eq_false (by omega)
          have c3 : decide ((48 : Int) ≤ (s[k].toNat : Int)) = true := decide_eq_true (by omega)
          have c4 : decide ((s[k].toNat : Int) ≤ 57) = false := decide_eq_false (by omega)
          have c5 : ((s[k].toNat : Int) != 46) = true := bne_iff_ne.2 (by omega)
          have c6 : ((s[k].toNat : Int) != 45) = true := bne_iff_ne.2 (by omega)
          clear hcl
          go_wp2_with fail
          go_ret
          exact ⟨ret_bool HN.out.symm, rfl⟩
      · have HD := Lib.hid hnb
        clear hnb
        rcases hcl with hcl | hcl | hcl | hcl
        · -- e45
          have c1 : decide ((97 : Int) ≤ (s[k].toNat : Int)) = false := decide_eq_false (by omega)
          have c2 : decide ((s[k].toNat : Int) ≤ 122) = true := decide_eq_true (by omega)
          have c3 : decide ((48 : Int) ≤ (s[k].toNat : Int)) = false := decide_eq_false (by omega)
          have c4 : decide ((s[k].toNat : Int) ≤ 57) = true := decide_eq_true (by omega)
          have c5 : ((s[k].toNat : Int) != 46) = true := bne_iff_ne.2 (by omega)
          have c6 : ((s[k].toNat : Int) != 45) = false := by rw [bne_eq_false_iff_eq]; omega
          clear hcl
          go_wp2_with fail
          go_round
          case rel => exact ⟨k + 1, by omega, by go_num, by rw [HT.out, List.all_append, HA.out]; simp [HD.out]⟩
          case measure => simp [intOf]; omega
        · -- e46
          have c1 : decide ((97 : Int) ≤ (s[k].toNat : Int)) = false := decide_eq_false (by omega)
          have c2 : decide ((s[k].toNat : Int) ≤ 122) = true := decide_eq_true (by omega)
          have c3 : decide ((48 : Int) ≤ (s[k].toNat : Int)) = false := decide_eq_false (by omega)
          have c4 : decide ((s[k].toNat : Int) ≤ 57) = true := decide_eq_true (by omega)
          have c5 : ((s[k].toNat : Int) != 46) = false := by rw [bne_eq_false_iff_eq]; omega
          have c6 : ((s[k].toNat : Int) != 45) = true := bne_iff_ne.2 (by omega)
          clear hcl
          go_wp2_with fail
          go_round
          case rel => exact ⟨k + 1, by omega, by go_num, by rw [HT.out, List.all_append, HA.out]; simp [HD.out]⟩
          case measure => simp [intOf]; omega
        · -- dig
          have c1 : decide ((97 : Int) ≤ (s[k].toNat : Int)) = false := decide_eq_false (by omega)
          have c2 : decide ((s[k].toNat : Int) ≤ 122) = true := decide_eq_true (by omega)
          have c3 : decide ((48 : Int) ≤ (s[k].toNat : Int)) = true := decide_eq_true (by omega)
          have c4 : decide ((s[k].toNat : Int) ≤ 57) = true := decide_eq_true (by omega)
          have c5 : ((s[k].toNat : Int) != 46) = true := bne_iff_ne.2 (by omega)
          have c6 : ((s[k].toNat : Int) != 45) = true := bne_iff_ne.2 (by omega)
          clear hcl
          go_wp2_with fail
          go_round
          case rel => exact ⟨k + 1, by omega, by go_num, by rw [HT.out, List.all_append, HA.out]; simp [HD.out]⟩
          case measure => simp [intOf]; omega
        · -- let
          have c1 : decide ((97 : Int) ≤ (s[k].toNat : Int)) = true := decide_eq_true (by omega)
          have c2 : decide ((s[k].toNat : Int) ≤ 122) = true := decide_eq_true (by omega)
          have c3 : decide ((48 : Int) ≤ (s[k].toNat : Int)) = true := decide_eq_true (by omega)
          have c4 : decide ((s[k].toNat : Int) ≤ 57) = false := decide_eq_false (by omega)
          have c5 : ((s[k].toNat : Int) != 46) = true := bne_iff_ne.2 (by omega)
          have c6 : ((s[k].toNat : Int) != 45) = true := bne_iff_ne.2 (by omega)
          clear hcl
          go_wp2_with fail
          go_round
          case rel => exact ⟨k + 1, by omega, by go_num, by rw [HT.out, List.all_append, HA.out]; simp [HD.out]⟩
          case measure => simp [intOf]; omega
    · obtain rfl : k = s.size := by omega
      rw [List.take_of_length_le (by rw [strL_length]; omega)] at hall
      have HN := Lib.hid (named_yes hall)
      clear hall
      go_wp2_with fail
      go_ret
      exact ⟨ret_bool (by rw [HN.out, q0]; simp; omega), rfl⟩
theorem named_empty {s : ByteArray} (h : s.size = 0) : namedB (strL s) = false := by
  unfold namedB
  rw [strL_empty, decide_eq_true h]
  simp
theorem named_long {s : ByteArray} (h : 24 < s.size) : namedB (strL s) = false := by
  unfold namedB
  rw [strL_length, decide_eq_false (by omega : ¬ s.size ≤ 24)]
  simp
theorem empty_list {s : ByteArray} (h : s.size = 0) : (s.toList == []) = true := by
  rw [ByteArray.toList_eq, beq_iff_eq]
  exact List.eq_nil_of_length_eq_zero (by have := strL_length s; unfold strL at this; omega)
theorem full_list {s : ByteArray} (h : 0 < s.size) : (s.toList == []) = false := by
  rw [ByteArray.toList_eq, beq_eq_false_iff_ne]
  intro e
  have := strL_length s
  unfold strL at this
  rw [e] at this
  simp at this
  omega
theorem isname_prog (s : ByteArray) (w : World) (hm : s.size ≤ 281474976710656) :
    Calls Tryz.prog 125 #[.string s] w fun e w' => e = .returned (.bool (namedB (strL s))) ∧ w = w' := by
  by_cases h0 : s.size = 0
  · rw [named_empty h0]
    have qe := empty_list h0
    clear h0
    go_enter Tryz.func125, Tryz.ntmps125
    go_wp2_with fail
    go_ret
    exact ⟨rfl, rfl⟩
  · by_cases h1 : s.size ≤ 24
    · exact isname_loop s w (by omega) h1
    · rw [named_long (by omega)]
      have qe := full_list (s := s) (by omega)
      have q1 : decide ((24 : Int) < (s.size : Int)) = true := decide_eq_true (by omega)
      go_enter Tryz.func125, Tryz.ntmps125
      go_wp2_with fail
      go_ret
      exact ⟨rfl, rfl⟩

set_option maxHeartbeats 2000000 in
theorem named_ref (s : ByteArray) (w : World) (hs : s.size ≤ 281474976710656) :
    Calls Tryz.prog 56 #[.string s] w fun e w' => e = .returned (.bool (namedB (strL s))) ∧ w = w' := by
  go_enter Tryz.func56, Tryz.ntmps56
  go_wp2_with fail
  go_loop [3] (fun i => ∃ k : Nat, k ≤ s.size ∧ i = .int .i64 (k : Int) ∧ ((strL s).take k).all nameByte = true) (fun i => s.size - (intOf i).toNat)
  case atStart => exact ⟨0, Nat.zero_le _, rfl, by simp⟩
  case round =>
    obtain ⟨k, hk, rfl, hall⟩ := hrel
    by_cases hlt : k < s.size
    · have HT := Lib.hid (strL_take s hlt)
      have HA := Lib.hid hall
      clear hall
      rcases class_of s[k] with ⟨hcl, hnb⟩ | ⟨hcl, hnb⟩
      · have HN := Lib.hid (named_no hlt hnb)
        clear hnb
        rcases hcl with hcl | hcl | hcl | hcl
        · -- lt45
          have c1 : decide ((s[k].toNat : Int) < 97) = true := decide_eq_true (by omega)
          have c2 : decide ((122 : Int) < (s[k].toNat : Int)) = false := decide_eq_false (by omega)
          have c3 : decide ((s[k].toNat : Int) < 48) = true := decide_eq_true (by omega)
          have c4 : decide ((57 : Int) < (s[k].toNat : Int)) = false := decide_eq_false (by omega)
          have c5 : ((s[k].toNat : Int) != 46) = true := bne_iff_ne.2 (by omega)
          have c6 : ((s[k].toNat : Int) != 45) = true := bne_iff_ne.2 (by omega)
          clear hcl
          go_wp2_with fail
          go_ret
          exact ⟨ret_bool HN.out.symm, rfl⟩
        · -- e47
          have c1 : decide ((s[k].toNat : Int) < 97) = true := decide_eq_true (by omega)
          have c2 : decide ((122 : Int) < (s[k].toNat : Int)) = false := decide_eq_false (by omega)
          have c3 : decide ((s[k].toNat : Int) < 48) = true := decide_eq_true (by omega)
          have c4 : decide ((57 : Int) < (s[k].toNat : Int)) = false := decide_eq_false (by omega)
          have c5 : ((s[k].toNat : Int) != 46) = true := bne_iff_ne.2 (by omega)
          have c6 : ((s[k].toNat : Int) != 45) = true := bne_iff_ne.2 (by omega)
          clear hcl
          go_wp2_with fail
          go_ret
          exact ⟨ret_bool HN.out.symm, rfl⟩
        · -- mid
          have c1 : decide ((s[k].toNat : Int) < 97) = true := decide_eq_true (by omega)
          have c2 : decide ((122 : Int) < (s[k].toNat : Int)) = false := decide_eq_false (by omega)
          have c3 : decide ((s[k].toNat : Int) < 48) = false := decide_eq_false (by omega)
          have c4 : decide ((57 : Int) < (s[k].toNat : Int)) = true := decide_eq_true (by omega)
          have c5 : ((s[k].toNat : Int) != 46) = true := bne_iff_ne.2 (by omega)
          have c6 : ((s[k].toNat : Int) != 45) = true := bne_iff_ne.2 (by omega)
          clear hcl
          go_wp2_with fail
          go_ret
          exact ⟨ret_bool HN.out.symm, rfl⟩
        · -- hi
          have c1 : decide ((s[k].toNat : Int) < 97) = false := decide_eq_false (by omega)
          have c2 : decide ((122 : Int) < (s[k].toNat : Int)) = true := decide_eq_true (by omega)
          have c3 : decide ((s[k].toNat : Int) < 48) = false := decide_eq_false (by omega)
          have c4 : decide ((57 : Int) < (s[k].toNat : Int)) = true := decide_eq_true (by omega)
          have c5 : ((s[k].toNat : Int) != 46) = true := bne_iff_ne.2 (by omega)
          have c6 : ((s[k].toNat : Int) != 45) = true := bne_iff_ne.2 (by omega)
          clear hcl
          go_wp2_with fail
          go_ret
          exact ⟨ret_bool HN.out.symm, rfl⟩
      · have HD := Lib.hid hnb
        clear hnb
        rcases hcl with hcl | hcl | hcl | hcl
        · -- e45
          have c1 : decide ((s[k].toNat : Int) < 97) = true := decide_eq_true (by omega)
          have c2 : decide ((122 : Int) < (s[k].toNat : Int)) = false := decide_eq_false (by omega)
          have c3 : decide ((s[k].toNat : Int) < 48) = true := decide_eq_true (by omega)
          have c4 : decide ((57 : Int) < (s[k].toNat : Int)) = false := decide_eq_false (by omega)
          have c5 : ((s[k].toNat : Int) != 46) = true := bne_iff_ne.2 (by omega)
          have c6 : ((s[k].toNat : Int) != 45) = false := by rw [bne_eq_false_iff_eq]; omega
          clear hcl
          go_wp2_with fail
          go_round
          case rel => exact ⟨k + 1, by omega, by go_num, by rw [HT.out, List.all_append, HA.out]; simp [HD.out]⟩
          case measure => simp [intOf]; omega
        · -- e46
          have c1 : decide ((s[k].toNat : Int) < 97) = true := decide_eq_true (by omega)
          have c2 : decide ((122 : Int) < (s[k].toNat : Int)) = false := decide_eq_false (by omega)
          have c3 : decide ((s[k].toNat : Int) < 48) = true := decide_eq_true (by omega)
          have c4 : decide ((57 : Int) < (s[k].toNat : Int)) = false := decide_eq_false (by omega)
          have c5 : ((s[k].toNat : Int) != 46) = false := by rw [bne_eq_false_iff_eq]; omega
          have c6 : ((s[k].toNat : Int) != 45) = true := bne_iff_ne.2 (by omega)
          clear hcl
          go_wp2_with fail
          go_round
          case rel => exact ⟨k + 1, by omega, by go_num, by rw [HT.out, List.all_append, HA.out]; simp [HD.out]⟩
          case measure => simp [intOf]; omega
        · -- dig
          have c1 : decide ((s[k].toNat : Int) < 97) = true := decide_eq_true (by omega)
          have c2 : decide ((122 : Int) < (s[k].toNat : Int)) = false := decide_eq_false (by omega)
          have c3 : decide ((s[k].toNat : Int) < 48) = false := decide_eq_false (by omega)
          have c4 : decide ((57 : Int) < (s[k].toNat : Int)) = false := decide_eq_false (by omega)
          have c5 : ((s[k].toNat : Int) != 46) = true := bne_iff_ne.2 (by omega)
          have c6 : ((s[k].toNat : Int) != 45) = true := bne_iff_ne.2 (by omega)
          clear hcl
          go_wp2_with fail
          go_round
          case rel => exact ⟨k + 1, by omega, by go_num, by rw [HT.out, List.all_append, HA.out]; simp [HD.out]⟩
          case measure => simp [intOf]; omega
        · -- let
          have c1 : decide ((s[k].toNat : Int) < 97) = false := decide_eq_false (by omega)
          have c2 : decide ((122 : Int) < (s[k].toNat : Int)) = false := decide_eq_false (by omega)
          have c3 : decide ((s[k].toNat : Int) < 48) = false := decide_eq_false (by omega)
          have c4 : decide ((57 : Int) < (s[k].toNat : Int)) = true := decide_eq_true (by omega)
          have c5 : ((s[k].toNat : Int) != 46) = true := bne_iff_ne.2 (by omega)
          have c6 : ((s[k].toNat : Int) != 45) = true := bne_iff_ne.2 (by omega)
          clear hcl
          go_wp2_with fail
          go_round
          case rel => exact ⟨k + 1, by omega, by go_num, by rw [HT.out, List.all_append, HA.out]; simp [HD.out]⟩
          case measure => simp [intOf]; omega
    · obtain rfl : k = s.size := by omega
      rw [List.take_of_length_le (by rw [strL_length]; omega)] at hall
      have HN := Lib.hid (named_yes hall)
      clear hall
      by_cases h0 : s.size = 0
      · have qe := empty_list h0
        have HE := Lib.hid (named_empty h0)
        clear h0
        go_wp2_with fail
        go_ret
        exact ⟨ret_bool HE.out.symm, rfl⟩
      · have qe := full_list (s := s) (by omega)
        by_cases h1 : s.size ≤ 24
        · have q1 : decide ((s.size : Int) ≤ 24) = true := decide_eq_true (by omega)
          go_wp2_with fail
          go_ret
          exact ⟨ret_bool (by rw [HN.out, decide_eq_false h0, decide_eq_true h1]; rfl), rfl⟩
        · have q1 : decide ((s.size : Int) ≤ 24) = false := decide_eq_false (by omega)
          go_wp2_with fail
          go_ret
          exact ⟨ret_bool (by rw [HN.out, decide_eq_false h1]; simp), rfl⟩
end Go.Proofs.YtmgolnlkepiocaaGreat.Dk

namespace Go.Proofs.YtmgolnlkepiocaaGreat.Dk
open Go.RowKit
set_option linter.unusedVariables false

theorem share_prog (x : Int) (n : Nat) (w : World) (hn : n ≤ 140737488355328) (hx0 : -9223372036854775808 ≤ x) (hx1 : x ≤ 9223372036854775807) :
    Calls Tryz.prog 36 #[.int .i64 x, .int .i64 n] w fun e w' => e = .returned (.int .i64 (modU x (n + 1) : Nat)) ∧ w = w' := by
  have hu : IntKind.u64.wrap x = ((x % 18446744073709551616).toNat : Int) := by
    rw [IntKind.wrap_u64]
    omega
  obtain ⟨u, hu2⟩ : ∃ u : Nat, (x % 18446744073709551616).toNat = u := ⟨_, rfl⟩
  have HM := Lib.hid (show modU x (n + 1) = u % (n + 1) by unfold modU; rw [hu2])
  rw [hu2] at hu
  have hz2 : (((n : Int) + 1) == 0) = false := by rw [beq_eq_false_iff_ne]; omega
  have hlt : u % (n + 1) < n + 1 := Nat.mod_lt _ (by omega)
  have hr2 : (u : Int).tmod ((n : Int) + 1) = ((u % (n + 1) : Nat) : Int) := by rw [Int.ofNat_tmod]; rfl
  generalize u % (n + 1) = r at *
  rw [HM.out]
  clear hu2
  go_enter Tryz.func36, Tryz.ntmps36
  go_wp2_with fail
  go_outline
  go_ret
  exact ⟨rfl, rfl⟩

theorem ret_int {a b : Int} (h : a = b) : Ending.returned (.int .i64 a) = .returned (.int .i64 b) := by rw [h]
/-- Are all of them names? -/
def okNames (ss : List ByteArray) : Bool := ss.all fun s => namedB (strL s)
theorem ok_snoc (ss : List ByteArray) {k : Nat} {s : ByteArray} (h : ss[k]? = some s) : okNames (ss.take (k + 1)) = (okNames (ss.take k) && namedB (strL s)) := by
  unfold okNames
  rw [List.take_add_one, h, List.all_append]
  simp
theorem ok_no (ss : List ByteArray) {k : Nat} {s : ByteArray} (h : ss[k]? = some s) (hn : namedB (strL s) = false) : okNames ss = false := by
  unfold okNames
  rw [List.all_eq_false]
  exact ⟨s, List.mem_of_getElem? h, by simp [hn]⟩
def nameE (ok : Bool) : Int := if ok then 0 else 8
theorem check_prog (X g : Nat) (ss : List ByteArray) (w : World) (hl : ss.length ≤ 4) (hc : ∀ k s, ss[k]? = some s → w.cell? ⟨g, k, none⟩ = some (.string s) ∧ s.size ≤ 281474976710656) :
    Calls Tryz.prog 102 #[.pointer (some ⟨X, 0, none⟩), .slice (some ⟨g, 0, none⟩) ss.length ss.length] w fun e w' => e = .returned (.int .i64 (nameE (okNames ss))) ∧ w = w' := by
  go_enter Tryz.func102, Tryz.ntmps102
  go_wp2_with fail
  go_loop [11] (fun i => ∃ k : Nat, k ≤ ss.length ∧ i = .int .i64 (k : Int) ∧ okNames (ss.take k) = true) (fun i => ss.length - (intOf i).toNat)
  case atStart => exact ⟨0, Nat.zero_le _, rfl, rfl⟩
  case round =>
    obtain ⟨k, hk, rfl, hall⟩ := hrel
    by_cases hlt : k < ss.length
    · obtain ⟨s, hs⟩ : ∃ s, ss[k]? = some s := ⟨_, List.getElem?_eq_getElem hlt⟩
      obtain ⟨c0, hsz⟩ := hc k s hs
      have HN := Lib.hid (ok_snoc ss hs)
      have HO := Lib.hid hall
      have HF := Lib.hid (fun h => ok_no ss hs h)
      clear hall hc hs
      cases hnm : namedB (strL s)
      · go_wp2_with fail
        refine (isname_prog s w hsz).mono ?_
        rintro e w1 ⟨rfl, rfl⟩
        rw [hnm]
        go_wp2_with fail
        go_ret
        exact ⟨ret_int (by rw [HF.out hnm]; rfl), rfl⟩
      · go_wp2_with fail
        refine (isname_prog s w hsz).mono ?_
        rintro e w1 ⟨rfl, rfl⟩
        rw [hnm]
        go_wp2_with fail
        go_round
        case rel => exact ⟨k + 1, by omega, by go_num, by rw [HN.out, HO.out, hnm]; rfl⟩
        case measure => simp [intOf]; omega
    · obtain rfl : k = ss.length := by omega
      rw [List.take_length] at hall
      have HO := Lib.hid hall
      clear hall hc
      go_wp2_with fail
      go_ret
      exact ⟨ret_int (by rw [HO.out]; rfl), rfl⟩
theorem check_nil (v : Value) (w : World) :
    Calls Tryz.prog 102 #[.pointer none, v] w fun e w' => e = .returned (.int .i64 1) ∧ w = w' := by
  go_enter Tryz.func102, Tryz.ntmps102
  go_wp2_with fail
  go_ret
  exact ⟨rfl, rfl⟩
end Go.Proofs.YtmgolnlkepiocaaGreat.Dk

namespace Go.Proofs.YtmgolnlkepiocaaGreat.Dk
open Go.RowKit Go.Maps
set_option linter.unusedVariables false

section
variable {w : World} {X dm bm : Nat} {wv : Value} {fb : Nat → Nat} {vb : Nat → Value} {d : Dsk}
theorem look_at (h : DiskIn w X dm bm wv fb vb d) (s : ByteArray) (hs : s.size ≤ maxLen) {w' : World} (hb : Below w.heap.size w w') :
    (Instr.lookup 67 (.map (some dm)) (.string s) false).run Tryz.prog w' = .ok (underV fb (live d) (strL s)) w' := dir_look (h.below hb).dir s hs
theorem find_bad (h : DiskIn w X dm bm wv fb vb d) (s : ByteArray) (hm : s.size ≤ 281474976710656) (hn : namedB (strL s) = false) :
    Calls Tryz.prog 58 #[.pointer (some ⟨X, 0, none⟩), .string s] w fun e w' => e = .returned (.tuple #[.pointer none, .int .i64 8]) ∧ Below w.heap.size w w' := by
  have hb := below_one w (.cells #[.string s] 9)
  have hc : ∀ k x, [s][k]? = some x → (w.alloc (.cells #[.string s] 9)).cell? ⟨w.heap.size, k, none⟩ = some (.string x) ∧ x.size ≤ 281474976710656 := by
    intro k x hk
    rcases k with _ | k
    · simp only [List.getElem?_cons_zero, Option.some.injEq] at hk
      subst hk
      exact ⟨(Row.new w 9 #[.string s]).cell 0, hm⟩
    · simp at hk
  have HC := Lib.hid (check_prog X w.heap.size [s] _ (by simp) hc)
  have hk : nameE (okNames [s]) = 8 := by simp [okNames, hn, nameE]
  rw [hk] at HC
  clear hc
  go_enter Tryz.func58, Tryz.ntmps58
  go_wp2_with fail
  refine HC.out.mono ?_
  rintro e w1 ⟨rfl, rfl⟩
  go_wp2
  go_ret2
  exact ⟨rfl, hb⟩
theorem find_none (h : DiskIn w X dm bm wv fb vb d) (s : ByteArray) (hn : namedB (strL s) = true) (hw : whose (live d) (strL s) = none) :
    Calls Tryz.prog 58 #[.pointer (some ⟨X, 0, none⟩), .string s] w fun e w' => e = .returned (.tuple #[.pointer none, .int .i64 9]) ∧ Below w.heap.size w w' := by
  have hsz := named_size hn
  have hb := below_one w (.cells #[.string s] 9)
  have hc : ∀ k x, [s][k]? = some x → (w.alloc (.cells #[.string s] 9)).cell? ⟨w.heap.size, k, none⟩ = some (.string x) ∧ x.size ≤ 281474976710656 := by
    intro k x hk
    rcases k with _ | k
    · simp only [List.getElem?_cons_zero, Option.some.injEq] at hk
      subst hk
      exact ⟨(Row.new w 9 #[.string s]).cell 0, by omega⟩
    · simp at hk
  have HC := Lib.hid (check_prog X w.heap.size [s] _ (by simp) hc)
  have hk : nameE (okNames [s]) = 0 := by simp [okNames, hn, nameE]
  rw [hk] at HC
  have hl := look_at h s (by simp only [maxLen]; omega) hb
  unfold underV at hl
  rw [hw] at hl
  obtain ⟨c0, c1, c2, c3, c4, c5, c6⟩ := (h.below hb).cells
  clear hc hw
  go_enter Tryz.func58, Tryz.ntmps58
  go_wp2_with fail
  refine HC.out.mono ?_
  rintro e w1 ⟨rfl, rfl⟩
  go_wp2
  go_ret2
  exact ⟨rfl, hb⟩
theorem find_some (h : DiskIn w X dm bm wv fb vb d) (s : ByteArray) (n : Nat) (hn : namedB (strL s) = true) (hw : whose (live d) (strL s) = some n) :
    Calls Tryz.prog 58 #[.pointer (some ⟨X, 0, none⟩), .string s] w fun e w' => e = .returned (.tuple #[.pointer (some ⟨fb n, 0, none⟩), .int .i64 0]) ∧ Below w.heap.size w w' := by
  have hsz := named_size hn
  have hb := below_one w (.cells #[.string s] 9)
  have hc : ∀ k x, [s][k]? = some x → (w.alloc (.cells #[.string s] 9)).cell? ⟨w.heap.size, k, none⟩ = some (.string x) ∧ x.size ≤ 281474976710656 := by
    intro k x hk
    rcases k with _ | k
    · simp only [List.getElem?_cons_zero, Option.some.injEq] at hk
      subst hk
      exact ⟨(Row.new w 9 #[.string s]).cell 0, by omega⟩
    · simp at hk
  have HC := Lib.hid (check_prog X w.heap.size [s] _ (by simp) hc)
  have hk : nameE (okNames [s]) = 0 := by simp [okNames, hn, nameE]
  rw [hk] at HC
  have hl := look_at h s (by simp only [maxLen]; omega) hb
  unfold underV at hl
  rw [hw] at hl
  simp only [ptrV] at hl
  obtain ⟨c0, c1, c2, c3, c4, c5, c6⟩ := (h.below hb).cells
  clear hc hw
  go_enter Tryz.func58, Tryz.ntmps58
  go_wp2_with fail
  refine HC.out.mono ?_
  rintro e w1 ⟨rfl, rfl⟩
  go_wp2
  go_ret2
  exact ⟨rfl, hb⟩
theorem find_nil (s : ByteArray) (w : World) :
    Calls Tryz.prog 58 #[.pointer none, .string s] w fun e w' => e = .returned (.tuple #[.pointer none, .int .i64 1]) ∧ Below w.heap.size w w' := by
  have hb := below_one w (.cells #[.string s] 9)
  go_enter Tryz.func58, Tryz.ntmps58
  go_wp2_with fail
  refine (check_nil _ _).mono ?_
  rintro e w1 ⟨rfl, rfl⟩
  go_wp2
  go_ret2
  exact ⟨rfl, hb⟩
end

/-! ### a change -/
theorem do_no {w : World} {X : Nat} {d : Dsk} {dm bm : Nat} {wv : Value} (hX : Row w X 70 (diskC d dm bm wv)) (hp : (power d).2 ≠ 0) (v : Value) :
    Calls Tryz.prog 60 #[.pointer (some ⟨X, 0, none⟩), v] w fun e w' => e = .returned (.int .i64 6) ∧ Row w' X 70 (diskC (power d).1 dm bm wv) ∧ Kept (fun k => k = X) w w' := by
  have hpn := power_no hp
  rw [hpn]
  have c4 : w.cell? ⟨X, 4, none⟩ = some (.int .i64 d.left) := (hX.cell 4).trans rfl
  have c5 : w.cell? ⟨X, 5, none⟩ = some (.bool d.dark) := (hX.cell 5).trans rfl
  have f5 := hX.frozen 5
  have HX := Lib.hid hX
  have HP := Lib.hid hp
  clear hX hp hpn
  by_cases hl : d.left = 0
  · have q : (d.left == 0) = true := by rw [hl]; rfl
    go_enter Tryz.func60, Tryz.ntmps60
    go_wp2
    go_ret
    exact ⟨rfl, HX.out.setAt 5 (.bool true), (Kept.refl (fun k => k = X) w).set (p := ⟨X, 5, none⟩) (.inl rfl) _⟩
  · have q : (d.left == 0) = false := by rw [beq_eq_false_iff_ne]; exact hl
    have hd : d.dark = true := by
      cases hd : d.dark
      · exfalso
        apply HP.out
        unfold power
        rw [if_neg (by rw [hd]; simp [hl])]
      · rfl
    rw [hd] at c5
    have HR := Lib.hid (show Row w X 70 (diskC { d with dark := true } dm bm wv) by have := HX.out; unfold diskC at this ⊢; rw [hd] at this; exact this)
    go_enter Tryz.func60, Tryz.ntmps60
    go_wp2
    go_ret
    exact ⟨rfl, HR.out, Kept.refl _ _⟩
theorem do_ok_enter {w : World} {X : Nat} {d : Dsk} {dm bm : Nat} {wv : Value} (hX : Row w X 70 (diskC d dm bm wv)) (hp : (power d).2 = 0) (hl0 : -1 ≤ d.left) (hl1 : d.left ≤ 9223372036854775807) (hc0 : d.count ≤ 1000000) (b1 b2 : Nat) (R : World → Prop)
    (hcall : ∀ w1, Row w1 X 70 (diskC (power d).1 dm bm wv) → Kept (fun k => k = X) w w1 → w1.heap.size = w.heap.size → Calls Tryz.prog 133 #[.pointer (some ⟨b1, 0, none⟩), .pointer (some ⟨b2, 0, none⟩)] w1 fun e w' => e = .returned (.tuple #[]) ∧ R w') :
    Calls Tryz.prog 60 #[.pointer (some ⟨X, 0, none⟩), .func (.func 133) #[] #[.pointer (some ⟨b1, 0, none⟩), .pointer (some ⟨b2, 0, none⟩)]] w fun e w' => e = .returned (.int .i64 0) ∧ R w' := by
  have hp' := hp
  unfold power at hp'
  have hnc : ¬ (d.dark = true ∨ d.left = 0) := by
    intro h
    rw [if_pos h] at hp'
    cases hp'
  have e1 : (power d).1 = { d with left := if 0 < d.left then d.left - 1 else d.left, count := d.count + 1 } := by
    unfold power
    rw [if_neg hnc]
  rw [e1] at hcall
  have hd : d.dark = false := by
    cases hd : d.dark
    · rfl
    · exact absurd (.inl hd) hnc
  have hl : d.left ≠ 0 := fun h => hnc (.inr h)
  have c4 : w.cell? ⟨X, 4, none⟩ = some (.int .i64 d.left) := (hX.cell 4).trans rfl
  have c5 : w.cell? ⟨X, 5, none⟩ = some (.bool d.dark) := (hX.cell 5).trans rfl
  have c6 : w.cell? ⟨X, 6, none⟩ = some (.int .i64 d.count) := (hX.cell 6).trans rfl
  rw [hd] at c5
  have f4 := hX.frozen 4
  have f6 := hX.frozen 6
  have q : (d.left == 0) = false := by rw [beq_eq_false_iff_ne]; exact hl
  have HX := Lib.hid hX
  have HH := Lib.hid hcall
  clear hX hp hp' hnc e1 hcall
  by_cases hm : d.left = -1
  · have q2 : (d.left != -1) = false := by rw [hm]; rfl
    have HR := Lib.hid (show Row (w.setCell ⟨X, 6, none⟩ (.int .i64 ((d.count : Int) + 1))) X 70 (diskC { d with left := if 0 < d.left then d.left - 1 else d.left, count := d.count + 1 } dm bm wv) by
      have := HX.out.setAt 6 (.int .i64 ((d.count : Int) + 1))
      have e : (diskC d dm bm wv).setIfInBounds 6 (.int .i64 ((d.count : Int) + 1)) = diskC { d with left := if 0 < d.left then d.left - 1 else d.left, count := d.count + 1 } dm bm wv := by
        rw [hm]
        unfold diskC
        rw [hm]
        rfl
      rw [e] at this
      exact this)
    have HK := Lib.hid ((Kept.refl (fun k => k = X) w).set (p := ⟨X, 6, none⟩) (.inl rfl) (.int .i64 ((d.count : Int) + 1)))
    clear hl
    go_enter Tryz.func60, Tryz.ntmps60
    go_wp2_with fail
    refine (HH.out _ HR.out HK.out (by simp [World.setCell])).mono ?_
    rintro e w2 ⟨rfl, hR⟩
    go_wp2
    go_ret
    exact ⟨rfl, hR⟩
  · have q2 : (d.left != -1) = true := by rw [bne_iff_ne]; exact hm
    have hpos : 0 < d.left := by omega
    have HR := Lib.hid (show Row ((w.setCell ⟨X, 4, none⟩ (.int .i64 (d.left - 1))).setCell ⟨X, 6, none⟩ (.int .i64 ((d.count : Int) + 1))) X 70 (diskC { d with left := if 0 < d.left then d.left - 1 else d.left, count := d.count + 1 } dm bm wv) by
      have := (HX.out.setAt 4 (.int .i64 (d.left - 1))).setAt 6 (.int .i64 ((d.count : Int) + 1))
      have e : ((diskC d dm bm wv).setIfInBounds 4 (.int .i64 (d.left - 1))).setIfInBounds 6 (.int .i64 ((d.count : Int) + 1)) = diskC { d with left := if 0 < d.left then d.left - 1 else d.left, count := d.count + 1 } dm bm wv := by
        rw [if_pos hpos]
        rfl
      rw [e] at this
      exact this)
    have HK := Lib.hid (((Kept.refl (fun k => k = X) w).set (p := ⟨X, 4, none⟩) (.inl rfl) (.int .i64 (d.left - 1))).set (p := ⟨X, 6, none⟩) (.inl rfl) (.int .i64 ((d.count : Int) + 1)))
    have hwr : IntKind.i64.wrap (d.left - 1) = d.left - 1 := IntWalk.i64_in _ (by omega)
    have hwr2 : wrap64 (d.left - 1) = d.left - 1 := IntWalk.wrap64_in _ (by omega)
    clear hl hm
    go_enter Tryz.func60, Tryz.ntmps60
    go_wp2_with fail
    refine (HH.out _ HR.out HK.out (by simp [World.setCell])).mono ?_
    rintro e w2 ⟨rfl, hR⟩
    go_wp2
    go_ret
    exact ⟨rfl, hR⟩
theorem do_ok_append {w : World} {X : Nat} {d : Dsk} {dm bm : Nat} {wv : Value} (hX : Row w X 70 (diskC d dm bm wv)) (hp : (power d).2 = 0) (hl0 : -1 ≤ d.left) (hl1 : d.left ≤ 9223372036854775807) (hc0 : d.count ≤ 1000000) (b1 b2 : Nat) (R : World → Prop)
    (hcall : ∀ w1, Row w1 X 70 (diskC (power d).1 dm bm wv) → Kept (fun k => k = X) w w1 → w1.heap.size = w.heap.size → Calls Tryz.prog 61 #[.pointer (some ⟨b1, 0, none⟩), .pointer (some ⟨b2, 0, none⟩)] w1 fun e w' => e = .returned (.tuple #[]) ∧ R w') :
    Calls Tryz.prog 60 #[.pointer (some ⟨X, 0, none⟩), .func (.func 61) #[] #[.pointer (some ⟨b1, 0, none⟩), .pointer (some ⟨b2, 0, none⟩)]] w fun e w' => e = .returned (.int .i64 0) ∧ R w' := by
  have hp' := hp
  unfold power at hp'
  have hnc : ¬ (d.dark = true ∨ d.left = 0) := by
    intro h
    rw [if_pos h] at hp'
    cases hp'
  have e1 : (power d).1 = { d with left := if 0 < d.left then d.left - 1 else d.left, count := d.count + 1 } := by
    unfold power
    rw [if_neg hnc]
  rw [e1] at hcall
  have hd : d.dark = false := by
    cases hd : d.dark
    · rfl
    · exact absurd (.inl hd) hnc
  have hl : d.left ≠ 0 := fun h => hnc (.inr h)
  have c4 : w.cell? ⟨X, 4, none⟩ = some (.int .i64 d.left) := (hX.cell 4).trans rfl
  have c5 : w.cell? ⟨X, 5, none⟩ = some (.bool d.dark) := (hX.cell 5).trans rfl
  have c6 : w.cell? ⟨X, 6, none⟩ = some (.int .i64 d.count) := (hX.cell 6).trans rfl
  rw [hd] at c5
  have f4 := hX.frozen 4
  have f6 := hX.frozen 6
  have q : (d.left == 0) = false := by rw [beq_eq_false_iff_ne]; exact hl
  have HX := Lib.hid hX
  have HH := Lib.hid hcall
  clear hX hp hp' hnc e1 hcall
  by_cases hm : d.left = -1
  · have q2 : (d.left != -1) = false := by rw [hm]; rfl
    have HR := Lib.hid (show Row (w.setCell ⟨X, 6, none⟩ (.int .i64 ((d.count : Int) + 1))) X 70 (diskC { d with left := if 0 < d.left then d.left - 1 else d.left, count := d.count + 1 } dm bm wv) by
      have := HX.out.setAt 6 (.int .i64 ((d.count : Int) + 1))
      have e : (diskC d dm bm wv).setIfInBounds 6 (.int .i64 ((d.count : Int) + 1)) = diskC { d with left := if 0 < d.left then d.left - 1 else d.left, count := d.count + 1 } dm bm wv := by
        rw [hm]
        unfold diskC
        rw [hm]
        rfl
      rw [e] at this
      exact this)
    have HK := Lib.hid ((Kept.refl (fun k => k = X) w).set (p := ⟨X, 6, none⟩) (.inl rfl) (.int .i64 ((d.count : Int) + 1)))
    clear hl
    go_enter Tryz.func60, Tryz.ntmps60
    go_wp2_with fail
    refine (HH.out _ HR.out HK.out (by simp [World.setCell])).mono ?_
    rintro e w2 ⟨rfl, hR⟩
    go_wp2
    go_ret
    exact ⟨rfl, hR⟩
  · have q2 : (d.left != -1) = true := by rw [bne_iff_ne]; exact hm
    have hpos : 0 < d.left := by omega
    have HR := Lib.hid (show Row ((w.setCell ⟨X, 4, none⟩ (.int .i64 (d.left - 1))).setCell ⟨X, 6, none⟩ (.int .i64 ((d.count : Int) + 1))) X 70 (diskC { d with left := if 0 < d.left then d.left - 1 else d.left, count := d.count + 1 } dm bm wv) by
      have := (HX.out.setAt 4 (.int .i64 (d.left - 1))).setAt 6 (.int .i64 ((d.count : Int) + 1))
      have e : ((diskC d dm bm wv).setIfInBounds 4 (.int .i64 (d.left - 1))).setIfInBounds 6 (.int .i64 ((d.count : Int) + 1)) = diskC { d with left := if 0 < d.left then d.left - 1 else d.left, count := d.count + 1 } dm bm wv := by
        rw [if_pos hpos]
        rfl
      rw [e] at this
      exact this)
    have HK := Lib.hid (((Kept.refl (fun k => k = X) w).set (p := ⟨X, 4, none⟩) (.inl rfl) (.int .i64 (d.left - 1))).set (p := ⟨X, 6, none⟩) (.inl rfl) (.int .i64 ((d.count : Int) + 1)))
    have hwr : IntKind.i64.wrap (d.left - 1) = d.left - 1 := IntWalk.i64_in _ (by omega)
    have hwr2 : wrap64 (d.left - 1) = d.left - 1 := IntWalk.wrap64_in _ (by omega)
    clear hl hm
    go_enter Tryz.func60, Tryz.ntmps60
    go_wp2_with fail
    refine (HH.out _ HR.out HK.out (by simp [World.setCell])).mono ?_
    rintro e w2 ⟨rfl, hR⟩
    go_wp2
    go_ret
    exact ⟨rfl, hR⟩
theorem do_ok_sync {w : World} {X : Nat} {d : Dsk} {dm bm : Nat} {wv : Value} (hX : Row w X 70 (diskC d dm bm wv)) (hp : (power d).2 = 0) (hl0 : -1 ≤ d.left) (hl1 : d.left ≤ 9223372036854775807) (hc0 : d.count ≤ 1000000) (b1 : Nat) (R : World → Prop)
    (hcall : ∀ w1, Row w1 X 70 (diskC (power d).1 dm bm wv) → Kept (fun k => k = X) w w1 → w1.heap.size = w.heap.size → Calls Tryz.prog 67 #[.pointer (some ⟨b1, 0, none⟩)] w1 fun e w' => e = .returned (.tuple #[]) ∧ R w') :
    Calls Tryz.prog 60 #[.pointer (some ⟨X, 0, none⟩), .func (.func 67) #[.pointer (some ⟨b1, 0, none⟩)] #[]] w fun e w' => e = .returned (.int .i64 0) ∧ R w' := by
  have hp' := hp
  unfold power at hp'
  have hnc : ¬ (d.dark = true ∨ d.left = 0) := by
    intro h
    rw [if_pos h] at hp'
    cases hp'
  have e1 : (power d).1 = { d with left := if 0 < d.left then d.left - 1 else d.left, count := d.count + 1 } := by
    unfold power
    rw [if_neg hnc]
  rw [e1] at hcall
  have hd : d.dark = false := by
    cases hd : d.dark
    · rfl
    · exact absurd (.inl hd) hnc
  have hl : d.left ≠ 0 := fun h => hnc (.inr h)
  have c4 : w.cell? ⟨X, 4, none⟩ = some (.int .i64 d.left) := (hX.cell 4).trans rfl
  have c5 : w.cell? ⟨X, 5, none⟩ = some (.bool d.dark) := (hX.cell 5).trans rfl
  have c6 : w.cell? ⟨X, 6, none⟩ = some (.int .i64 d.count) := (hX.cell 6).trans rfl
  rw [hd] at c5
  have f4 := hX.frozen 4
  have f6 := hX.frozen 6
  have q : (d.left == 0) = false := by rw [beq_eq_false_iff_ne]; exact hl
  have HX := Lib.hid hX
  have HH := Lib.hid hcall
  clear hX hp hp' hnc e1 hcall
  by_cases hm : d.left = -1
  · have q2 : (d.left != -1) = false := by rw [hm]; rfl
    have HR := Lib.hid (show Row (w.setCell ⟨X, 6, none⟩ (.int .i64 ((d.count : Int) + 1))) X 70 (diskC { d with left := if 0 < d.left then d.left - 1 else d.left, count := d.count + 1 } dm bm wv) by
      have := HX.out.setAt 6 (.int .i64 ((d.count : Int) + 1))
      have e : (diskC d dm bm wv).setIfInBounds 6 (.int .i64 ((d.count : Int) + 1)) = diskC { d with left := if 0 < d.left then d.left - 1 else d.left, count := d.count + 1 } dm bm wv := by
        rw [hm]
        unfold diskC
        rw [hm]
        rfl
      rw [e] at this
      exact this)
    have HK := Lib.hid ((Kept.refl (fun k => k = X) w).set (p := ⟨X, 6, none⟩) (.inl rfl) (.int .i64 ((d.count : Int) + 1)))
    clear hl
    go_enter Tryz.func60, Tryz.ntmps60
    go_wp2_with fail
    refine (HH.out _ HR.out HK.out (by simp [World.setCell])).mono ?_
    rintro e w2 ⟨rfl, hR⟩
    go_wp2
    go_ret
    exact ⟨rfl, hR⟩
  · have q2 : (d.left != -1) = true := by rw [bne_iff_ne]; exact hm
    have hpos : 0 < d.left := by omega
    have HR := Lib.hid (show Row ((w.setCell ⟨X, 4, none⟩ (.int .i64 (d.left - 1))).setCell ⟨X, 6, none⟩ (.int .i64 ((d.count : Int) + 1))) X 70 (diskC { d with left := if 0 < d.left then d.left - 1 else d.left, count := d.count + 1 } dm bm wv) by
      have := (HX.out.setAt 4 (.int .i64 (d.left - 1))).setAt 6 (.int .i64 ((d.count : Int) + 1))
      have e : ((diskC d dm bm wv).setIfInBounds 4 (.int .i64 (d.left - 1))).setIfInBounds 6 (.int .i64 ((d.count : Int) + 1)) = diskC { d with left := if 0 < d.left then d.left - 1 else d.left, count := d.count + 1 } dm bm wv := by
        rw [if_pos hpos]
        rfl
      rw [e] at this
      exact this)
    have HK := Lib.hid (((Kept.refl (fun k => k = X) w).set (p := ⟨X, 4, none⟩) (.inl rfl) (.int .i64 (d.left - 1))).set (p := ⟨X, 6, none⟩) (.inl rfl) (.int .i64 ((d.count : Int) + 1)))
    have hwr : IntKind.i64.wrap (d.left - 1) = d.left - 1 := IntWalk.i64_in _ (by omega)
    have hwr2 : wrap64 (d.left - 1) = d.left - 1 := IntWalk.wrap64_in _ (by omega)
    clear hl hm
    go_enter Tryz.func60, Tryz.ntmps60
    go_wp2_with fail
    refine (HH.out _ HR.out HK.out (by simp [World.setCell])).mono ?_
    rintro e w2 ⟨rfl, hR⟩
    go_wp2
    go_ret
    exact ⟨rfl, hR⟩
theorem do_ok_settle {w : World} {X : Nat} {d : Dsk} {dm bm : Nat} {wv : Value} (hX : Row w X 70 (diskC d dm bm wv)) (hp : (power d).2 = 0) (hl0 : -1 ≤ d.left) (hl1 : d.left ≤ 9223372036854775807) (hc0 : d.count ≤ 1000000) (b1 : Nat) (R : World → Prop)
    (hcall : ∀ w1, Row w1 X 70 (diskC (power d).1 dm bm wv) → Kept (fun k => k = X) w w1 → w1.heap.size = w.heap.size → Calls Tryz.prog 40 #[.pointer (some ⟨b1, 0, none⟩)] w1 fun e w' => e = .returned (.tuple #[]) ∧ R w') :
    Calls Tryz.prog 60 #[.pointer (some ⟨X, 0, none⟩), .func (.func 40) #[.pointer (some ⟨b1, 0, none⟩)] #[]] w fun e w' => e = .returned (.int .i64 0) ∧ R w' := by
  have hp' := hp
  unfold power at hp'
  have hnc : ¬ (d.dark = true ∨ d.left = 0) := by
    intro h
    rw [if_pos h] at hp'
    cases hp'
  have e1 : (power d).1 = { d with left := if 0 < d.left then d.left - 1 else d.left, count := d.count + 1 } := by
    unfold power
    rw [if_neg hnc]
  rw [e1] at hcall
  have hd : d.dark = false := by
    cases hd : d.dark
    · rfl
    · exact absurd (.inl hd) hnc
  have hl : d.left ≠ 0 := fun h => hnc (.inr h)
  have c4 : w.cell? ⟨X, 4, none⟩ = some (.int .i64 d.left) := (hX.cell 4).trans rfl
  have c5 : w.cell? ⟨X, 5, none⟩ = some (.bool d.dark) := (hX.cell 5).trans rfl
  have c6 : w.cell? ⟨X, 6, none⟩ = some (.int .i64 d.count) := (hX.cell 6).trans rfl
  rw [hd] at c5
  have f4 := hX.frozen 4
  have f6 := hX.frozen 6
  have q : (d.left == 0) = false := by rw [beq_eq_false_iff_ne]; exact hl
  have HX := Lib.hid hX
  have HH := Lib.hid hcall
  clear hX hp hp' hnc e1 hcall
  by_cases hm : d.left = -1
  · have q2 : (d.left != -1) = false := by rw [hm]; rfl
    have HR := Lib.hid (show Row (w.setCell ⟨X, 6, none⟩ (.int .i64 ((d.count : Int) + 1))) X 70 (diskC { d with left := if 0 < d.left then d.left - 1 else d.left, count := d.count + 1 } dm bm wv) by
      have := HX.out.setAt 6 (.int .i64 ((d.count : Int) + 1))
      have e : (diskC d dm bm wv).setIfInBounds 6 (.int .i64 ((d.count : Int) + 1)) = diskC { d with left := if 0 < d.left then d.left - 1 else d.left, count := d.count + 1 } dm bm wv := by
        rw [hm]
        unfold diskC
        rw [hm]
        rfl
      rw [e] at this
      exact this)
    have HK := Lib.hid ((Kept.refl (fun k => k = X) w).set (p := ⟨X, 6, none⟩) (.inl rfl) (.int .i64 ((d.count : Int) + 1)))
    clear hl
    go_enter Tryz.func60, Tryz.ntmps60
    go_wp2_with fail
    refine (HH.out _ HR.out HK.out (by simp [World.setCell])).mono ?_
    rintro e w2 ⟨rfl, hR⟩
    go_wp2
    go_ret
    exact ⟨rfl, hR⟩
  · have q2 : (d.left != -1) = true := by rw [bne_iff_ne]; exact hm
    have hpos : 0 < d.left := by omega
    have HR := Lib.hid (show Row ((w.setCell ⟨X, 4, none⟩ (.int .i64 (d.left - 1))).setCell ⟨X, 6, none⟩ (.int .i64 ((d.count : Int) + 1))) X 70 (diskC { d with left := if 0 < d.left then d.left - 1 else d.left, count := d.count + 1 } dm bm wv) by
      have := (HX.out.setAt 4 (.int .i64 (d.left - 1))).setAt 6 (.int .i64 ((d.count : Int) + 1))
      have e : ((diskC d dm bm wv).setIfInBounds 4 (.int .i64 (d.left - 1))).setIfInBounds 6 (.int .i64 ((d.count : Int) + 1)) = diskC { d with left := if 0 < d.left then d.left - 1 else d.left, count := d.count + 1 } dm bm wv := by
        rw [if_pos hpos]
        rfl
      rw [e] at this
      exact this)
    have HK := Lib.hid (((Kept.refl (fun k => k = X) w).set (p := ⟨X, 4, none⟩) (.inl rfl) (.int .i64 (d.left - 1))).set (p := ⟨X, 6, none⟩) (.inl rfl) (.int .i64 ((d.count : Int) + 1)))
    have hwr : IntKind.i64.wrap (d.left - 1) = d.left - 1 := IntWalk.i64_in _ (by omega)
    have hwr2 : wrap64 (d.left - 1) = d.left - 1 := IntWalk.wrap64_in _ (by omega)
    clear hl hm
    go_enter Tryz.func60, Tryz.ntmps60
    go_wp2_with fail
    refine (HH.out _ HR.out HK.out (by simp [World.setCell])).mono ?_
    rintro e w2 ⟨rfl, hR⟩
    go_wp2
    go_ret
    exact ⟨rfl, hR⟩
end Go.Proofs.YtmgolnlkepiocaaGreat.Dk

namespace Go.Proofs.YtmgolnlkepiocaaGreat.Dk
open Go.RowKit Go.Maps
set_option linter.unusedVariables false

section
variable (w : World) {ops : Array Oper} {rest : List Oper} {o : Oper} {a : Act} {Q : Exit → Act → World → Prop}
theorem wp_dir_drop (hg : o.guard = none) (m x : Operand) (hop : o.op = .call { callee := .builtin .delete, args := #[m, x], argTypes := #[67, 9] })
    (fb : Nat → Nat) (b : Nat) (l : List Ent) (h : DirAt w fb b l) (s : ByteArray) (hs : s.size ≤ maxLen) (hm : a.eval m = .map (some b)) (hx : a.eval x = .string s)
    (hK : ∀ w', DirAt w' fb b (lacking l (strL s)) → w.mapTurned w' b → wpList Tryz.prog ops Q rest (a.put o.dst (.tuple #[])) w') : wpList Tryz.prog ops Q (o :: rest) a w := by
  refine wpList_plain hg fun K' hK' => ?_
  obtain ⟨w', hrun, r1, r2⟩ := dir_drop h s hs o.type
  unfold Oper.wp
  simp [execOp, hop, resolve, invoke, builtin, hm, hx, hrun, Result.andThen]
  exact hK' _ _ (hK w' r1 r2)
theorem wp_dir_store (hg : o.guard = none) (m x v : Operand) (hop : o.op = Op.mapUpdate 67 m x v)
    (fb : Nat → Nat) (b : Nat) (l : List Ent) (h : DirAt w fb b l) (hl : l.length < maxLen) (hr : Rises l) (s : ByteArray) (hs : s.size ≤ maxLen) (f : Nat) (hm : a.eval m = .map (some b)) (hx : a.eval x = .string s) (hv : a.eval v = .pointer (some ⟨fb f, 0, none⟩))
    (hK : ∀ w', DirAt w' fb b (put l ⟨strL s, f⟩) → w.mapTurned w' b → wpList Tryz.prog ops Q rest (a.put o.dst undef) w') : wpList Tryz.prog ops Q (o :: rest) a w := by
  refine wpList_plain hg fun K' hK' => ?_
  obtain ⟨w', hrun, r1, r2⟩ := dir_store h hl hr s hs f
  unfold Oper.wp
  unfold ptrV at hrun
  simp [execOp, hop, hm, hx, hv, hrun, Result.andThen]
  exact hK' _ _ (hK w' r1 r2)
end

/-- What the program makes of an entry. -/
def progStep (l : List Ent) (x : List UInt8 × List UInt8 × Option Nat) : List Ent :=
  match x.2.2 with
  | some f => put (lacking l x.1) ⟨x.2.1, f⟩
  | none => lacking l x.1
theorem txt_len (l : List UInt8) : (txt l).size = l.length := by simp [txt, ByteArray.size]
theorem lacking_le (l : List Ent) (n : List UInt8) : (lacking l n).length ≤ l.length := List.length_filter_le _ _

set_option maxRecDepth 20000 in
theorem change_prog {w : World} {fb : Nat → Nat} {b : Nat} {l : List Ent} (h : DirAt w fb b l) (hr : Rises l) (hl : l.length ≤ 1000000) (x : List UInt8 × List UInt8 × Option Nat) (h1 : x.1.length ≤ 1000000) (h2 : x.2.1.length ≤ 1000000) :
    Calls Tryz.prog 37 #[.agg #[.string (txt x.1), .string (txt x.2.1), fileV fb x.2.2], .map (some b)] w fun e w' => e = .returned (.tuple #[]) ∧ DirAt w' fb b (progStep l x) ∧ Kept (fun k => k = b) w w' := by
  have hlt := h.lt
  have hh1 : (txt x.1).size ≤ maxLen := by rw [txt_len]; simp only [maxLen]; omega
  have hh2 : (txt x.2.1).size ≤ maxLen := by rw [txt_len]; simp only [maxLen]; omega
  have HR := Lib.hid hr
  have HA := Lib.hid (h.block (w' := w.alloc (.cells #[.string (txt x.1), .string (txt x.2.1), fileV fb x.2.2] 100)) (Below.heap_alloc _ _ _ hlt))
  have hrow := Row.new w 100 #[.string (txt x.1), .string (txt x.2.1), fileV fb x.2.2]
  have HK0 := Lib.hid ((Kept.refl (fun k => k = b) w).alloc (.cells #[.string (txt x.1), .string (txt x.2.1), fileV fb x.2.2] 100))
  have HL := Lib.hid (lacking_le l (strL (txt x.1)))
  have HP := Lib.hid (show progStep l x = match x.2.2 with | some f => put (lacking l x.1) ⟨x.2.1, f⟩ | none => lacking l x.1 from rfl)
  cases hf : x.2.2 with
  | none =>
    rw [hf] at HP HA HK0 hrow
    simp only [fileV] at HA HK0 hrow ⊢
    have q0 := hrow.cell 0
    simp only [List.getElem?_toArray, List.getElem?_cons_zero] at q0
    have Hrow := Lib.hid hrow
    clear hrow h hr hf
    go_enter Tryz.func37, Tryz.ntmps37
    go_wp2_with (at_delete; refine wp_dir_drop _ rfl (.tmp 4) (.tmp 6) rfl fb b l HA.out (txt x.1) hh1 rfl rfl ?_; intro w1 hd1 ht1; have hr1 := row_move Hrow.out (ht1.grown.block w.heap.size (by simp) (by simp; omega)); have q2 := hr1.cell 2; simp only [List.getElem?_toArray, List.getElem?_cons_succ, List.getElem?_cons_zero] at q2; have HT1 := Lib.hid ht1; clear ht1 hr1)
    go_end0
    refine ⟨rfl, ?_, HK0.out.trans (Kept.turned HT1.out (S := fun k => k = b) rfl) fun i hi => .inl hi⟩
    rw [HP.out]
    rw [strL_txt] at hd1
    exact hd1
  | some f =>
    rw [hf] at HP HA HK0 hrow
    simp only [fileV, ptrV] at HA HK0 hrow ⊢
    have q0 := hrow.cell 0
    simp only [List.getElem?_toArray, List.getElem?_cons_zero] at q0
    have Hrow := Lib.hid hrow
    have HM := Lib.hid (show ∀ k, k ≤ l.length → k < maxLen by intro k hk; simp only [maxLen]; omega)
    clear hrow h hr hf
    go_enter Tryz.func37, Tryz.ntmps37
    go_wp2_with (first
      | (at_delete; refine wp_dir_drop _ rfl (.tmp 4) (.tmp 6) rfl fb b l HA.out (txt x.1) hh1 rfl rfl ?_; intro w1 hd1 ht1; have hr1 := row_move Hrow.out (ht1.grown.block w.heap.size (by simp) (by simp; omega)); have q1 := hr1.cell 1; have q2 := hr1.cell 2; simp only [List.getElem?_toArray, List.getElem?_cons_succ, List.getElem?_cons_zero] at q1 q2; have HT1 := Lib.hid ht1; have HD1 := Lib.hid hd1; clear ht1 hr1 hd1)
      | (at_mapUpdate; refine wp_dir_store _ rfl (.tmp 10) (.tmp 12) (.tmp 14) rfl fb b _ HD1.out (HM.out _ HL.out) (lacking_rises HR.out _) (txt x.2.1) hh2 f rfl rfl rfl ?_; intro w2 hd2 ht2; have HT2 := Lib.hid ht2; have HD2 := Lib.hid hd2; clear ht2 hd2))
    go_end0
    refine ⟨rfl, ?_, (HK0.out.trans (Kept.turned HT1.out (S := fun k => k = b) rfl) fun i hi => .inl hi).trans (Kept.turned HT2.out (S := fun k => k = b) rfl) fun i hi => .inl hi⟩
    rw [HP.out]
    have := HD2.out
    rw [strL_txt, strL_txt] at this
    exact this
end Go.Proofs.YtmgolnlkepiocaaGreat.Dk
