/- A directory as a map in memory: names lead to the blocks of files. What a store, a deletion and a look-up make of it. -/
import Derived.Test.YtiepepikbophmaaDiskModel
import Derived.Test.YtiepepikbophmaaChecked
import Derived.Maps.OwnSet
import Derived.Sort.KeysCollected
namespace Go.Proofs.Ytiepepikbophmaa
open Go.Maps
set_option linter.unusedVariables false

/-- How a pointer to a block reads: by the block's number. -/
def ptrR (v : Value) : Option (DataW Unit × List MemPlace) :=
  match v with
  | .pointer none => some (.nil, [])
  | .pointer (some ⟨g, 0, none⟩) => some (.lit (.int .i64 g), [])
  | _ => none
def ptrV (g : Nat) : Value := .pointer (some ⟨g, 0, none⟩)
def ptrD (g : Nat) : DataW Unit := .lit (.int .i64 g)
theorem ptrR_mk (g : Nat) : ptrR (ptrV g) = some (ptrD g, []) := rfl
theorem ptrR_nil : ptrR (.pointer none) = some (.nil, []) := rfl
theorem ptrR_inv {v : Value} {g : Nat} {ps : List MemPlace} (h : ptrR v = some (ptrD g, ps)) : v = ptrV g := by
  unfold ptrR at h
  split at h
  · cases h
  · rename_i g'
    simp only [Option.some.injEq, Prod.mk.injEq, ptrD, DataW.lit.injEq, Lit.int.injEq] at h
    have : g' = g := by omega
    subst this
    rfl
  · cases h
theorem ptrR_inv_nil {v : Value} {ps : List MemPlace} (h : ptrR v = some (.nil, ps)) : v = .pointer none := by
  unfold ptrR at h
  split at h
  · rfl
  · cases h
  · cases h

/-- A directory's datum: fb: where each file lies. -/
def entD (fb : Nat → Nat) (x : Ent) : Lit × DataW Unit := (.string x.name, ptrD (fb x.file))
def dirD (fb : Nat → Nat) (l : List Ent) : DataW Unit := .map (l.map (entD fb))
theorem before_less (a b : List UInt8) : bytesBefore a b = Op.bytesLess a b := by
  induction a generalizing b with
  | nil => cases b <;> rfl
  | cons x r ih =>
    cases b with
    | nil => rfl
    | cons y s => simp only [bytesBefore, Op.bytesLess, ih]
theorem same_name (a b : List UInt8) : (Lit.string a).sameKey (.string b) = decide (a = b) := by
  show (a == b) = _
  by_cases h : a = b
  · simp [h]
  · simp [h]
theorem insert_all (fb : Nat → Nat) (e : Ent) : ∀ (l : List Ent), Rises l → (∀ x ∈ l, x.name ≠ e.name) → DataW.insert (entD fb e) (l.map (entD fb)) = (put l e).map (entD fb) := by
  intro l
  induction l with
  | nil => intro _ _; rfl
  | cons x r ih =>
    intro h hn
    obtain ⟨h1, h2⟩ := rises_cons h
    have hx := hn x (by simp)
    rw [List.map_cons]
    unfold DataW.insert
    have hb : (entD fb e).1.before (entD fb x).1 = Op.bytesLess e.name x.name := before_less _ _
    rw [hb]
    have ep := put_eq (x :: r) e h
    have er := put_eq r e h2
    cases hl : Op.bytesLess e.name x.name
    · have hxe : Op.bytesLess x.name e.name = true := by
        cases hxe : Op.bytesLess x.name e.name
        · exact absurd (less_total _ _ hxe hl) hx
        · rfl
      rw [if_neg (by decide), ih h2 fun y hy => hn y (by simp [hy]), ep, er]
      simp [hxe, hl]
    · rw [if_pos rfl, ep]
      have hall : ∀ y ∈ r, Op.bytesLess e.name y.name = true := fun y hy => less_trans _ _ _ hl (h1 y hy)
      have hno : r.filter (fun y => Op.bytesLess y.name e.name) = [] := by
        rw [List.filter_eq_nil_iff]
        intro y hy
        rw [less_asym (hall y hy)]
        simp
      have hyes : r.filter (fun y => Op.bytesLess e.name y.name) = r := by
        rw [List.filter_eq_self]
        exact hall
      rw [List.filter_cons, List.filter_cons, less_asym hl, hl, hno, hyes]
      simp
theorem strike_all (fb : Nat → Nat) (n : List UInt8) (l : List Ent) : (l.map (entD fb)).filter (fun p => !p.1.sameKey (.string n)) = (lacking l n).map (entD fb) := by
  unfold lacking
  rw [List.filter_map]
  congr 1
  apply List.filter_congr
  intro x _
  show (!(Lit.string x.name).sameKey (.string n)) = decide (x.name ≠ n)
  rw [same_name]
  by_cases h : x.name = n <;> simp [h]
theorem put_lacking {l : List Ent} (e : Ent) (h : Rises l) : put (lacking l e.name) e = put l e := by
  refine rises_ext _ _ (put_rises _ (lacking_rises h _)) (put_rises _ h) fun n => ?_
  rw [whose_put _ _ (lacking_rises h _), whose_put _ _ h]
  split
  · rfl
  · rename_i hn
    rw [whose_lacking _ _ h, if_neg hn]
theorem dirD_put (fb : Nat → Nat) {l : List Ent} (e : Ent) (h : Rises l) : (dirD fb l).put (.string e.name) (ptrD (fb e.file)) = dirD fb (put l e) := by
  show DataW.map (DataW.insert (entD fb e) ((l.map (entD fb)).filter fun p => !p.1.sameKey (.string e.name))) = _
  rw [strike_all, insert_all fb e _ (lacking_rises h _) (fun x hx => ((mem_lacking _ _).1 hx).2), put_lacking e h]
  rfl
theorem dirD_del (fb : Nat → Nat) (l : List Ent) (n : List UInt8) : (dirD fb l).del (.string n) = dirD fb (lacking l n) := by
  show DataW.map ((l.map (entD fb)).filter fun p => !p.1.sameKey (.string n)) = _
  rw [strike_all]
  rfl
theorem dirD_at (fb : Nat → Nat) (l : List Ent) (n : List UInt8) (z : DataW Unit) : (dirD fb l).atKey (.string n) z = match whose l n with | some f => ptrD (fb f) | none => z := by
  have e : (l.map (entD fb)).find? (fun p => p.1.sameKey (.string n)) = (l.find? fun x => decide (x.name = n)).map (entD fb) := by
    rw [List.find?_map]
    congr 1
    congr 1
    funext x
    exact same_name _ _
  unfold DataW.atKey dirD
  simp only [e]
  unfold whose
  cases l.find? fun x => decide (x.name = n) <;> rfl
theorem dirD_size (fb : Nat → Nat) (l : List Ent) : Maps.size (dirD fb l) = l.length := by simp [dirD, Maps.size]
theorem dirD_keys (fb : Nat → Nat) (l : List Ent) : strKeys (dirD fb l) = l.map Ent.name := by
  show (l.map (entD fb)).map (fun p => strOf p.1) = _
  rw [List.map_map]
  rfl
theorem dirD_congr {fb gb : Nat → Nat} {l : List Ent} (h : ∀ x ∈ l, fb x.file = gb x.file) : dirD fb l = dirD gb l := by
  unfold dirD
  congr 1
  apply List.map_congr_left
  intro x hx
  unfold entD
  rw [h x hx]
theorem less_le {a b : List UInt8} (h : Op.bytesLess a b = true) : a ≤ b := by
  have key : ∀ (a b : List UInt8), Op.bytesLess a b = true → a < b := by
    intro a
    induction a with
    | nil =>
      intro b h
      cases b with
      | nil => simp [Op.bytesLess] at h
      | cons y s => exact List.nil_lt_cons _ _
    | cons x r ih =>
      intro b h
      cases b with
      | nil => simp [Op.bytesLess] at h
      | cons y s =>
        simp only [Op.bytesLess, Bool.or_eq_true, Bool.and_eq_true, decide_eq_true_eq, beq_iff_eq] at h
        rw [List.cons_lt_cons_iff]
        rcases h with h | ⟨rfl, h⟩
        · exact .inl h
        · exact .inr ⟨rfl, ih s h⟩
  exact List.le_of_lt (key a b h)
/-- The keys in order are the names as they stand. -/
theorem dirD_sorted (fb : Nat → Nat) {l : List Ent} (h : Rises l) {ss : List (List UInt8)} (hp : ss.Perm (strKeys (dirD fb l))) : ss.mergeSort (fun x y => decide (x ≤ y)) = l.map Ent.name := by
  have e := mergeSort_of_perm hp
  rw [dirD_keys] at e
  show ss.mergeSort leB = _
  rw [e]
  apply List.mergeSort_of_pairwise
  rw [List.pairwise_map]
  exact h.imp fun hab => by simpa [leB] using less_le hab

/-! ### in memory -/
/-- Block b is a directory. -/
def DirAt (w : World) (fb : Nat → Nat) (b : Nat) (l : List Ent) : Prop := w.ownsMap Try.prog 9 ptrR b l.length (dirD fb l)
theorem keyed : Keyed Try.prog 9 := string_keyed Try.underlying9
theorem tight {w : World} {b n : Nat} {D : DataW Unit} (h : w.ownsMap Try.prog 9 ptrR b n D) : w.ownsMap Try.prog 9 ptrR b (Maps.size D) D := by
  obtain ⟨es, clock, hb, F, hs, rfl⟩ := h
  exact ⟨es, clock, hb, F, by simp [Maps.size, length_sorted], rfl⟩
theorem dir_tight {w : World} {fb : Nat → Nat} {b n : Nat} {l : List Ent} (h : w.ownsMap Try.prog 9 ptrR b n (dirD fb l)) : DirAt w fb b l := by
  have := tight h
  rw [dirD_size] at this
  exact this
theorem DirAt.lt {w : World} {fb : Nat → Nat} {b : Nat} {l : List Ent} (h : DirAt w fb b l) : b < w.heap.size := World.ownsMap.lt h
theorem DirAt.map {w : World} {fb : Nat → Nat} {b : Nat} {l : List Ent} (h : DirAt w fb b l) : ∃ es clock, w.heap[b]? = some (.map es clock) := by
  obtain ⟨es, clock, hb, _⟩ := h
  exact ⟨es, clock, hb⟩
theorem DirAt.block {w w' : World} {fb : Nat → Nat} {b : Nat} {l : List Ent} (h : DirAt w fb b l) (hb : w'.heap[b]? = w.heap[b]?) : DirAt w' fb b l := by
  obtain ⟨es, clock, h1, h2⟩ := h
  exact ⟨es, clock, hb.trans h1, h2⟩
theorem DirAt.congr {w : World} {fb gb : Nat → Nat} {b : Nat} {l : List Ent} (h : DirAt w fb b l) (he : ∀ x ∈ l, fb x.file = gb x.file) : DirAt w gb b l := by
  unfold DirAt at h ⊢
  rw [← dirD_congr he]
  exact h
theorem ptr_zero (w : World) : (zeroValue 94).run Try.prog w = .ok (.pointer none) w := by kernel_rfl
theorem key_txt {s : ByteArray} (hs : s.size ≤ maxLen) : keyOf Try.prog 9 (.string s) = some (.string s.data.toList) := Go.WideMaps.keyOf_string_mk Try.underlying9 hs
/-- What stands under a name, in memory. -/
def underV (fb : Nat → Nat) (l : List Ent) (n : List UInt8) : Value := match whose l n with | some f => ptrV (fb f) | none => .pointer none
theorem dir_look {w : World} {fb : Nat → Nat} {b : Nat} {l : List Ent} (h : DirAt w fb b l) (s : ByteArray) (hs : s.size ≤ maxLen) :
    (Instr.lookup 70 (.map (some b)) (.string s) false).run Try.prog w = .ok (underV fb l s.data.toList) w := by
  obtain ⟨v, ps, hr, hv⟩ := World.ownsMap.lookup h keyed Try.underlying70 (ptr_zero w) ptrR_nil (key_txt hs)
  rw [dirD_at] at hv
  rw [hr]
  unfold underV
  cases hw : whose l s.data.toList with
  | none =>
    rw [hw] at hv
    rw [ptrR_inv_nil hv]
  | some f =>
    rw [hw] at hv
    rw [ptrR_inv hv]
theorem dir_store {w : World} {fb : Nat → Nat} {b : Nat} {l : List Ent} (h : DirAt w fb b l) (hl : l.length < maxLen) (hr : Rises l) (s : ByteArray) (hs : s.size ≤ maxLen) (f : Nat) :
    ∃ w', (Instr.mapUpdate 70 (.map (some b)) (.string s) (ptrV (fb f))).run Try.prog w = .ok () w' ∧ DirAt w' fb b (put l ⟨s.data.toList, f⟩) ∧ w.mapTurned w' b := by
  obtain ⟨w', h1, h2, h3⟩ := World.ownsMap.store h keyed Try.underlying70 hl (key_txt hs) (ptrR_mk (fb f))
  refine ⟨w', h1, ?_, h3⟩
  rw [dirD_put fb ⟨s.data.toList, f⟩ hr] at h2
  exact dir_tight h2
theorem dir_drop {w : World} {fb : Nat → Nat} {b : Nat} {l : List Ent} (h : DirAt w fb b l) (s : ByteArray) (hs : s.size ≤ maxLen) (ty : TypeId) :
    ∃ w', (Builtin.delete_ #[70, 9] ty #[.map (some b), .string s]).run Try.prog w = .ok (.tuple #[]) w' ∧ DirAt w' fb b (lacking l s.data.toList) ∧ w.mapTurned w' b := by
  obtain ⟨w', h1, h2, h3⟩ := World.ownsMap.drop h keyed Try.underlying70 (key_txt hs) ty
  refine ⟨w', h1, ?_, h3⟩
  rw [dirD_del] at h2
  exact dir_tight h2
theorem dir_len {w : World} {fb : Nat → Nat} {b : Nat} {l : List Ent} (h : DirAt w fb b l) (ty : TypeId) : (Builtin.len_ #[70] ty #[.map (some b)]).run Try.prog w = .ok (.int .i64 l.length) w := by
  have := World.ownsMap.len h Try.underlying70 ty
  rw [dirD_size] at this
  exact this
theorem dir_made (w : World) (fb : Nat → Nat) : DirAt (w.alloc (.map #[] 0)) fb w.heap.size [] := World.ownsMap_made w Try.prog 9 ptrR
/-- The same entries in another block. -/
theorem dir_clone {w w' : World} {fb : Nat → Nat} {b b' : Nat} {l : List Ent} (h : DirAt w fb b l) (hb : w'.heap[b']? = w.heap[b]?) : DirAt w' fb b' l := by
  obtain ⟨es, clock, h1, h2⟩ := h
  exact ⟨es, clock, hb.trans h1, h2⟩
end Go.Proofs.Ytiepepikbophmaa
