/- A disk in memory: the program's own struct, its two maps, its entries that wait, its files and their bytes; and what a call that turns nothing else leaves of it. -/
import Derived.Test.YtiepepikbophmaaDkMap
import Derived.Test.YtiepepikbophmaaDiskMore
import Derived.Test.YtiepepikbophmaaOwn
namespace Go.Proofs.Ytiepepikbophmaa
open Go.RowKit Go.Maps
set_option linter.unusedVariables false

/-! ### what turns -/
/-- But for the blocks of S, and for what is new, nothing has turned. -/
structure Kept (S : Nat → Prop) (w w' : World) : Prop where
  os : w'.os = w.os
  tape : w'.tape = w.tape
  output : w'.output = w.output
  size : w.heap.size ≤ w'.heap.size
  block : ∀ k, k < w.heap.size → ¬ S k → w'.heap[k]? = w.heap[k]?
section
variable {S T : Nat → Prop} {w w' w'' : World}
theorem Kept.refl (S : Nat → Prop) (w : World) : Kept S w w := ⟨rfl, rfl, rfl, Nat.le_refl _, fun _ _ _ => rfl⟩
theorem Kept.mono (h : Kept S w w') (hs : ∀ k, S k → T k) : Kept T w w' := ⟨h.os, h.tape, h.output, h.size, fun k hk hn => h.block k hk fun hS => hn (hs k hS)⟩
theorem Kept.trans (h : Kept S w w') (k : Kept T w' w'') (ht : ∀ i, T i → S i ∨ w.heap.size ≤ i) : Kept S w w'' :=
  ⟨k.os.trans h.os, k.tape.trans h.tape, k.output.trans h.output, Nat.le_trans h.size k.size, fun i hi hn =>
    (k.block i (Nat.lt_of_lt_of_le hi h.size) fun hT => (ht i hT).elim hn (fun h2 => by omega)).trans (h.block i hi hn)⟩
theorem Kept.alloc (h : Kept S w w') (o : Obj) : Kept S w (w'.alloc o) := ⟨h.os, h.tape, h.output, Nat.le_trans h.size (by simp), fun k hk hn => (Below.heap_alloc w' o k (Nat.lt_of_lt_of_le hk h.size)).trans (h.block k hk hn)⟩
theorem Kept.set (h : Kept S w w') {p : Addr} (hp : S p.block ∨ w.heap.size ≤ p.block) (u : Value) : Kept S w (w'.setCell p u) :=
  ⟨h.os, h.tape, h.output, by simpa [World.setCell] using h.size, fun k hk hn => (Below.heap_setCell w' p u k (fun e => by subst e; exact hp.elim hn (fun h2 => by omega))).trans (h.block k hk hn)⟩
theorem Kept.below (h : Below w.heap.size w w') : Kept S w w' := ⟨h.os, h.tape, h.output, h.size, fun k hk _ => h.block k hk⟩
theorem Kept.grown {row : Option Nat} (h : w.grownBy w' row) (hr : ∀ k, row = some k → S k) : Kept S w w' := ⟨h.os, h.tape, h.output, h.size, fun k hk hn => h.block k hk fun e => hn (hr k e.symm)⟩
theorem Kept.turned {b : Nat} (h : w.mapTurned w' b) (hb : S b) : Kept S w w' := .grown h.grown fun k e => by cases e; exact hb
theorem Kept.to_below {B : Nat} (h : Kept S w w') (hS : ∀ k, S k → B ≤ k) (hB : B ≤ w.heap.size) : Below B w w' := ⟨h.os, h.tape, h.output, h.size, fun k hk => h.block k (by omega) fun hs => by have := hS k hs; omega⟩
end

/-! ### rows that stand still -/
theorem row_move {w w' : World} {g : Nat} {t : TypeId} {cs : Array Value} (h : Row w g t cs) (hb : w'.heap[g]? = w.heap[g]?) : Row w' g t cs := hb.trans h
theorem rows_move {w w' : World} {base e size n : Nat} {v : Value} {xs : List Value} (h : w.ownsRow base e size v n xs) (hb : ∀ k, v.ownBlock = some k → w'.heap[k]? = w.heap[k]?) : w'.ownsRow base e size v n xs := by
  refine ⟨h.1, ?_⟩
  rcases h.2 with hn | ⟨g, cap, cur, rfl, hg, hh, rest⟩
  · exact .inl hn
  · exact .inr ⟨g, cap, cur, rfl, hg, (hb g rfl).trans hh, rest⟩
theorem own_move {w w' : World} {base : Nat} {v : Value} {x : List UInt8} (h : Own w base v x) (hb : ∀ k, v.ownBlock = some k → w'.heap[k]? = w.heap[k]?) : Own w' base v x := rows_move h hb

/-! ### entries that wait -/
def entOf (l : List Ent) : Stp → List UInt8 × List UInt8 × Option Nat
  | .lay n f => ([], n, some f)
  | .move n t => (n, t, some ((whose l n).getD 0))
  | .take n => (n, [], none)
def entsOf : List Ent → List Stp → List (List UInt8 × List UInt8 × Option Nat)
  | _, [] => []
  | l, s :: r => entOf l s :: entsOf (stepDir l s) r
theorem entsOf_length : ∀ (w : List Stp) (l : List Ent), (entsOf l w).length = w.length := by
  intro w
  induction w with
  | nil => intro l; rfl
  | cons s r ih => intro l; simp [entsOf, ih]
theorem entsOf_snoc : ∀ (w : List Stp) (l : List Ent) (s : Stp), entsOf l (w ++ [s]) = entsOf l w ++ [entOf (dirOf l w) s] := by
  intro w
  induction w with
  | nil => intro l s; rfl
  | cons x r ih => intro l s; simp [entsOf, ih, dirOf]
theorem entsOf_get : ∀ (w : List Stp) (l : List Ent) (k : Nat) (h : k < w.length), (entsOf l w)[k]? = some (entOf (dirOf l (w.take k)) (w[k]'h)) := by
  intro w
  induction w with
  | nil => intro l k h; simp at h
  | cons x r ih =>
    intro l k h
    cases k with
    | zero => rfl
    | succ k =>
      have := ih (stepDir l x) k (by simpa using h)
      simpa [entsOf, dirOf] using this
def fileV (fb : Nat → Nat) : Option Nat → Value
  | some f => ptrV (fb f)
  | none => .pointer none
def entC (fb : Nat → Nat) (x : List UInt8 × List UInt8 × Option Nat) : List Value := [.string (txt x.1), .string (txt x.2.1), fileV fb x.2.2]
def waitC (fb : Nat → Nat) (l : List (List UInt8 × List UInt8 × Option Nat)) : List Value := l.flatMap (entC fb)
theorem waitC_length (fb : Nat → Nat) : ∀ l, (waitC fb l).length = l.length * 3 := by
  intro l
  induction l with
  | nil => rfl
  | cons x r ih =>
    show (entC fb x ++ waitC fb r).length = _
    rw [List.length_append, ih, List.length_cons]
    show 3 + _ = _
    omega
theorem waitC_get (fb : Nat → Nat) : ∀ (l : List (List UInt8 × List UInt8 × Option Nat)) (k : Nat) (x), l[k]? = some x → (waitC fb l)[k * 3]? = some (.string (txt x.1)) ∧ (waitC fb l)[k * 3 + 1]? = some (.string (txt x.2.1)) ∧ (waitC fb l)[k * 3 + 2]? = some (fileV fb x.2.2) := by
  intro l
  induction l with
  | nil => intro k x h; simp at h
  | cons y r ih =>
    intro k x h
    cases k with
    | zero =>
      simp only [List.getElem?_cons_zero, Option.some.injEq] at h
      subst h
      exact ⟨rfl, rfl, rfl⟩
    | succ k =>
      have := ih k x (by simpa using h)
      have e : ∀ j, (waitC fb (y :: r))[(k + 1) * 3 + j]? = (waitC fb r)[k * 3 + j]? := by
        intro j
        show (entC fb y ++ waitC fb r)[(k + 1) * 3 + j]? = _
        rw [List.getElem?_append_right (by show 3 ≤ _; omega)]
        congr 1
        show (k + 1) * 3 + j - 3 = _
        omega
      exact ⟨(e 0).trans this.1, (e 1).trans this.2.1, (e 2).trans this.2.2⟩
theorem waitC_congr {fb gb : Nat → Nat} {l : List (List UInt8 × List UInt8 × Option Nat)} (h : ∀ x ∈ l, ∀ f, x.2.2 = some f → fb f = gb f) : waitC fb l = waitC gb l := by
  induction l with
  | nil => rfl
  | cons x r ih =>
    have e1 : entC fb x = entC gb x := by
      unfold entC
      cases hx : x.2.2 with
      | none => rfl
      | some f => simp [fileV, h x (by simp) f hx]
    show entC fb x ++ waitC fb r = entC gb x ++ waitC gb r
    rw [e1, ih fun y hy => h y (by simp [hy])]

/-! ### the disk -/
def diskC (d : Dsk) (dm bm : Nat) (wv : Value) : Array Value := #[.int .i64 d.room, .map (some dm), .map (some bm), wv, .int .i64 d.left, .bool d.dark, .int .i64 d.count]
structure DiskIn (w : World) (X dm bm : Nat) (wv : Value) (fb : Nat → Nat) (vb : Nat → Value) (d : Dsk) : Prop where
  row : Row w X 73 (diskC d dm bm wv)
  dir : DirAt w fb dm (live d)
  base : DirAt w fb bm d.base
  ne : dm ≠ bm
  wait : w.ownsRow 0 96 3 wv d.wait.length (waitC fb (entsOf d.base d.wait))
  file : ∀ i, i < d.files.length → Row w (fb i) 111 #[vb i, .int .i64 ((d.files.getD i fil0).sure : Int)]
  byts : ∀ i, i < d.files.length → Own w 0 (vb i) (d.files.getD i fil0).b
  fbs : ∀ i j, i < d.files.length → j < d.files.length → i ≠ j → fb i ≠ fb j
  vbs : ∀ i j, i < d.files.length → j < d.files.length → i ≠ j → ∀ k, (vb i).ownBlock = some k → (vb j).ownBlock ≠ some k
/-- The disk's blocks. -/
def Foot (X dm bm : Nat) (wv : Value) (fb : Nat → Nat) (vb : Nat → Value) (n k : Nat) : Prop := k = X ∨ k = dm ∨ k = bm ∨ wv.ownBlock = some k ∨ ∃ i, i < n ∧ (k = fb i ∨ (vb i).ownBlock = some k)
/-- A disk that lies in blocks of S. -/
def DiskAt (S : Nat → Prop) (w : World) (X : Nat) (d : Dsk) : Prop := ∃ dm bm wv fb vb, DiskIn w X dm bm wv fb vb d ∧ ∀ k, Foot X dm bm wv fb vb d.files.length k → S k

theorem DiskIn.lt {w : World} {X dm bm : Nat} {wv : Value} {fb : Nat → Nat} {vb : Nat → Value} {d : Dsk} (h : DiskIn w X dm bm wv fb vb d) : ∀ k, Foot X dm bm wv fb vb d.files.length k → k < w.heap.size := by
  rintro k (rfl | rfl | rfl | hk | ⟨i, hi, rfl | hk⟩)
  · exact h.row.lt
  · exact h.dir.lt
  · exact h.base.lt
  · exact (World.ownsRow.lt h.wait k hk).2
  · exact (h.file i hi).lt
  · exact (World.ownsRow.lt (h.byts i hi) k hk).2
theorem DiskIn.move {w w' : World} {X dm bm : Nat} {wv : Value} {fb : Nat → Nat} {vb : Nat → Value} {d : Dsk} (h : DiskIn w X dm bm wv fb vb d) (hb : ∀ k, Foot X dm bm wv fb vb d.files.length k → w'.heap[k]? = w.heap[k]?) : DiskIn w' X dm bm wv fb vb d :=
  ⟨row_move h.row (hb _ (.inl rfl)), h.dir.block (hb _ (.inr (.inl rfl))), h.base.block (hb _ (.inr (.inr (.inl rfl)))), h.ne, rows_move h.wait fun k hk => hb k (.inr (.inr (.inr (.inl hk)))),
    fun i hi => row_move (h.file i hi) (hb _ (.inr (.inr (.inr (.inr ⟨i, hi, .inl rfl⟩))))), fun i hi => own_move (h.byts i hi) fun k hk => hb k (.inr (.inr (.inr (.inr ⟨i, hi, .inr hk⟩)))), h.fbs, h.vbs⟩
theorem DiskIn.below {w w' : World} {X dm bm : Nat} {wv : Value} {fb : Nat → Nat} {vb : Nat → Value} {d : Dsk} (h : DiskIn w X dm bm wv fb vb d) (hb : Below w.heap.size w w') : DiskIn w' X dm bm wv fb vb d := h.move fun k hk => hb.block k (h.lt k hk)
theorem DiskAt.kept {S T : Nat → Prop} {w w' : World} {X : Nat} {d : Dsk} (h : DiskAt S w X d) (hk : Kept T w w') (hST : ∀ k, S k → ¬ T k) : DiskAt S w' X d := by
  obtain ⟨dm, bm, wv, fb, vb, hin, hf⟩ := h
  exact ⟨dm, bm, wv, fb, vb, hin.move fun k h => hk.block k (hin.lt k h) (hST k (hf k h)), hf⟩
theorem DiskAt.below {S : Nat → Prop} {w w' : World} {X : Nat} {d : Dsk} (h : DiskAt S w X d) (hb : Below w.heap.size w w') : DiskAt S w' X d := by
  obtain ⟨dm, bm, wv, fb, vb, hin, hf⟩ := h
  exact ⟨dm, bm, wv, fb, vb, hin.below hb, hf⟩
theorem DiskAt.mono {S T : Nat → Prop} {w : World} {X : Nat} {d : Dsk} (h : DiskAt S w X d) (hs : ∀ k, S k → T k) : DiskAt T w X d := by
  obtain ⟨dm, bm, wv, fb, vb, hin, hf⟩ := h
  exact ⟨dm, bm, wv, fb, vb, hin, fun k hk => hs k (hf k hk)⟩
theorem DiskAt.within {S : Nat → Prop} {w : World} {X : Nat} {d : Dsk} (h : DiskAt S w X d) : DiskAt (fun k => S k ∧ k < w.heap.size) w X d := by
  obtain ⟨dm, bm, wv, fb, vb, hin, hf⟩ := h
  exact ⟨dm, bm, wv, fb, vb, hin, fun k hk => ⟨hf k hk, hin.lt k hk⟩⟩
/-- The cells of the struct, for a walk. -/
theorem DiskIn.cells {w : World} {X dm bm : Nat} {wv : Value} {fb : Nat → Nat} {vb : Nat → Value} {d : Dsk} (h : DiskIn w X dm bm wv fb vb d) :
    w.cell? ⟨X, 0, none⟩ = some (.int .i64 d.room) ∧ w.cell? ⟨X, 1, none⟩ = some (.map (some dm)) ∧ w.cell? ⟨X, 2, none⟩ = some (.map (some bm)) ∧ w.cell? ⟨X, 3, none⟩ = some wv ∧
    w.cell? ⟨X, 4, none⟩ = some (.int .i64 d.left) ∧ w.cell? ⟨X, 5, none⟩ = some (.bool d.dark) ∧ w.cell? ⟨X, 6, none⟩ = some (.int .i64 d.count) :=
  ⟨(h.row.cell 0).trans rfl, (h.row.cell 1).trans rfl, (h.row.cell 2).trans rfl, (h.row.cell 3).trans rfl, (h.row.cell 4).trans rfl, (h.row.cell 5).trans rfl, (h.row.cell 6).trans rfl⟩
end Go.Proofs.Ytiepepikbophmaa
