/- A change of the directory, whole: the entry is done and waits, or the power is gone. -/
import Derived.Test.YtiepepikbophmaaDkEnter
namespace Go.Proofs.Ytiepepikbophmaa
open Go.RowKit Go.Maps
set_option linter.unusedVariables false

/-- Numbers that stay small. -/
structure Few (d : Dsk) : Prop where
  count : d.count ≤ 1000
  wait : d.wait.length ≤ 1000
  left : d.left ≤ 9223372036854775807
theorem lacking_none {d : Dsk} (h : Fine d) : lacking (live d) [] = live d := by
  unfold lacking
  rw [List.filter_eq_self]
  intro x hx
  have := (h.live_in x hx).2
  cases hn : x.name with
  | nil => rw [hn] at this; cases this
  | cons a r => simp
theorem prog_step {d : Dsk} (h : Fine d) (s : Stp) : progStep (live d) (entOf (live d) s) = stepDir (live d) s := by
  cases s with
  | lay n f =>
    show put (lacking (live d) []) ⟨n, f⟩ = put (live d) ⟨n, f⟩
    rw [lacking_none h]
  | move n t => rfl
  | take n => rfl
theorem entOf_small {l : List Ent} {s : Stp} (h : match s with | .lay n _ => n.length ≤ 24 | .move n t => n.length ≤ 24 ∧ t.length ≤ 24 | .take n => n.length ≤ 24) : (entOf l s).1.length ≤ 1000 ∧ (entOf l s).2.1.length ≤ 1000 := by
  cases s with
  | lay n f => exact ⟨by simp [entOf], by simp only [entOf]; simp only at h; omega⟩
  | move n t => simp only [entOf]; simp only at h; omega
  | take n => simp only at h; exact ⟨by simp only [entOf]; omega, by simp [entOf]⟩
section
variable {w : World} {X dm bm : Nat} {wv : Value} {fb : Nat → Nat} {vb : Nat → Value} {d : Dsk}
theorem DiskIn.apart (h : DiskIn w X dm bm wv fb vb d) : X ≠ dm ∧ X ≠ bm ∧ wv.ownBlock ≠ some X ∧ wv.ownBlock ≠ some dm ∧ wv.ownBlock ≠ some bm ∧ (∀ i, i < d.files.length → fb i ≠ X ∧ fb i ≠ dm ∧ fb i ≠ bm ∧ wv.ownBlock ≠ some (fb i) ∧
    (vb i).ownBlock ≠ some X ∧ (vb i).ownBlock ≠ some dm ∧ (vb i).ownBlock ≠ some bm ∧ (∀ k, wv.ownBlock = some k → (vb i).ownBlock ≠ some k) ∧ ∀ j, j < d.files.length → (vb i).ownBlock ≠ some (fb j)) :=
  ⟨row_ne_dir h.row h.dir, row_ne_dir h.row h.base, row_ne_rows h.row h.wait (by decide), dir_ne_rows h.dir h.wait, dir_ne_rows h.base h.wait, fun i hi =>
    ⟨row_ne (h.file i hi) h.row (by decide), row_ne_dir (h.file i hi) h.dir, row_ne_dir (h.file i hi) h.base, row_ne_rows (h.file i hi) h.wait (by decide),
      row_ne_rows h.row (h.byts i hi) (by decide), dir_ne_rows h.dir (h.byts i hi), dir_ne_rows h.base (h.byts i hi), rows_ne h.wait (h.byts i hi) (by decide), fun j hj => row_ne_rows (h.file j hj) (h.byts i hi) (by decide)⟩⟩
/-- What is left of a disk when its struct, its directory and its waiting row alone have turned. -/
theorem DiskIn.entered (h : DiskIn w X dm bm wv fb vb d) {w' : World} {wv' : Value} {d' : Dsk} (hr : Row w' X 73 (diskC d' dm bm wv')) (hd : DirAt w' fb dm (live d')) (hw : w'.ownsRow 0 96 3 wv' d'.wait.length (waitC fb (entsOf d'.base d'.wait)))
    (hb : d'.base = d.base) (hfs : d'.files = d.files) (hK : Kept (fun k => k = X ∨ k = dm ∨ wv.ownBlock = some k) w w') : DiskIn w' X dm bm wv' fb vb d' := by
  obtain ⟨a1, a2, a3, a4, a5, a6⟩ := h.apart
  refine ⟨hr, hd, ?_, h.ne, hw, ?_, ?_, ?_, ?_⟩
  · rw [hb]
    exact h.base.block (hK.block bm h.base.lt (by rintro (e | e | e); exact a2 e.symm; exact h.ne e.symm; exact a5 e))
  · intro i hi
    rw [hfs] at hi ⊢
    obtain ⟨b1, b2, b3, b4, _⟩ := a6 i hi
    exact row_move (h.file i hi) (hK.block _ (h.file i hi).lt (by rintro (e | e | e); exact b1 e; exact b2 e; exact b4 e))
  · intro i hi
    rw [hfs] at hi ⊢
    obtain ⟨_, _, _, _, b5, b6, b7, b8, _⟩ := a6 i hi
    exact own_move (h.byts i hi) fun k hk => hK.block _ (World.ownsRow.lt (h.byts i hi) k hk).2 (by rintro (e | e | e); (subst e; exact b5 hk); (subst e; exact b6 hk); exact b8 k e hk)
  · rw [hfs]
    exact h.fbs
  · rw [hfs]
    exact h.vbs
theorem power_wait {d : Dsk} (h : (power d).2 = 0) (s : Stp) : live { (power d).1 with wait := d.wait ++ [s] } = stepDir (live d) s := by
  obtain ⟨_, _, _, _, _, b5, _, _⟩ := power_ok h
  show dirOf (power d).1.base (d.wait ++ [s]) = _
  rw [b5, dirOf_snoc]
  rfl

set_option maxRecDepth 20000 in
theorem enter_no (h : DiskIn w X dm bm wv fb vb d) (hp : (power d).2 ≠ 0) (x : List UInt8 × List UInt8 × Option Nat) :
    Calls Try.prog 68 #[.pointer (some ⟨X, 0, none⟩), .agg #[.string (txt x.1), .string (txt x.2.1), fileV fb x.2.2]] w fun e w' => e = .returned (.int .i64 6) ∧ Row w' X 73 (diskC (power d).1 dm bm wv) ∧ Kept (fun k => k = X) w w' := by
  generalize fileV fb x.2.2 = fv
  have HD := fun v => do_no ((h.row.alloc (.cells #[.pointer (some ⟨X, 0, none⟩)] 23)).alloc (.cells #[.string (txt x.1), .string (txt x.2.1), fv] 96)) hp v
  have HK := Lib.hid (((Kept.refl (fun k => k = X) w).alloc (.cells #[.pointer (some ⟨X, 0, none⟩)] 23)).alloc (.cells #[.string (txt x.1), .string (txt x.2.1), fv] 96))
  have hmf : ∀ (fn : Fn) (first cap : Array Value) (w : World), (Instr.makeFunc fn first cap).run Try.prog w = .ok (.func fn first cap) w := fun _ _ _ _ => rfl
  have HDH := Lib.hid HD
  clear h hp HD
  go_enter Try.func68, Try.ntmps68
  go_wp2_with fail
  refine (HDH.out _).mono ?_
  rintro e w1 ⟨rfl, h1, h2⟩
  have H1 := Lib.hid h1
  have H2 := Lib.hid h2
  clear h1 h2
  go_wp2
  go_ret
  exact ⟨rfl, H1.out, HK.out.trans H2.out fun i hi => .inl hi⟩

set_option maxRecDepth 20000 in
theorem enter_ok (h : DiskIn w X dm bm wv fb vb d) (hF : Fine d) (hq : Few d) (hp : (power d).2 = 0) (s : Stp) (hs : match s with | .lay n _ => n.length ≤ 24 | .move n t => n.length ≤ 24 ∧ t.length ≤ 24 | .take n => n.length ≤ 24) :
    Calls Try.prog 68 #[.pointer (some ⟨X, 0, none⟩), .agg #[.string (txt (entOf (live d) s).1), .string (txt (entOf (live d) s).2.1), fileV fb (entOf (live d) s).2.2]] w fun e w' => e = .returned (.int .i64 0) ∧
      ∃ wv', DiskIn w' X dm bm wv' fb vb { (power d).1 with wait := d.wait ++ [s] } ∧ Kept (fun k => k = X ∨ k = dm ∨ wv.ownBlock = some k) w w' ∧ (∀ k, wv'.ownBlock = some k → wv.ownBlock = some k ∨ w.heap.size ≤ k) := by
  obtain ⟨a1, a2, a3, a4, a5, a6⟩ := h.apart
  obtain ⟨sx1, sx2⟩ := entOf_small (l := live d) hs
  obtain ⟨_, _, _, _, p5, p6, p7, _⟩ := power_ok hp
  have hps := prog_step hF s
  have hlw := power_wait hp s
  generalize hx : entOf (live d) s = x at *
  have hX2 := (h.row.alloc (.cells #[.pointer (some ⟨X, 0, none⟩)] 23)).alloc (.cells #[.string (txt x.1), .string (txt x.2.1), fileV fb x.2.2] 96)
  have hb2 : Row ((w.alloc (.cells #[.pointer (some ⟨X, 0, none⟩)] 23)).alloc (.cells #[.string (txt x.1), .string (txt x.2.1), fileV fb x.2.2] 96)) w.heap.size 23 #[.pointer (some ⟨X, 0, none⟩)] := (Row.new w _ _).alloc _
  have hb1 : Row ((w.alloc (.cells #[.pointer (some ⟨X, 0, none⟩)] 23)).alloc (.cells #[.string (txt x.1), .string (txt x.2.1), fileV fb x.2.2] 96)) (w.heap.size + 1) 96 (entC fb x).toArray := row_at w _ _ _
  have hB : Below w.heap.size w ((w.alloc (.cells #[.pointer (some ⟨X, 0, none⟩)] 23)).alloc (.cells #[.string (txt x.1), .string (txt x.2.1), fileV fb x.2.2] 96)) := (below_one w _).alloc (by simp) _
  have hsz : ((w.alloc (.cells #[.pointer (some ⟨X, 0, none⟩)] 23)).alloc (.cells #[.string (txt x.1), .string (txt x.2.1), fileV fb x.2.2] 96)).heap.size = w.heap.size + 2 := by simp
  have hmf : ∀ (fn : Fn) (first cap : Array Value) (w : World), (Instr.makeFunc fn first cap).run Try.prog w = .ok (.func fn first cap) w := fun _ _ _ _ => rfl
  have hlX := h.row.lt
  have hld := h.dir.lt
  have hlw2 := fun k hk => (World.ownsRow.lt h.wait k hk).2
  have HD := Lib.hid (do_ok_enter hX2 hp hF.left hq.left (by have := hq.count; omega) (w.heap.size + 1) w.heap.size
    (fun w' => ∃ wv', DiskIn w' X dm bm wv' fb vb { (power d).1 with wait := d.wait ++ [s] } ∧ Kept (fun k => k = X ∨ k = dm ∨ wv.ownBlock = some k) w w' ∧ (∀ k, wv'.ownBlock = some k → wv.ownBlock = some k ∨ w.heap.size ≤ k))
    (by
      intro w1 hX1 hK1 hs1
      have hd1 : DirAt w1 fb dm (live d) := (h.dir.block (hB.block dm hld)).block (hK1.block dm (by omega) (Ne.symm a1))
      have hw1 := rows_move (rows_move h.wait fun k hk => hB.block k (hlw2 k hk)) (w' := w1) fun k hk => hK1.block k (by have := hlw2 k hk; omega) (by rintro rfl; exact a3 hk)
      have hr1 := row_move hb1 (hK1.block _ (by omega) (by show w.heap.size + 1 ≠ X; omega))
      have hr2 := row_move hb2 (hK1.block _ (by omega) (by show w.heap.size ≠ X; omega))
      refine (enter_do hX1 hd1 hF.live_rises (by have := hF.live_few; omega) hw1 (by have := hq.wait; omega) x sx1 sx2 hr1 hr2 (fun e => by have := hlw2 _ e; omega)).mono ?_
      rintro e w' ⟨he, g', cap, q1, q2, q3, q4, q5⟩
      have hK2 : Kept (fun k => k = X ∨ k = dm ∨ wv.ownBlock = some k) w w' := ((Kept.below hB).trans (hK1.mono fun k hk => (.inl hk : k = X ∨ k = dm ∨ wv.ownBlock = some k)) fun i hi => .inl hi).trans q4 fun i hi => .inl hi
      refine ⟨he, .slice (some ⟨g', 0, none⟩) (d.wait.length + 1) cap, h.entered q1 ?_ ?_ p6 p5 hK2, hK2, ?_⟩
      · rw [hlw, ← hps]
        exact q2
      · show w'.ownsRow 0 _ 3 _ (d.wait ++ [s]).length (waitC fb (entsOf (power d).1.base (d.wait ++ [s])))
        rw [List.length_append, List.length_singleton, p6, entsOf_snoc]
        rw [show entOf (dirOf d.base d.wait) s = x from hx]
        exact q3
      · intro k hk
        simp only [Value.ownBlock, Option.some.injEq] at hk
        subst hk
        rcases q5 with q5 | q5
        · exact .inl q5
        · exact .inr (by omega)))
  generalize fileV fb x.2.2 = fv at *
  clear h hF hq hp hs sx1 sx2 hps hlw hX2 hb2 hb1 hB hsz hx p5 p6 p7 a1 a2 a3 a4 a5 a6 hlX hld hlw2
  go_enter Try.func68, Try.ntmps68
  go_wp2_with fail
  refine HD.out.mono ?_
  rintro e w1 ⟨rfl, h1⟩
  have H1 := Lib.hid h1
  clear h1
  go_wp2
  go_ret
  exact ⟨rfl, H1.out⟩
end
end Go.Proofs.Ytiepepikbophmaa
