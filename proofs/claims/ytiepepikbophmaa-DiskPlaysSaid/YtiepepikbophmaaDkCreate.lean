/- Create, Rename, Remove: what is told, and the disk behind. -/
import Derived.Test.YtiepepikbophmaaDkEnter2
namespace Go.Proofs.Ytiepepikbophmaa
open Go.RowKit Go.Maps
set_option linter.unusedVariables false

/-- The disk behind a call: it lies in its blocks and in new ones; nothing else has turned. -/
def After (S : Nat → Prop) (w : World) (X : Nat) (d : Dsk) (w' : World) : Prop := DiskAt (fun k => S k ∨ w.heap.size ≤ k) w' X d ∧ Kept S w w'
theorem after_same {S : Nat → Prop} {w w' : World} {X : Nat} {d : Dsk} (h : DiskAt S w X d) (hb : Below w.heap.size w w') : After S w X d w' := ⟨(h.below hb).mono fun k hk => .inl hk, Kept.below hb⟩

section
variable {S : Nat → Prop} {w : World} {X dm bm : Nat} {wv : Value} {fb : Nat → Nat} {vb : Nat → Value} {d : Dsk}
/-- The struct alone has turned. -/
theorem after_row (h : DiskIn w X dm bm wv fb vb d) (hS : ∀ k, Foot X dm bm wv fb vb d.files.length k → S k) {d' : Dsk} (hl : live d' = live d) (hb : d'.base = d.base) (hw : d'.wait = d.wait) (hf : d'.files = d.files) {w' : World} (hr : Row w' X 73 (diskC d' dm bm wv)) (hK : Kept (fun k => k = X) w w') : After S w X d' w' := by
  obtain ⟨a1, a2, a3, a4, a5, a6⟩ := h.apart
  refine ⟨⟨dm, bm, wv, fb, vb, h.entered hr ?_ ?_ hb hf (hK.mono fun k hk => .inl hk), ?_⟩, hK.mono fun k hk => hS k (.inl hk)⟩
  · rw [hl]
    exact h.dir.block (hK.block dm h.dir.lt (Ne.symm a1))
  · rw [hb, hw]
    exact rows_move h.wait fun k hk => hK.block k (World.ownsRow.lt h.wait k hk).2 (by rintro rfl; exact a3 hk)
  · rw [hf]
    exact fun k hk => .inl (hS k hk)
theorem power_dark {d : Dsk} (h : (power d).2 ≠ 0) : live (power d).1 = live d ∧ (power d).1.base = d.base ∧ (power d).1.wait = d.wait ∧ (power d).1.files = d.files ∧ (power d).2 = 6 := by
  rw [power_no h]
  exact ⟨rfl, rfl, rfl, rfl, rfl⟩
theorem after_dark (h : DiskIn w X dm bm wv fb vb d) (hS : ∀ k, Foot X dm bm wv fb vb d.files.length k → S k) (hp : (power d).2 ≠ 0) {w' : World} (hr : Row w' X 73 (diskC (power d).1 dm bm wv)) (hK : Kept (fun k => k = X) w w') : After S w X (power d).1 w' := by
  obtain ⟨q1, q2, q3, q4, _⟩ := power_dark hp
  exact after_row h hS q1 q2 q3 q4 hr hK
theorem after_entered (hin : DiskIn w X dm bm wv fb vb d) (hS : ∀ k, Foot X dm bm wv fb vb d.files.length k → S k) {d' : Dsk} {w' : World} {wv' : Value} (h : DiskIn w' X dm bm wv' fb vb d') (hf : d'.files = d.files) (hK : Kept (fun k => k = X ∨ k = dm ∨ wv.ownBlock = some k) w w') (hv : ∀ k, wv'.ownBlock = some k → wv.ownBlock = some k ∨ w.heap.size ≤ k) : After S w X d' w' := by
  refine ⟨⟨dm, bm, wv', fb, vb, h, ?_⟩, hK.mono ?_⟩
  · rw [hf]
    rintro k (e | e | e | e | e)
    · exact .inl (hS k (.inl e))
    · exact .inl (hS k (.inr (.inl e)))
    · exact .inl (hS k (.inr (.inr (.inl e))))
    · rcases hv k e with e | e
      · exact .inl (hS k (.inr (.inr (.inr (.inl e)))))
      · exact .inr e
    · exact .inl (hS k (.inr (.inr (.inr (.inr e)))))
  · rintro k (e | e | e)
    · exact hS k (.inl e)
    · exact hS k (.inr (.inl e))
    · exact hS k (.inr (.inr (.inr (.inl e))))
/-- The call began a little earlier. -/
theorem after_back {w0 : World} {d' : Dsk} {w' : World} (hb : Below w0.heap.size w0 w) (h : After S w X d' w') : After S w0 X d' w' := by
  have hs := hb.size
  exact ⟨h.1.mono fun k hk => hk.imp id (fun h2 => by omega), (Kept.below hb).trans h.2 fun i hi => .inl hi⟩

/-! ### a new file -/
def newF (fb : Nat → Nat) (N g : Nat) : Nat → Nat := fun i => if i = N then g else fb i
def newV (vb : Nat → Value) (N : Nat) : Nat → Value := fun i => if i = N then .slice none 0 0 else vb i
theorem get_app {fs : List Fil} {i : Nat} (h : i < fs.length) : (fs ++ [fil0]).getD i fil0 = fs.getD i fil0 := by simp [List.getD, List.getElem?_append_left h]
theorem get_last (fs : List Fil) : (fs ++ [fil0]).getD fs.length fil0 = fil0 := by simp [List.getD]
theorem entsOf_files (h : Fine d) : ∀ x ∈ entsOf d.base d.wait, ∀ f, x.2.2 = some f → f < d.files.length := by
  intro x hx f hf
  obtain ⟨k, hk⟩ := List.getElem?_of_mem hx
  have hkl : k < d.wait.length := by
    have := (List.getElem?_eq_some_iff.1 hk).1
    rwa [entsOf_length] at this
  rw [entsOf_get d.wait d.base k hkl] at hk
  simp only [Option.some.injEq] at hk
  subst hk
  have hin := h.inside (k + 1) hkl
  have htk : d.wait.take (k + 1) = d.wait.take k ++ [d.wait[k]] := by rw [List.take_succ_eq_append_getElem hkl]
  rw [htk, dirOf_snoc] at hin
  have hr := dirOf_rises (d.wait.take k) d.base h.rises
  cases hs : d.wait[k] with
  | lay n g =>
    rw [hs] at hf hin
    simp only [entOf, Option.some.injEq] at hf
    subst hf
    exact (hin ⟨n, g⟩ ((mem_put _ _ hr).2 (.inl rfl))).1
  | move n t =>
    rw [hs] at hf hin
    simp only [entOf, Option.some.injEq] at hf
    subst hf
    exact (hin ⟨t, (whose (dirOf d.base (d.wait.take k)) n).getD 0⟩ ((mem_put _ _ (lacking_rises hr n)).2 (.inl rfl))).1
  | take n =>
    rw [hs] at hf
    simp [entOf] at hf
theorem Fine.base_in (h : Fine d) : ∀ x ∈ d.base, x.file < d.files.length ∧ namedB x.name = true := h.inside 0 (Nat.zero_le _)
theorem DiskIn.newfile (h : DiskIn w X dm bm wv fb vb d) (hF : Fine d) :
    DiskIn (w.alloc (.cells #[.slice none 0 0, .int .i64 0] 111)) X dm bm wv (newF fb d.files.length w.heap.size) (newV vb d.files.length) { d with files := d.files ++ [fil0] } := by
  have hlt := h.lt
  have h1 := h.below (below_one w (.cells #[.slice none 0 0, .int .i64 0] 111))
  have hfne : ∀ i, i < d.files.length → newF fb d.files.length w.heap.size i = fb i := fun i hi => by unfold newF; rw [if_neg (by omega)]
  have hvne : ∀ i, i < d.files.length → newV vb d.files.length i = vb i := fun i hi => by unfold newV; rw [if_neg (by omega)]
  have hfN : newF fb d.files.length w.heap.size d.files.length = w.heap.size := by unfold newF; rw [if_pos rfl]
  have hvN : newV vb d.files.length d.files.length = .slice none 0 0 := by unfold newV; rw [if_pos rfl]
  have cases_i : ∀ i, i < (d.files ++ [fil0]).length → i < d.files.length ∨ i = d.files.length := fun i hi => by rw [List.length_append, List.length_singleton] at hi; omega
  have fbl : ∀ i, i < d.files.length → fb i < w.heap.size := fun i hi => hlt _ (.inr (.inr (.inr (.inr ⟨i, hi, .inl rfl⟩))))
  refine ⟨h1.row, ?_, ?_, h.ne, ?_, ?_, ?_, ?_, ?_⟩
  · exact h1.dir.congr fun x hx => (hfne _ (hF.live_in x hx).1).symm
  · exact h1.base.congr fun x hx => (hfne _ (hF.base_in x hx).1).symm
  · have := h1.wait
    rw [waitC_congr (gb := newF fb d.files.length w.heap.size) fun x hx f hf => (hfne _ (entsOf_files hF x hx f hf)).symm] at this
    exact this
  · intro i hi
    show Row _ _ _ #[_, .int .i64 (((d.files ++ [fil0]).getD i fil0).sure : Int)]
    rcases cases_i i hi with hi | rfl
    · rw [hfne i hi, hvne i hi, get_app hi]
      exact h1.file i hi
    · rw [hfN, hvN, get_last]
      exact Row.new w _ _
  · intro i hi
    show Own _ 0 _ ((d.files ++ [fil0]).getD i fil0).b
    rcases cases_i i hi with hi | rfl
    · rw [hvne i hi, get_app hi]
      exact h1.byts i hi
    · rw [hvN, get_last]
      exact own_nil _ _
  · intro i j hi hj hij
    rcases cases_i i hi with hi | rfl <;> rcases cases_i j hj with hj | rfl
    · rw [hfne i hi, hfne j hj]
      exact h.fbs i j hi hj hij
    · rw [hfne i hi, hfN]
      have := fbl i hi
      omega
    · rw [hfne j hj, hfN]
      have := fbl j hj
      omega
    · exact absurd rfl hij
  · intro i j hi hj hij k hk
    rcases cases_i i hi with hi | rfl <;> rcases cases_i j hj with hj | rfl
    · rw [hvne i hi] at hk
      rw [hvne j hj]
      exact h.vbs i j hi hj hij k hk
    · rw [hvN]
      simp [Value.ownBlock]
    · rw [hvN] at hk
      simp [Value.ownBlock] at hk
    · exact absurd rfl hij
theorem foot_newfile (hS : ∀ k, Foot X dm bm wv fb vb d.files.length k → S k) (g : Nat) : ∀ k, Foot X dm bm wv (newF fb d.files.length g) (newV vb d.files.length) (d.files ++ [fil0]).length k → S k ∨ k = g := by
  rintro k (e | e | e | e | ⟨i, hi, e⟩)
  · exact .inl (hS k (.inl e))
  · exact .inl (hS k (.inr (.inl e)))
  · exact .inl (hS k (.inr (.inr (.inl e))))
  · exact .inl (hS k (.inr (.inr (.inr (.inl e)))))
  · rw [List.length_append, List.length_singleton] at hi
    unfold newF newV at e
    by_cases hN : i = d.files.length
    · rw [if_pos hN, if_pos hN] at e
      rcases e with e | e
      · exact .inr e
      · simp [Value.ownBlock] at e
    · rw [if_neg hN, if_neg hN] at e
      exact .inl (hS k (.inr (.inr (.inr (.inr ⟨i, by omega, e⟩)))))
theorem fine_newfile (h : Fine d) : Fine { d with files := d.files ++ [fil0] } := by
  refine ⟨h.room, h.rises, fun k hk x hx => ?_, h.few, fun n => ?_, sureOk_new h.sure, h.left⟩
  · have := h.inside k hk x hx
    exact ⟨by show x.file < (d.files ++ [fil0]).length; rw [List.length_append]; omega, this.2⟩
  · show ((d.files ++ [fil0]).getD n fil0).b.length ≤ d.room
    by_cases hn : n < d.files.length
    · rw [get_app hn]
      exact h.small n
    · by_cases hn2 : n = d.files.length
      · subst hn2
        rw [get_last]
        simp [fil0]
      · have : (d.files ++ [fil0])[n]? = none := List.getElem?_eq_none (by simp; omega)
        unfold List.getD
        rw [this]
        simp [fil0]
theorem power_files (d : Dsk) (fs : List Fil) : (power { d with files := fs }).1 = { (power d).1 with files := fs } ∧ (power { d with files := fs }).2 = (power d).2 := by
  unfold power
  by_cases h : d.dark = true ∨ d.left = 0
  · rw [if_pos h, if_pos h]
    exact ⟨rfl, rfl⟩
  · rw [if_neg h, if_neg h]
    exact ⟨rfl, rfl⟩
theorem change_no {d : Dsk} {kind : Int} {name to b : List UInt8} (h : whyNot d kind name to b ≠ 0) : change d kind name to b = (d, whyNot d kind name to b) := by unfold change; rw [if_pos h]
theorem change_dark {d : Dsk} {kind : Int} {name to b : List UInt8} (h : whyNot d kind name to b = 0) (hp : (power d).2 ≠ 0) : change d kind name to b = ((power d).1, 6) := by
  unfold change
  rw [if_neg (by rw [h]; decide), if_pos hp]
  exact Prod.ext rfl (power_dark hp).2.2.2.2
theorem change_ok {d : Dsk} {kind : Int} {name to b : List UInt8} (h : whyNot d kind name to b = 0) (hp : (power d).2 = 0) : change d kind name to b = (applyD (power d).1 kind name to b, 0) := by
  unfold change
  rw [if_neg (by rw [h]; decide), if_neg (by rw [hp]; decide)]
end
end Go.Proofs.Ytiepepikbophmaa
