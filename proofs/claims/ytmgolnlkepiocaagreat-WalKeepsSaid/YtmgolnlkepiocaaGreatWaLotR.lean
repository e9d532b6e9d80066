/- In one text, written by lotify.py: DkCreate, DkCalls, DkCalls2, DkSync, DkSize, DkAppend2. -/
import Derived.Test.YtmgolnlkepiocaaGreatWaLotQ
import Derived.Maps.RangeWalk
import Derived.Sort.KeysCollected
import Derived.Deep.RegionHeld3
namespace Go.Proofs.YtmgolnlkepiocaaGreat.Dk
open Go.RowKit Go.Maps
set_option linter.unusedVariables false

/-- The disk behind a call: it lies in its blocks and in new ones; nothing else has turned. -/
def After (S : Nat → Prop) (w : World) (X : Nat) (d : Dsk) (w' : World) : Prop := DiskAt (fun k => S k ∨ w.heap.size ≤ k) w' X d ∧ Kept S w w'
theorem after_same {S : Nat → Prop} {w w' : World} {X : Nat} {d : Dsk} (h : DiskAt S w X d) (hb : Below w.heap.size w w') : After S w X d w' := ⟨(h.below hb).mono fun k hk => .inl hk, Kept.below hb⟩

section
variable {S : Nat → Prop} {w : World} {X dm bm : Nat} {wv : Value} {fb : Nat → Nat} {vb : Nat → Value} {d : Dsk}
/-- The struct alone has turned. -/
theorem after_row (h : DiskIn w X dm bm wv fb vb d) (hS : ∀ k, Foot X dm bm wv fb vb d.files.length k → S k) {d' : Dsk} (hl : live d' = live d) (hb : d'.base = d.base) (hw : d'.wait = d.wait) (hf : d'.files = d.files) {w' : World} (hr : Row w' X 70 (diskC d' dm bm wv)) (hK : Kept (fun k => k = X) w w') : After S w X d' w' := by
  obtain ⟨a1, a2, a3, a4, a5, a6⟩ := h.apart
  refine ⟨⟨dm, bm, wv, fb, vb, h.entered hr ?_ ?_ hb hf (hK.mono fun k hk => .inl hk), ?_⟩, hK.mono fun k hk => hS k (.inl hk)⟩
  · rw [hl]
    exact h.dir.block (hK.block dm h.dir.lt (Ne.symm a1))
  · rw [hb, hw]
    exact rows_move h.wait fun k hk => hK.block k (World.ownsRow.lt h.wait k hk).2 (by rintro rfl; exact a3 hk)
  · rw [hf]
    exact fun k hk => .inl (hS k hk)
theorem power_dark {d : Dsk} (h : (power d).2 ≠ 0) : live (power d).1 = live d ∧ (power d).1.base = d.base ∧ (power d).1.wait = d.wait ∧ (power d).1.files = d.files ∧ (power d).2 = 6 := by
  rw [power_no h]
  exact ⟨rfl, rfl, rfl, rfl, rfl⟩
theorem after_dark (h : DiskIn w X dm bm wv fb vb d) (hS : ∀ k, Foot X dm bm wv fb vb d.files.length k → S k) (hp : (power d).2 ≠ 0) {w' : World} (hr : Row w' X 70 (diskC (power d).1 dm bm wv)) (hK : Kept (fun k => k = X) w w') : After S w X (power d).1 w' := by
  obtain ⟨q1, q2, q3, q4, _⟩ := power_dark hp
  exact after_row h hS q1 q2 q3 q4 hr hK
theorem after_entered (hin : DiskIn w X dm bm wv fb vb d) (hS : ∀ k, Foot X dm bm wv fb vb d.files.length k → S k) {d' : Dsk} {w' : World} {wv' : Value} (h : DiskIn w' X dm bm wv' fb vb d') (hf : d'.files = d.files) (hK : Kept (fun k => k = X ∨ k = dm ∨ wv.ownBlock = some k) w w') (hv : ∀ k, wv'.ownBlock = some k → wv.ownBlock = some k ∨ w.heap.size ≤ k) : After S w X d' w' := by
  refine ⟨⟨dm, bm, wv', fb, vb, h, ?_⟩, hK.mono ?_⟩
  · rw [hf]
    rintro k (e | e | e | e | e)
    · exact .inl (hS k (.inl e))
    · exact .inl (hS k (.inr (.inl e)))
    · exact .inl (hS k (.inr (.inr (.inl e))))
    · rcases hv k e with e | e
      · exact .inl (hS k (.inr (.inr (.inr (.inl e)))))
      · exact .inr e
    · exact .inl (hS k (.inr (.inr (.inr (.inr e)))))
  · rintro k (e | e | e)
    · exact hS k (.inl e)
    · exact hS k (.inr (.inl e))
    · exact hS k (.inr (.inr (.inr (.inl e))))
/-- The call began a little earlier. -/
theorem after_back {w0 : World} {d' : Dsk} {w' : World} (hb : Below w0.heap.size w0 w) (h : After S w X d' w') : After S w0 X d' w' := by
  have hs := hb.size
  exact ⟨h.1.mono fun k hk => hk.imp id (fun h2 => by omega), (Kept.below hb).trans h.2 fun i hi => .inl hi⟩

/-! ### a new file -/
def newF (fb : Nat → Nat) (N g : Nat) : Nat → Nat := fun i => if i = N then g else fb i
def newV (vb : Nat → Value) (N : Nat) : Nat → Value := fun i => if i = N then .slice none 0 0 else vb i
theorem get_app {fs : List Fil} {i : Nat} (h : i < fs.length) : (fs ++ [fil0]).getD i fil0 = fs.getD i fil0 := by simp [List.getD, List.getElem?_append_left h]
theorem get_last (fs : List Fil) : (fs ++ [fil0]).getD fs.length fil0 = fil0 := by simp [List.getD]
theorem entsOf_files (h : Fine d) : ∀ x ∈ entsOf d.base d.wait, ∀ f, x.2.2 = some f → f < d.files.length := by
  intro x hx f hf
  obtain ⟨k, hk⟩ := List.getElem?_of_mem hx
  have hkl : k < d.wait.length := by
    have := (List.getElem?_eq_some_iff.1 hk).1
    rwa [entsOf_length] at this
  rw [entsOf_get d.wait d.base k hkl] at hk
  simp only [Option.some.injEq] at hk
  subst hk
  have hin := h.inside (k + 1) hkl
  have htk : d.wait.take (k + 1) = d.wait.take k ++ [d.wait[k]] := by rw [List.take_succ_eq_append_getElem hkl]
  rw [htk, dirOf_snoc] at hin
  have hr := dirOf_rises (d.wait.take k) d.base h.rises
  cases hs : d.wait[k] with
  | lay n g =>
    rw [hs] at hf hin
    simp only [entOf, Option.some.injEq] at hf
    subst hf
    exact (hin ⟨n, g⟩ ((mem_put _ _ hr).2 (.inl rfl))).1
  | move n t =>
    rw [hs] at hf hin
    simp only [entOf, Option.some.injEq] at hf
    subst hf
    exact (hin ⟨t, (whose (dirOf d.base (d.wait.take k)) n).getD 0⟩ ((mem_put _ _ (lacking_rises hr n)).2 (.inl rfl))).1
  | take n =>
    rw [hs] at hf
    simp [entOf] at hf
theorem Fine.base_in (h : Fine d) : ∀ x ∈ d.base, x.file < d.files.length ∧ namedB x.name = true := h.inside 0 (Nat.zero_le _)
theorem DiskIn.newfile (h : DiskIn w X dm bm wv fb vb d) (hF : Fine d) :
    DiskIn (w.alloc (.cells #[.slice none 0 0, .int .i64 0] 131)) X dm bm wv (newF fb d.files.length w.heap.size) (newV vb d.files.length) { d with files := d.files ++ [fil0] } := by
  have hlt := h.lt
  have h1 := h.below (below_one w (.cells #[.slice none 0 0, .int .i64 0] 131))
  have hfne : ∀ i, i < d.files.length → newF fb d.files.length w.heap.size i = fb i := fun i hi => by unfold newF; rw [if_neg (by omega)]
  have hvne : ∀ i, i < d.files.length → newV vb d.files.length i = vb i := fun i hi => by unfold newV; rw [if_neg (by omega)]
  have hfN : newF fb d.files.length w.heap.size d.files.length = w.heap.size := by unfold newF; rw [if_pos rfl]
  have hvN : newV vb d.files.length d.files.length = .slice none 0 0 := by unfold newV; rw [if_pos rfl]
  have cases_i : ∀ i, i < (d.files ++ [fil0]).length → i < d.files.length ∨ i = d.files.length := fun i hi => by rw [List.length_append, List.length_singleton] at hi; omega
  have fbl : ∀ i, i < d.files.length → fb i < w.heap.size := fun i hi => hlt _ (.inr (.inr (.inr (.inr ⟨i, hi, .inl rfl⟩))))
  refine ⟨h1.row, ?_, ?_, h.ne, ?_, ?_, ?_, ?_, ?_⟩
  · exact h1.dir.congr fun x hx => (hfne _ (hF.live_in x hx).1).symm
  · exact h1.base.congr fun x hx => (hfne _ (hF.base_in x hx).1).symm
  · have := h1.wait
    rw [waitC_congr (gb := newF fb d.files.length w.heap.size) fun x hx f hf => (hfne _ (entsOf_files hF x hx f hf)).symm] at this
    exact this
  · intro i hi
    show Row _ _ _ #[_, .int .i64 (((d.files ++ [fil0]).getD i fil0).sure : Int)]
    rcases cases_i i hi with hi | rfl
    · rw [hfne i hi, hvne i hi, get_app hi]
      exact h1.file i hi
    · rw [hfN, hvN, get_last]
      exact Row.new w _ _
  · intro i hi
    show Own _ 0 _ ((d.files ++ [fil0]).getD i fil0).b
    rcases cases_i i hi with hi | rfl
    · rw [hvne i hi, get_app hi]
      exact h1.byts i hi
    · rw [hvN, get_last]
      exact own_nil _ _
  · intro i j hi hj hij
    rcases cases_i i hi with hi | rfl <;> rcases cases_i j hj with hj | rfl
    · rw [hfne i hi, hfne j hj]
      exact h.fbs i j hi hj hij
    · rw [hfne i hi, hfN]
      have := fbl i hi
      omega
    · rw [hfne j hj, hfN]
      have := fbl j hj
      omega
    · exact absurd rfl hij
  · intro i j hi hj hij k hk
    rcases cases_i i hi with hi | rfl <;> rcases cases_i j hj with hj | rfl
    · rw [hvne i hi] at hk
      rw [hvne j hj]
      exact h.vbs i j hi hj hij k hk
    · rw [hvN]
      simp [Value.ownBlock]
    · rw [hvN] at hk
      simp [Value.ownBlock] at hk
    · exact absurd rfl hij
theorem foot_newfile (hS : ∀ k, Foot X dm bm wv fb vb d.files.length k → S k) (g : Nat) : ∀ k, Foot X dm bm wv (newF fb d.files.length g) (newV vb d.files.length) (d.files ++ [fil0]).length k → S k ∨ k = g := by
  rintro k (e | e | e | e | ⟨i, hi, e⟩)
  · exact .inl (hS k (.inl e))
  · exact .inl (hS k (.inr (.inl e)))
  · exact .inl (hS k (.inr (.inr (.inl e))))
  · exact .inl (hS k (.inr (.inr (.inr (.inl e)))))
  · rw [List.length_append, List.length_singleton] at hi
    unfold newF newV at e
    by_cases hN : i = d.files.length
    · rw [if_pos hN, if_pos hN] at e
      rcases e with e | e
      · exact .inr e
      · simp [Value.ownBlock] at e
    · rw [if_neg hN, if_neg hN] at e
      exact .inl (hS k (.inr (.inr (.inr (.inr ⟨i, by omega, e⟩)))))
theorem fine_newfile (h : Fine d) : Fine { d with files := d.files ++ [fil0] } := by
  refine ⟨h.room, h.rises, fun k hk x hx => ?_, h.few, fun n => ?_, sureOk_new h.sure, h.left⟩
  · have := h.inside k hk x hx
    exact ⟨by show x.file < (d.files ++ [fil0]).length; rw [List.length_append]; omega, this.2⟩
  · show ((d.files ++ [fil0]).getD n fil0).b.length ≤ d.room
    by_cases hn : n < d.files.length
    · rw [get_app hn]
      exact h.small n
    · by_cases hn2 : n = d.files.length
      · subst hn2
        rw [get_last]
        simp [fil0]
      · have : (d.files ++ [fil0])[n]? = none := List.getElem?_eq_none (by simp; omega)
        unfold List.getD
        rw [this]
        simp [fil0]
theorem power_files (d : Dsk) (fs : List Fil) : (power { d with files := fs }).1 = { (power d).1 with files := fs } ∧ (power { d with files := fs }).2 = (power d).2 := by
  unfold power
  by_cases h : d.dark = true ∨ d.left = 0
  · rw [if_pos h, if_pos h]
    exact ⟨rfl, rfl⟩
  · rw [if_neg h, if_neg h]
    exact ⟨rfl, rfl⟩
theorem change_no {d : Dsk} {kind : Int} {name to b : List UInt8} (h : whyNot d kind name to b ≠ 0) : change d kind name to b = (d, whyNot d kind name to b) := by unfold change; rw [if_pos h]
theorem change_dark {d : Dsk} {kind : Int} {name to b : List UInt8} (h : whyNot d kind name to b = 0) (hp : (power d).2 ≠ 0) : change d kind name to b = ((power d).1, 6) := by
  unfold change
  rw [if_neg (by rw [h]; decide), if_pos hp]
  exact Prod.ext rfl (power_dark hp).2.2.2.2
theorem change_ok {d : Dsk} {kind : Int} {name to b : List UInt8} (h : whyNot d kind name to b = 0) (hp : (power d).2 = 0) : change d kind name to b = (applyD (power d).1 kind name to b, 0) := by
  unfold change
  rw [if_neg (by rw [h]; decide), if_neg (by rw [hp]; decide)]
end
end Go.Proofs.YtmgolnlkepiocaaGreat.Dk

namespace Go.Proofs.YtmgolnlkepiocaaGreat.Dk
open Go.RowKit Go.Maps
set_option linter.unusedVariables false

theorem cells_1 (w : World) (s : ByteArray) (hm : s.size ≤ 281474976710656) : ∀ k x, [s][k]? = some x → (w.alloc (.cells #[.string s] 9)).cell? ⟨w.heap.size, k, none⟩ = some (.string x) ∧ x.size ≤ 281474976710656 := by
  intro k x hk
  rcases k with _ | k
  · simp only [List.getElem?_cons_zero, Option.some.injEq] at hk
    subst hk
    exact ⟨(Row.new w 9 #[.string s]).cell 0, hm⟩
  · simp at hk
theorem cells_2 (w : World) (s t : ByteArray) (hm : s.size ≤ 281474976710656) (hm2 : t.size ≤ 281474976710656) : ∀ k x, [s, t][k]? = some x → (w.alloc (.cells #[.string s, .string t] 9)).cell? ⟨w.heap.size, k, none⟩ = some (.string x) ∧ x.size ≤ 281474976710656 := by
  intro k x hk
  have hr := Row.new w 9 #[.string s, .string t]
  rcases k with _ | _ | k
  · simp only [List.getElem?_cons_zero, Option.some.injEq] at hk
    subst hk
    exact ⟨hr.cell 0, hm⟩
  · simp only [List.getElem?_cons_succ, List.getElem?_cons_zero, Option.some.injEq] at hk
    subst hk
    exact ⟨hr.cell 1, hm2⟩
  · simp at hk
theorem ret_i {a b : Int} (h : a = b) : Ending.returned (.int .i64 a) = .returned (.int .i64 b) := by rw [h]
theorem txt_nil : txt [] = ⟨#[]⟩ := rfl

section
variable {S : Nat → Prop} {w : World} {X : Nat} {d : Dsk}
theorem why_create_1 {s to b : List UInt8} (h : namedB s = false) : whyNot d 1 s to b = 8 := by unfold whyNot; rw [if_pos (.inl ⟨by decide, h⟩)]
theorem why_create_2 {s to b : List UInt8} (h : namedB s = true) {n : Nat} (hw : whose (live d) s = some n) : whyNot d 1 s to b = 10 := by
  unfold whyNot
  rw [if_neg (by simp [h]), if_pos ⟨rfl, by rw [hw]; rfl⟩]
theorem why_create_3 {s to b : List UInt8} (h : namedB s = true) (hw : whose (live d) s = none) (hl : 64 ≤ (live d).length) : whyNot d 1 s to b = 7 := by
  unfold whyNot
  rw [if_neg (by simp [h]), if_neg (by simp [hw]), if_pos ⟨rfl, hl⟩]
theorem why_create_4 {s to b : List UInt8} (h : namedB s = true) (hw : whose (live d) s = none) (hl : ¬ 64 ≤ (live d).length) : whyNot d 1 s to b = 0 := by
  unfold whyNot
  rw [if_neg (by simp [h]), if_neg (by simp [hw]), if_neg (by simp; omega), if_neg (by omega), if_neg (by omega)]

set_option maxRecDepth 20000 in
theorem create_prog (h : DiskAt S w X d) (hF : Fine d) (hq : Few d) (s : ByteArray) (to b : List UInt8) (hm : s.size ≤ 281474976710656) :
    Calls Tryz.prog 73 #[.pointer (some ⟨X, 0, none⟩), .string s] w fun e w' => e = .returned (.int .i64 (change d 1 (strL s) to b).2) ∧ After S w X (change d 1 (strL s) to b).1 w' := by
  have hb := below_one w (.cells #[.string s] 9)
  have HC := Lib.hid (check_prog X w.heap.size [s] _ (by simp) (cells_1 w s hm))
  have hk1 : okNames [s] = namedB (strL s) := by simp [okNames]
  rw [hk1] at HC
  have HS := Lib.hid (after_same h hb)
  obtain ⟨dm, bm, wv, fb, vb, hin, hS⟩ := h
  obtain ⟨c0, c1, c2, c3, c4, c5, c6⟩ := (hin.below hb).cells
  clear c0 c2 c3 c4 c5 c6
  cases hn : namedB (strL s)
  · have hw := why_create_1 (d := d) (to := to) (b := b) hn
    rw [change_no (by rw [hw]; decide), hw]
    rw [hn] at HC
    simp only [nameE] at HC
    clear hin hS hF hq
    go_enter Tryz.func73, Tryz.ntmps73
    go_wp2_with fail
    refine HC.out.mono ?_
    rintro e w1 ⟨rfl, rfl⟩
    go_wp2
    go_ret
    exact ⟨rfl, HS.out⟩
  · rw [hn] at HC
    simp only [nameE, if_true] at HC
    have hsz := named_size hn
    have hl := look_at hin s (by simp only [maxLen]; omega) hb
    unfold underV at hl
    cases hw : whose (live d) (strL s) with
    | some n =>
      have hy := why_create_2 (d := d) (to := to) (b := b) hn hw
      rw [change_no (by rw [hy]; decide), hy]
      rw [hw] at hl
      simp only [ptrV] at hl
      clear hin hS hF hq hw
      go_enter Tryz.func73, Tryz.ntmps73
      go_wp2_with fail
      refine HC.out.mono ?_
      rintro e w1 ⟨rfl, rfl⟩
      go_wp2
      go_ret
      exact ⟨rfl, HS.out⟩
    | none =>
      rw [hw] at hl
      have hlen := fun ty => dir_len (hin.below hb).dir ty
      by_cases h64 : 64 ≤ (live d).length
      · have hy := why_create_3 (d := d) (to := to) (b := b) hn hw h64
        rw [change_no (by rw [hy]; decide), hy]
        have q : decide ((64 : Int) ≤ ((live d).length : Int)) = true := decide_eq_true (by omega)
        clear hin hS hF hq hw
        go_enter Tryz.func73, Tryz.ntmps73
        go_wp2_with fail
        refine HC.out.mono ?_
        rintro e w1 ⟨rfl, rfl⟩
        go_wp2
        go_ret
        exact ⟨rfl, HS.out⟩
      · have hy := why_create_4 (d := d) (to := to) (b := b) hn hw h64
        have q : decide ((64 : Int) ≤ ((live d).length : Int)) = false := decide_eq_false (by omega)
        have hin1 := (hin.below hb).newfile hF
        have hS1 := foot_newfile hS (w.alloc (.cells #[.string s] 9)).heap.size
        obtain ⟨pf1, pf2⟩ := power_files d (d.files ++ [fil0])
        have hfN : newF fb d.files.length (w.alloc (.cells #[.string s] 9)).heap.size d.files.length = w.heap.size + 1 := by unfold newF; rw [if_pos rfl]; simp
        have hb2 := hb.alloc (w := w.alloc (.cells #[.string s] 9)) hb.size (.cells #[.slice none 0 0, .int .i64 0] 131)
        by_cases hp : (power d).2 = 0
        · rw [change_ok hy hp]
          have HE := enter_ok hin1 (fine_newfile hF) ⟨hq.count, hq.wait, hq.left⟩ (by rw [pf2]; exact hp) (.lay (strL s) d.files.length) (by show (strL s).length ≤ 24; rw [strL_length]; omega)
          rw [show entOf (live { d with files := d.files ++ [fil0] }) (.lay (strL s) d.files.length) = ([], strL s, some d.files.length) from rfl] at HE
          simp only [fileV, ptrV, hfN, txt_strL, txt_nil] at HE
          have HE' := Lib.hid HE
          have HA : ∀ w' wv', DiskIn w' X dm bm wv' (newF fb d.files.length (w.alloc (.cells #[.string s] 9)).heap.size) (newV vb d.files.length) { (power { d with files := d.files ++ [fil0] }).1 with wait := d.wait ++ [.lay (strL s) d.files.length] } →
              Kept (fun k => k = X ∨ k = dm ∨ wv.ownBlock = some k) ((w.alloc (.cells #[.string s] 9)).alloc (.cells #[.slice none 0 0, .int .i64 0] 131)) w' → (∀ k, wv'.ownBlock = some k → wv.ownBlock = some k ∨ ((w.alloc (.cells #[.string s] 9)).alloc (.cells #[.slice none 0 0, .int .i64 0] 131)).heap.size ≤ k) →
              After S w X (applyD (power d).1 1 (strL s) to b) w' := by
            intro w' wv' q1 q2 q3
            have := after_entered hin1 hS1 q1 (by rw [pf1]) q2 q3
            have := after_back hb2 this
            have e : applyD (power d).1 1 (strL s) to b = { (power { d with files := d.files ++ [fil0] }).1 with wait := d.wait ++ [.lay (strL s) d.files.length] } := by
              obtain ⟨_, _, _, _, p5, p6, p7, p8⟩ := power_ok hp
              rw [pf1]
              unfold applyD
              rw [if_pos rfl, p5, p7]
            rw [e]
            refine ⟨this.1.mono fun k hk => ?_, ?_⟩
            · rcases hk with (hk | hk) | hk
              · exact .inl hk
              · exact .inr (by rw [hk]; simp)
              · exact .inr hk
            · exact ⟨this.2.os, this.2.tape, this.2.output, this.2.size, fun k hk hn => this.2.block k hk (fun e => e.elim hn fun e => by simp at e; omega)⟩
          have HA' := Lib.hid HA
          clear hin hS hF hq hw hin1 hS1 pf1 pf2 HA HE hfN hp hb2 hsz hk1 hn h64 hy
          go_enter Tryz.func73, Tryz.ntmps73
          go_wp2_with fail
          refine HC.out.mono ?_
          rintro e w1 ⟨rfl, rfl⟩
          go_wp2_with fail
          refine HE'.out.mono ?_
          rintro e w2 ⟨rfl, wv', k1, k2, k3⟩
          have HK1 := Lib.hid k1
          have HK2 := Lib.hid k2
          have HK3 := Lib.hid k3
          clear k1 k2 k3
          go_wp2
          go_ret
          exact ⟨rfl, HA'.out _ _ HK1.out HK2.out HK3.out⟩
        · rw [change_dark hy hp]
          have HE := enter_no hin1 (by rw [pf2]; exact hp) ([], strL s, some d.files.length)
          simp only [fileV, ptrV, hfN, txt_strL, txt_nil] at HE
          have HE' := Lib.hid HE
          have hin2 := (hin.below hb).below (below_one (w.alloc (.cells #[.string s] 9)) (.cells #[.slice none 0 0, .int .i64 0] 131))
          have HA : ∀ w', Row w' X 70 (diskC (power { d with files := d.files ++ [fil0] }).1 dm bm wv) → Kept (fun k => k = X) ((w.alloc (.cells #[.string s] 9)).alloc (.cells #[.slice none 0 0, .int .i64 0] 131)) w' → After S w X (power d).1 w' := by
            intro w' q1 q2
            rw [pf1] at q1
            exact after_back hb2 (after_dark hin2 hS hp q1 q2)
          have HA' := Lib.hid HA
          clear hin hS hF hq hw hin1 hS1 pf1 pf2 HA HE hfN hp hb2 hsz hk1 hn h64 hy hin2
          go_enter Tryz.func73, Tryz.ntmps73
          go_wp2_with fail
          refine HC.out.mono ?_
          rintro e w1 ⟨rfl, rfl⟩
          go_wp2_with fail
          refine HE'.out.mono ?_
          rintro e w2 ⟨rfl, k1, k2⟩
          have HK1 := Lib.hid k1
          have HK2 := Lib.hid k2
          clear k1 k2
          go_wp2
          go_ret
          exact ⟨rfl, HA'.out _ HK1.out HK2.out⟩
end
end Go.Proofs.YtmgolnlkepiocaaGreat.Dk

namespace Go.Proofs.YtmgolnlkepiocaaGreat.Dk
open Go.RowKit Go.Maps
set_option linter.unusedVariables false

section
variable {S : Nat → Prop} {w : World} {X dm bm : Nat} {wv : Value} {fb : Nat → Nat} {vb : Nat → Value} {d : Dsk}
theorem enter_change (hin : DiskIn w X dm bm wv fb vb d) (hS : ∀ k, Foot X dm bm wv fb vb d.files.length k → S k) (hF : Fine d) (hq : Few d) (s : Stp) (hs : match s with | .lay n _ => n.length ≤ 24 | .move n t => n.length ≤ 24 ∧ t.length ≤ 24 | .take n => n.length ≤ 24)
    {kind : Int} {name to b : List UInt8} (hy : whyNot d kind name to b = 0) (ha : (power d).2 = 0 → applyD (power d).1 kind name to b = { (power d).1 with wait := d.wait ++ [s] }) {w2 : World} (hb : Below w.heap.size w w2) :
    Calls Tryz.prog 114 #[.pointer (some ⟨X, 0, none⟩), .agg #[.string (txt (entOf (live d) s).1), .string (txt (entOf (live d) s).2.1), fileV fb (entOf (live d) s).2.2]] w2 fun e w' => e = .returned (.int .i64 (change d kind name to b).2) ∧ After S w X (change d kind name to b).1 w' := by
  have hin2 := hin.below hb
  by_cases hp : (power d).2 = 0
  · rw [change_ok hy hp, ha hp]
    refine (enter_ok hin2 hF hq hp s hs).mono ?_
    rintro e w' ⟨he, wv', k1, k2, k3⟩
    refine ⟨he, after_back hb (after_entered hin2 hS k1 ?_ k2 k3)⟩
    obtain ⟨_, _, _, _, p5, _⟩ := power_ok hp
    exact p5
  · rw [change_dark hy hp]
    refine (enter_no hin2 hp (entOf (live d) s)).mono ?_
    rintro e w' ⟨he, k1, k2⟩
    exact ⟨he, after_back hb (after_dark hin2 hS hp k1 k2)⟩
end

/-! ### files -/
structure FilesIn (w : World) (fb : Nat → Nat) (vb : Nat → Value) (fs : List Fil) : Prop where
  file : ∀ i, i < fs.length → Row w (fb i) 131 #[vb i, .int .i64 ((fs.getD i fil0).sure : Int)]
  byts : ∀ i, i < fs.length → Own w 0 (vb i) (fs.getD i fil0).b
  fbs : ∀ i j, i < fs.length → j < fs.length → i ≠ j → fb i ≠ fb j
  vbs : ∀ i j, i < fs.length → j < fs.length → i ≠ j → ∀ k, (vb i).ownBlock = some k → (vb j).ownBlock ≠ some k
def updV (vb : Nat → Value) (n : Nat) (v : Value) : Nat → Value := fun i => if i = n then v else vb i
def FFoot (fb : Nat → Nat) (vb : Nat → Value) (n k : Nat) : Prop := ∃ i, i < n ∧ (k = fb i ∨ (vb i).ownBlock = some k)
theorem FilesIn.lt {w : World} {fb : Nat → Nat} {vb : Nat → Value} {fs : List Fil} (h : FilesIn w fb vb fs) : ∀ k, FFoot fb vb fs.length k → k < w.heap.size := by
  rintro k ⟨i, hi, rfl | e⟩
  · exact (h.file i hi).lt
  · exact (World.ownsRow.lt (h.byts i hi) k e).2
theorem FilesIn.move {w w' : World} {fb : Nat → Nat} {vb : Nat → Value} {fs : List Fil} (h : FilesIn w fb vb fs) (hb : ∀ k, FFoot fb vb fs.length k → w'.heap[k]? = w.heap[k]?) : FilesIn w' fb vb fs :=
  ⟨fun i hi => row_move (h.file i hi) (hb _ ⟨i, hi, .inl rfl⟩), fun i hi => own_move (h.byts i hi) fun k hk => hb k ⟨i, hi, .inr hk⟩, h.fbs, h.vbs⟩
theorem FilesIn.set {w w' : World} {fb : Nat → Nat} {vb : Nat → Value} {fs : List Fil} (h : FilesIn w fb vb fs) {n : Nat} (hn : n < fs.length) {v' : Value} {f' : Fil} (hrow : Row w' (fb n) 131 #[v', .int .i64 (f'.sure : Int)]) (hown : Own w' 0 v' f'.b)
    (hK : ∀ k, FFoot fb vb fs.length k → k ≠ fb n → (vb n).ownBlock ≠ some k → w'.heap[k]? = w.heap[k]?) (hv : ∀ k, v'.ownBlock = some k → (vb n).ownBlock = some k ∨ w.heap.size ≤ k) : FilesIn w' fb (updV vb n v') (fs.set n f') := by
  have hother : ∀ i, i ≠ n → updV vb n v' i = vb i := fun i hi => by unfold updV; rw [if_neg hi]
  have hself : updV vb n v' n = v' := by unfold updV; rw [if_pos rfl]
  have gother : ∀ i, i ≠ n → (fs.set n f').getD i fil0 = fs.getD i fil0 := fun i hi => by rw [fget_set, if_neg (fun e => hi e.1.symm)]
  have gself : (fs.set n f').getD n fil0 = f' := by rw [fget_set, if_pos ⟨rfl, hn⟩]
  have hlt := h.lt
  refine ⟨?_, ?_, ?_, ?_⟩
  · intro i hi
    rw [List.length_set] at hi
    by_cases hin : i = n
    · subst hin
      rw [hself, gself]
      exact hrow
    · rw [hother i hin, gother i hin]
      exact row_move (h.file i hi) (hK _ ⟨i, hi, .inl rfl⟩ (h.fbs i n hi hn hin) (row_ne_rows (h.file i hi) (h.byts n hn) (by decide)))
  · intro i hi
    rw [List.length_set] at hi
    by_cases hin : i = n
    · subst hin
      rw [hself, gself]
      exact hown
    · rw [hother i hin, gother i hin]
      refine own_move (h.byts i hi) fun k hk => hK k ⟨i, hi, .inr hk⟩ ?_ ?_
      · rintro rfl
        exact row_ne_rows (h.file n hn) (h.byts i hi) (by decide) hk
      · exact h.vbs i n hi hn hin k hk
  · intro i j hi hj hij
    rw [List.length_set] at hi hj
    exact h.fbs i j hi hj hij
  · intro i j hi hj hij k hk
    rw [List.length_set] at hi hj
    by_cases hin : i = n
    · subst hin
      rw [hself] at hk
      rw [hother j (Ne.symm hij)]
      rcases hv k hk with e | e
      · exact h.vbs i j hi hj hij k e
      · intro e2
        have := hlt k ⟨j, hj, .inr e2⟩
        omega
    · rw [hother i hin] at hk
      by_cases hjn : j = n
      · subst hjn
        rw [hself]
        intro e2
        rcases hv k e2 with e | e
        · exact h.vbs i j hi hj hij k hk e
        · have := hlt k ⟨i, hi, .inr hk⟩
          omega
      · rw [hother j hjn]
        exact h.vbs i j hi hj hij k hk
section
variable {S : Nat → Prop} {w : World} {X dm bm : Nat} {wv : Value} {fb : Nat → Nat} {vb : Nat → Value} {d : Dsk}
theorem DiskIn.filesIn (h : DiskIn w X dm bm wv fb vb d) : FilesIn w fb vb d.files := ⟨h.file, h.byts, h.fbs, h.vbs⟩
/-- The struct and one file have turned. -/
theorem DiskIn.filed (h : DiskIn w X dm bm wv fb vb d) {n : Nat} (hn : n < d.files.length) {w' : World} {v' : Value} {f' : Fil} {d' : Dsk} (hr : Row w' X 70 (diskC d' dm bm wv)) (hb : d'.base = d.base) (hw : d'.wait = d.wait) (hf : d'.files = d.files.set n f')
    (hrow : Row w' (fb n) 131 #[v', .int .i64 (f'.sure : Int)]) (hown : Own w' 0 v' f'.b) (hK : Kept (fun k => k = X ∨ k = fb n ∨ (vb n).ownBlock = some k) w w') (hv : ∀ k, v'.ownBlock = some k → (vb n).ownBlock = some k ∨ w.heap.size ≤ k) : DiskIn w' X dm bm wv fb (updV vb n v') d' := by
  obtain ⟨a1, a2, a3, a4, a5, a6⟩ := h.apart
  obtain ⟨b1, b2, b3, b4, b5, b6, b7, b8, b9⟩ := a6 n hn
  have hfs := h.filesIn.set hn hrow hown (w' := w') (fun k hk h1 h2 => hK.block k (h.filesIn.lt k hk) (by
    rintro (e | e | e)
    · obtain ⟨i, hi, e2⟩ := hk
      obtain ⟨c1, _, _, _, c5, _⟩ := a6 i hi
      subst e
      exact e2.elim (fun e => c1 e.symm) c5
    · exact h1 e
    · exact h2 e)) hv
  have hl : live d' = live d := by unfold live; rw [hb, hw]
  rw [← hf] at hfs
  refine ⟨hr, ?_, ?_, h.ne, ?_, hfs.file, hfs.byts, hfs.fbs, hfs.vbs⟩
  · rw [hl]
    exact h.dir.block (hK.block dm h.dir.lt (by rintro (e | e | e); exact a1 e.symm; exact b2 e.symm; exact b6 e))
  · rw [hb]
    exact h.base.block (hK.block bm h.base.lt (by rintro (e | e | e); exact a2 e.symm; exact b3 e.symm; exact b7 e))
  · rw [hb, hw]
    exact rows_move h.wait fun k hk => hK.block k (World.ownsRow.lt h.wait k hk).2 (by rintro (e | e | e); (subst e; exact a3 hk); (subst e; exact b4 hk); exact b8 k hk e)
theorem after_filed (hin : DiskIn w X dm bm wv fb vb d) (hS : ∀ k, Foot X dm bm wv fb vb d.files.length k → S k) {n : Nat} (hn : n < d.files.length) {d' : Dsk} {w' : World} {v' : Value} {f' : Fil} (h : DiskIn w' X dm bm wv fb (updV vb n v') d') (hf : d'.files = d.files.set n f') (hK : Kept (fun k => k = X ∨ k = fb n ∨ (vb n).ownBlock = some k) w w') (hv : ∀ k, v'.ownBlock = some k → (vb n).ownBlock = some k ∨ w.heap.size ≤ k) : After S w X d' w' := by
  refine ⟨⟨dm, bm, wv, fb, updV vb n v', h, ?_⟩, hK.mono ?_⟩
  · rw [hf, List.length_set]
    rintro k (e | e | e | e | ⟨i, hi, e⟩)
    · exact .inl (hS k (.inl e))
    · exact .inl (hS k (.inr (.inl e)))
    · exact .inl (hS k (.inr (.inr (.inl e))))
    · exact .inl (hS k (.inr (.inr (.inr (.inl e)))))
    · by_cases hin2 : i = n
      · subst hin2
        unfold updV at e
        rw [if_pos rfl] at e
        rcases e with e | e
        · exact .inl (hS k (.inr (.inr (.inr (.inr ⟨i, hi, .inl e⟩)))))
        · rcases hv k e with e | e
          · exact .inl (hS k (.inr (.inr (.inr (.inr ⟨i, hi, .inr e⟩)))))
          · exact .inr e
      · unfold updV at e
        rw [if_neg hin2] at e
        exact .inl (hS k (.inr (.inr (.inr (.inr ⟨i, hi, e⟩)))))
  · rintro k (e | e | e)
    · exact hS k (.inl e)
    · exact hS k (.inr (.inr (.inr (.inr ⟨n, hn, .inl e⟩))))
    · exact hS k (.inr (.inr (.inr (.inr ⟨n, hn, .inr e⟩))))

/-! ### why not -/
theorem why_bad {kind : Int} {s to b : List UInt8} (hk : kind ≠ 6) (h : namedB s = false) : whyNot d kind s to b = 8 := by unfold whyNot; rw [if_pos (.inl ⟨hk, h⟩)]
theorem why_bad_to {s to b : List UInt8} (h : namedB to = false) : whyNot d 3 s to b = 8 := by unfold whyNot; rw [if_pos (.inr ⟨rfl, h⟩)]
theorem why_none {kind : Int} {s to b : List UInt8} (hk : 1 < kind ∧ kind < 6) (h : namedB s = true) (ht : kind = 3 → namedB to = true) (hw : whose (live d) s = none) : whyNot d kind s to b = 9 := by
  unfold whyNot
  rw [if_neg (by rintro (⟨_, e⟩ | ⟨e1, e2⟩); (rw [h] at e; cases e); (rw [ht e1] at e2; cases e2)), if_neg (by omega), if_neg (by omega), if_pos ⟨hk.1, hk.2, hw⟩]
theorem why_fine {kind : Int} {s to b : List UInt8} {n : Nat} (hk : 2 < kind ∧ kind < 6) (h : namedB s = true) (ht : kind = 3 → namedB to = true) (hw : whose (live d) s = some n) : whyNot d kind s to b = 0 := by
  unfold whyNot
  rw [if_neg (by rintro (⟨_, e⟩ | ⟨e1, e2⟩); (rw [h] at e; cases e); (rw [ht e1] at e2; cases e2)), if_neg (by omega), if_neg (by omega), if_neg (by rw [hw]; rintro ⟨_, _, e⟩; cases e), if_neg (by omega)]
theorem why_sync_dir (s to b : List UInt8) : whyNot d 6 s to b = 0 := by
  unfold whyNot
  simp

theorem apply_move {name to b : List UInt8} (hp : (power d).2 = 0) : applyD (power d).1 3 name to b = { (power d).1 with wait := d.wait ++ [.move name to] } := by
  obtain ⟨_, _, _, _, _, _, p7, _⟩ := power_ok hp
  unfold applyD
  dsimp only
  rw [if_neg (by decide), if_neg (by decide), if_pos rfl, p7]
theorem apply_take {name to b : List UInt8} (hp : (power d).2 = 0) : applyD (power d).1 4 name to b = { (power d).1 with wait := d.wait ++ [.take name] } := by
  obtain ⟨_, _, _, _, _, _, p7, _⟩ := power_ok hp
  unfold applyD
  dsimp only
  rw [if_neg (by decide), if_neg (by decide), if_neg (by decide), if_pos rfl, p7]
end

section
variable {S : Nat → Prop} {w : World} {X : Nat} {d : Dsk}
set_option maxRecDepth 20000 in
theorem remove_prog (h : DiskAt S w X d) (hF : Fine d) (hq : Few d) (s : ByteArray) (to b : List UInt8) (hm : s.size ≤ 281474976710656) :
    Calls Tryz.prog 115 #[.pointer (some ⟨X, 0, none⟩), .string s] w fun e w' => e = .returned (.int .i64 (change d 4 (strL s) to b).2) ∧ After S w X (change d 4 (strL s) to b).1 w' := by
  have hsame := fun w' => after_same (w' := w') h
  have HS := Lib.hid hsame
  obtain ⟨dm, bm, wv, fb, vb, hin, hS⟩ := h
  cases hn : namedB (strL s)
  · have hw := why_bad (d := d) (kind := 4) (to := to) (b := b) (by decide) hn
    rw [change_no (by rw [hw]; decide), hw]
    have HC := Lib.hid (find_bad hin s hm hn)
    clear hsame hin hS hF hq
    go_enter Tryz.func115, Tryz.ntmps115
    go_wp2_with fail
    refine HC.out.mono ?_
    rintro e w1 ⟨rfl, hb⟩
    have HB := Lib.hid hb
    clear hb
    go_wp2
    go_ret
    exact ⟨rfl, HS.out _ HB.out⟩
  · cases hw : whose (live d) (strL s) with
    | none =>
      have hy := why_none (d := d) (kind := 4) (to := to) (b := b) (by decide) hn (fun e => absurd e (by decide)) hw
      rw [change_no (by rw [hy]; decide), hy]
      have HC := Lib.hid (find_none hin s hn hw)
      clear hsame hin hS hF hq hw
      go_enter Tryz.func115, Tryz.ntmps115
      go_wp2_with fail
      refine HC.out.mono ?_
      rintro e w1 ⟨rfl, hb⟩
      have HB := Lib.hid hb
      clear hb
      go_wp2
      go_ret
      exact ⟨rfl, HS.out _ HB.out⟩
    | some n =>
      have hsz := named_size hn
      have hy := why_fine (d := d) (kind := 4) (to := to) (b := b) (by decide) hn (fun e => absurd e (by decide)) hw
      have HC := Lib.hid (find_some hin s n hn hw)
      have HE := Lib.hid (fun w2 hb => enter_change (w2 := w2) hin hS hF hq (.take (strL s)) (by show (strL s).length ≤ 24; rw [strL_length]; omega) hy (fun hp => apply_take hp) hb)
      have e1 : entOf (live d) (.take (strL s)) = (strL s, [], none) := rfl
      rw [e1] at HE
      simp only [fileV, txt_strL, txt_nil] at HE
      clear hsame hin hS hF hq hw hsz hy e1
      go_enter Tryz.func115, Tryz.ntmps115
      go_wp2_with fail
      refine HC.out.mono ?_
      rintro e w1 ⟨rfl, hb⟩
      have HB := Lib.hid hb
      clear hb
      go_wp2_with fail
      refine (HE.out _ HB.out).mono ?_
      rintro e w2 ⟨rfl, h2⟩
      have H2 := Lib.hid h2
      clear h2
      go_wp2
      go_ret
      exact ⟨rfl, H2.out⟩

set_option maxRecDepth 20000 in
theorem rename_prog (h : DiskAt S w X d) (hF : Fine d) (hq : Few d) (s t : ByteArray) (b : List UInt8) (hm : s.size ≤ 281474976710656) (hm2 : t.size ≤ 281474976710656) :
    Calls Tryz.prog 81 #[.pointer (some ⟨X, 0, none⟩), .string s, .string t] w fun e w' => e = .returned (.int .i64 (change d 3 (strL s) (strL t) b).2) ∧ After S w X (change d 3 (strL s) (strL t) b).1 w' := by
  have hb0 := below_one w (.cells #[.string s, .string t] 9)
  have HS := Lib.hid (fun w' => after_same (w' := w') h)
  obtain ⟨dm, bm, wv, fb, vb, hin, hS⟩ := h
  have HC0 := Lib.hid (check_prog X w.heap.size [s, t] _ (by simp) (cells_2 w s t hm hm2))
  have hk1 : okNames [s, t] = (namedB (strL s) && namedB (strL t)) := by simp [okNames]
  rw [hk1] at HC0
  have HB0 := Lib.hid hb0
  cases hnn : (namedB (strL s) && namedB (strL t))
  · have hw : whyNot d 3 (strL s) (strL t) b = 8 := by
      rw [Bool.and_eq_false_iff] at hnn
      rcases hnn with e | e
      · exact why_bad (by decide) e
      · exact why_bad_to e
    rw [change_no (by rw [hw]; decide), hw]
    rw [hnn] at HC0
    simp only [nameE] at HC0
    clear hin hS hF hq hb0
    go_enter Tryz.func81, Tryz.ntmps81
    go_wp2_with fail
    refine HC0.out.mono ?_
    rintro e w1 ⟨rfl, rfl⟩
    go_wp2
    go_ret
    exact ⟨rfl, HS.out _ HB0.out⟩
  · rw [hnn] at HC0
    simp only [nameE, if_true] at HC0
    rw [Bool.and_eq_true] at hnn
    obtain ⟨hn, hn2⟩ := hnn
    cases hw : whose (live d) (strL s) with
    | none =>
      have hy := why_none (d := d) (kind := 3) (to := strL t) (b := b) (by decide) hn (fun _ => hn2) hw
      rw [change_no (by rw [hy]; decide), hy]
      have HC := Lib.hid (find_none (hin.below hb0) s hn hw)
      clear hin hS hF hq hw hb0
      go_enter Tryz.func81, Tryz.ntmps81
      go_wp2_with fail
      refine HC0.out.mono ?_
      rintro e w1 ⟨rfl, rfl⟩
      go_wp2_with fail
      refine HC.out.mono ?_
      rintro e w2 ⟨rfl, hb⟩
      have HB := Lib.hid hb
      clear hb
      go_wp2
      go_ret
      exact ⟨rfl, HS.out _ (below_then HB0.out HB.out)⟩
    | some n =>
      have hsz := named_size hn
      have hsz2 := named_size hn2
      have hy := why_fine (d := d) (kind := 3) (to := strL t) (b := b) (by decide) hn (fun _ => hn2) hw
      have HC := Lib.hid (find_some (hin.below hb0) s n hn hw)
      have HE := Lib.hid (fun w2 hb => enter_change (w2 := w2) hin hS hF hq (.move (strL s) (strL t)) (by show (strL s).length ≤ 24 ∧ (strL t).length ≤ 24; rw [strL_length, strL_length]; omega) hy (fun hp => apply_move hp) hb)
      have e1 : entOf (live d) (.move (strL s) (strL t)) = (strL s, strL t, some n) := by simp [entOf, hw]
      rw [e1] at HE
      simp only [fileV, ptrV, txt_strL] at HE
      clear hin hS hF hq hw hsz hsz2 hy e1 hb0
      go_enter Tryz.func81, Tryz.ntmps81
      go_wp2_with fail
      refine HC0.out.mono ?_
      rintro e w1 ⟨rfl, rfl⟩
      go_wp2_with fail
      refine HC.out.mono ?_
      rintro e w2 ⟨rfl, hb⟩
      have HB := Lib.hid hb
      clear hb
      go_wp2_with fail
      refine (HE.out _ (below_then HB0.out HB.out)).mono ?_
      rintro e w3 ⟨rfl, h2⟩
      have H2 := Lib.hid h2
      clear h2
      go_wp2
      go_ret
      exact ⟨rfl, H2.out⟩
end
end Go.Proofs.YtmgolnlkepiocaaGreat.Dk

namespace Go.Proofs.YtmgolnlkepiocaaGreat.Dk
open Go.RowKit Go.Maps
set_option linter.unusedVariables false

section
variable {S : Nat → Prop} {w : World} {X dm bm : Nat} {wv : Value} {fb : Nat → Nat} {vb : Nat → Value} {d : Dsk}
theorem apply_sync {name to b : List UInt8} {n : Nat} (hp : (power d).2 = 0) (hw : whose (live d) name = some n) : applyD (power d).1 5 name to b = { (power d).1 with files := d.files.set n ⟨(d.files.getD n fil0).b, (d.files.getD n fil0).b.length⟩ } := by
  obtain ⟨_, _, _, _, p5, p6, p7, _⟩ := power_ok hp
  have hl : live (power d).1 = live d := by unfold live; rw [p6, p7]
  unfold applyD
  dsimp only
  rw [if_neg (by decide), if_neg (by decide), if_neg (by decide), if_neg (by decide), if_pos rfl, hl, hw, p5]
  rfl
theorem apply_dir {name to b : List UInt8} (hp : (power d).2 = 0) : applyD (power d).1 6 name to b = { (power d).1 with base := live d, wait := [] } := by
  obtain ⟨_, _, _, _, p5, p6, p7, _⟩ := power_ok hp
  have hl : live (power d).1 = live d := by unfold live; rw [p6, p7]
  unfold applyD
  dsimp only
  rw [if_neg (by decide), if_neg (by decide), if_neg (by decide), if_neg (by decide), if_neg (by decide), hl]
theorem sync_do (hin : DiskIn w X dm bm wv fb vb d) (hS : ∀ k, Foot X dm bm wv fb vb d.files.length k → S k) (hF : Fine d) (hq : Few d) {n : Nat} (hn : n < d.files.length) {name to b : List UInt8} (hy : whyNot d 5 name to b = 0) (hw : whose (live d) name = some n) {w2 : World} (hb : Below w.heap.size w w2) :
    Calls Tryz.prog 60 #[.pointer (some ⟨X, 0, none⟩), .func (.func 67) #[.pointer (some ⟨fb n, 0, none⟩)] #[]] w2 fun e w' => e = .returned (.int .i64 (change d 5 name to b).2) ∧ After S w X (change d 5 name to b).1 w' := by
  have hin2 := hin.below hb
  by_cases hp : (power d).2 = 0
  · rw [change_ok hy hp, apply_sync hp hw]
    refine do_ok_sync hin2.row hp hF.left hq.left (by have := hq.count; omega) (fb n) (fun w' => After S w X { (power d).1 with files := d.files.set n ⟨(d.files.getD n fil0).b, (d.files.getD n fil0).b.length⟩ } w') fun w1 hX1 hK1 hs1 => ?_
    obtain ⟨a1, a2, a3, a4, a5, a6⟩ := hin2.apart
    obtain ⟨b1, b2, b3, b4, b5, b6, b7, b8, b9⟩ := a6 n hn
    have hrow := row_move (hin2.file n hn) (hK1.block _ (hin2.file n hn).lt b1)
    obtain ⟨B, c, hv, _, _⟩ := own_slice' (hin2.byts n hn)
    have hrow' := hrow
    rw [hv] at hrow'
    refine (fsettle_prog hrow').mono ?_
    rintro e w3 ⟨rfl, rfl⟩
    refine ⟨rfl, ?_⟩
    have K : Kept (fun k => k = X ∨ k = fb n ∨ (vb n).ownBlock = some k) w2 (w1.setCell ⟨fb n, 1, none⟩ (.int .i64 (d.files.getD n fil0).b.length)) := (hK1.mono fun k hk => Or.inl hk).set (p := ⟨fb n, 1, none⟩) (.inl (.inr (.inl rfl))) _
    have hown1 : Own w1 0 (vb n) (d.files.getD n fil0).b := own_move (hin2.byts n hn) fun k hk => hK1.block k (World.ownsRow.lt (hin2.byts n hn) k hk).2 (by rintro rfl; exact b5 hk)
    have hfin := hin2.filed hn (v' := vb n) (f' := ⟨(d.files.getD n fil0).b, (d.files.getD n fil0).b.length⟩) (d' := { (power d).1 with files := d.files.set n ⟨(d.files.getD n fil0).b, (d.files.getD n fil0).b.length⟩ })
      (hX1.setFar (p := ⟨fb n, 1, none⟩) (Ne.symm b1) _) (power_ok hp).2.2.2.2.2.1 (power_ok hp).2.2.2.2.2.2.1 rfl (hrow.setAt 1 _) (own_setFar hown1 (b9 n hn) _) K (fun k hk => .inl hk)
    exact after_back hb (after_filed hin2 hS hn hfin rfl K fun k hk => .inl hk)
  · rw [change_dark hy hp]
    refine (do_no hin2.row hp _).mono ?_
    rintro e w' ⟨he, k1, k2⟩
    exact ⟨he, after_back hb (after_dark hin2 hS hp k1 k2)⟩
theorem dir_do (hin : DiskIn w X dm bm wv fb vb d) (hS : ∀ k, Foot X dm bm wv fb vb d.files.length k → S k) (hF : Fine d) (hq : Few d) (name to b : List UInt8) :
    Calls Tryz.prog 60 #[.pointer (some ⟨X, 0, none⟩), .func (.func 40) #[.pointer (some ⟨X, 0, none⟩)] #[]] w fun e w' => e = .returned (.int .i64 (change d 6 name to b).2) ∧ After S w X (change d 6 name to b).1 w' := by
  have hy := why_sync_dir (d := d) name to b
  by_cases hp : (power d).2 = 0
  · rw [change_ok hy hp, apply_dir hp]
    refine do_ok_settle hin.row hp hF.left hq.left (by have := hq.count; omega) X (fun w' => After S w X { (power d).1 with base := live d, wait := [] } w') fun w1 hX1 hK1 hs1 => ?_
    obtain ⟨a1, a2, a3, a4, a5, a6⟩ := hin.apart
    have hd1 := hin.dir.block (hK1.block dm hin.dir.lt (Ne.symm a1))
    refine (settle_prog hX1 hd1).mono ?_
    rintro e w3 ⟨rfl, k1, k2, k3, k4⟩
    refine ⟨rfl, ?_⟩
    have K : Kept (fun k => k = X) w w3 := hK1.trans k4 fun i hi => .inl hi
    have hfs := hin.filesIn.move (w' := w3) fun k hk => K.block k (hin.filesIn.lt k hk) (by
      rintro rfl
      obtain ⟨i, hi, e | e⟩ := hk
      · exact (a6 i hi).1 e.symm
      · exact (a6 i hi).2.2.2.2.1 e)
    have hpf := (power_ok hp).2.2.2.2.1
    refine ⟨⟨dm, w1.heap.size, .slice none 0 0, fb, vb, ⟨k1, k2, k3, ?_, ⟨rfl, .inl ⟨rfl, rfl⟩⟩, ?_, ?_, ?_, ?_⟩, ?_⟩, K.mono fun k hk => hS k (.inl hk)⟩
    · have := hin.dir.lt
      omega
    · show ∀ i, i < (power d).1.files.length → _
      rw [hpf]
      exact hfs.file
    · show ∀ i, i < (power d).1.files.length → _
      rw [hpf]
      exact hfs.byts
    · show ∀ i j, i < (power d).1.files.length → j < (power d).1.files.length → _
      rw [hpf]
      exact hfs.fbs
    · show ∀ i j, i < (power d).1.files.length → j < (power d).1.files.length → _
      rw [hpf]
      exact hfs.vbs
    · show ∀ k, Foot X dm w1.heap.size (.slice none 0 0) fb vb (power d).1.files.length k → _
      rw [hpf]
      rintro k (e | e | e | e | e)
      · exact .inl (hS k (.inl e))
      · exact .inl (hS k (.inr (.inl e)))
      · exact .inr (by omega)
      · simp [Value.ownBlock] at e
      · exact .inl (hS k (.inr (.inr (.inr (.inr e)))))
  · rw [change_dark hy hp]
    refine (do_no hin.row hp _).mono ?_
    rintro e w' ⟨he, k1, k2⟩
    exact ⟨he, after_dark hin hS hp k1 k2⟩
end
section
variable {S : Nat → Prop} {w : World} {X : Nat} {d : Dsk}
set_option maxRecDepth 20000 in
theorem sync_prog (h : DiskAt S w X d) (hF : Fine d) (hq : Few d) (s : ByteArray) (to b : List UInt8) (hm : s.size ≤ 281474976710656) :
    Calls Tryz.prog 35 #[.pointer (some ⟨X, 0, none⟩), .string s] w fun e w' => e = .returned (.int .i64 (change d 5 (strL s) to b).2) ∧ After S w X (change d 5 (strL s) to b).1 w' := by
  have HS := Lib.hid (fun w' => after_same (w' := w') h)
  obtain ⟨dm, bm, wv, fb, vb, hin, hS⟩ := h
  have hmf : ∀ (fn : Fn) (first cap : Array Value) (w : World), (Instr.makeFunc fn first cap).run Tryz.prog w = .ok (.func fn first cap) w := fun _ _ _ _ => rfl
  cases hn : namedB (strL s)
  · have hw := why_bad (d := d) (kind := 5) (to := to) (b := b) (by decide) hn
    rw [change_no (by rw [hw]; decide), hw]
    have HC := Lib.hid (find_bad hin s hm hn)
    clear hin hS hF hq
    go_enter Tryz.func35, Tryz.ntmps35
    go_wp2_with fail
    refine HC.out.mono ?_
    rintro e w1 ⟨rfl, hb⟩
    have HB := Lib.hid hb
    clear hb
    go_wp2
    go_ret
    exact ⟨rfl, HS.out _ HB.out⟩
  · cases hw : whose (live d) (strL s) with
    | none =>
      have hy := why_none (d := d) (kind := 5) (to := to) (b := b) (by decide) hn (fun e => absurd e (by decide)) hw
      rw [change_no (by rw [hy]; decide), hy]
      have HC := Lib.hid (find_none hin s hn hw)
      clear hin hS hF hq hw
      go_enter Tryz.func35, Tryz.ntmps35
      go_wp2_with fail
      refine HC.out.mono ?_
      rintro e w1 ⟨rfl, hb⟩
      have HB := Lib.hid hb
      clear hb
      go_wp2
      go_ret
      exact ⟨rfl, HS.out _ HB.out⟩
    | some n =>
      have hy := why_fine (d := d) (kind := 5) (to := to) (b := b) (by decide) hn (fun e => absurd e (by decide)) hw
      have hnl := (hF.live_in _ ((whose_some hF.live_rises).1 hw)).1
      have HC := Lib.hid (find_some hin s n hn hw)
      have HE := Lib.hid (fun w2 hb => sync_do (w2 := w2) hin hS hF hq hnl hy hw hb)
      clear hin hS hF hq hw hy hnl
      go_enter Tryz.func35, Tryz.ntmps35
      go_wp2_with fail
      refine HC.out.mono ?_
      rintro e w1 ⟨rfl, hb⟩
      have HB := Lib.hid hb
      clear hb
      go_wp2_with fail
      refine (HE.out _ HB.out).mono ?_
      rintro e w2 ⟨rfl, h2⟩
      have H2 := Lib.hid h2
      clear h2
      go_wp2
      go_ret
      exact ⟨rfl, H2.out⟩
set_option maxRecDepth 20000 in
theorem syncdir_prog (h : DiskAt S w X d) (hF : Fine d) (hq : Few d) (name to b : List UInt8) :
    Calls Tryz.prog 74 #[.pointer (some ⟨X, 0, none⟩)] w fun e w' => e = .returned (.int .i64 (change d 6 name to b).2) ∧ After S w X (change d 6 name to b).1 w' := by
  obtain ⟨dm, bm, wv, fb, vb, hin, hS⟩ := h
  have hmf : ∀ (fn : Fn) (first cap : Array Value) (w : World), (Instr.makeFunc fn first cap).run Tryz.prog w = .ok (.func fn first cap) w := fun _ _ _ _ => rfl
  have HE := Lib.hid (dir_do hin hS hF hq name to b)
  clear hin hS hF hq
  go_enter Tryz.func74, Tryz.ntmps74
  go_wp2_with fail
  refine HE.out.mono ?_
  rintro e w2 ⟨rfl, h2⟩
  have H2 := Lib.hid h2
  clear h2
  go_wp2
  go_ret
  exact ⟨rfl, H2.out⟩
end
end Go.Proofs.YtmgolnlkepiocaaGreat.Dk

namespace Go.Proofs.YtmgolnlkepiocaaGreat.Dk
open Go.RowKit Go.Maps
set_option linter.unusedVariables false

/-! ### the step of a range over a directory -/
def ptrM : Option Nat → Value
  | none => .pointer none
  | some g => .pointer (some ⟨g, 0, none⟩)
section
variable (w : World) {ops : Array Oper} {rest : List Oper} {o : Oper} {a : Act} {Q : Exit → Act → World → Prop}
theorem wp_next_dir (hg : o.guard = none) (it : Operand) (hop : o.op = Op.next it false) (fb : Nat → Nat) (b r n : Nat) (l : List Ent) (hr : Rises l) (left : Lit → Bool) (cnt : Nat) (hit : a.eval it = .pointer (some ⟨r, 0, none⟩)) (h : w.ranges Tryz.prog 9 ptrR b r n (dirD fb l) left cnt)
    (hDone : (∀ kl, left kl = false) → wpList Tryz.prog ops Q rest (a.put o.dst (.tuple #[.bool false])) w)
    (hMore : ∀ (x : Ent) (w' : World) (cnt' : Nat), x ∈ l → left (.string x.name) = true → w'.ranges Tryz.prog 9 ptrR b r n (dirD fb l) (fun z => left z && !z.sameKey (.string x.name)) cnt' → cnt' < cnt → w.grownBy w' (some r) → w'.heap.size = w.heap.size →
      (Instr.entry (.pointer (some ⟨r, 0, none⟩))).run Tryz.prog w' = .ok (.tuple #[.string (txt x.name), .pointer (some ⟨fb x.file, 0, none⟩)]) w' → wpList Tryz.prog ops Q rest (a.put o.dst (.tuple #[.bool true, .string (txt x.name), .pointer (some ⟨fb x.file, 0, none⟩)])) w') :
    wpList Tryz.prog ops Q (o :: rest) a w := by
  refine wpList_next_ranges w hg it hop 9 keyed ptrR Go.Proofs.encStr ptrM (fun key kl hk => by obtain ⟨x, hx, _⟩ := Maps.keyOf_str Tryz.underlying9 hk; exact ⟨x, hx⟩)
    (fun v y hv => by
      unfold ptrR at hv
      split at hv
      · exact ⟨none, rfl⟩
      · rename_i g
        exact ⟨some g, rfl⟩
      · cases hv) b r n (dirD fb l) left cnt hit h (fun _ hl => hDone hl) ?_
  intro x c kl y w' cnt' hkey hlk hv hat hrg hlt hgr hsz hen
  obtain ⟨x', ex, rfl, _⟩ := Maps.keyOf_str Tryz.underlying9 hkey
  obtain rfl : x = x' := encStr_inj ex
  have h1 := hat .nil
  have h2 := hat (.lit (.bool true))
  rw [dirD_at] at h1 h2
  cases hw : whose l x with
  | none =>
    rw [hw] at h1 h2
    simp only at h1 h2
    rw [← h1] at h2
    cases h2
  | some f =>
    rw [hw] at h1
    simp only at h1
    have hc : c = some (fb f) := by
      have hy : y = (ptrD (fb f), y.2) := Prod.ext h1.symm rfl
      rw [hy] at hv
      have hp := ptrR_inv hv
      cases c with
      | none => simp [ptrM, ptrV] at hp
      | some g =>
        simp only [ptrM, ptrV, Value.pointer.injEq, Option.some.injEq, Addr.mk.injEq] at hp
        rw [hp.1]
    subst hc
    exact hMore ⟨x, f⟩ w' cnt' ((whose_some hr).1 hw) hlk hrg hlt hgr hsz hen
end

/-! ### the sum of what is still to come -/
def restOf (len : Ent → Nat) (l : List Ent) (left : Lit → Bool) : Nat := ((l.filter fun x => left (.string x.name)).map len).sum
theorem rest_start (len : Ent → Nat) (fb : Nat → Nat) (l : List Ent) : restOf len l (Maps.has (dirD fb l)) = (l.map len).sum := by
  unfold restOf
  rw [List.filter_eq_self.2]
  intro x hx
  show (l.map (entD fb)).any (fun p => p.1.sameKey (.string x.name)) = true
  rw [List.any_map, List.any_eq_true]
  exact ⟨x, hx, by show (Lit.string x.name).sameKey (.string x.name) = true; rw [same_name]; simp⟩
theorem rest_end (len : Ent → Nat) (l : List Ent) {left : Lit → Bool} (h : ∀ kl, left kl = false) : restOf len l left = 0 := by
  unfold restOf
  rw [List.filter_eq_nil_iff.2]
  · rfl
  · intro x _
    rw [h]
    decide
theorem rest_step (len : Ent → Nat) : ∀ (l : List Ent) (left : Lit → Bool) (x : Ent), Rises l → x ∈ l → left (.string x.name) = true → restOf len l left = len x + restOf len l (fun z => left z && !z.sameKey (.string x.name)) := by
  intro l
  induction l with
  | nil => intro left x _ hx; cases hx
  | cons y r ih =>
    intro left x hr hx hl
    obtain ⟨h1, h2⟩ := rises_cons hr
    unfold restOf at ih ⊢
    rcases List.mem_cons.1 hx with rfl | hx
    · have e : r.filter (fun z => (left (.string z.name) && !(Lit.string z.name).sameKey (.string x.name))) = r.filter (fun z => left (.string z.name)) := by
        apply List.filter_congr
        intro z hz
        rw [same_name, decide_eq_false (Ne.symm (less_ne (h1 z hz)))]
        simp
      rw [List.filter_cons_of_pos (by simpa using hl), List.filter_cons_of_neg (by show ¬ (left (.string x.name) && !(Lit.string x.name).sameKey (.string x.name)) = true; rw [same_name]; simp), e, List.map_cons, List.sum_cons]
    · have hi := ih left x h2 hx hl
      have hne : y.name ≠ x.name := less_ne (h1 x hx)
      by_cases hy : left (.string y.name) = true
      · rw [List.filter_cons_of_pos (by simpa using hy), List.filter_cons_of_pos (by show (left (.string y.name) && !(Lit.string y.name).sameKey (.string x.name)) = true; rw [same_name, decide_eq_false hne, hy]; rfl), List.map_cons, List.sum_cons, List.map_cons, List.sum_cons, hi]
        omega
      · rw [List.filter_cons_of_neg (by simpa using hy), List.filter_cons_of_neg (by simp [hy]), hi]

theorem size_prog {w : World} {fb : Nat → Nat} {vb : Nat → Value} {b : Nat} {l : List Ent} {fs : List Fil} (h : DirAt w fb b l) (hr : Rises l) (hf : FilesIn w fb vb fs) (hin : ∀ x ∈ l, x.file < fs.length) (hsum : (l.map fun x => (fs.getD x.file fil0).b.length).sum ≤ 1099511627776) :
    Calls Tryz.prog 59 #[.map (some b)] w fun e w' => e = .returned (.int .i64 ((l.map fun x => (fs.getD x.file fil0).b.length).sum : Nat)) ∧ Below w.heap.size w w' := by
  generalize hlen : (fun x : Ent => (fs.getD x.file fil0).b.length) = len at *
  have HR := Lib.hid hr
  have HF := Lib.hid (show ∀ (wr : World), Below w.heap.size w wr → ∀ x ∈ l, ∃ B c s, Row wr (fb x.file) 131 #[.slice B (len x) c, .int .i64 s] by
    intro wr hb x hx
    have hi := hin x hx
    obtain ⟨B, c, hv, _, _⟩ := own_slice' (hf.byts x.file hi)
    have hrow := row_move (hf.file x.file hi) (hb.block _ (hf.file x.file hi).lt)
    rw [hv] at hrow
    rw [← hlen]
    exact ⟨B, c, _, hrow⟩)
  have HS := Lib.hid (rest_start len fb l)
  have HO : Hid (w.ownsMap Tryz.prog 9 ptrR b l.length (dirD fb l)) := Lib.hid h
  have HT := Lib.hid hsum
  clear h hr hf hin hlen hsum
  go_enter Tryz.func59, Tryz.ntmps59
  go_wp2_with (at_range; refine wpList_range_own _ rfl _ 67 rfl 9 98 keyed Tryz.underlying67 ptrR b l.length (dirD fb l) rfl HO.out ?_; intro w0 hrg0 hg0 hs0; have HB0 := Lib.hid (Below.grown (Below.refl w.heap.size w) hg0 (Nat.le_refl _) (fun k e => by cases e)); have HRG0 := Lib.hid hrg0; clear hrg0 hg0 hs0)
  go_frame
  go_loopw [3] (fun s wr => ∃ left cnt acc, s = .int .i64 (acc : Nat) ∧ wr.ranges Tryz.prog 9 ptrR b w.heap.size l.length (dirD fb l) left cnt ∧ acc + restOf len l left = (l.map len).sum ∧ Below w.heap.size w wr) (fun _ wr => wr.rangeLeft b w.heap.size)
  case atStart => exact ⟨_, _, 0, rfl, HRG0.out, by rw [HS.out]; omega, HB0.out⟩
  case round =>
    obtain ⟨left, cnt, acc, rfl, hrg, hacc, hb⟩ := hrel
    have HRG := Lib.hid hrg
    have HA := Lib.hid hacc
    have HB := Lib.hid hb
    clear hrg hacc hb
    go_wp2_with (at_next; refine wp_next_dir _ rfl _ rfl fb b w.heap.size l.length l HR.out _ _ rfl HRG.out ?_ ?_)
    · intro hl
      have HE := Lib.hid (rest_end len l hl)
      clear hl
      go_wp2
      go_ret
      exact ⟨ret_i (by have h1 := HA.out; have h2 := HE.out; omega), HB.out⟩
    · intro x w1 cnt1 hx hlx hrg1 hlt hg1 hs1 hen
      have hB1 := Below.grown HB.out hg1 HB.out.size (fun k e => by cases e; exact Nat.le_refl _)
      obtain ⟨B, c, s0, hrow⟩ := HF.out w1 hB1 x hx
      have c0 : w1.cell? ⟨fb x.file, 0, none⟩ = some (.slice B (len x) c) := (hrow.cell 0).trans rfl
      have HST := Lib.hid (rest_step len l left x HR.out hx hlx)
      have hacc2 : acc + len x ≤ 1099511627776 := by
        have h1 := HA.out
        have h2 := HST.out
        have h3 := HT.out
        omega
      have hlx0 : len x ≤ 1099511627776 := by omega
      have HRG1 := Lib.hid hrg1
      have HB1 := Lib.hid hB1
      clear hrg1 hB1 hx hlx hg1 hs1 hrow
      go_wp2
      go_roundw
      case rel => exact ⟨_, _, acc + len x, by go_num, HRG1.out, by have h1 := HA.out; have h2 := HST.out; omega, HB1.out⟩
      case measure => rw [HRG1.out.left_eq, HRG.out.left_eq]; exact hlt
end Go.Proofs.YtmgolnlkepiocaaGreat.Dk

namespace Go.Proofs.YtmgolnlkepiocaaGreat.Dk
open Go.RowKit Go.Maps
set_option linter.unusedVariables false

theorem bys_not_disk {w : World} {X dm bm : Nat} {wv : Value} {d : Dsk} {A : Option Addr} {l : List UInt8} (hA : Bys w A l) (hX : Row w X 70 (diskC d dm bm wv)) (hwv : ∀ x, wv ≠ .int .u8 x) : l = [] ∨ ∀ ad, A = some ad → ad.block ≠ X := by
  rcases hA with rfl | ⟨b, o, rfl, hb, hc⟩
  · exact .inl rfl
  · by_cases hl : l = []
    · exact .inl hl
    · refine .inr ?_
      rintro ad e
      injection e with e
      subst e
      show b ≠ X
      rintro rfl
      have h0 := hc 0 (by cases l; exact absurd rfl hl; simp)
      rw [hX.cell] at h0
      unfold diskC at h0
      rcases o with _ | _ | _ | _ | _ | _ | _ | o <;> simp at h0
      exact hwv _ h0
theorem bys_move {w w' : World} {A : Option Addr} {l : List UInt8} (hA : Bys w A l) (hs : w.heap.size ≤ w'.heap.size) (hb : l = [] ∨ ∀ ad, A = some ad → w'.heap[ad.block]? = w.heap[ad.block]?) : Bys w' A l := by
  rcases hA with rfl | ⟨b, o, rfl, hlt, hc⟩
  · exact .inl rfl
  · rcases hb with rfl | hb
    · exact .inl rfl
    · exact .inr ⟨b, o, rfl, by omega, fun i hi => (World.cell?_of_block (w := w) (a := ⟨b, o + i, none⟩) (hb ⟨b, o, none⟩ rfl)).trans (hc i hi)⟩
section
variable {S : Nat → Prop} {w : World} {X dm bm : Nat} {wv : Value} {fb : Nat → Nat} {vb : Nat → Value} {d : Dsk}
theorem rows_value {w : World} {base e size n : Nat} {v : Value} {xs : List Value} (h : w.ownsRow base e size v n xs) : ∀ x, v ≠ .int .u8 x := by
  rcases h.2 with ⟨rfl, _⟩ | ⟨g, cap, cur, rfl, _⟩ <;> intro x e <;> cases e
theorem apply_append {name to b : List UInt8} {n : Nat} (hp : (power d).2 = 0) (hw : whose (live d) name = some n) : applyD (power d).1 2 name to b = { (power d).1 with files := d.files.set n ⟨(d.files.getD n fil0).b ++ b, (d.files.getD n fil0).sure⟩ } := by
  obtain ⟨_, _, _, _, p5, p6, p7, _⟩ := power_ok hp
  have hl : live (power d).1 = live d := by unfold live; rw [p6, p7]
  unfold applyD
  dsimp only
  rw [if_neg (by decide), if_pos rfl, hl, hw, p5]
  rfl
theorem why_append_full {s to b : List UInt8} {n : Nat} (h : namedB s = true) (hw : whose (live d) s = some n) (hr : d.room < total d + b.length) : whyNot d 2 s to b = 7 := by
  unfold whyNot
  rw [if_neg (by simp [h]), if_neg (by simp), if_neg (by simp), if_neg (by simp [hw]), if_pos ⟨rfl, hr⟩]
theorem why_append_fine {s to b : List UInt8} {n : Nat} (h : namedB s = true) (hw : whose (live d) s = some n) (hr : ¬ d.room < total d + b.length) : whyNot d 2 s to b = 0 := by
  unfold whyNot
  rw [if_neg (by simp [h]), if_neg (by simp), if_neg (by simp), if_neg (by simp [hw]), if_neg (fun e => hr e.2)]

theorem append_change (hin : DiskIn w X dm bm wv fb vb d) (hS : ∀ k, Foot X dm bm wv fb vb d.files.length k → S k) (hF : Fine d) (hq : Few d) {n : Nat} (hn : n < d.files.length) {name to l : List UInt8} (hy : whyNot d 2 name to l = 0) (hw : whose (live d) name = some n) {w2 : World} (hb : Below w.heap.size w w2)
    {b1 b2 c : Nat} {A : Option Addr} (hb1 : Row w2 b1 98 #[.pointer (some ⟨fb n, 0, none⟩)]) (hb2 : Row w2 b2 48 #[.slice A l.length c]) (hA : Bys w2 A l) (hl : l.length ≤ 140737488355328) :
    Calls Tryz.prog 60 #[.pointer (some ⟨X, 0, none⟩), .func (.func 61) #[] #[.pointer (some ⟨b1, 0, none⟩), .pointer (some ⟨b2, 0, none⟩)]] w2 fun e w' => e = .returned (.int .i64 (change d 2 name to l).2) ∧ After S w X (change d 2 name to l).1 w' := by
  have hin2 := hin.below hb
  by_cases hp : (power d).2 = 0
  · rw [change_ok hy hp, apply_append hp hw]
    refine do_ok_append hin2.row hp hF.left hq.left (by have := hq.count; omega) b1 b2 (fun w' => After S w X { (power d).1 with files := d.files.set n ⟨(d.files.getD n fil0).b ++ l, (d.files.getD n fil0).sure⟩ } w') fun w1 hX1 hK1 hs1 => ?_
    obtain ⟨a1, a2, a3, a4, a5, a6⟩ := hin2.apart
    obtain ⟨c1, c2, c3, c4, c5, c6, c7, c8, c9⟩ := a6 n hn
    have hrow := row_move (hin2.file n hn) (hK1.block _ (hin2.file n hn).lt c1)
    have hown1 : Own w1 0 (vb n) (d.files.getD n fil0).b := own_move (hin2.byts n hn) fun k hk => hK1.block k (World.ownsRow.lt (hin2.byts n hn) k hk).2 (by rintro rfl; exact c5 hk)
    have hr1 := row_move hb1 (hK1.block _ hb1.lt (row_ne hb1 hin2.row (by decide)))
    have hr2 := row_move hb2 (hK1.block _ hb2.lt (row_ne hb2 hin2.row (by decide)))
    have hA1 : Bys w1 A l := by
      have hnd := bys_not_disk hA hin2.row (rows_value hin2.wait)
      by_cases hl0 : l = []
      · exact .inl hl0
      refine bys_move hA hK1.size (hnd.imp id fun h ad e => hK1.block _ ?_ (h ad e))
      rcases hA with hl1 | ⟨b, o, rfl, hlt, _⟩
      · exact absurd hl1 hl0
      · injection e with e
        subst e
        exact hlt
    have hsm := hF.small n
    have hrm := hF.room
    refine (append_do hr1 hr2 hrow hown1 hA1 (by omega)).mono ?_
    rintro e w3 ⟨rfl, v', k1, k2, k3, k4⟩
    refine ⟨rfl, ?_⟩
    have K : Kept (fun k => k = X ∨ k = fb n ∨ (vb n).ownBlock = some k) w2 w3 := (hK1.mono fun k hk => (Or.inl hk : k = X ∨ k = fb n ∨ (vb n).ownBlock = some k)).trans k3 fun i hi => .inl (.inr hi)
    have hv : ∀ k, v'.ownBlock = some k → (vb n).ownBlock = some k ∨ w2.heap.size ≤ k := by
      intro k hk
      rcases k4 with e | e
      · exact .inl (by rw [← e]; exact hk)
      · rw [e] at hk
        injection hk with hk
        exact .inr (by omega)
    have hXk : Row w3 X 70 (diskC (power d).1 dm bm wv) := row_move hX1 (k3.block X hX1.lt (by rintro (e | e); exact c1 e.symm; exact c5 e))
    have hfin := hin2.filed hn (v' := v') (f' := ⟨(d.files.getD n fil0).b ++ l, (d.files.getD n fil0).sure⟩) (d' := { (power d).1 with files := d.files.set n ⟨(d.files.getD n fil0).b ++ l, (d.files.getD n fil0).sure⟩ })
      hXk (power_ok hp).2.2.2.2.2.1 (power_ok hp).2.2.2.2.2.2.1 rfl k1 k2 K hv
    exact after_back hb (after_filed hin2 hS hn hfin rfl K hv)
  · rw [change_dark hy hp]
    refine (do_no hin2.row hp _).mono ?_
    rintro e w' ⟨he, k1, k2⟩
    exact ⟨he, after_back hb (after_dark hin2 hS hp k1 k2)⟩
end
section
variable {S : Nat → Prop} {w : World} {X : Nat} {d : Dsk}
set_option maxRecDepth 20000 in
set_option maxHeartbeats 1000000 in
theorem append_prog (h : DiskAt S w X d) (hF : Fine d) (hq : Few d) (s : ByteArray) (to : List UInt8) (A : Option Addr) (l : List UInt8) (c : Nat) (hm : s.size ≤ 281474976710656) (hA : Bys w A l) (hl : l.length ≤ 281474976710656) :
    Calls Tryz.prog 27 #[.pointer (some ⟨X, 0, none⟩), .string s, .slice A l.length c] w fun e w' => e = .returned (.int .i64 (change d 2 (strL s) to l).2) ∧ After S w X (change d 2 (strL s) to l).1 w' := by
  have HS := Lib.hid (fun w' => after_same (w' := w') h)
  obtain ⟨dm, bm, wv, fb, vb, hin, hS⟩ := h
  have hb0 := below_one w (.cells #[.slice A l.length c] 48)
  have hin0 := hin.below hb0
  have HB0 := Lib.hid hb0
  have hbox := Row.new w 48 #[.slice A l.length c]
  have hmf : ∀ (fn : Fn) (first cap : Array Value) (w : World), (Instr.makeFunc fn first cap).run Tryz.prog w = .ok (.func fn first cap) w := fun _ _ _ _ => rfl
  cases hn : namedB (strL s)
  · have hw := why_bad (d := d) (kind := 2) (to := to) (b := l) (by decide) hn
    rw [change_no (by rw [hw]; decide), hw]
    have HC := Lib.hid (find_bad hin0 s hm hn)
    clear hin hS hF hq hin0 hb0 hbox
    go_enter Tryz.func27, Tryz.ntmps27
    go_wp2_with fail
    refine HC.out.mono ?_
    rintro e w1 ⟨rfl, hb⟩
    have HB := Lib.hid hb
    have HB2 := Lib.hid (below_one w1 (.cells #[.pointer none] 98))
    clear hb
    go_wp2
    go_ret
    exact ⟨rfl, HS.out _ (below_then (below_then HB0.out HB.out) HB2.out)⟩
  · cases hw : whose (live d) (strL s) with
    | none =>
      have hy := why_none (d := d) (kind := 2) (to := to) (b := l) (by decide) hn (fun e => absurd e (by decide)) hw
      rw [change_no (by rw [hy]; decide), hy]
      have HC := Lib.hid (find_none hin0 s hn hw)
      clear hin hS hF hq hin0 hb0 hbox hw
      go_enter Tryz.func27, Tryz.ntmps27
      go_wp2_with fail
      refine HC.out.mono ?_
      rintro e w1 ⟨rfl, hb⟩
      have HB := Lib.hid hb
      have HB2 := Lib.hid (below_one w1 (.cells #[.pointer none] 98))
      clear hb
      go_wp2
      go_ret
      exact ⟨rfl, HS.out _ (below_then (below_then HB0.out HB.out) HB2.out)⟩
    | some n =>
      have hnl := (hF.live_in _ ((whose_some hF.live_rises).1 hw)).1
      have HC := Lib.hid (find_some hin0 s n hn hw)
      have HSZ := Lib.hid (fun (x : World) (hb : Below w.heap.size w x) => size_prog (w := x.drew) (hin.below hb).dir hF.live_rises ((hin.below hb).filesIn.move fun _ _ => rfl) (fun x hx => (hF.live_in x hx).1) (by have := hF.total_le; show total d ≤ _; omega))
      rw [show ((live d).map fun x => (d.files.getD x.file fil0).b.length).sum = total d from rfl] at HSZ
      have hT := hF.total_le
      have hrm := hF.room
      have HIN := Lib.hid (fun (x : World) (hb : Below w.heap.size w x) => (hin.below hb).row)
      have HBX := Lib.hid (fun (x : World) (hb : Below (w.alloc (.cells #[.slice A l.length c] 48)).heap.size (w.alloc (.cells #[.slice A l.length c] 48)) x) => hbox.below hb (by simp))
      by_cases hfull : d.room < total d + l.length
      · have hy := why_append_full (d := d) (to := to) (b := l) hn hw hfull
        rw [change_no (by rw [hy]; decide), hy]
        generalize total d = T at *
        have hwr : IntKind.i64.wrap ((T : Int) + (l.length : Int)) = (T : Int) + (l.length : Int) := IntWalk.i64_in _ (by omega)
        have hq1 : decide ((d.room : Int) < (T : Int) + (l.length : Int)) = true := decide_eq_true (by omega)
        clear hin hS hF hq hin0 hb0 hbox hw hT hrm hfull hnl
        go_enter Tryz.func27, Tryz.ntmps27
        go_wp2_with fail
        refine HC.out.mono ?_
        rintro e w1 ⟨rfl, hb⟩
        go_wp2
        have hB1 := below_then (below_then HB0.out hb) (below_one w1 (.cells #[.pointer (some ⟨fb n, 0, none⟩)] 98))
        have hrX := HIN.out _ hB1
        have hrB := HBX.out _ (below_then hb (below_one w1 (.cells #[.pointer (some ⟨fb n, 0, none⟩)] 98)))
        generalize w1.alloc (.cells #[.pointer (some ⟨fb n, 0, none⟩)] 98) = x0 at *
        have x0c : x0.cell? ⟨X, 0, none⟩ = some (.int .i64 d.room) := (hrX.cell 0).trans rfl
        have x1c : x0.cell? ⟨X, 1, none⟩ = some (.map (some dm)) := (hrX.cell 1).trans rfl
        have xbc : x0.cell? ⟨w.heap.size, 0, none⟩ = some (.slice A l.length c) := (hrB.cell 0).trans rfl
        have lX := hrX.lt
        have lB := hrB.lt
        have HBB := Lib.hid hB1
        have HRX : Hid (Row x0.drew X 70 (diskC d dm bm wv)) := Lib.hid hrX
        have HRB : Hid (Row x0.drew w.heap.size 48 #[.slice A l.length c]) := Lib.hid hrB
        clear hB1 hrX hrB hb
        go_region_held3 (fun w' => w'.cell? ⟨X, 0, none⟩ = some (.int .i64 d.room) ∧ w'.cell? ⟨X, 1, none⟩ = some (.map (some dm)) ∧ w'.cell? ⟨w.heap.size, 0, none⟩ = some (.slice A l.length c))
          (first | exact y0 | exact y1 | exact y2 | go_keep)
          (first
            | (go_at_call 59
               refine (HSZ.out x0 HBB.out).mono ?_
               rintro e w2 ⟨rfl, hb2⟩
               have y0 : w2.cell? ⟨X, 0, none⟩ = some (.int .i64 d.room) := ((HRX.out.below hb2 lX).cell 0).trans rfl
               have y1 : w2.cell? ⟨X, 1, none⟩ = some (.map (some dm)) := ((HRX.out.below hb2 lX).cell 1).trans rfl
               have y2 : w2.cell? ⟨w.heap.size, 0, none⟩ = some (.slice A l.length c) := ((HRB.out.below hb2 lB).cell 0).trans rfl
               have HB2 := Lib.hid hb2
               clear hb2))
        all_goals
          go_wp2
          go_ret
          exact ⟨rfl, HS.out _ (below_then HBB.out.drew HB2.out)⟩
      · have hy := why_append_fine (d := d) (to := to) (b := l) hn hw hfull
        have HE := Lib.hid (fun (w2 : World) (hb : Below w.heap.size w w2) (b1 b2 : Nat) (hb1 : Row w2 b1 98 #[.pointer (some ⟨fb n, 0, none⟩)]) (hb2 : Row w2 b2 48 #[.slice A l.length c]) => append_change (to := to) hin hS hF hq hnl hy hw hb hb1 hb2 (hA.below hb) (by omega))
        generalize total d = T at *
        have hwr : IntKind.i64.wrap ((T : Int) + (l.length : Int)) = (T : Int) + (l.length : Int) := IntWalk.i64_in _ (by omega)
        have hq1 : decide ((d.room : Int) < (T : Int) + (l.length : Int)) = false := decide_eq_false (by omega)
        clear hin hS hF hq hin0 hb0 hbox hw hT hrm hfull hnl hy
        go_enter Tryz.func27, Tryz.ntmps27
        go_wp2_with fail
        refine HC.out.mono ?_
        rintro e w1 ⟨rfl, hb⟩
        go_wp2
        have hB1 := below_then (below_then HB0.out hb) (below_one w1 (.cells #[.pointer (some ⟨fb n, 0, none⟩)] 98))
        have hrX := HIN.out _ hB1
        have hrB := HBX.out _ (below_then hb (below_one w1 (.cells #[.pointer (some ⟨fb n, 0, none⟩)] 98)))
        have hrP := Row.new w1 98 #[.pointer (some ⟨fb n, 0, none⟩)]
        generalize w1.alloc (.cells #[.pointer (some ⟨fb n, 0, none⟩)] 98) = x0 at *
        generalize w1.heap.size = b1 at *
        have lP := hrP.lt
        have HRP : Hid (Row x0.drew b1 98 #[.pointer (some ⟨fb n, 0, none⟩)]) := Lib.hid hrP
        have x0c : x0.cell? ⟨X, 0, none⟩ = some (.int .i64 d.room) := (hrX.cell 0).trans rfl
        have x1c : x0.cell? ⟨X, 1, none⟩ = some (.map (some dm)) := (hrX.cell 1).trans rfl
        have xbc : x0.cell? ⟨w.heap.size, 0, none⟩ = some (.slice A l.length c) := (hrB.cell 0).trans rfl
        have lX := hrX.lt
        have lB := hrB.lt
        have HBB := Lib.hid hB1
        have HRX : Hid (Row x0.drew X 70 (diskC d dm bm wv)) := Lib.hid hrX
        have HRB : Hid (Row x0.drew w.heap.size 48 #[.slice A l.length c]) := Lib.hid hrB
        clear hB1 hrX hrB hb hrP
        go_region_held3 (fun w' => w'.cell? ⟨X, 0, none⟩ = some (.int .i64 d.room) ∧ w'.cell? ⟨X, 1, none⟩ = some (.map (some dm)) ∧ w'.cell? ⟨w.heap.size, 0, none⟩ = some (.slice A l.length c))
          (first | exact y0 | exact y1 | exact y2 | go_keep)
          (first
            | (go_at_call 59
               refine (HSZ.out x0 HBB.out).mono ?_
               rintro e w2 ⟨rfl, hb2⟩
               have y0 : w2.cell? ⟨X, 0, none⟩ = some (.int .i64 d.room) := ((HRX.out.below hb2 lX).cell 0).trans rfl
               have y1 : w2.cell? ⟨X, 1, none⟩ = some (.map (some dm)) := ((HRX.out.below hb2 lX).cell 1).trans rfl
               have y2 : w2.cell? ⟨w.heap.size, 0, none⟩ = some (.slice A l.length c) := ((HRB.out.below hb2 lB).cell 0).trans rfl
               have HB2 := Lib.hid hb2
               clear hb2))
        all_goals
          go_wp2_with fail
          refine (HE.out _ (below_then HBB.out.drew HB2.out) _ _ (HRP.out.below HB2.out lP) (HRB.out.below HB2.out lB)).mono ?_
          rintro e w3 ⟨rfl, h3⟩
          have H3 := Lib.hid h3
          clear h3
          go_wp2
          go_ret
          exact ⟨rfl, H3.out⟩
end
end Go.Proofs.YtmgolnlkepiocaaGreat.Dk
