/- A law's call of a disk: what it tells, and the disk behind. -/
import Derived.Test.YtiepepikbophmaaDkLives
import Derived.Test.YtiepepikbophmaaActs
namespace Go.Proofs.Ytiepepikbophmaa
open Go.RowKit Go.Maps
set_option linter.unusedVariables false

def actD (d : Dsk) (a : ActV) : Dsk :=
  if 1 ≤ a.kind ∧ a.kind ≤ 6 then (change d a.kind (strL a.name) (strL a.to) a.b).1
  else if a.kind = 8 then fuseD d a.n
  else if a.kind = 9 then crashD d a.n a.ks
  else d
def actE (d : Dsk) (a : ActV) : Int :=
  if 1 ≤ a.kind ∧ a.kind ≤ 6 then (change d a.kind (strL a.name) (strL a.to) a.b).2
  else if a.kind = 7 then (readD d (strL a.name)).2
  else 0
def actB (d : Dsk) (a : ActV) : List UInt8 := if a.kind = 7 then (readD d (strL a.name)).1 else []
theorem ok_act {N : Nat} {d : Dsk} (h : Ok N d) (a : ActV) (hn : a.n ≤ 9223372036854775807) : Ok (N + 1) (actD d a) := by
  unfold actD
  split
  · exact ok_change h _ _ _ _ ‹_›
  · split
    · exact (ok_fuse h _ hn).mono (by omega)
    · split
      · exact (ok_crash h _ _).mono (by omega)
      · exact h.mono (by omega)
theorem cells_agg {w : World} {g : Nat} {a : ActV} (h : Row w g 40 (actC a).toArray) :
    w.cell? ⟨g, 0, none⟩ = some (.int .i64 a.kind) ∧ w.cell? ⟨g, 1, none⟩ = some (.string a.name) ∧ w.cell? ⟨g, 2, none⟩ = some (.string a.to) ∧ w.cell? ⟨g, 3, none⟩ = some (.slice a.A a.b.length a.bc) ∧ w.cell? ⟨g, 4, none⟩ = some (.int .i64 a.n) ∧ w.cell? ⟨g, 5, none⟩ = some (.slice a.V a.ks.length a.kc) :=
  ⟨(h.cell 0).trans rfl, (h.cell 1).trans rfl, (h.cell 2).trans rfl, (h.cell 3).trans rfl, (h.cell 4).trans rfl, (h.cell 5).trans rfl⟩
/-- What is told of a call. -/
def Told (S : Nat → Prop) (w : World) (X : Nat) (d : Dsk) (a : ActV) (e : Ending) (w' : World) : Prop :=
  ∃ v, e = .returned (.tuple #[.int .i64 (actE d a), v]) ∧ Own w' w.heap.size v (actB d a) ∧ After S w X (actD d a) w'
section
variable {S : Nat → Prop} {w : World} {X : Nat} {d : Dsk} {N : Nat}

set_option maxRecDepth 20000 in
theorem do_1 (h : DiskAt S w X d) (hk : Ok N d) (hN : N ≤ 1000) (a : ActV) (ha : ActOk w a) (hkS : a.ks = [] ∨ ∀ ad, a.V = some ad → ¬ S ad.block) (hkd : a.kind = 1) :
    Calls Try.prog 14 #[.pointer (some ⟨X, 0, none⟩), .agg (actC a).toArray] w (Told S w X d a) := by
  have hb := below_one w (.cells (actC a).toArray 40)
  obtain ⟨c0, c1, c2, c3, c4, c5⟩ := cells_agg (Row.new w 40 (actC a).toArray)
  have h1 := h.below hb
  have ha1 := ha.below hb
  have hS := fun w' (q : Below w.heap.size w w') => after_same (w' := w') h q

  have HC := create_prog h1 hk.fine (hk.few hN) a.name (strL a.to) a.b (by have := ha.name; omega)
  have HT := Lib.hid (show ∀ w', After S (w.alloc (.cells (actC a).toArray 40)) X (change d 1 (strL a.name) (strL a.to) a.b).1 w' → Told S w X d a (.returned (.tuple #[.int .i64 (change d 1 (strL a.name) (strL a.to) a.b).2, .slice none 0 0])) w' by
    intro w' h2
    refine ⟨_, ?_, by unfold actB; rw [if_neg (by omega)]; exact own_nil _ _, ?_⟩
    · unfold actE
      rw [if_pos (by omega), hkd]
    · unfold actD
      rw [if_pos (by omega), hkd]
      exact after_back hb h2)
  obtain ⟨kind, name, to, A, b, bc, n, V, ks, kc⟩ := a
  simp only at hkd
  subst hkd
  have HC' := Lib.hid HC
  clear HC h h1 hk ha ha1 hkS hS hb
  simp only [actC] at *
  generalize change d 1 (strL name) (strL to) b = r at *
  go_enter Try.func14, Try.ntmps14
  go_wp2_with fail
  refine HC'.out.mono ?_
  rintro e w2 ⟨rfl, h2⟩
  have H2 := Lib.hid h2
  clear h2
  go_wp2
  go_ret2
  exact HT.out _ H2.out

set_option maxRecDepth 20000 in
theorem do_2 (h : DiskAt S w X d) (hk : Ok N d) (hN : N ≤ 1000) (a : ActV) (ha : ActOk w a) (hkS : a.ks = [] ∨ ∀ ad, a.V = some ad → ¬ S ad.block) (hkd : a.kind = 2) :
    Calls Try.prog 14 #[.pointer (some ⟨X, 0, none⟩), .agg (actC a).toArray] w (Told S w X d a) := by
  have hb := below_one w (.cells (actC a).toArray 40)
  obtain ⟨c0, c1, c2, c3, c4, c5⟩ := cells_agg (Row.new w 40 (actC a).toArray)
  have h1 := h.below hb
  have ha1 := ha.below hb
  have hS := fun w' (q : Below w.heap.size w w') => after_same (w' := w') h q

  have HC := append_prog h1 hk.fine (hk.few hN) a.name (strL a.to) a.A a.b a.bc (by have := ha.name; omega) ha1.b (by have := ha.bl; omega)
  have HT := Lib.hid (show ∀ w', After S (w.alloc (.cells (actC a).toArray 40)) X (change d 2 (strL a.name) (strL a.to) a.b).1 w' → Told S w X d a (.returned (.tuple #[.int .i64 (change d 2 (strL a.name) (strL a.to) a.b).2, .slice none 0 0])) w' by
    intro w' h2
    refine ⟨_, ?_, by unfold actB; rw [if_neg (by omega)]; exact own_nil _ _, ?_⟩
    · unfold actE
      rw [if_pos (by omega), hkd]
    · unfold actD
      rw [if_pos (by omega), hkd]
      exact after_back hb h2)
  obtain ⟨kind, name, to, A, b, bc, n, V, ks, kc⟩ := a
  simp only at hkd
  subst hkd
  have HC' := Lib.hid HC
  clear HC h h1 hk ha ha1 hkS hS hb
  simp only [actC] at *
  generalize change d 2 (strL name) (strL to) b = r at *
  go_enter Try.func14, Try.ntmps14
  go_wp2_with fail
  refine HC'.out.mono ?_
  rintro e w2 ⟨rfl, h2⟩
  have H2 := Lib.hid h2
  clear h2
  go_wp2
  go_ret2
  exact HT.out _ H2.out

set_option maxRecDepth 20000 in
theorem do_3 (h : DiskAt S w X d) (hk : Ok N d) (hN : N ≤ 1000) (a : ActV) (ha : ActOk w a) (hkS : a.ks = [] ∨ ∀ ad, a.V = some ad → ¬ S ad.block) (hkd : a.kind = 3) :
    Calls Try.prog 14 #[.pointer (some ⟨X, 0, none⟩), .agg (actC a).toArray] w (Told S w X d a) := by
  have hb := below_one w (.cells (actC a).toArray 40)
  obtain ⟨c0, c1, c2, c3, c4, c5⟩ := cells_agg (Row.new w 40 (actC a).toArray)
  have h1 := h.below hb
  have ha1 := ha.below hb
  have hS := fun w' (q : Below w.heap.size w w') => after_same (w' := w') h q

  have HC := rename_prog h1 hk.fine (hk.few hN) a.name a.to a.b (by have := ha.name; omega) (by have := ha.to; omega)
  have HT := Lib.hid (show ∀ w', After S (w.alloc (.cells (actC a).toArray 40)) X (change d 3 (strL a.name) (strL a.to) a.b).1 w' → Told S w X d a (.returned (.tuple #[.int .i64 (change d 3 (strL a.name) (strL a.to) a.b).2, .slice none 0 0])) w' by
    intro w' h2
    refine ⟨_, ?_, by unfold actB; rw [if_neg (by omega)]; exact own_nil _ _, ?_⟩
    · unfold actE
      rw [if_pos (by omega), hkd]
    · unfold actD
      rw [if_pos (by omega), hkd]
      exact after_back hb h2)
  obtain ⟨kind, name, to, A, b, bc, n, V, ks, kc⟩ := a
  simp only at hkd
  subst hkd
  have HC' := Lib.hid HC
  clear HC h h1 hk ha ha1 hkS hS hb
  simp only [actC] at *
  generalize change d 3 (strL name) (strL to) b = r at *
  go_enter Try.func14, Try.ntmps14
  go_wp2_with fail
  refine HC'.out.mono ?_
  rintro e w2 ⟨rfl, h2⟩
  have H2 := Lib.hid h2
  clear h2
  go_wp2
  go_ret2
  exact HT.out _ H2.out

set_option maxRecDepth 20000 in
theorem do_4 (h : DiskAt S w X d) (hk : Ok N d) (hN : N ≤ 1000) (a : ActV) (ha : ActOk w a) (hkS : a.ks = [] ∨ ∀ ad, a.V = some ad → ¬ S ad.block) (hkd : a.kind = 4) :
    Calls Try.prog 14 #[.pointer (some ⟨X, 0, none⟩), .agg (actC a).toArray] w (Told S w X d a) := by
  have hb := below_one w (.cells (actC a).toArray 40)
  obtain ⟨c0, c1, c2, c3, c4, c5⟩ := cells_agg (Row.new w 40 (actC a).toArray)
  have h1 := h.below hb
  have ha1 := ha.below hb
  have hS := fun w' (q : Below w.heap.size w w') => after_same (w' := w') h q

  have HC := remove_prog h1 hk.fine (hk.few hN) a.name (strL a.to) a.b (by have := ha.name; omega)
  have HT := Lib.hid (show ∀ w', After S (w.alloc (.cells (actC a).toArray 40)) X (change d 4 (strL a.name) (strL a.to) a.b).1 w' → Told S w X d a (.returned (.tuple #[.int .i64 (change d 4 (strL a.name) (strL a.to) a.b).2, .slice none 0 0])) w' by
    intro w' h2
    refine ⟨_, ?_, by unfold actB; rw [if_neg (by omega)]; exact own_nil _ _, ?_⟩
    · unfold actE
      rw [if_pos (by omega), hkd]
    · unfold actD
      rw [if_pos (by omega), hkd]
      exact after_back hb h2)
  obtain ⟨kind, name, to, A, b, bc, n, V, ks, kc⟩ := a
  simp only at hkd
  subst hkd
  have HC' := Lib.hid HC
  clear HC h h1 hk ha ha1 hkS hS hb
  simp only [actC] at *
  generalize change d 4 (strL name) (strL to) b = r at *
  go_enter Try.func14, Try.ntmps14
  go_wp2_with fail
  refine HC'.out.mono ?_
  rintro e w2 ⟨rfl, h2⟩
  have H2 := Lib.hid h2
  clear h2
  go_wp2
  go_ret2
  exact HT.out _ H2.out

set_option maxRecDepth 20000 in
theorem do_5 (h : DiskAt S w X d) (hk : Ok N d) (hN : N ≤ 1000) (a : ActV) (ha : ActOk w a) (hkS : a.ks = [] ∨ ∀ ad, a.V = some ad → ¬ S ad.block) (hkd : a.kind = 5) :
    Calls Try.prog 14 #[.pointer (some ⟨X, 0, none⟩), .agg (actC a).toArray] w (Told S w X d a) := by
  have hb := below_one w (.cells (actC a).toArray 40)
  obtain ⟨c0, c1, c2, c3, c4, c5⟩ := cells_agg (Row.new w 40 (actC a).toArray)
  have h1 := h.below hb
  have ha1 := ha.below hb
  have hS := fun w' (q : Below w.heap.size w w') => after_same (w' := w') h q

  have HC := sync_prog h1 hk.fine (hk.few hN) a.name (strL a.to) a.b (by have := ha.name; omega)
  have HT := Lib.hid (show ∀ w', After S (w.alloc (.cells (actC a).toArray 40)) X (change d 5 (strL a.name) (strL a.to) a.b).1 w' → Told S w X d a (.returned (.tuple #[.int .i64 (change d 5 (strL a.name) (strL a.to) a.b).2, .slice none 0 0])) w' by
    intro w' h2
    refine ⟨_, ?_, by unfold actB; rw [if_neg (by omega)]; exact own_nil _ _, ?_⟩
    · unfold actE
      rw [if_pos (by omega), hkd]
    · unfold actD
      rw [if_pos (by omega), hkd]
      exact after_back hb h2)
  obtain ⟨kind, name, to, A, b, bc, n, V, ks, kc⟩ := a
  simp only at hkd
  subst hkd
  have HC' := Lib.hid HC
  clear HC h h1 hk ha ha1 hkS hS hb
  simp only [actC] at *
  generalize change d 5 (strL name) (strL to) b = r at *
  go_enter Try.func14, Try.ntmps14
  go_wp2_with fail
  refine HC'.out.mono ?_
  rintro e w2 ⟨rfl, h2⟩
  have H2 := Lib.hid h2
  clear h2
  go_wp2
  go_ret2
  exact HT.out _ H2.out

set_option maxRecDepth 20000 in
theorem do_6 (h : DiskAt S w X d) (hk : Ok N d) (hN : N ≤ 1000) (a : ActV) (ha : ActOk w a) (hkS : a.ks = [] ∨ ∀ ad, a.V = some ad → ¬ S ad.block) (hkd : a.kind = 6) :
    Calls Try.prog 14 #[.pointer (some ⟨X, 0, none⟩), .agg (actC a).toArray] w (Told S w X d a) := by
  have hb := below_one w (.cells (actC a).toArray 40)
  obtain ⟨c0, c1, c2, c3, c4, c5⟩ := cells_agg (Row.new w 40 (actC a).toArray)
  have h1 := h.below hb
  have ha1 := ha.below hb
  have hS := fun w' (q : Below w.heap.size w w') => after_same (w' := w') h q

  have HC := syncdir_prog h1 hk.fine (hk.few hN) (strL a.name) (strL a.to) a.b
  have HT := Lib.hid (show ∀ w', After S (w.alloc (.cells (actC a).toArray 40)) X (change d 6 (strL a.name) (strL a.to) a.b).1 w' → Told S w X d a (.returned (.tuple #[.int .i64 (change d 6 (strL a.name) (strL a.to) a.b).2, .slice none 0 0])) w' by
    intro w' h2
    refine ⟨_, ?_, by unfold actB; rw [if_neg (by omega)]; exact own_nil _ _, ?_⟩
    · unfold actE
      rw [if_pos (by omega), hkd]
    · unfold actD
      rw [if_pos (by omega), hkd]
      exact after_back hb h2)
  obtain ⟨kind, name, to, A, b, bc, n, V, ks, kc⟩ := a
  simp only at hkd
  subst hkd
  have HC' := Lib.hid HC
  clear HC h h1 hk ha ha1 hkS hS hb
  simp only [actC] at *
  generalize change d 6 (strL name) (strL to) b = r at *
  go_enter Try.func14, Try.ntmps14
  go_wp2_with fail
  refine HC'.out.mono ?_
  rintro e w2 ⟨rfl, h2⟩
  have H2 := Lib.hid h2
  clear h2
  go_wp2
  go_ret2
  exact HT.out _ H2.out

set_option maxRecDepth 20000 in
theorem do_7 (h : DiskAt S w X d) (hk : Ok N d) (hN : N ≤ 1000) (a : ActV) (ha : ActOk w a) (hkS : a.ks = [] ∨ ∀ ad, a.V = some ad → ¬ S ad.block) (hkd : a.kind = 7) :
    Calls Try.prog 14 #[.pointer (some ⟨X, 0, none⟩), .agg (actC a).toArray] w (Told S w X d a) := by
  have hb := below_one w (.cells (actC a).toArray 40)
  obtain ⟨c0, c1, c2, c3, c4, c5⟩ := cells_agg (Row.new w 40 (actC a).toArray)
  have h1 := h.below hb
  have ha1 := ha.below hb
  have hS := fun w' (q : Below w.heap.size w w') => after_same (w' := w') h q

  have HC := read_prog h1 hk.fine a.name (by have := ha.name; omega)
  have HT := Lib.hid (show ∀ v w', Own w' (w.alloc (.cells (actC a).toArray 40)).heap.size v (readD d (strL a.name)).1 → Below (w.alloc (.cells (actC a).toArray 40)).heap.size (w.alloc (.cells (actC a).toArray 40)) w' → Told S w X d a (.returned (.tuple #[.int .i64 (readD d (strL a.name)).2, v])) w' by
    intro v w' h2 h3
    refine ⟨v, ?_, ?_, ?_⟩
    · unfold actE
      rw [if_neg (by omega), if_pos hkd]
    · unfold actB
      rw [if_pos hkd]
      exact own_lower h2 hb.size
    · unfold actD
      rw [if_neg (by omega), if_neg (by omega), if_neg (by omega)]
      exact hS _ (below_then hb h3))
  obtain ⟨kind, name, to, A, b, bc, n, V, ks, kc⟩ := a
  simp only at hkd
  subst hkd
  have HC' := Lib.hid HC
  clear HC h h1 hk ha ha1 hkS hS hb
  simp only [actC] at *
  generalize readD d (strL name) = r at *
  go_enter Try.func14, Try.ntmps14
  go_wp2_with fail
  refine HC'.out.mono ?_
  rintro e w2 ⟨v, rfl, h2, h3⟩
  obtain ⟨Bv, cv, hv, _, _⟩ := own_slice' h2
  generalize hrl : r.1.length = rl at hv
  subst hv
  have H2 := Lib.hid h2
  have H3 := Lib.hid h3
  clear h2 h3 hrl
  go_wp2
  go_ret2
  exact HT.out _ _ H2.out H3.out

set_option maxRecDepth 20000 in
theorem do_8 (h : DiskAt S w X d) (hk : Ok N d) (hN : N ≤ 1000) (a : ActV) (ha : ActOk w a) (hkS : a.ks = [] ∨ ∀ ad, a.V = some ad → ¬ S ad.block) (hkd : a.kind = 8) :
    Calls Try.prog 14 #[.pointer (some ⟨X, 0, none⟩), .agg (actC a).toArray] w (Told S w X d a) := by
  have hb := below_one w (.cells (actC a).toArray 40)
  obtain ⟨c0, c1, c2, c3, c4, c5⟩ := cells_agg (Row.new w 40 (actC a).toArray)
  have h1 := h.below hb
  have ha1 := ha.below hb
  have hS := fun w' (q : Below w.heap.size w w') => after_same (w' := w') h q

  have HC := fuse_prog h1 a.n
  have HT := Lib.hid (show ∀ w', After S (w.alloc (.cells (actC a).toArray 40)) X (fuseD d a.n) w' → Told S w X d a (.returned (.tuple #[.int .i64 0, .slice none 0 0])) w' by
    intro w' h2
    refine ⟨_, ?_, by unfold actB; rw [if_neg (by omega)]; exact own_nil _ _, ?_⟩
    · unfold actE
      rw [if_neg (by omega), if_neg (by omega)]
    · unfold actD
      rw [if_neg (by omega), if_pos hkd]
      exact after_back hb h2)
  obtain ⟨kind, name, to, A, b, bc, n, V, ks, kc⟩ := a
  simp only at hkd
  subst hkd
  have HC' := Lib.hid HC
  clear HC h h1 hk ha ha1 hkS hS hb
  simp only [actC] at *
  go_enter Try.func14, Try.ntmps14
  go_wp2_with fail
  refine HC'.out.mono ?_
  rintro e w2 ⟨rfl, h2⟩
  have H2 := Lib.hid h2
  clear h2
  go_wp2
  go_ret2
  exact HT.out _ H2.out

set_option maxRecDepth 20000 in
theorem do_9 (h : DiskAt S w X d) (hk : Ok N d) (hN : N ≤ 1000) (a : ActV) (ha : ActOk w a) (hkS : a.ks = [] ∨ ∀ ad, a.V = some ad → ¬ S ad.block) (hkd : a.kind = 9) :
    Calls Try.prog 14 #[.pointer (some ⟨X, 0, none⟩), .agg (actC a).toArray] w (Told S w X d a) := by
  have hb := below_one w (.cells (actC a).toArray 40)
  obtain ⟨c0, c1, c2, c3, c4, c5⟩ := cells_agg (Row.new w 40 (actC a).toArray)
  have h1 := h.below hb
  have ha1 := ha.below hb
  have hS := fun w' (q : Below w.heap.size w w') => after_same (w' := w') h q

  have HC := crash_at h1 hk hN a.n ha.n.1 ha.n.2 a.V a.ks a.kc ha1.ks hkS (by have := ha.kl; omega) ha.kb
  have HT := Lib.hid (show ∀ w', After S (w.alloc (.cells (actC a).toArray 40)) X (crashD d a.n a.ks) w' → Told S w X d a (.returned (.tuple #[.int .i64 0, .slice none 0 0])) w' by
    intro w' h2
    refine ⟨_, ?_, by unfold actB; rw [if_neg (by omega)]; exact own_nil _ _, ?_⟩
    · unfold actE
      rw [if_neg (by omega), if_neg (by omega)]
    · unfold actD
      rw [if_neg (by omega), if_neg (by omega), if_pos hkd]
      exact after_back hb h2)
  obtain ⟨kind, name, to, A, b, bc, n, V, ks, kc⟩ := a
  simp only at hkd
  subst hkd
  have HC' := Lib.hid HC
  clear HC h h1 hk ha ha1 hkS hS hb
  simp only [actC] at *
  go_enter Try.func14, Try.ntmps14
  go_wp2_with fail
  refine HC'.out.mono ?_
  rintro e w2 ⟨rfl, h2⟩
  have H2 := Lib.hid h2
  clear h2
  go_wp2
  go_ret2
  exact HT.out _ H2.out

set_option maxRecDepth 20000 in
theorem do_none (h : DiskAt S w X d) (hk : Ok N d) (hN : N ≤ 1000) (a : ActV) (ha : ActOk w a) (hkS : a.ks = [] ∨ ∀ ad, a.V = some ad → ¬ S ad.block) (hkd : a.kind < 1 ∨ 9 < a.kind) :
    Calls Try.prog 14 #[.pointer (some ⟨X, 0, none⟩), .agg (actC a).toArray] w (Told S w X d a) := by
  have hb := below_one w (.cells (actC a).toArray 40)
  obtain ⟨c0, c1, c2, c3, c4, c5⟩ := cells_agg (Row.new w 40 (actC a).toArray)
  have h1 := h.below hb
  have ha1 := ha.below hb
  have hS := fun w' (q : Below w.heap.size w w') => after_same (w' := w') h q

  have HT := Lib.hid (show Told S w X d a (.returned (.tuple #[.int .i64 0, .slice none 0 0])) (w.alloc (.cells (actC a).toArray 40)) by
    refine ⟨_, ?_, by unfold actB; rw [if_neg (by omega)]; exact own_nil _ _, ?_⟩
    · unfold actE
      rw [if_neg (by omega), if_neg (by omega)]
    · unfold actD
      rw [if_neg (by omega), if_neg (by omega), if_neg (by omega)]
      exact hS _ hb)
  obtain ⟨kind, name, to, A, b, bc, n, V, ks, kc⟩ := a
  simp only at hkd
  have q1 : (kind == 1) = false := by rw [beq_eq_false_iff_ne]; omega
  have q2 : (kind == 2) = false := by rw [beq_eq_false_iff_ne]; omega
  have q3 : (kind == 3) = false := by rw [beq_eq_false_iff_ne]; omega
  have q4 : (kind == 4) = false := by rw [beq_eq_false_iff_ne]; omega
  have q5 : (kind == 5) = false := by rw [beq_eq_false_iff_ne]; omega
  have q6 : (kind == 6) = false := by rw [beq_eq_false_iff_ne]; omega
  have q7 : (kind == 7) = false := by rw [beq_eq_false_iff_ne]; omega
  have q8 : (kind == 8) = false := by rw [beq_eq_false_iff_ne]; omega
  have q9 : (kind == 9) = false := by rw [beq_eq_false_iff_ne]; omega
  clear h h1 hk ha ha1 hkS hS hb hkd
  simp only [actC] at *
  go_enter Try.func14, Try.ntmps14
  go_wp2_with fail
  go_ret2
  exact HT.out

theorem do_prog (h : DiskAt S w X d) (hk : Ok N d) (hN : N ≤ 1000) (a : ActV) (ha : ActOk w a) (hkS : a.ks = [] ∨ ∀ ad, a.V = some ad → ¬ S ad.block) :
    Calls Try.prog 14 #[.pointer (some ⟨X, 0, none⟩), .agg (actC a).toArray] w (Told S w X d a) := by
  by_cases k1 : a.kind < 1 ∨ 9 < a.kind
  · exact do_none h hk hN a ha hkS k1
  by_cases k10 : a.kind = 1
  · exact do_1 h hk hN a ha hkS k10
  by_cases k20 : a.kind = 2
  · exact do_2 h hk hN a ha hkS k20
  by_cases k30 : a.kind = 3
  · exact do_3 h hk hN a ha hkS k30
  by_cases k40 : a.kind = 4
  · exact do_4 h hk hN a ha hkS k40
  by_cases k50 : a.kind = 5
  · exact do_5 h hk hN a ha hkS k50
  by_cases k60 : a.kind = 6
  · exact do_6 h hk hN a ha hkS k60
  by_cases k70 : a.kind = 7
  · exact do_7 h hk hN a ha hkS k70
  by_cases k80 : a.kind = 8
  · exact do_8 h hk hN a ha hkS k80
  by_cases k90 : a.kind = 9
  · exact do_9 h hk hN a ha hkS k90
  omega
end
end Go.Proofs.Ytiepepikbophmaa
