/- In one text, written by lotify.py: DkLives, Acts, DkActs, DkBegun, DkBegins, DkSame. -/
import Derived.Test.YtmgolnlkepiocaaGreatDkNew
import Derived.Lib.SlBytesConst
import Derived.Test.YtmgolnlkepiocaaGreatWaLotD
import Derived.Deep.Slices
import Derived.Deep.Strs
import Derived.Deep.Fields
import Derived.Lib.SmallJoins
import Derived.Deep.QuietTactic
import Derived.BigQuiet
namespace Go.Proofs.YtmgolnlkepiocaaGreat.Dk
open Go.RowKit Go.Maps
set_option linter.unusedVariables false

/-- From a base on. -/
def From (B : Nat) (k : Nat) : Prop := B ≤ k
theorem After.flat {B : Nat} {w : World} {X : Nat} {d : Dsk} {w' : World} (h : After (From B) w X d w') (hB : B ≤ w.heap.size) : DiskAt (From B) w' X d ∧ Below B w w' :=
  ⟨h.1.mono fun k hk => hk.elim id (fun h2 => Nat.le_trans hB h2), h.2.to_below (fun k hk => hk) hB⟩
theorem crash_at {S : Nat → Prop} {w : World} {X : Nat} {d : Dsk} {N : Nat} (h : DiskAt S w X d) (hk : Ok N d) (hN : N ≤ 1000)
    (dirs : Int) (hd0 : -9223372036854775808 ≤ dirs) (hd1 : dirs ≤ 9223372036854775807) (V : Option Addr) (ks : List Int) (kc : Nat) (hks : Ints w V ks) (hkS : ks = [] ∨ ∀ ad, V = some ad → ¬ S ad.block) (hkl : ks.length ≤ 281474976710656) (hkb : ∀ i, i < ks.length → -9223372036854775808 ≤ ks.getD i 0 ∧ ks.getD i 0 ≤ 9223372036854775807) :
    Calls Tryz.prog 17 #[.pointer (some ⟨X, 0, none⟩), .int .i64 dirs, .slice V ks.length kc] w fun e w' => e = .returned (.int .i64 0) ∧ After S w X (crashD d dirs ks) w' := by
  obtain ⟨dm, bm, wv, fb, vb, hin, hS⟩ := h
  exact crash_prog hin hS hk.fine (hk.few hN) hk.short dirs hd0 hd1 V ks kc hks hkS hkl hkb

def nA : List UInt8 := [97]
def bHello : List UInt8 := [104, 101, 108, 108, 111]
def bHe : List UInt8 := [104, 101]
def lv1 : Dsk := ⟨10, [fil0], [], [.lay nA 0], -1, false, 1⟩
def lv2 : Dsk := ⟨10, [⟨bHello, 0⟩], [], [.lay nA 0], -1, false, 2⟩
def lv3 : Dsk := ⟨10, [⟨bHello, 0⟩], [⟨nA, 0⟩], [], -1, false, 3⟩
def lv4 : Dsk := ⟨10, [⟨bHe, 2⟩], [⟨nA, 0⟩], [], -1, false, 3⟩
theorem lv_1 : change (newD 10) 1 (strL ⟨#[97]⟩) [] [] = (lv1, 0) := by
  rw [change_is (by decide) rfl rfl]
  rfl
theorem lv_2 : change lv1 2 (strL ⟨#[97]⟩) [] bHello = (lv2, 0) := by
  rw [change_is (by decide) rfl rfl]
  rfl
theorem lv_3 : change lv2 6 [] [] [] = (lv3, 0) := by
  rw [change_is (by decide) rfl rfl]
  rfl
theorem lv_4 : crashD lv3 0 [2] = lv4 := by rfl
theorem lv_5 : readD lv4 (strL ⟨#[97]⟩) = (bHe, 0) := by rfl
theorem lok0 : Ok 0 (newD 10) := ok_new 10 (by decide)
theorem lok1 : Ok 1 lv1 := by have := ok_change lok0 1 (strL ⟨#[97]⟩) [] [] (by decide); rwa [lv_1] at this
theorem lok2 : Ok 2 lv2 := by have := ok_change lok1 2 (strL ⟨#[97]⟩) [] bHello (by decide); rwa [lv_2] at this
theorem lok3 : Ok 3 lv3 := by have := ok_change lok2 6 [] [] [] (by decide); rwa [lv_3] at this
theorem lok4 : Ok 3 lv4 := by have := ok_crash lok3 0 [2]; rwa [lv_4] at this

theorem hello_bys (w : World) : Bys (w.alloc (.cells #[.int .u8 104, .int .u8 101, .int .u8 108, .int .u8 108, .int .u8 111] 5 (5, 6))) (some ⟨w.heap.size, 0, none⟩) bHello := by
  have hh : (w.alloc (.cells #[.int .u8 104, .int .u8 101, .int .u8 108, .int .u8 108, .int .u8 111] 5 (5, 6))).heap[w.heap.size]? = some (.cells (bcells bHello) 5 (5, 6)) := heap_alloc_new w _
  refine .inr ⟨w.heap.size, 0, rfl, by simp, fun i hi => ?_⟩
  rw [Nat.zero_add, cell_of_row _ _ i _ _ _ hh]
  exact bcells_get bHello i hi
end Go.Proofs.YtmgolnlkepiocaaGreat.Dk

namespace Go.Proofs.YtmgolnlkepiocaaGreat
open Go.ChangeShapes Go.WideShapes Go.ChangeAt Go.RowKit Go.Joins
set_option linter.unusedVariables false

theorem reach_is : reachBytes = 140737488351232 := rfl
structure ActV where
  kind : Int
  name : ByteArray
  to : ByteArray
  A : Option Addr
  b : List UInt8
  bc : Nat
  n : Int
  V : Option Addr
  ks : List Int
  kc : Nat
instance : Inhabited ActV := ⟨⟨0, ⟨#[]⟩, ⟨#[]⟩, none, [], 0, 0, none, [], 0⟩⟩
def actC (a : ActV) : List Value := [.int .i64 a.kind, .string a.name, .string a.to, .slice a.A a.b.length a.bc, .int .i64 a.n, .slice a.V a.ks.length a.kc]
structure ActOk (W : World) (a : ActV) : Prop where
  kind : -9223372036854775808 ≤ a.kind ∧ a.kind ≤ 9223372036854775807
  name : a.name.size ≤ 140737488351232
  to : a.to.size ≤ 140737488351232
  b : Bys W a.A a.b
  bl : a.b.length ≤ 140737488351232
  n : -9223372036854775808 ≤ a.n ∧ a.n ≤ 9223372036854775807
  ks : Ints W a.V a.ks
  kl : a.ks.length ≤ 17592186044416
  kb : ∀ i, i < a.ks.length → -9223372036854775808 ≤ a.ks.getD i 0 ∧ a.ks.getD i 0 ≤ 9223372036854775807
theorem ActOk.below {W W' : World} {a : ActV} (h : ActOk W a) (hb : Below W.heap.size W W') : ActOk W' a := ⟨h.kind, h.name, h.to, h.b.below hb, h.bl, h.n, h.ks.below hb, h.kl, h.kb⟩

section
variable {H : Type} {enc : TypeId × Value → H} {W : World} {base : Nat} {sp : Nat → Bool} {held : Bool}
theorem open_ks {fuel : Nat} {v : Value} {x : DataW H × List MemPlace} (hf : DataW.trod enc Tryz.prog W base sp held fuel 45 [v] = some x) :
    ∃ (A : Option Addr) (l : List Int) (c : Nat), v = .slice A l.length c ∧ Ints W A l ∧ (∀ i, i < l.length → -9223372036854775808 ≤ l.getD i 0 ∧ l.getD i 0 ≤ 9223372036854775807) ∧
      ((x.1 = .nil ∧ l = []) ∨ ∃ elems spare, x.1 = .slice elems spare ∧ elems.length = l.length) := by
  rcases open_ints Tryz.underlying45 Tryz.underlying3 (by kernel_rfl) hf with ⟨hcs, hx⟩ | ⟨a, len, cap, zs, hcs, _, hl, hm, hz, hx, hcell, hwz⟩
  · simp only [List.cons.injEq, and_true] at hcs
    subst hcs
    exact ⟨none, [], 0, rfl, .inl rfl, fun i hi => (by simp at hi), .inl ⟨by rw [hx], rfl⟩⟩
  · simp only [List.cons.injEq, and_true] at hcs
    subst hcs
    have hlz : len ≤ zs.length := by rw [hz]; split <;> omega
    have hll : (zs.take len).length = len := by simp; omega
    refine ⟨some a, zs.take len, cap, by rw [hll], ?_, ?_, .inr ⟨_, _, by rw [hx], by simp [lits]⟩⟩
    · rcases Nat.eq_zero_or_pos len with h0 | h0
      · exact .inl (List.eq_nil_of_length_eq_zero (by rw [hll]; exact h0))
      · obtain ⟨b, off, spot⟩ := a
        have hc := hcell 0 (by omega)
        have hspot : spot = none := by simpa [Addr.add] using World.cell?_spot hc
        subst hspot
        have hc0 : W.cell? ⟨b, off, none⟩ = some (.int .i64 (zs.getD 0 0)) := by simpa [Addr.add] using hc
        refine .inr ⟨b, off, rfl, cell_lt hc0, fun i hi => ?_⟩
        rw [hll] at hi
        have hci := hcell i (by omega)
        rw [add_at] at hci
        rw [hci]
        congr 2
        rw [getD_in zs 0 (by omega), getD_in (zs.take len) 0 (by rw [hll]; exact hi), List.getElem_take]
    · intro i hi
      rw [getD_in (zs.take len) 0 hi, List.getElem_take]
      exact bounds_i64 (hwz _ (List.getElem_mem _))
theorem trod_struct6 {P : Program} {w : World} {t : TypeId} {f0 f1 f2 f3 f4 f5 : Field} {fuel : Nat} {cs : List Value} {x : DataW H × List MemPlace} (ht : P.underlying t = some (.struct #[f0, f1, f2, f3, f4, f5])) (h : DataW.trod enc P w base sp held fuel t cs = some x) :
    ∃ y0 y1 y2 y3 y4 y5 n, x.1 = .agg [y0.1, y1.1, y2.1, y3.1, y4.1, y5.1] ∧ cs.length = P.cellsOf t ∧ DataW.trod enc P w base sp held n f0.type ((cs.drop f0.offset).take (P.cellsOf f0.type)) = some y0 ∧
      DataW.trod enc P w base sp held n f1.type ((cs.drop f1.offset).take (P.cellsOf f1.type)) = some y1 ∧ DataW.trod enc P w base sp held n f2.type ((cs.drop f2.offset).take (P.cellsOf f2.type)) = some y2 ∧
      DataW.trod enc P w base sp held n f3.type ((cs.drop f3.offset).take (P.cellsOf f3.type)) = some y3 ∧ DataW.trod enc P w base sp held n f4.type ((cs.drop f4.offset).take (P.cellsOf f4.type)) = some y4 ∧ DataW.trod enc P w base sp held n f5.type ((cs.drop f5.offset).take (P.cellsOf f5.type)) = some y5 := by
  obtain ⟨xs, n, _, rfl, hl, hlen, hf⟩ := DataW.trod_struct ht h
  match xs, hlen with
  | [y0, y1, y2, y3, y4, y5], _ => exact ⟨y0, y1, y2, y3, y4, y5, n, by simp, hl, by simpa using hf 0 f0 rfl, by simpa using hf 1 f1 rfl, by simpa using hf 2 f2 rfl, by simpa using hf 3 f3 rfl, by simpa using hf 4 f4 rfl, by simpa using hf 5 f5 rfl⟩
theorem six {α : Type} {l : List α} (h : l.length = 6) : ∃ c0 c1 c2 c3 c4 c5, l = [c0, c1, c2, c3, c4, c5] := by
  match l, h with
  | [c0, c1, c2, c3, c4, c5], _ => exact ⟨c0, c1, c2, c3, c4, c5, rfl⟩
/-- Calls that stand in memory one behind the other. -/
def Acts (W : World) (V : Option Addr) (ac : List ActV) : Prop :=
  ac = [] ∨ ∃ b o, V = some ⟨b, o, none⟩ ∧ b < W.heap.size ∧ ∀ i, i < ac.length → ActOk W (ac.getD i default) ∧ ∀ j v, (actC (ac.getD i default))[j]? = some v → W.cell? ⟨b, o + i * 6 + j, none⟩ = some v
theorem weights_all {P : Program} {e : TypeId} : ∀ {ds : List (DataW H)} {d : DataW H}, d ∈ ds → ∀ n ∈ d.weights P e, n ∈ DataW.weightsAll P e ds := by
  intro ds
  induction ds with
  | nil => intro d h; cases h
  | cons x r ih =>
    intro d h n hn
    simp only [DataW.weightsAll, List.mem_append]
    rcases List.mem_cons.1 h with rfl | h
    · exact .inl hn
    · exact .inr (ih h n hn)
end
end Go.Proofs.YtmgolnlkepiocaaGreat

namespace Go.Proofs.YtmgolnlkepiocaaGreat.Dk
open Go.RowKit Go.Maps
set_option linter.unusedVariables false

def actD (d : Dsk) (a : ActV) : Dsk :=
  if 1 ≤ a.kind ∧ a.kind ≤ 6 then (change d a.kind (strL a.name) (strL a.to) a.b).1
  else if a.kind = 8 then fuseD d a.n
  else if a.kind = 9 then crashD d a.n a.ks
  else d
def actE (d : Dsk) (a : ActV) : Int :=
  if 1 ≤ a.kind ∧ a.kind ≤ 6 then (change d a.kind (strL a.name) (strL a.to) a.b).2
  else if a.kind = 7 then (readD d (strL a.name)).2
  else 0
def actB (d : Dsk) (a : ActV) : List UInt8 := if a.kind = 7 then (readD d (strL a.name)).1 else []
theorem ok_act {N : Nat} {d : Dsk} (h : Ok N d) (a : ActV) (hn : a.n ≤ 9223372036854775807) : Ok (N + 1) (actD d a) := by
  unfold actD
  split
  · exact ok_change h _ _ _ _ ‹_›
  · split
    · exact (ok_fuse h _ hn).mono (by omega)
    · split
      · exact (ok_crash h _ _).mono (by omega)
      · exact h.mono (by omega)
/-- What is told of a call. -/
def Told (S : Nat → Prop) (w : World) (X : Nat) (d : Dsk) (a : ActV) (e : Ending) (w' : World) : Prop :=
  ∃ v, e = .returned (.tuple #[.int .i64 (actE d a), v]) ∧ Own w' w.heap.size v (actB d a) ∧ After S w X (actD d a) w'
section
variable {S : Nat → Prop} {w : World} {X : Nat} {d : Dsk} {N : Nat}

end
end Go.Proofs.YtmgolnlkepiocaaGreat.Dk

namespace Go.Proofs.YtmgolnlkepiocaaGreat.Dk
open Go.RowKit Go.Maps
set_option linter.unusedVariables false

theorem From_far {W : World} {a : ActV} (h : ActOk W a) : a.ks = [] ∨ ∀ ad, a.V = some ad → ¬ From W.heap.size ad.block := by
  rcases h.ks with h0 | ⟨b, o, hV, hlt, _⟩
  · exact .inl h0
  · refine .inr fun ad e => ?_
    rw [hV] at e
    injection e with e
    subst e
    exact Nat.not_le.2 hlt
theorem Told.flat {B : Nat} {w : World} {X : Nat} {d : Dsk} {a : ActV} {e : Ending} {w' : World} (h : Told (From B) w X d a e w') (hB : B ≤ w.heap.size) : ∃ v, e = .returned (.tuple #[.int .i64 (actE d a), v]) ∧ Own w' w.heap.size v (actB d a) ∧ DiskAt (From B) w' X (actD d a) ∧ Below B w w' := by
  obtain ⟨v, h1, h2, h3⟩ := h
  obtain ⟨h4, h5⟩ := h3.flat hB
  exact ⟨v, h1, h2, h4, h5⟩
/-- The i-th of calls in memory, later. -/
theorem acts_at {W w : World} {V : Option Addr} {acs : List ActV} (h : Acts W V acs) (hb : Below W.heap.size W w) {i : Nat} (hi : i < acs.length) :
    ∃ b o, V = some ⟨b, o, none⟩ ∧ ActOk W (acs.getD i default) ∧ ActOk w (acs.getD i default) ∧ ∀ j v, (actC (acs.getD i default))[j]? = some v → w.cell? ⟨b, o + i * 6 + j, none⟩ = some v := by
  rcases h with rfl | ⟨b, o, rfl, hlt, hc⟩
  · simp at hi
  · obtain ⟨hok, hcell⟩ := hc i hi
    exact ⟨b, o, rfl, hok, hok.below hb, fun j v hj => (hb.cell (p := ⟨b, o + i * 6 + j, none⟩) hlt).trans (hcell j v hj)⟩
def runD (d : Dsk) (acs : List ActV) (k : Nat) : Dsk := (acs.take k).foldl actD d
theorem runD_zero (d : Dsk) (acs : List ActV) : runD d acs 0 = d := rfl
theorem runD_succ (d : Dsk) (acs : List ActV) {k : Nat} (hk : k < acs.length) : runD d acs (k + 1) = actD (runD d acs k) (acs.getD k default) := by
  unfold runD
  rw [List.take_succ_eq_append_getElem hk, List.foldl_append]
  simp [List.getD, List.getElem?_eq_getElem hk]
theorem ok_run {N : Nat} {d : Dsk} (h : Ok N d) (acs : List ActV) (hn : ∀ i, i < acs.length → (acs.getD i default).n ≤ 9223372036854775807) : ∀ k, k ≤ acs.length → Ok (N + k) (runD d acs k) := by
  intro k
  induction k with
  | zero => intro _; exact h
  | succ k ih =>
    intro hk
    rw [runD_succ d acs (by omega)]
    exact ok_act (ih (by omega)) _ (hn k (by omega))
theorem acts_n {W : World} {V : Option Addr} {acs : List ActV} (h : Acts W V acs) : ∀ i, i < acs.length → (acs.getD i default).n ≤ 9223372036854775807 := by
  intro i hi
  rcases h with rfl | ⟨b, o, rfl, hlt, hc⟩
  · simp at hi
  · exact (hc i hi).1.n.2

/-- There is a disk behind the calls. -/
def Behind (w : World) (e : Ending) (w' : World) : Prop := ∃ X d, e = .returned (.pointer (some ⟨X, 0, none⟩)) ∧ DiskAt (From w.heap.size) w' X d ∧ Ok 40 d ∧ Below w.heap.size w w'
end Go.Proofs.YtmgolnlkepiocaaGreat.Dk

namespace Go.Proofs.YtmgolnlkepiocaaGreat.Dk
open Go.RowKit Go.Maps
set_option linter.unusedVariables false

end Go.Proofs.YtmgolnlkepiocaaGreat.Dk

namespace Go.Proofs.YtmgolnlkepiocaaGreat.Dk
open Go.RowKit Go.Maps
set_option linter.unusedVariables false

theorem txt_list (l : List UInt8) : (txt l).toList = l := by simp [txt, ByteArray.toList_eq]
theorem drawn (B : Nat) (w : World) (q : Nat) : Below B w (w.drewN q) := ⟨rfl, rfl, rfl, Nat.le_refl _, fun _ _ => rfl⟩
/-! ### what stands apart from a disk -/
def Far (S : Nat → Prop) (v : Value) : Prop := ∀ k, v.ownBlock = some k → ¬ S k
theorem rows_kept {S : Nat → Prop} {w w' : World} {base e size n : Nat} {v : Value} {xs : List Value} (h : w.ownsRow base e size v n xs) (hK : Kept S w w') (hf : Far S v) : w'.ownsRow base e size v n xs :=
  rows_move h fun k hk => hK.block k (World.ownsRow.lt h k hk).2 (hf k hk)
/-- A disk that lies in blocks of S, all of them among the call's own. -/
structure DiskOf (B : Nat) (S : Nat → Prop) (w : World) (X : Nat) (d : Dsk) : Prop where
  at_ : DiskAt S w X d
  own : ∀ k, S k → B ≤ k ∧ k < w.heap.size
theorem diskOf_mk {B : Nat} {w : World} {X : Nat} {d : Dsk} (h : DiskAt (From B) w X d) : DiskOf B (fun k => From B k ∧ k < w.heap.size) w X d := ⟨h.within, fun k hk => hk⟩
/-- What a call adds to a disk's blocks. -/
def more (S : Nat → Prop) (w w' : World) (k : Nat) : Prop := (S k ∨ w.heap.size ≤ k) ∧ k < w'.heap.size
theorem DiskOf.after {B : Nat} {S : Nat → Prop} {w w' : World} {X : Nat} {d d' : Dsk} (h : DiskOf B S w X d) (ha : After S w X d' w') (hB : B ≤ w.heap.size) : DiskOf B (more S w w') w' X d' ∧ Below B w w' :=
  ⟨⟨ha.1.within, fun k hk => ⟨hk.1.elim (fun h2 => (h.own k h2).1) (fun h2 => by omega), hk.2⟩⟩, ha.2.to_below (fun k hk => (h.own k hk).1) hB⟩
theorem DiskOf.below {B : Nat} {S : Nat → Prop} {w w' : World} {X : Nat} {d : Dsk} (h : DiskOf B S w X d) (hb : Below w.heap.size w w') : DiskOf B S w' X d :=
  ⟨h.at_.below hb, fun k hk => ⟨(h.own k hk).1, Nat.lt_of_lt_of_le (h.own k hk).2 hb.size⟩⟩
theorem DiskOf.from_ {B : Nat} {S : Nat → Prop} {w : World} {X : Nat} {d : Dsk} (h : DiskOf B S w X d) : DiskAt (From B) w X d := h.at_.mono fun k hk => (h.own k hk).1
theorem DiskOf.acts_far {B : Nat} {S : Nat → Prop} {w W : World} {X : Nat} {d : Dsk} (h : DiskOf B S w X d) {a : ActV} (ha : ActOk W a) (hW : W.heap.size = B) : a.ks = [] ∨ ∀ ad, a.V = some ad → ¬ S ad.block :=
  (From_far ha).imp id fun hh ad e hk => hh ad e (by rw [hW]; exact (h.own _ hk).1)
/-- What is far stays far. -/
theorem far_more {S : Nat → Prop} {w w' : World} {v : Value} {base e size n : Nat} {xs : List Value} (h : w.ownsRow base e size v n xs) (hf : Far S v) : Far (more S w w') v := by
  intro k hk hm
  have := (World.ownsRow.lt h k hk).2
  rcases hm.1 with h2 | h2
  · exact hf k hk h2
  · omega
/-- What is new is far. -/
theorem far_new {B : Nat} {S : Nat → Prop} {w w' : World} {X : Nat} {d : Dsk} (hd : DiskOf B S w X d) {v : Value} {e size n : Nat} {xs : List Value} (h : w'.ownsRow w.heap.size e size v n xs) : Far S v := by
  intro k hk hs
  have h1 := (World.ownsRow.lt h k hk).1
  have h2 := (hd.own k hs).2
  omega
end Go.Proofs.YtmgolnlkepiocaaGreat.Dk
