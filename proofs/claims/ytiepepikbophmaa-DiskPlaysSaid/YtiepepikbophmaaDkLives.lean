/- The document's examples hold of the program. -/
import Derived.Test.YtiepepikbophmaaDkNew
import Derived.Lib.SlBytesConst
namespace Go.Proofs.Ytiepepikbophmaa
open Go.RowKit Go.Maps
set_option linter.unusedVariables false

/-- From a base on. -/
def From (B : Nat) (k : Nat) : Prop := B ≤ k
theorem After.flat {B : Nat} {w : World} {X : Nat} {d : Dsk} {w' : World} (h : After (From B) w X d w') (hB : B ≤ w.heap.size) : DiskAt (From B) w' X d ∧ Below B w w' :=
  ⟨h.1.mono fun k hk => hk.elim id (fun h2 => Nat.le_trans hB h2), h.2.to_below (fun k hk => hk) hB⟩
theorem crash_at {S : Nat → Prop} {w : World} {X : Nat} {d : Dsk} {N : Nat} (h : DiskAt S w X d) (hk : Ok N d) (hN : N ≤ 1000)
    (dirs : Int) (hd0 : -9223372036854775808 ≤ dirs) (hd1 : dirs ≤ 9223372036854775807) (V : Option Addr) (ks : List Int) (kc : Nat) (hks : Ints w V ks) (hkS : ks = [] ∨ ∀ ad, V = some ad → ¬ S ad.block) (hkl : ks.length ≤ 281474976710656) (hkb : ∀ i, i < ks.length → -9223372036854775808 ≤ ks.getD i 0 ∧ ks.getD i 0 ≤ 9223372036854775807) :
    Calls Try.prog 38 #[.pointer (some ⟨X, 0, none⟩), .int .i64 dirs, .slice V ks.length kc] w fun e w' => e = .returned (.int .i64 0) ∧ After S w X (crashD d dirs ks) w' := by
  obtain ⟨dm, bm, wv, fb, vb, hin, hS⟩ := h
  exact crash_prog hin hS hk.fine (hk.few hN) hk.short dirs hd0 hd1 V ks kc hks hkS hkl hkb

def nA : List UInt8 := [97]
def bHello : List UInt8 := [104, 101, 108, 108, 111]
def bHe : List UInt8 := [104, 101]
def lv1 : Dsk := ⟨10, [fil0], [], [.lay nA 0], -1, false, 1⟩
def lv2 : Dsk := ⟨10, [⟨bHello, 0⟩], [], [.lay nA 0], -1, false, 2⟩
def lv3 : Dsk := ⟨10, [⟨bHello, 0⟩], [⟨nA, 0⟩], [], -1, false, 3⟩
def lv4 : Dsk := ⟨10, [⟨bHe, 2⟩], [⟨nA, 0⟩], [], -1, false, 3⟩
theorem lv_1 : change (newD 10) 1 (strL ⟨#[97]⟩) [] [] = (lv1, 0) := by
  rw [change_is (by decide) rfl rfl]
  rfl
theorem lv_2 : change lv1 2 (strL ⟨#[97]⟩) [] bHello = (lv2, 0) := by
  rw [change_is (by decide) rfl rfl]
  rfl
theorem lv_3 : change lv2 6 [] [] [] = (lv3, 0) := by
  rw [change_is (by decide) rfl rfl]
  rfl
theorem lv_4 : crashD lv3 0 [2] = lv4 := by rfl
theorem lv_5 : readD lv4 (strL ⟨#[97]⟩) = (bHe, 0) := by rfl
theorem lok0 : Ok 0 (newD 10) := ok_new 10 (by decide)
theorem lok1 : Ok 1 lv1 := by have := ok_change lok0 1 (strL ⟨#[97]⟩) [] [] (by decide); rwa [lv_1] at this
theorem lok2 : Ok 2 lv2 := by have := ok_change lok1 2 (strL ⟨#[97]⟩) [] bHello (by decide); rwa [lv_2] at this
theorem lok3 : Ok 3 lv3 := by have := ok_change lok2 6 [] [] [] (by decide); rwa [lv_3] at this
theorem lok4 : Ok 3 lv4 := by have := ok_crash lok3 0 [2]; rwa [lv_4] at this

theorem hello_bys (w : World) : Bys (w.alloc (.cells #[.int .u8 104, .int .u8 101, .int .u8 108, .int .u8 108, .int .u8 111] 5 (5, 6))) (some ⟨w.heap.size, 0, none⟩) bHello := by
  have hh : (w.alloc (.cells #[.int .u8 104, .int .u8 101, .int .u8 108, .int .u8 108, .int .u8 111] 5 (5, 6))).heap[w.heap.size]? = some (.cells (bcells bHello) 5 (5, 6)) := heap_alloc_new w _
  refine .inr ⟨w.heap.size, 0, rfl, by simp, fun i hi => ?_⟩
  rw [Nat.zero_add, cell_of_row _ _ i _ _ _ hh]
  exact bcells_get bHello i hi
set_option maxRecDepth 20000 in
theorem lives_true (w : World) : Calls Try.prog 13 #[] w fun e w' => e = .returned (.bool true) ∧ Below w.heap.size w w' := by
  have HN := Lib.hid (new_ok 10 (by decide) w)
  have q1 : ((txt bHe).toList == [104, 101]) = true := by decide +kernel
  have hkc := fun w => Go.Lib.run_convert_bytes_const (P := Try.prog) w 35 5 #[.int .u8 104, .int .u8 101, .int .u8 108, .int .u8 108, .int .u8 111] 5 5 Try.underlying35 Try.underlying5
  go_enter Try.func13, Try.ntmps13
  go_wp2_with fail
  refine HN.out.mono ?_
  rintro e w1 ⟨rfl, hD1, hb1⟩
  have HB1 := Lib.hid hb1
  have HC := create_prog hD1 lok0.fine (lok0.few (by decide)) ⟨#[97]⟩ [] [] (by decide)
  rw [lv_1] at HC
  have HC' := Lib.hid HC
  clear HC hD1 hb1
  go_wp2_with fail
  refine HC'.out.mono ?_
  rintro e w2 ⟨rfl, ha⟩
  obtain ⟨hD2, hb2⟩ := After.flat (B := w.heap.size) ha HB1.out.size
  have HB2 := Lib.hid (HB1.out.trans hb2)
  have HD2 := Lib.hid hD2
  clear ha hD2 hb2
  have HBX := Lib.hid (below_one w2 (.cells #[.int .u8 104, .int .u8 101, .int .u8 108, .int .u8 108, .int .u8 111] 5 (5, 6)))
  have HA := append_prog (HD2.out.below HBX.out) lok1.fine (lok1.few (by decide)) ⟨#[97]⟩ [] (some ⟨w2.heap.size, 0, none⟩) bHello 5 (by decide) (hello_bys w2) (by decide)
  rw [lv_2] at HA
  have HA' := Lib.hid HA
  clear HA
  go_wp2_with fail
  refine HA'.out.mono ?_
  rintro e w3 ⟨rfl, ha⟩
  obtain ⟨hD3, hb3⟩ := After.flat (B := w.heap.size) ha (by have h1 := HB2.out.size; have h2 := HBX.out.size; omega)
  have HB3 := Lib.hid ((HB2.out.trans (HBX.out.mono HB2.out.size)).trans hb3)
  have HS := syncdir_prog hD3 lok2.fine (lok2.few (by decide)) [] [] []
  rw [lv_3] at HS
  have HS' := Lib.hid HS
  clear ha hD3 hb3 HS
  go_wp2_with fail
  refine HS'.out.mono ?_
  rintro e w4 ⟨rfl, ha⟩
  obtain ⟨hD4, hb4⟩ := After.flat (B := w.heap.size) ha HB3.out.size
  have HB4 := Lib.hid (HB3.out.trans hb4)
  have HD4 := Lib.hid hD4.within
  clear ha hD4 hb4
  have hri : Row (w4.alloc (.cells #[.int .i64 2] 3)) w4.heap.size 3 #[.int .i64 2] := Row.new w4 _ _
  have hks : Ints (w4.alloc (.cells #[.int .i64 2] 3)) (some ⟨w4.heap.size, 0, none⟩) [2] := .inr ⟨w4.heap.size, 0, rfl, by simp, fun i hi => by
    have : i = 0 := by simpa using hi
    subst this
    exact hri.cell 0⟩
  have HBY := Lib.hid (below_one w4 (.cells #[.int .i64 2] 3))
  have HR := crash_at (HD4.out.below HBY.out) lok3 (by decide) 0 (by decide) (by decide) (some ⟨w4.heap.size, 0, none⟩) [2] 1 hks (.inr fun ad e h => by injection e with e; subst e; exact Nat.lt_irrefl _ h.2) (by decide) (fun i hi => by
    have : i = 0 := by simpa using hi
    subst this
    decide)
  rw [lv_4] at HR
  have HR' := Lib.hid HR
  clear HR hks hri
  go_wp2_with fail
  refine HR'.out.mono ?_
  rintro e w5 ⟨rfl, ha⟩
  have hD5 : DiskAt (From w.heap.size) w5 (w.heap.size + 2) lv4 := ha.1.mono fun k hk => by
    have h1 := HB4.out.size
    have h2 := HBY.out.size
    show w.heap.size ≤ k
    rcases hk with hk | hk
    · exact hk.1
    · omega
  have hb5 : Below w.heap.size (w4.alloc (.cells #[.int .i64 2] 3)) w5 := ha.2.to_below (fun k hk => hk.1) (by have h1 := HB4.out.size; have h2 := HBY.out.size; omega)
  have HB5 := Lib.hid ((HB4.out.trans (HBY.out.mono HB4.out.size)).trans hb5)
  have HRD := read_prog hD5 lok4.fine ⟨#[97]⟩ (by decide)
  rw [lv_5] at HRD
  have HRD' := Lib.hid HRD
  clear ha hD5 hb5 HRD
  go_wp2_with fail
  refine HRD'.out.mono ?_
  rintro e w6 ⟨v, rfl, ho, hb6⟩
  obtain ⟨Bv, cv, hv, hB, _⟩ := own_slice' ho
  subst hv
  have hcv := conv_bys w6 Bv bHe cv hB
  have HB6 := Lib.hid (HB5.out.trans (hb6.mono HB5.out.size))
  generalize bHe = bx at *
  generalize bx.length = nx at *
  clear ho hB hb6
  go_wp2
  go_ret
  exact ⟨rfl, HB6.out⟩
end Go.Proofs.Ytiepepikbophmaa
