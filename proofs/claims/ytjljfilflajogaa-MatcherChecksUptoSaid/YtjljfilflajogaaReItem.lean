/- Items of a class. -/
import Derived.Test.YtjljfilflajogaaRePars
import Derived.Laws.ResultCell
namespace Go.Proofs.Ytjljfilflajogaa
open Go.RowKit
set_option linter.unusedVariables false

theorem row_two {w w' : World} {g X : Nat} {t : TypeId} {cs : Array Value} (h : Row w g t cs) (k : Two w w' X X) (hne : g ≠ X) : Row w' g t cs := (k.block g h.lt hne hne).trans h
theorem Rdr.two {w w' : World} {X : Nat} {x : List UInt8} {op dp : Nat} (h : Rdr w X x op dp) (k : Below w.heap.size w w') : Rdr w' X x op dp := by
  obtain ⟨s, hs, hr⟩ := h
  exact ⟨s, hs, hr.below k hr.lt⟩
theorem Rdr.lt {w : World} {X : Nat} {x : List UInt8} {op dp : Nat} (h : Rdr w X x op dp) : X < w.heap.size := by
  obtain ⟨s, hs, hr⟩ := h
  exact hr.lt
theorem two_of_below {w w' : World} {g h : Nat} (hb : Below w.heap.size w w') : Two w w' g h := ⟨hb.os, hb.tape, hb.output, hb.size, fun i hi _ _ => hb.block i hi⟩
theorem ret_span {fn : Func} {p u : Tmp} (h : fn.results = #[.cell p 97, .tmp u]) (tmps : Array Value) (w : World) (g : Nat) (cs : Array Value) (hp : tmps.getD p undef = .pointer (some ⟨g, 0, none⟩)) (hg : Row w g 97 cs) (hs : cs.size = 2) :
    (results fn tmps).run Try.prog w = .ok (.tuple #[.agg cs, tmps.getD u undef]) w := by
  rw [results_cell_tmp h]
  have hp' : tmps[p]?.getD undef = .pointer (some ⟨g, 0, none⟩) := by simpa using hp
  simp [hp', asAddr, run_loadVar_row w g _ _ cs _ _ hg Try.underlying97 rfl (by rw [hs]; kernel_rfl)]
/-- Two stores fill a block of two cells. -/
theorem row_fill {w : World} {g : Nat} {t : TypeId} {a b : Value} (h : Row w g t #[a, b]) (u v : Value) : Row ((w.setCell ⟨g, 0, none⟩ u).setCell ⟨g, 1, none⟩ v) g t #[u, v] := (h.setAt 0 u).setAt 1 v

theorem two_new {w w1 : World} {g h : Nat} (k : Two w w1 g h) {p : Addr} (hp : w.heap.size ≤ p.block) (u : Value) : Two w (w1.setCell p u) g h :=
  ⟨k.os, k.tape, k.output, by simpa [World.setCell] using k.size, fun i hi h1 h2 => (Below.heap_setCell w1 p u i (by omega)).trans (k.block i hi h1 h2)⟩
theorem any_new {w1 : World} {X : Nat} (k : RdrAny w1 X) {p : Addr} (hp : X ≠ p.block) (u : Value) : RdrAny (w1.setCell p u) X := by
  obtain ⟨s, a, b, h⟩ := k
  exact ⟨s, a, b, h.setFar hp u⟩
theorem rdr_new {w1 : World} {X : Nat} {x : List UInt8} {op dp : Nat} (k : Rdr w1 X x op dp) {p : Addr} (hp : X ≠ p.block) (u : Value) : Rdr (w1.setCell p u) X x op dp := by
  obtain ⟨s, hs, h⟩ := k
  exact ⟨s, hs, h.setFar hp u⟩
/-- What item tells, and leaves. -/
def ItemTold (w w' : World) (X : Nat) (x : List UInt8) (op dp : Nat) (e : Ending) : Prop :=
  Two w w' X X ∧ RdrAny w' X ∧ ∃ s : UInt8 × UInt8, e = .returned (.tuple #[.agg #[.int .u8 (s.1.toNat : Int), .int .u8 (s.2.toNat : Int)], .bool (itemM x).isSome]) ∧ ∀ s' y, itemM x = some (s', y) → s = s' ∧ Rdr w' X y op dp
theorem item_told {w w1 : World} {X : Nat} {x y : List UInt8} {op dp : Nat} {a b : UInt8} {ok : Bool} (hne : w.heap.size ≠ X) (ht : Two w w1 X X) (hr : Rdr w1 X y op dp) (ho : (itemM x).isSome = ok) (hi : ∀ s' y', itemM x = some (s', y') → (a, b) = s' ∧ y = y') :
    ItemTold w ((w1.setCell ⟨w.heap.size, 0, none⟩ (.int .u8 (a.toNat : Int))).setCell ⟨w.heap.size, 1, none⟩ (.int .u8 (b.toNat : Int))) X x op dp (.returned (.tuple #[.agg #[.int .u8 (a.toNat : Int), .int .u8 (b.toNat : Int)], .bool ok])) := by
  have hr2 := rdr_new (rdr_new hr (p := ⟨w.heap.size, 0, none⟩) (Ne.symm hne) (.int .u8 (a.toNat : Int))) (p := ⟨w.heap.size, 1, none⟩) (Ne.symm hne) (.int .u8 (b.toNat : Int))
  refine ⟨two_new (two_new ht (p := ⟨w.heap.size, 0, none⟩) (Nat.le_refl _) _) (p := ⟨w.heap.size, 1, none⟩) (Nat.le_refl _) _, hr2.any, (a, b), by rw [ho], ?_⟩
  intro s' y' h
  obtain ⟨h1, rfl⟩ := hi s' y' h
  exact ⟨h1, hr2⟩
set_option maxHeartbeats 1000000 in
theorem item_prog {w : World} {X : Nat} {x : List UInt8} {op dp : Nat} (h : Rdr w X x op dp) :
    Calls Try.prog 89 #[.pointer (some ⟨X, 0, none⟩)] w fun e w' => ItemTold w w' X x op dp e := by
  have hX := h.lt
  have hR0 : Rdr (w.alloc (.cells #[.int .u8 0, .int .u8 0] 97)) X x op dp := h.two (X := X) (below_one w _)
  have hne : w.heap.size ≠ X := by omega
  have HZ0 := Lib.hid (show Row (w.alloc (.cells #[.int .u8 0, .int .u8 0] 97)) w.heap.size 97 #[.int .u8 0, .int .u8 0] from Row.new w _ _)
  have HT0 := Lib.hid (two_of_below (g := X) (h := X) (below_one w (.cells #[.int .u8 0, .int .u8 0] 97)))
  have HB := Lib.hid (takeBut_prog hR0 ⟨#[92, 91, 93, 94, 45]⟩)
  have HQ : ∀ z, takeButM (strL ⟨#[92, 91, 93, 94, 45]⟩) z = takeButM unlistedL z := fun _ => rfl
  rw [HQ] at HB
  have HD : ∀ z, aheadM (strL ⟨#[45]⟩) z = aheadM [45] z := fun _ => rfl
  clear hR0 h
  cases h1 : takeButM unlistedL x with
  | none =>
    have HF := Lib.hid (show itemM x = none by unfold itemM; rw [h1])
    simp only [h1, tellBut, leftBut] at HB
    clear h1
    go_enter Try.func89, Try.ntmps89
    go_wp2_with (go_at_call 88; refine HB.out.mono ?_; rintro e w1 ⟨rfl, hr1, ht1⟩
                 have hz1 := row_two HZ0.out ht1 hne
                 have z0 := hz1.cell 0
                 have z1 := hz1.cell 1
                 have y0 := hz1.frozen 0
                 have y1 := hz1.frozen 1
                 simp at z0 z1
                 have HR1 := Lib.hid hr1
                 have HZ1 := Lib.hid hz1
                 have HT1 := Lib.hid (HT0.out.trans ht1)
                 clear hr1 hz1 ht1)
    (try simp only [Exit.inBlock, Exit.then])
    refine bodyPost_ret (ret_span rfl _ _ _ _ rfl (row_fill HZ1.out _ _) rfl) rfl ?_
    exact item_told (a := 0) (b := 0) hne HT1.out HR1.out (by rw [HF.out]; rfl) (fun s' y' h => by rw [HF.out] at h; cases h)
  | some r =>
    obtain ⟨lo, y⟩ := r
    simp only [h1, tellBut, leftBut] at HB
    have HI := Lib.hid (show itemM x = (if aheadM [45] y then (match takeButM unlistedL y.tail with | none => none | some (hi, z) => if lo ≤ hi then some ((lo, hi), z) else none) else some ((lo, lo), y)) by unfold itemM; rw [h1]; rfl)
    clear h1
    cases ha : aheadM [45] y
    · rw [ha] at HI
      go_enter Try.func89, Try.ntmps89
      go_wp2_with (first
        | (go_at_call 88; refine HB.out.mono ?_; rintro e w1 ⟨rfl, hr1, ht1⟩
           have hz1 := row_two HZ0.out ht1 hne
           have HS := Lib.hid (skip_prog hr1 ⟨#[45]⟩)
           simp only [HD, ha] at HS
           have HZ1 := Lib.hid hz1
           have HT1 := Lib.hid (HT0.out.trans ht1)
           clear hr1 hz1 ht1)
        | (go_at_call 65; refine HS.out.mono ?_; rintro e w2 ⟨rfl, hr2, ht2⟩
           have hz2 := row_two HZ1.out ht2 hne
           have z0 := hz2.cell 0
           have z1 := hz2.cell 1
           have y0 := hz2.frozen 0
           have y1 := hz2.frozen 1
           simp at z0 z1
           have HR2 := Lib.hid hr2
           have HZ2 := Lib.hid hz2
           have HT2 := Lib.hid (HT1.out.trans ht2)
           clear hr2 hz2 ht2))
      (try simp only [Exit.inBlock, Exit.then])
      refine bodyPost_ret (ret_span rfl _ _ _ _ rfl (row_fill HZ2.out _ _) rfl) rfl ?_
      exact item_told (a := lo) (b := lo) hne HT2.out HR2.out (by rw [HI.out]; rfl) (fun s' y' h => by rw [HI.out] at h; cases h; exact ⟨rfl, rfl⟩)
    · rw [ha] at HI
      cases h2 : takeButM unlistedL y.tail with
      | none =>
        have HF := Lib.hid (show itemM x = none by rw [HI.out, h2]; rfl)
        go_enter Try.func89, Try.ntmps89
        go_wp2_with (first
          | (go_at_call 65; refine HS.out.mono ?_; rintro e w2 ⟨rfl, hr2, ht2⟩
             have hz2 := row_two HZ1.out ht2 hne
             have HB2 := Lib.hid (takeBut_prog hr2 ⟨#[92, 91, 93, 94, 45]⟩)
             rw [HQ] at HB2
             simp only [if_true, h2, tellBut, leftBut] at HB2
             have HZ2 := Lib.hid hz2
             have HT2 := Lib.hid (HT1.out.trans ht2)
             clear hr2 hz2 ht2)
          | (go_at_call 88; refine HB2.out.mono ?_; rintro e w3 ⟨rfl, hr3, ht3⟩
             have hz3 := row_two HZ2.out ht3 hne
             have z0 := hz3.cell 0
             have z1 := hz3.cell 1
             have y0 := hz3.frozen 0
             have y1 := hz3.frozen 1
             simp at z0 z1
             have HR3 := Lib.hid hr3
             have HZ3 := Lib.hid hz3
             have HT3 := Lib.hid (HT2.out.trans ht3)
             clear hr3 hz3 ht3)
          | (go_at_call 88; refine HB.out.mono ?_; rintro e w1 ⟨rfl, hr1, ht1⟩
             have hz1 := row_two HZ0.out ht1 hne
             have HS := Lib.hid (skip_prog hr1 ⟨#[45]⟩)
             simp only [HD, ha] at HS
             have HZ1 := Lib.hid hz1
             have HT1 := Lib.hid (HT0.out.trans ht1)
             clear hr1 hz1 ht1))
        (try simp only [Exit.inBlock, Exit.then])
        refine bodyPost_ret (ret_span rfl _ _ _ _ rfl (row_fill HZ3.out _ _) rfl) rfl ?_
        exact item_told (a := lo) (b := 0) hne HT3.out HR3.out (by rw [HF.out]; rfl) (fun s' y' h => by rw [HF.out] at h; cases h)
      | some r =>
        obtain ⟨hi, z⟩ := r
        have HF := Lib.hid (show itemM x = (if lo ≤ hi then some ((lo, hi), z) else none) by rw [HI.out, h2]; rfl)
        have q1 : decide ((lo.toNat : Int) ≤ (hi.toNat : Int)) = decide (lo ≤ hi) := by rw [decide_eq_decide, UInt8.le_iff_toNat_le]; omega
        have q3 : decide (lo.toNat ≤ hi.toNat) = decide (lo ≤ hi) := by rw [decide_eq_decide, UInt8.le_iff_toNat_le]
        have HO : Hid ((itemM x).isSome = decide (lo ≤ hi)) := Lib.hid (by rw [HF.out]; by_cases h : lo ≤ hi <;> simp [h])
        have HV : Hid (∀ s' y', itemM x = some (s', y') → (lo, hi) = s' ∧ z = y') := Lib.hid (fun s' y' h => by
          rw [HF.out] at h
          split at h
          · simp only [Option.some.injEq, Prod.mk.injEq] at h; exact ⟨h.1, h.2⟩
          · cases h)
        generalize decide (lo ≤ hi) = ok at q1 q3 HO
        cases ok
        all_goals
          go_enter Try.func89, Try.ntmps89
          go_wp2_with (first
            | (go_at_call 65; refine HS.out.mono ?_; rintro e w2 ⟨rfl, hr2, ht2⟩
               have hz2 := row_two HZ1.out ht2 hne
               have HB2 := Lib.hid (takeBut_prog hr2 ⟨#[92, 91, 93, 94, 45]⟩)
               rw [HQ] at HB2
               simp only [if_true, h2, tellBut, leftBut] at HB2
               have HZ2 := Lib.hid hz2
               have HT2 := Lib.hid (HT1.out.trans ht2)
               clear hr2 hz2 ht2)
            | (go_at_call 88; refine HB2.out.mono ?_; rintro e w3 ⟨rfl, hr3, ht3⟩
               have hz3 := row_two HZ2.out ht3 hne
               have z0 := hz3.cell 0
               have z1 := hz3.cell 1
               have y0 := hz3.frozen 0
               have y1 := hz3.frozen 1
               simp at z0 z1
               have HR3 := Lib.hid hr3
               have HZ3 := Lib.hid hz3
               have HT3 := Lib.hid (HT2.out.trans ht3)
               clear hr3 hz3 ht3)
            | (go_at_call 88; refine HB.out.mono ?_; rintro e w1 ⟨rfl, hr1, ht1⟩
               have hz1 := row_two HZ0.out ht1 hne
               have HS := Lib.hid (skip_prog hr1 ⟨#[45]⟩)
               simp only [HD, ha] at HS
               have HZ1 := Lib.hid hz1
               have HT1 := Lib.hid (HT0.out.trans ht1)
               clear hr1 hz1 ht1))
          (try simp only [Exit.inBlock, Exit.then])
          refine bodyPost_ret (ret_span rfl _ _ _ _ rfl (row_fill HZ3.out _ _) rfl) rfl ?_
          exact item_told (a := lo) (b := hi) hne HT3.out HR3.out HO.out HV.out
end Go.Proofs.Ytjljfilflajogaa
