/- Whether all matchers fit: a closure, and the library's search with it; whether they may be asked together. -/
import Derived.Test.YtjljfilflajogaaMtRows
import Derived.Test.YtjljfilflajogaaMtFits
namespace Go.Proofs.Ytjljfilflajogaa
open Go.RowKit
set_option linter.unusedVariables false

def IdxTold (w : World) (b : Bool) (e : Ending) (w' : World) : Prop := ∃ j : Int, e = .returned (.int .i64 j) ∧ -1 ≤ j ∧ j ≤ 9223372036854775807 ∧ decide (0 ≤ j) = b ∧ Below w.heap.size w w'
theorem fails_prog (X : Nat) (A : Option Addr) (l : List Lbl) (c : Nat) (k : Int) (n v : ByteArray) (w : World) (hX : Row w X 44 #[.slice A l.length c]) (hA : Lbls w A l) (hl : l.length ≤ 100000000000000) :
    Calls Try.prog 49 #[.agg #[.int .i64 k, .string n, .string v], .pointer (some ⟨X, 0, none⟩)] w fun e w' => e = .returned (.bool (!mfits (k, n, v) l)) ∧ Below w.heap.size w w' := by
  have hb0 := below_one w (.cells #[.int .i64 k, .string n, .string v] 39)
  have HB0 := Lib.hid hb0
  have HF := Lib.hid (mfits_prog k n v A l c _ (hA.below hb0) hl)
  have hX1 := hX.below hb0 hX.lt
  have x0 := hX1.cell 0
  have R1 := Row.new w 39 #[.int .i64 k, .string n, .string v]
  have c0 := R1.cell 0
  have c1 := R1.cell 1
  have c2 := R1.cell 2
  generalize mfits (k, n, v) l = b at HF ⊢
  clear hb0 hX1 R1 hX hA
  go_enter Try.func49, Try.ntmps49
  go_wp2_with (go_at_call 29; refine HF.out.mono ?_; rintro e w2 ⟨rfl, hb2⟩; have HB2 := Lib.hid (below_then HB0.out hb2); clear hb2)
  go_ret
  exact ⟨rfl, HB2.out⟩
theorem idx_prog (X : Nat) (V : Option Addr) (ms : List Mt) (d : Nat) (w : World) (hV : Mts w V ms) (hm : ms.length ≤ 100000000000000) (st : Mt → Bool)
    (hst : ∀ (W : World) (k : Int) (n v : ByteArray), Below w.heap.size w W → Calls Try.prog 49 #[.agg #[.int .i64 k, .string n, .string v], .pointer (some ⟨X, 0, none⟩)] W fun e w' => e = .returned (.bool (st (k, n, v))) ∧ Below W.heap.size W w') :
    Calls Try.prog 63 #[.slice V ms.length d, .func (.func 49) #[] #[.pointer (some ⟨X, 0, none⟩)]] w (IdxTold w (ms.any st)) := by
  have HV := Lib.hid hV
  have HS := Lib.hid hst
  clear hV hst
  go_enter Try.func63, Try.ntmps63
  go_wp2_with fail
  go_loopw [8] (fun i wr => ∃ k : Nat, k ≤ ms.length ∧ i = .int .i64 (k : Int) ∧ (ms.drop k).any st = ms.any st ∧ Below w.heap.size w wr) (fun i _ => ms.length - (intOf i).toNat)
  case atStart => exact ⟨0, Nat.zero_le _, rfl, rfl, Below.refl _ _⟩
  case round =>
    obtain ⟨k, hk, rfl, ha, hbr⟩ := hrel
    by_cases hlt : k < ms.length
    · obtain ⟨b, o, rfl, hb, g0, g1, g2⟩ := HV.out.at_ hlt
      have c0 := (hbr.cell (p := ⟨b, o + k * 3, none⟩) hb).trans g0
      have c1 := (hbr.cell (p := ⟨b, o + k * 3 + 1, none⟩) hb).trans g1
      have c2 := (hbr.cell (p := ⟨b, o + k * 3 + 2, none⟩) hb).trans g2
      have i1 : (0 : Int) ≤ (k : Int) := by omega
      have i2 : (k : Int) < (ms.length : Int) := by omega
      have HC := Lib.hid (HS.out wr (kdOf ms k) (mnOf ms k) (mvOf ms k) hbr)
      rw [List.drop_eq_getElem_cons hlt, List.any_cons, show ms[k] = (kdOf ms k, mnOf ms k, mvOf ms k) by rw [mt_of]; simp [List.getD, List.getElem?_eq_getElem hlt]] at ha
      have HB := Lib.hid hbr
      clear g0 g1 g2 hbr
      generalize kdOf ms k = kd at *
      generalize mnOf ms k = mn at *
      generalize mvOf ms k = mv at *
      cases hs : st (kd, mn, mv)
      · rw [hs] at HC ha
        have HA := Lib.hid ((Bool.false_or _).symm.trans ha)
        clear ha hs
        go_wp2_with (go_at_call 49; refine HC.out.mono ?_; rintro e w2 ⟨rfl, hb2⟩; have HB2 := Lib.hid (HB.out.trans (hb2.mono HB.out.size)); clear hb2)
        go_roundw
        case rel => exact ⟨k + 1, by omega, by go_num, HA.out, HB2.out⟩
        case measure => simp [intOf]; omega
      · rw [hs] at HC ha
        have HA := Lib.hid (show true = ms.any st by rw [← ha]; rfl)
        clear ha hs
        go_wp2_with (go_at_call 49; refine HC.out.mono ?_; rintro e w2 ⟨rfl, hb2⟩; have HB2 := Lib.hid (HB.out.trans (hb2.mono HB.out.size)); clear hb2)
        go_ret
        exact ⟨(k : Int), rfl, by omega, by omega, by rw [← HA.out]; simp, HB2.out⟩
    · obtain rfl : k = ms.length := by omega
      have HA := Lib.hid (show false = ms.any st by rw [← ha, List.drop_length]; rfl)
      have HB := Lib.hid hbr
      clear ha hbr
      go_wp2_with fail
      go_ret
      exact ⟨-1, rfl, by omega, by omega, by rw [← HA.out]; rfl, HB.out⟩
theorem contains_prog (X : Nat) (V : Option Addr) (ms : List Mt) (d : Nat) (w : World) (hV : Mts w V ms) (hm : ms.length ≤ 100000000000000) (st : Mt → Bool)
    (hst : ∀ (W : World) (k : Int) (n v : ByteArray), Below w.heap.size w W → Calls Try.prog 49 #[.agg #[.int .i64 k, .string n, .string v], .pointer (some ⟨X, 0, none⟩)] W fun e w' => e = .returned (.bool (st (k, n, v))) ∧ Below W.heap.size W w') :
    Calls Try.prog 50 #[.slice V ms.length d, .func (.func 49) #[] #[.pointer (some ⟨X, 0, none⟩)]] w fun e w' => e = .returned (.bool (ms.any st)) ∧ Below w.heap.size w w' := by
  have HI := Lib.hid (idx_prog X V ms d w hV hm st hst)
  clear hst
  generalize ms.any st = b at HI ⊢
  cases b
  · go_enter Try.func50, Try.ntmps50
    go_wp2_with (go_at_call 63; refine HI.out.mono ?_; rintro e w2 ⟨j, rfl, j1, j2, jb, hb2⟩; have HB2 := Lib.hid hb2; clear hb2)
    go_ret
    exact ⟨rfl, HB2.out⟩
  · go_enter Try.func50, Try.ntmps50
    go_wp2_with (go_at_call 63; refine HI.out.mono ?_; rintro e w2 ⟨j, rfl, j1, j2, jb, hb2⟩; have HB2 := Lib.hid hb2; clear hb2)
    go_ret
    exact ⟨rfl, HB2.out⟩
theorem any_not (ms : List Mt) (l : List Lbl) : (ms.any fun m => !mfits m l) = !mall ms l := by
  unfold mall
  induction ms with
  | nil => rfl
  | cons m ms ih => rw [List.any_cons, List.all_cons, ih, Bool.not_and]
theorem all_prog (V : Option Addr) (ms : List Mt) (d : Nat) (A : Option Addr) (l : List Lbl) (c : Nat) (w : World) (hV : Mts w V ms) (hm : ms.length ≤ 100000000000000) (hA : Lbls w A l) (hl : l.length ≤ 100000000000000) :
    Calls Try.prog 33 #[.slice V ms.length d, .slice A l.length c] w fun e w' => e = .returned (.bool (mall ms l)) ∧ Below w.heap.size w w' := by
  have hb0 := below_one w (.cells #[.slice A l.length c] 44)
  have hX := Row.new w 44 #[.slice A l.length c]
  have hA1 := hA.below hb0
  have HH := Lib.hid (contains_prog w.heap.size V ms d _ (hV.below hb0) hm (fun m => !mfits m l) (fun W k n v h => fails_prog w.heap.size A l c k n v W (hX.below h hX.lt) (hA1.below h) hl))
  have HB0 := Lib.hid hb0
  rw [any_not] at HH
  generalize mall ms l = b at HH ⊢
  clear hb0 hX hA1 hV hA
  go_enter Try.func33, Try.ntmps33
  go_wp2_with (go_at_call 50; refine HH.out.mono ?_; rintro e w2 ⟨rfl, hb2⟩; have HB2 := Lib.hid (below_then HB0.out hb2); clear hb2)
  go_ret
  exact ⟨rfl, HB2.out⟩
end Go.Proofs.Ytjljfilflajogaa
