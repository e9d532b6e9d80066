/- Bytes that are lent with one more behind their end; whether they were kept; bytes that are written over; the document's examples. -/
import Derived.Test.YtoaeaffgpdohmaaFrPutUint
import Derived.Deep.RegionLaw
import Derived.Lib.SlBytesConst
namespace Go.Proofs.Ytoaeaffgpdohmaa
open Go.RowKit
set_option linter.unusedVariables false

theorem bys_90 {w : World} {g : Nat} (h : Row w g 5 #[.int .u8 90]) : Bys w (some ⟨g, 0, none⟩) [90] := Row.bys (l := [90]) h

theorem lent_law (A : Option Addr) (l : List UInt8) (c : Nat) (w : World) (hA : Bys w A l) (hl : l.length ≤ 140737488351232) :
    Calls Try.prog 13 #[.slice A l.length c] w fun e w' => ∃ G cap,
      e = .returned (.slice (some ⟨G, 0, none⟩) l.length cap) ∧ Bys w' (some ⟨G, 0, none⟩) (l ++ [90]) ∧ l.length + 1 ≤ cap ∧ cap ≤ maxLen ∧ w.heap.size ≤ G ∧ Below w.heap.size w w' := by
  go_enter Try.func13, Try.ntmps13
  go_wp2_with (first
    | (at_builtin; refine app_u8 rfl (.tmp 3) (.tmp 4) rfl w.heap.size _ [] rfl (own_empty (Row.new w _ _) (Nat.le_refl _)) A l c rfl (hA.alloc _) (by simp only [List.length_nil]; omega) (by simp) ?_; intro v1 w1 hown1 hb1' hg1; have hb1 : Below w.heap.size w w1 := ((Below.refl _ _).alloc (Nat.le_refl _) _).trans hb1'; clear hg1)
    | (at_builtin; refine app_u8 rfl (.tmp 5) (.tmp 6) rfl w.heap.size _ ([] ++ l) rfl (own_alloc hown1 _) _ [90] 1 rfl (bys_90 (Row.new _ _ _)) (by simp; omega) (Nat.le_trans hb1.size (by simp)) ?_; intro v2 w2 hown2 hb2' hg2; have hb2 : Below w.heap.size w w2 := (hb1.alloc hb1.size _).trans hb2'; obtain ⟨g, cap, hv2, hgb, hglt, hcap, hmax, hcl⟩ := own_form hown2 (by simp); subst hv2; have hcap2 : l.length + 1 ≤ cap := (by simpa using hcap); have HO := Lib.hid hown2; clear hown2 hcl hg2))
  go_ret
  exact ⟨g, cap, rfl, by simpa using own_bys HO.out, hcap2, hmax, hgb, hb2⟩

theorem spoil_law (v : Value) (l : List UInt8) (base : Nat) (w : World) (hown : Own w base v l) (hl : l.length ≤ 281474976710656) :
    Calls Try.prog 16 #[v] w fun e w' => e = .returned (.tuple #[]) ∧ w.grownBy w' v.ownBlock ∧ (∃ l', l'.length = l.length ∧ Own w' base v l') ∧ Below base w w' := by
  rcases Nat.eq_zero_or_pos l.length with h0 | h0
  · obtain ⟨B, d, rfl, _⟩ := own_slice' hown
    obtain rfl := List.eq_nil_of_length_eq_zero h0
    go_enter Try.func16, Try.ntmps16
    go_wp2
    go_loop [2] (fun i => i = .int .i64 0) (fun _ => 0)
    case atStart => rfl
    case round =>
      subst hrel
      go_wp2
      go_end0
      exact ⟨rfl, World.grownBy.refl w _, by first | exact hown | exact ⟨_, rfl, hown⟩, Below.refl _ _⟩
  · obtain ⟨g, cap, rfl, hgb, hglt, _⟩ := own_form hown h0
    go_enter Try.func16, Try.ntmps16
    go_wp2
    go_loopw [2] (fun i wr => ∃ (k : Nat) (x : List UInt8), k ≤ l.length ∧ x.length = l.length ∧ i = .int .i64 k ∧ Own wr base (.slice (some ⟨g, 0, none⟩) l.length cap) x ∧ w.grownBy wr (some g) ∧ Below base w wr) (fun i _ => l.length - (intOf i).toNat)
    case atStart => exact ⟨0, l, Nat.zero_le _, rfl, rfl, hown, World.grownBy.refl w _, Below.refl _ _⟩
    case round =>
      obtain ⟨k, x, hk, hx, rfl, hor, hgr, hbr⟩ := hrel
      rw [← hx] at hor
      by_cases hlt : k < l.length
      · obtain ⟨g', cap', e, _, _, _, _, hcl⟩ := own_form hor (by omega)
        obtain ⟨rfl, rfl⟩ : g = g' ∧ cap = cap' := by simpa using e
        have hc := hcl k (by omega)
        have hf := own_frozen hor k
        have hb := byte_nat (x.getD k 0)
        have HO := Lib.hid hor
        have Hg := Lib.hid hgr
        have Hb := Lib.hid hbr
        have Hx := Lib.hid hx
        clear hor hgr hbr hcl e hx
        generalize (x.getD k 0).toNat = v at *
        go_wp2
        refine ⟨⟨k + 1, x.set k (UInt8.ofNat (v + 1)), by omega, by simpa using Hx.out, by go_num, ?_, ?_, Hb.out.setCell (p := ⟨g, k, none⟩) hgb _⟩, by simp [intOf]; omega⟩
        · have h1 := own_set HO.out (i := k) (by rw [Hx.out]; omega) (UInt8.ofNat (v + 1))
          rw [List.length_set, Hx.out] at h1
          rw [show ((v : Int) + 1) % 256 = ((UInt8.ofNat (v + 1)).toNat : Int) from by rw [UInt8.toNat_ofNat']; omega]
          exact h1
        · have h1 := Hg.out
          exact ⟨h1.os, h1.tape, h1.output, by simpa [World.setCell] using h1.size, fun i hi hne => (Below.heap_setCell _ _ _ _ (fun e => hne (by rw [e]))).trans (h1.block i hi hne)⟩
      · go_wp2
        go_end0
        exact ⟨rfl, hgr, ⟨x, hx, by rw [← hx]; exact hor⟩, hbr⟩

theorem bys_marked (w : World) (l : List UInt8) (fr : Nat × Nat) : Bys (w.alloc (.cells (bcells l) 5 fr)) (some ⟨w.heap.size, 0, none⟩) l :=
  .inr ⟨_, 0, rfl, by simp, fun i hi => by rw [Nat.zero_add, cell_of_row _ _ i _ _ fr (heap_alloc_new w _)]; exact bcells_get l i hi⟩

theorem lives_true (w : World) : Calls Try.prog 20 #[] w fun e w' => e = .returned (.bool true) ∧ Below w.heap.size w w' := by
  have hu : uintL 300 = [172, 2] := by rw [uintL_big (by omega), uintL_small (by omega)]; rfl
  have hs : sumN [49, 50, 51, 52, 53, 54, 55, 56, 57] = 3808858755 := by decide +kernel
  go_enter Try.func20, Try.ntmps20
  go_wp2_with fail
  refine (putuint_prog none [] 0 300 w (Bys.empty _ _) (by simp) (by omega)).mono ?_
  rw [hu]
  rintro e w1 ⟨v, rfl, hown, hb1⟩
  obtain ⟨B, d, rfl, hB, _⟩ := own_slice' hown
  have c1 : (convert 22 9 (.slice B 2 d)).run Try.prog w1 = .ok (.string (txt [172, 2])) w1 := conv_bys w1 B [172, 2] d hB
  have q1 : ((txt [172, 2]).toList == [172, 2]) = true := by decide +kernel
  have hcv : (convert 22 22 (.slice (some ⟨w1.heap.size, 0, none⟩) 9 9)).run Try.prog (w1.alloc (.cells #[.int .u8 49, .int .u8 50, .int .u8 51, .int .u8 52, .int .u8 53, .int .u8 54, .int .u8 55, .int .u8 56, .int .u8 57] 5)) = .ok (.slice (some ⟨w1.heap.size, 0, none⟩) 9 9) (w1.alloc (.cells #[.int .u8 49, .int .u8 50, .int .u8 51, .int .u8 52, .int .u8 53, .int .u8 54, .int .u8 55, .int .u8 56, .int .u8 57] 5 (9, 10))) :=
    Go.Lib.run_convert_bytes_const w1 22 5 _ 9 9 Try.underlying22 Try.underlying5
  have HS := Lib.hid (sum_prog _ [49, 50, 51, 52, 53, 54, 55, 56, 57] 9 _ (bys_marked w1 [49, 50, 51, 52, 53, 54, 55, 56, 57] (9, 10)) (by simp))
  have Hb := Lib.hid ((hb1.alloc hb1.size (.cells #[.int .u8 49, .int .u8 50, .int .u8 51, .int .u8 52, .int .u8 53, .int .u8 54, .int .u8 55, .int .u8 56, .int .u8 57] 5 (9, 10))))
  rw [hs] at HS
  clear hown hB hb1 hu hs
  simp only [List.nil_append, List.length_cons, List.length_nil]
  go_wp2_with fail
  refine HS.out.mono ?_
  rintro e w2 ⟨rfl, rfl⟩
  go_wp2
  go_ret
  exact ⟨rfl, Hb.out⟩
end Go.Proofs.Ytoaeaffgpdohmaa
