/- Two rows of bytes in one new one; labels laid behind bytes: as the program and as the document's own answer do it. -/
import Derived.Test.YtgiclapgilppgaaDoorLbPut
import Derived.Test.YtgiclapgilppgaaDoorLbCheckRef
import Derived.Deep.RegionHeld3
import Derived.Deep.RegionLaw
import Derived.Deep.Cut
namespace Go.Proofs.YtgiclapgilppgaaDoor
open Go.RowKit Go.Maps
set_option linter.unusedVariables false

theorem concat_prog (g : Nat) (A B : Option Addr) (x y : List UInt8) (c d : Nat) (w : World) (hg : Row w g 42 #[.slice A x.length c, .slice B y.length d]) (hA : Bys w A x) (hB : Bys w B y) (hx : x.length ≤ 140737488351300) (hy : 0 < y.length) (hy2 : y.length ≤ 1000) :
    Calls Tryd.prog 53 #[.slice (some ⟨g, 0, none⟩) 2 2] w fun e w' => ∃ v, e = .returned v ∧ Own w' w.heap.size v (x ++ y) ∧ Below w.heap.size w w' := by
  have HG := Lib.hid hg
  have HA := Lib.hid hA
  have HB := Lib.hid hB
  have c0 : w.cell? ⟨g, 0, none⟩ = some (.slice A x.length c) := hg.cell 0
  have c1 : w.cell? ⟨g, 1, none⟩ = some (.slice B y.length d) := hg.cell 1
  have hgl := hg.lt
  clear hg hA hB
  go_enter Tryd.func53, Tryd.ntmps53
  go_wp2_with fail
  go_loop [11, 3] (fun i u => (i = .int .i64 0 ∧ u = .int .i64 0) ∨ (i = .int .i64 1 ∧ u = .int .i64 x.length) ∨ (i = .int .i64 2 ∧ u = .int .i64 (x.length + y.length : Nat))) (fun i _ => 2 - (intOf i).toNat)
  case atStart => exact .inl ⟨rfl, rfl⟩
  case round =>
    rcases hrel with ⟨rfl, rfl⟩ | ⟨rfl, rfl⟩ | ⟨rfl, rfl⟩
    · have i1 : decide ((x.length : Int) < 0) = false := by simp
      have i2 : IntKind.i64.wrap (x.length : Int) = x.length := IntWalk.i64_in _ (by omega)
      go_wp2_with fail
      exact ⟨by simp, by simp [intOf]⟩
    · have i2 : IntKind.i64.wrap ((x.length : Int) + (y.length : Int)) = (x.length : Int) + (y.length : Int) := IntWalk.i64_in _ (by omega)
      have i1 : decide ((x.length : Int) + (y.length : Int) < 0) = false := by simp; omega
      go_wp2_with fail
      exact ⟨by simp, by simp [intOf]⟩
    · have HGR := Lib.hid (grow_prog (x.length + y.length) w (by omega) (by omega))
      have HC := Lib.hid (fun W (h : Below w.heap.size w W) => (show W.cell? ⟨g, 0, none⟩ = some (.slice A x.length c) ∧ W.cell? ⟨g, 1, none⟩ = some (.slice B y.length d) from ⟨(h.cell hgl).trans c0, (h.cell hgl).trans c1⟩))
      go_wp2_with (first | (go_at_call 68; refine HGR.out.mono ?_; rintro e w1 ⟨v1, rfl, ho1, hb1⟩; have HO1 := Lib.hid ho1; have HB1 := Lib.hid hb1; clear ho1 hb1))
      clear c0 c1
      go_loopw [27, 6] (fun i u wr => ((i = .int .i64 0 ∧ Own wr w.heap.size u []) ∨ (i = .int .i64 1 ∧ Own wr w.heap.size u x) ∨ (i = .int .i64 2 ∧ Own wr w.heap.size u (x ++ y))) ∧ Below w.heap.size w wr) (fun i _ _ => 2 - (intOf i).toNat)
      case atStart => exact ⟨.inl ⟨rfl, HO1.out⟩, HB1.out⟩
      case round =>
        obtain ⟨hrel, hbr⟩ := hrel
        have HBR := Lib.hid hbr
        obtain ⟨q0, q1⟩ := HC.out _ hbr
        clear hbr
        rcases hrel with ⟨rfl, ho⟩ | ⟨rfl, ho⟩ | ⟨rfl, ho⟩
        · have HO := Lib.hid ho
          clear ho
          go_wp2_with (at_builtin; refine app_u8 rfl (.tmp 31) (.tmp 32) rfl w.heap.size _ [] rfl HO.out A x c rfl (HA.out.below HBR.out) (by simp only [List.length_nil]; omega) HBR.out.size ?_; intro v2 w2 hown2 hb2 _; have HO2 := Lib.hid hown2; have HB2 := Lib.hid (HBR.out.trans hb2); clear hown2 hb2)
          go_roundw
          case rel => exact ⟨.inr (.inl ⟨rfl, by simpa using HO2.out⟩), HB2.out⟩
          case measure => simp [intOf]
        · have HO := Lib.hid ho
          clear ho
          go_wp2_with (at_builtin; refine app_u8 rfl (.tmp 31) (.tmp 32) rfl w.heap.size _ x rfl HO.out B y d rfl (HB.out.below HBR.out) (by omega) HBR.out.size ?_; intro v2 w2 hown2 hb2 _; have HO2 := Lib.hid hown2; have HB2 := Lib.hid (HBR.out.trans hb2); clear hown2 hb2)
          go_roundw
          case rel => exact ⟨.inr (.inr ⟨rfl, HO2.out⟩), HB2.out⟩
          case measure => simp [intOf]
        · go_wp2_with fail
          go_ret
          exact ⟨_, rfl, ho, HBR.out⟩

theorem put_no (A B : Option Addr) (n c : Nat) (l : List Lbl) (d : Nat) (w : World) (hB : Lbls w B l) (hl : l.length ≤ 100000000000000) (h : lbChk l ≠ 0) :
    Calls Tryd.prog 30 #[.slice A n c, .slice B l.length d] w fun e w' => e = .returned (.tuple #[.slice none 0 0, .int .i64 (lbChk l)]) ∧ Below w.heap.size w w' := by
  have HC := Lib.hid (lbchk_prog B l d w hB hl)
  generalize lbChk l = C at *
  have i1 : (C != 0) = true := bne_iff_ne.2 h
  have i2 : (C == 0) = false := beq_eq_false_iff_ne.2 h
  clear h hB
  go_enter Tryd.func30, Tryd.ntmps30
  go_wp2_with (first | (go_at_call 13; refine HC.out.mono ?_; rintro e w1 ⟨rfl, hb1⟩))
  go_ret2
  exact ⟨rfl, hb1⟩
theorem put_yes (A B : Option Addr) (b : List UInt8) (c : Nat) (l : List Lbl) (d : Nat) (w : World) (hA : Bys w A b) (hB : Lbls w B l) (hb : b.length ≤ 140737488351300) (h : lbChk l = 0) :
    Calls Tryd.prog 30 #[.slice A b.length c, .slice B l.length d] w fun e w' => ∃ v, e = .returned (.tuple #[v, .int .i64 0]) ∧ Own w' w.heap.size v (b ++ bytesL l) ∧ Below w.heap.size w w' := by
  have h8 := (lbChk_ok.1 h).1
  have HC := Lib.hid (lbchk_prog B l d w hB (by omega))
  rw [h] at HC
  have HP := Lib.hid (fun W => putuint_prog none [] 0 l.length W (Bys.empty _ _) (by simp) (by omega))
  have HA := Lib.hid hA
  have HB := Lib.hid hB
  have HH := Lib.hid h
  have HSM := Lib.hid (fun (k : Nat) (hk : k ≤ l.length) => bytesF_small h hk)
  have HRT := Lib.hid (fun (k : Nat) (hk : k < l.length) => right_at h hk)
  clear hA hB h
  go_enter Tryd.func30, Tryd.ntmps30
  go_wp2_with (first
    | (go_at_call 13; refine HC.out.mono ?_; rintro e w1 ⟨rfl, hb1⟩; have HB1 := Lib.hid hb1; clear hb1)
    | (go_at_call 51; refine (HP.out _).mono ?_; rintro e w2 ⟨v2, rfl, ho2, hb2⟩; have HO2 := Lib.hid (own_lower ho2 HB1.out.size); have HB2 := Lib.hid (HB1.out.trans (hb2.mono HB1.out.size)); clear ho2 hb2))
  go_loopw [24, 7] (fun i u wr => ∃ k : Nat, k ≤ l.length ∧ i = .int .i64 (k : Int) ∧ Own wr w.heap.size u (bytesF l k) ∧ Below w.heap.size w wr) (fun i _ _ => l.length - (intOf i).toNat)
  case atStart => exact ⟨0, Nat.zero_le _, rfl, by simpa [bytesF] using HO2.out, HB2.out⟩
  case round =>
    obtain ⟨k, hk, rfl, ho, hbr⟩ := hrel
    have hsz := hbr.size
    by_cases hlt : k < l.length
    · obtain ⟨bb, o, rfl, hbl, g0, g1⟩ := HB.out.at_ hlt
      have c0 := (hbr.cell (p := ⟨bb, o + k * 2, none⟩) hbl).trans g0
      have c1 := (hbr.cell (p := ⟨bb, o + k * 2 + 1, none⟩) hbl).trans g1
      have i2 : (k : Int) < (l.length : Int) := by omega
      have HT : Hid (bytesF l (k + 1) = (bytesF l k ++ textL (nmOf l k)) ++ textL (vlOf l k)) := Lib.hid rfl
      have HL1 := Lib.hid (HSM.out k hk)
      have HL2 := Lib.hid (HRT.out k hlt)
      have HW1 := Lib.hid (hbr.alloc hsz (.cells #[.string (nmOf l k), .string (vlOf l k)] 58))
      have HR1 : Hid (Row (wr.alloc (.cells #[.string (nmOf l k), .string (vlOf l k)] 58)) wr.heap.size 58 #[.string (nmOf l k), .string (vlOf l k)]) := Lib.hid (Row.new wr _ _)
      obtain ⟨P0, d0, hu, hP0, _⟩ := own_slice' (own_alloc ho (.cells #[.string (nmOf l k), .string (vlOf l k)] 58))
      generalize bytesF l k = x at *
      subst hu
      have HP0 := Lib.hid hP0
      obtain ⟨y, hy⟩ : ∃ y, x ++ textL (nmOf l k) = y := ⟨_, rfl⟩
      rw [hy] at HT
      have HY := Lib.hid hy
      have HXL := Lib.hid (show y.length ≤ 1100 by rw [← hy, List.length_append]; have := textL_len HL2.out.1 (by omega); have := HL1.out; omega)
      clear ho hbr g0 g1 hP0 hy
      go_upto_region 9 with (first
        | (go_at_call 52; refine (puttext_prog P0 x d0 (nmOf l k) _ HP0.out (by have := HL1.out; omega) (by have := HL2.out; omega)).mono ?_; rintro e w3 ⟨v3, rfl, ho3, hb3⟩; rw [HY.out] at ho3; obtain ⟨P3, d3, hu3, hP3, _⟩ := own_slice' ho3; subst hu3; have HP3 := Lib.hid hP3; have HB3 := Lib.hid (HW1.out.trans (hb3.mono HW1.out.size)); have HR3 := Lib.hid (HR1.out.below hb3 (by simp)); have r0 := HR3.out.cell 0; have r1 := HR3.out.cell 1; clear ho3 hb3 hP3))
      go_wp2_with (first
        | (go_at_call 52; refine (puttext_prog P3 y d3 (vlOf l k) _ HP3.out (by have := HXL.out; omega) (by have := HL2.out; omega)).mono ?_; rintro e w4 ⟨v4, rfl, ho4, hb4⟩; have HO4 := Lib.hid (own_lower (base' := w.heap.size) ho4 HB3.out.size); have HB4 := Lib.hid (HB3.out.trans (hb4.mono HB3.out.size)); clear ho4 hb4))
      go_roundw
      case rel => exact ⟨k + 1, by omega, by go_num, by rw [HT.out]; exact HO4.out, HB4.out⟩
      case measure => simp [intOf]; omega
    · obtain rfl : k = l.length := by omega
      obtain ⟨P0, d0, hu, hP0, _⟩ := own_slice' ho
      have hfull : bytesF l l.length = bytesL l := rfl
      have hsm := HSM.out _ (Nat.le_refl _)
      have hpos : 0 < (bytesL l).length := by
        have : ∀ k, 0 < (bytesF l k).length := by
          intro k
          induction k with
          | zero => exact uintL_pos _
          | succ k ih => rw [bytesF, List.length_append, List.length_append]; omega
        exact this _
      rw [hfull] at hu hP0 hsm
      obtain ⟨y, hyl⟩ : ∃ y, bytesL l = y := ⟨_, rfl⟩
      rw [hyl] at hu hP0 hsm hpos
      have HY := Lib.hid hyl
      clear hyl
      subst hu
      have HCN := Lib.hid (fun W (g : Nat) (hgr : Row W g 42 #[.slice A b.length c, .slice P0 y.length d0]) (h : Below w.heap.size w W) (hp : Bys W P0 y) => concat_prog g A P0 b y c d0 W hgr (HA.out.below h) hp hb hpos hsm)
      have HBR := Lib.hid hbr
      have HP0 := Lib.hid hP0
      clear hbr hP0 hpos hsm ho hfull
      go_wp2_with (first
        | (go_at_call 53; refine (HCN.out _ _ (Row.new _ _ _) (HBR.out.alloc HBR.out.size _) (HP0.out.alloc _)).mono ?_; rintro e w5 ⟨v5, rfl, ho5, hb5⟩; have HO5 := Lib.hid (own_lower (base' := w.heap.size) ho5 (Nat.le_trans HBR.out.size (by simp))); have HB5 := Lib.hid ((HBR.out.alloc HBR.out.size _).trans (hb5.mono (Nat.le_trans HBR.out.size (by simp)))); clear ho5 hb5))
      go_ret2
      exact ⟨v5, rfl, by rw [HY.out]; exact HO5.out, HB5.out⟩
end Go.Proofs.YtgiclapgilppgaaDoor
