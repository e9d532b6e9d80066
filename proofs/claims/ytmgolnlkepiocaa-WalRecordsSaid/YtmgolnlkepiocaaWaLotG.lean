/- In one text, written by lotify.py: LbPut, LbPut2, LbPutRef, LbRead, LbRead2, LbReadRef. -/
import Derived.Test.YtmgolnlkepiocaaWaLotE
import Derived.Test.YtmgolnlkepiocaaWaLotF
import Derived.Lib.AppendZeros
import Derived.Deep.RegionHeld3
import Derived.Deep.RegionLaw
import Derived.Deep.Cut
import Derived.Laws.ResultCell
import Derived.OwnWalk
namespace Go.Proofs.Ytmgolnlkepiocaa
open Go.RowKit Go.Maps
set_option linter.unusedVariables false

/-- The bytes of a right set: how many labels there are, and the first k of them. -/
def bytesF (l : List Lbl) : Nat → List UInt8
  | 0 => uintL l.length
  | k + 1 => (bytesF l k ++ textL (nmOf l k)) ++ textL (vlOf l k)
def bytesL (l : List Lbl) : List UInt8 := bytesF l l.length
theorem right_at {l : List Lbl} (h : lbChk l = 0) {k : Nat} (hk : k < l.length) : (nmOf l k).size ≤ 32 ∧ (vlOf l k).size ≤ 64 := by
  have h1 := lbErrAt_zero.1 ((lbChk_ok.1 h).2 k hk)
  exact ⟨(nameB_size h1.1).2, h1.2.2.1⟩
theorem textL_len {s : ByteArray} {m : Nat} (h : s.size ≤ m) (hm : m ≤ 100) : (textL s).length ≤ 9 + m := by
  rw [textL, List.length_append, strL_length]
  have := uintL_9 (n := s.size) (by omega)
  omega
theorem bytesF_len {l : List Lbl} (h : lbChk l = 0) : ∀ k, k ≤ l.length → (bytesF l k).length ≤ 9 + k * 114 := by
  intro k
  induction k with
  | zero =>
    intro _
    have := uintL_9 (n := l.length) (by have := (lbChk_ok.1 h).1; omega)
    show (uintL l.length).length ≤ _
    omega
  | succ k ih =>
    intro hk
    have h1 := ih (by omega)
    obtain ⟨h2, h3⟩ := right_at h (show k < l.length by omega)
    have h4 := textL_len h2 (by omega)
    have h5 := textL_len h3 (by omega)
    rw [bytesF, List.length_append, List.length_append]
    omega
theorem bytesF_small {l : List Lbl} (h : lbChk l = 0) {k : Nat} (hk : k ≤ l.length) : (bytesF l k).length ≤ 1000 := by
  have := bytesF_len h k hk
  have := (lbChk_ok.1 h).1
  omega

theorem grow_prog (n : Nat) (w : World) (h0 : 0 < n) (hn : n ≤ 211106232532992) :
    Calls Try.prog 90 #[.slice none 0 0, .int .i64 n] w fun e w' => ∃ v, e = .returned v ∧ Own w' w.heap.size v [] ∧ Below w.heap.size w w' := by
  obtain ⟨i0, hi, hz0, hz1, hz2⟩ := info_parts u8_info
  have hr := Go.Lib.run_append_nil_zeros (P := Try.prog) w 27 3 27 5 i0 (.int .u8 0) .i64 .i64 Try.underlying27 Try.underlying3 hi hz0 n h0 (by omega) (by omega) (by rw [hz2]; omega)
  have HG := Lib.hid (grownCap_ge w n 0 5)
  have HM := Lib.hid (grownCap_le_maxLen w n 0 5 (by simp only [maxLen]; omega))
  have HR := Lib.hid hr
  have i1 : decide ((n : Int) < 0) = false := by simp
  have i2 : decide ((0 : Int) < (n : Int)) = true := by simp; omega
  have i3 : IntKind.i64.wrap (n : Int) = n := IntWalk.i64_in _ (by omega)
  clear hr hi hz0 hz1 hz2
  go_enter Try.func90, Try.ntmps90
  go_wp2_with (at_builtin; refine Go.Lib.wpList_append_run _ rfl (.tmp 20) (.tmp 21) 27 3 rfl _ _ rfl rfl _ _ HR.out ?_)
  go_ret
  refine ⟨_, rfl, ⟨by simp [bcells], .inr ⟨w.heap.size, _, _, rfl, Nat.le_refl _, heap_alloc_new w.drew _, Nat.zero_le _, HM.out, ?_, by simp [bcells]⟩⟩, ((Below.refl _ _).drew.alloc (Nat.le_refl _) _)⟩
  have := HG.out
  simp only [Array.size_append, size_zeroCells]
  simp
  omega
end Go.Proofs.Ytmgolnlkepiocaa

namespace Go.Proofs.Ytmgolnlkepiocaa
open Go.RowKit Go.Maps
set_option linter.unusedVariables false

theorem concat_prog (g : Nat) (A B : Option Addr) (x y : List UInt8) (c d : Nat) (w : World) (hg : Row w g 27 #[.slice A x.length c, .slice B y.length d]) (hA : Bys w A x) (hB : Bys w B y) (hx : x.length ≤ 140737488351300) (hy : 0 < y.length) (hy2 : y.length ≤ 1000) :
    Calls Try.prog 58 #[.slice (some ⟨g, 0, none⟩) 2 2] w fun e w' => ∃ v, e = .returned v ∧ Own w' w.heap.size v (x ++ y) ∧ Below w.heap.size w w' := by
  have HG := Lib.hid hg
  have HA := Lib.hid hA
  have HB := Lib.hid hB
  have c0 : w.cell? ⟨g, 0, none⟩ = some (.slice A x.length c) := hg.cell 0
  have c1 : w.cell? ⟨g, 1, none⟩ = some (.slice B y.length d) := hg.cell 1
  have hgl := hg.lt
  clear hg hA hB
  go_enter Try.func58, Try.ntmps58
  go_wp2_with fail
  go_loop [11, 3] (fun i u => (i = .int .i64 0 ∧ u = .int .i64 0) ∨ (i = .int .i64 1 ∧ u = .int .i64 x.length) ∨ (i = .int .i64 2 ∧ u = .int .i64 (x.length + y.length : Nat))) (fun i _ => 2 - (intOf i).toNat)
  case atStart => exact .inl ⟨rfl, rfl⟩
  case round =>
    rcases hrel with ⟨rfl, rfl⟩ | ⟨rfl, rfl⟩ | ⟨rfl, rfl⟩
    · have i1 : decide ((x.length : Int) < 0) = false := by simp
      have i2 : IntKind.i64.wrap (x.length : Int) = x.length := IntWalk.i64_in _ (by omega)
      go_wp2_with fail
      exact ⟨by simp, by simp [intOf]⟩
    · have i2 : IntKind.i64.wrap ((x.length : Int) + (y.length : Int)) = (x.length : Int) + (y.length : Int) := IntWalk.i64_in _ (by omega)
      have i1 : decide ((x.length : Int) + (y.length : Int) < 0) = false := by simp; omega
      go_wp2_with fail
      exact ⟨by simp, by simp [intOf]⟩
    · have HGR := Lib.hid (grow_prog (x.length + y.length) w (by omega) (by omega))
      have HC := Lib.hid (fun W (h : Below w.heap.size w W) => (show W.cell? ⟨g, 0, none⟩ = some (.slice A x.length c) ∧ W.cell? ⟨g, 1, none⟩ = some (.slice B y.length d) from ⟨(h.cell hgl).trans c0, (h.cell hgl).trans c1⟩))
      go_wp2_with (first | (go_at_call 90; refine HGR.out.mono ?_; rintro e w1 ⟨v1, rfl, ho1, hb1⟩; have HO1 := Lib.hid ho1; have HB1 := Lib.hid hb1; clear ho1 hb1))
      clear c0 c1
      go_loopw [27, 6] (fun i u wr => ((i = .int .i64 0 ∧ Own wr w.heap.size u []) ∨ (i = .int .i64 1 ∧ Own wr w.heap.size u x) ∨ (i = .int .i64 2 ∧ Own wr w.heap.size u (x ++ y))) ∧ Below w.heap.size w wr) (fun i _ _ => 2 - (intOf i).toNat)
      case atStart => exact ⟨.inl ⟨rfl, HO1.out⟩, HB1.out⟩
      case round =>
        obtain ⟨hrel, hbr⟩ := hrel
        have HBR := Lib.hid hbr
        obtain ⟨q0, q1⟩ := HC.out _ hbr
        clear hbr
        rcases hrel with ⟨rfl, ho⟩ | ⟨rfl, ho⟩ | ⟨rfl, ho⟩
        · have HO := Lib.hid ho
          clear ho
          go_wp2_with (at_builtin; refine app_u8 rfl (.tmp 31) (.tmp 32) rfl w.heap.size _ [] rfl HO.out A x c rfl (HA.out.below HBR.out) (by simp only [List.length_nil]; omega) HBR.out.size ?_; intro v2 w2 hown2 hb2 _; have HO2 := Lib.hid hown2; have HB2 := Lib.hid (HBR.out.trans hb2); clear hown2 hb2)
          go_roundw
          case rel => exact ⟨.inr (.inl ⟨rfl, by simpa using HO2.out⟩), HB2.out⟩
          case measure => simp [intOf]
        · have HO := Lib.hid ho
          clear ho
          go_wp2_with (at_builtin; refine app_u8 rfl (.tmp 31) (.tmp 32) rfl w.heap.size _ x rfl HO.out B y d rfl (HB.out.below HBR.out) (by omega) HBR.out.size ?_; intro v2 w2 hown2 hb2 _; have HO2 := Lib.hid hown2; have HB2 := Lib.hid (HBR.out.trans hb2); clear hown2 hb2)
          go_roundw
          case rel => exact ⟨.inr (.inr ⟨rfl, HO2.out⟩), HB2.out⟩
          case measure => simp [intOf]
        · go_wp2_with fail
          go_ret
          exact ⟨_, rfl, ho, HBR.out⟩

theorem put_no (A B : Option Addr) (n c : Nat) (l : List Lbl) (d : Nat) (w : World) (hB : Lbls w B l) (hl : l.length ≤ 100000000000000) (h : lbChk l ≠ 0) :
    Calls Try.prog 26 #[.slice A n c, .slice B l.length d] w fun e w' => e = .returned (.tuple #[.slice none 0 0, .int .i64 (lbChk l)]) ∧ Below w.heap.size w w' := by
  have HC := Lib.hid (lbchk_prog B l d w hB hl)
  generalize lbChk l = C at *
  have i1 : (C != 0) = true := bne_iff_ne.2 h
  have i2 : (C == 0) = false := beq_eq_false_iff_ne.2 h
  clear h hB
  go_enter Try.func26, Try.ntmps26
  go_wp2_with (first | (go_at_call 35; refine HC.out.mono ?_; rintro e w1 ⟨rfl, hb1⟩))
  go_ret2
  exact ⟨rfl, hb1⟩
theorem put_yes (A B : Option Addr) (b : List UInt8) (c : Nat) (l : List Lbl) (d : Nat) (w : World) (hA : Bys w A b) (hB : Lbls w B l) (hb : b.length ≤ 140737488351300) (h : lbChk l = 0) :
    Calls Try.prog 26 #[.slice A b.length c, .slice B l.length d] w fun e w' => ∃ v, e = .returned (.tuple #[v, .int .i64 0]) ∧ Own w' w.heap.size v (b ++ bytesL l) ∧ Below w.heap.size w w' := by
  have h8 := (lbChk_ok.1 h).1
  have HC := Lib.hid (lbchk_prog B l d w hB (by omega))
  rw [h] at HC
  have HP := Lib.hid (fun W => putuint_prog none [] 0 l.length W (Bys.empty _ _) (by simp) (by omega))
  have HA := Lib.hid hA
  have HB := Lib.hid hB
  have HH := Lib.hid h
  have HSM := Lib.hid (fun (k : Nat) (hk : k ≤ l.length) => bytesF_small h hk)
  have HRT := Lib.hid (fun (k : Nat) (hk : k < l.length) => right_at h hk)
  clear hA hB h
  go_enter Try.func26, Try.ntmps26
  go_wp2_with (first
    | (go_at_call 35; refine HC.out.mono ?_; rintro e w1 ⟨rfl, hb1⟩; have HB1 := Lib.hid hb1; clear hb1)
    | (go_at_call 56; refine (HP.out _).mono ?_; rintro e w2 ⟨v2, rfl, ho2, hb2⟩; have HO2 := Lib.hid (own_lower ho2 HB1.out.size); have HB2 := Lib.hid (HB1.out.trans (hb2.mono HB1.out.size)); clear ho2 hb2))
  go_loopw [24, 7] (fun i u wr => ∃ k : Nat, k ≤ l.length ∧ i = .int .i64 (k : Int) ∧ Own wr w.heap.size u (bytesF l k) ∧ Below w.heap.size w wr) (fun i _ _ => l.length - (intOf i).toNat)
  case atStart => exact ⟨0, Nat.zero_le _, rfl, by simpa [bytesF] using HO2.out, HB2.out⟩
  case round =>
    obtain ⟨k, hk, rfl, ho, hbr⟩ := hrel
    have hsz := hbr.size
    by_cases hlt : k < l.length
    · obtain ⟨bb, o, rfl, hbl, g0, g1⟩ := HB.out.at_ hlt
      have c0 := (hbr.cell (p := ⟨bb, o + k * 2, none⟩) hbl).trans g0
      have c1 := (hbr.cell (p := ⟨bb, o + k * 2 + 1, none⟩) hbl).trans g1
      have i2 : (k : Int) < (l.length : Int) := by omega
      have HT : Hid (bytesF l (k + 1) = (bytesF l k ++ textL (nmOf l k)) ++ textL (vlOf l k)) := Lib.hid rfl
      have HL1 := Lib.hid (HSM.out k hk)
      have HL2 := Lib.hid (HRT.out k hlt)
      have HW1 := Lib.hid (hbr.alloc hsz (.cells #[.string (nmOf l k), .string (vlOf l k)] 108))
      have HR1 : Hid (Row (wr.alloc (.cells #[.string (nmOf l k), .string (vlOf l k)] 108)) wr.heap.size 108 #[.string (nmOf l k), .string (vlOf l k)]) := Lib.hid (Row.new wr _ _)
      obtain ⟨P0, d0, hu, hP0, _⟩ := own_slice' (own_alloc ho (.cells #[.string (nmOf l k), .string (vlOf l k)] 108))
      generalize bytesF l k = x at *
      subst hu
      have HP0 := Lib.hid hP0
      obtain ⟨y, hy⟩ : ∃ y, x ++ textL (nmOf l k) = y := ⟨_, rfl⟩
      rw [hy] at HT
      have HY := Lib.hid hy
      have HXL := Lib.hid (show y.length ≤ 1100 by rw [← hy, List.length_append]; have := textL_len HL2.out.1 (by omega); have := HL1.out; omega)
      clear ho hbr g0 g1 hP0 hy
      go_upto_region 9 with (first
        | (go_at_call 57; refine (puttext_prog P0 x d0 (nmOf l k) _ HP0.out (by have := HL1.out; omega) (by have := HL2.out; omega)).mono ?_; rintro e w3 ⟨v3, rfl, ho3, hb3⟩; rw [HY.out] at ho3; obtain ⟨P3, d3, hu3, hP3, _⟩ := own_slice' ho3; subst hu3; have HP3 := Lib.hid hP3; have HB3 := Lib.hid (HW1.out.trans (hb3.mono HW1.out.size)); have HR3 := Lib.hid (HR1.out.below hb3 (by simp)); have r0 := HR3.out.cell 0; have r1 := HR3.out.cell 1; clear ho3 hb3 hP3))
      go_wp2_with (first
        | (go_at_call 57; refine (puttext_prog P3 y d3 (vlOf l k) _ HP3.out (by have := HXL.out; omega) (by have := HL2.out; omega)).mono ?_; rintro e w4 ⟨v4, rfl, ho4, hb4⟩; have HO4 := Lib.hid (own_lower (base' := w.heap.size) ho4 HB3.out.size); have HB4 := Lib.hid (HB3.out.trans (hb4.mono HB3.out.size)); clear ho4 hb4))
      go_roundw
      case rel => exact ⟨k + 1, by omega, by go_num, by rw [HT.out]; exact HO4.out, HB4.out⟩
      case measure => simp [intOf]; omega
    · obtain rfl : k = l.length := by omega
      obtain ⟨P0, d0, hu, hP0, _⟩ := own_slice' ho
      have hfull : bytesF l l.length = bytesL l := rfl
      have hsm := HSM.out _ (Nat.le_refl _)
      have hpos : 0 < (bytesL l).length := by
        have : ∀ k, 0 < (bytesF l k).length := by
          intro k
          induction k with
          | zero => exact uintL_pos _
          | succ k ih => rw [bytesF, List.length_append, List.length_append]; omega
        exact this _
      rw [hfull] at hu hP0 hsm
      obtain ⟨y, hyl⟩ : ∃ y, bytesL l = y := ⟨_, rfl⟩
      rw [hyl] at hu hP0 hsm hpos
      have HY := Lib.hid hyl
      clear hyl
      subst hu
      have HCN := Lib.hid (fun W (g : Nat) (hgr : Row W g 27 #[.slice A b.length c, .slice P0 y.length d0]) (h : Below w.heap.size w W) (hp : Bys W P0 y) => concat_prog g A P0 b y c d0 W hgr (HA.out.below h) hp hb hpos hsm)
      have HBR := Lib.hid hbr
      have HP0 := Lib.hid hP0
      clear hbr hP0 hpos hsm ho hfull
      go_wp2_with (first
        | (go_at_call 58; refine (HCN.out _ _ (Row.new _ _ _) (HBR.out.alloc HBR.out.size _) (HP0.out.alloc _)).mono ?_; rintro e w5 ⟨v5, rfl, ho5, hb5⟩; have HO5 := Lib.hid (own_lower (base' := w.heap.size) ho5 (Nat.le_trans HBR.out.size (by simp))); have HB5 := Lib.hid ((HBR.out.alloc HBR.out.size _).trans (hb5.mono (Nat.le_trans HBR.out.size (by simp)))); clear ho5 hb5))
      go_ret2
      exact ⟨v5, rfl, by rw [HY.out]; exact HO5.out, HB5.out⟩
end Go.Proofs.Ytmgolnlkepiocaa

namespace Go.Proofs.Ytmgolnlkepiocaa
open Go.RowKit Go.Maps
set_option linter.unusedVariables false

theorem bytesL_pos (l : List Lbl) : ∀ k, 0 < (bytesF l k).length := by
  intro k
  induction k with
  | zero => exact uintL_pos _
  | succ k ih => rw [bytesF, List.length_append, List.length_append]; omega
attribute [-go_sem] Builtin.append_
set_option maxRecDepth 100000 in
set_option maxHeartbeats 4000000 in
theorem bytes_ref (B : Option Addr) (l : List Lbl) (d : Nat) (w : World) (hB : Lbls w B l) (h : lbChk l = 0) :
    Calls Try.prog 30 #[.slice B l.length d] w fun e w' => ∃ v, e = .returned v ∧ Own w' w.heap.size v (bytesL l) ∧ Below w.heap.size w w' := by
  have h8 := (lbChk_ok.1 h).1
  have HU := Lib.hid (uint_ref l.length w (by omega))
  have HB := Lib.hid hB
  have HSM := Lib.hid (fun (k : Nat) (hk : k ≤ l.length) => bytesF_small h hk)
  have HRT := Lib.hid (fun (k : Nat) (hk : k < l.length) => right_at h hk)
  clear hB h
  go_enter Try.func30, Try.ntmps30
  go_wp2_with (first
    | (go_at_call 29; refine HU.out.mono ?_; rintro e w2 ⟨v2, rfl, ho2, hb2⟩; have HO2 := Lib.hid ho2; have HB2 := Lib.hid hb2; clear ho2 hb2))
  go_loopw [4, 3] (fun i u wr => ∃ k : Nat, k ≤ l.length ∧ i = .int .i64 (k : Int) ∧ Own wr w.heap.size u (bytesF l k) ∧ Below w.heap.size w wr) (fun i _ _ => l.length - (intOf i).toNat)
  case atStart => exact ⟨0, Nat.zero_le _, rfl, HO2.out, HB2.out⟩
  case round =>
    obtain ⟨k, hk, rfl, ho, hbr⟩ := hrel
    have hsz := hbr.size
    by_cases hlt : k < l.length
    · obtain ⟨bb, o, rfl, hbl, g0, g1⟩ := HB.out.at_ hlt
      have i2 : (k : Int) < (l.length : Int) := by omega
      have HT : Hid (bytesF l (k + 1) = (bytesF l k ++ textL (nmOf l k)) ++ textL (vlOf l k)) := Lib.hid rfl
      have HL1 := Lib.hid (HSM.out k hk)
      have HL2 := Lib.hid (HRT.out k hlt)
      have HBZ : Hid (Below w.heap.size w wr.drew) := Lib.hid hbr.drew
      have HOZ : Hid (Own wr.drew w.heap.size u3 (bytesF l k)) := Lib.hid ho
      have HC := Lib.hid (fun W (h : Below w.heap.size w W) => (show W.cell? ⟨bb, o + k * 2, none⟩ = some (.string (nmOf l k)) ∧ W.cell? ⟨bb, o + k * 2 + 1, none⟩ = some (.string (vlOf l k)) from ⟨(h.cell hbl).trans g0, (h.cell hbl).trans g1⟩))
      have HX1 := Lib.hid (fun W => text_ref (nmOf l k) W (by have := HL2.out; omega))
      have HX2 := Lib.hid (fun W => text_ref (vlOf l k) W (by have := HL2.out; omega))
      have HTL1 := Lib.hid (show (textL (nmOf l k)).length ≤ 109 by have := textL_len HL2.out.1 (by omega); omega)
      have HTL2 := Lib.hid (show (textL (vlOf l k)).length ≤ 109 by have := textL_len HL2.out.2 (by omega); omega)
      obtain ⟨c0, c1⟩ := HC.out wr.drew hbr.drew
      have HKV : Hid (∀ k, u3.ownBlock = some k → w.heap.size ≤ k) := Lib.hid (fun k hk => (World.ownsRow.lt ho _ hk).1)
      generalize textL (nmOf l k) = t1 at *
      generalize textL (vlOf l k) = t2 at *
      obtain ⟨x, hx⟩ : ∃ x, bytesF l k = x := ⟨_, rfl⟩
      rw [hx] at HT HL1 HOZ
      obtain ⟨i0, hi, hz0, hz1, hz2⟩ := info_parts u8_info
      have HN1 := Lib.hid (show x.length + t1.length ≤ 211106232532992 by have := HL1.out; have := HTL1.out; omega)
      have HN2 := Lib.hid (show (x ++ t1).length + t2.length ≤ 211106232532992 by rw [List.length_append]; have := HL1.out; have := HTL1.out; have := HTL2.out; omega)
      clear ho hbr g0 g1 hx
      go_upto_region 5 with fail
      go_region_held3 (fun w' => w'.cell? ⟨bb, o + k * 2, none⟩ = some (.string (nmOf l k)) ∧ w'.cell? ⟨bb, o + k * 2 + 1, none⟩ = some (.string (vlOf l k)))
        (first | exact ⟨c0, c1⟩ | exact c0 | exact c1 | exact ⟨d0, d1⟩ | exact d0 | exact d1 | exact ⟨e0, e1⟩ | exact e0 | exact e1 | exact ⟨f0, f1⟩ | exact f0 | exact f1 | exact ⟨g0, g1⟩ | exact g0 | exact g1 | go_keep)
        (first
          | (go_at_call_of 61 (Value.string (nmOf l k)); refine (HX1.out _).mono ?_; rintro e w3 ⟨v3, rfl, ho3, hb3⟩
             obtain ⟨P3, d3, hv3, hP3, _⟩ := own_slice' ho3
             subst hv3
             have HB3 : Hid (Below w.heap.size w w3) := Lib.hid (HBZ.out.trans (hb3.mono HBZ.out.size))
             have HO3 : Hid (Own w3 w.heap.size u3 x) := Lib.hid (own_below HOZ.out hb3)
             have HP3 := Lib.hid hP3
             obtain ⟨d0, d1⟩ := HC.out _ HB3.out
             clear ho3 hb3 hP3)
          | (refine step_app _ rfl (.tmp 14) (.tmp 20) 27 rfl w.heap.size i0 Try.underlying27 hi hz0 hz1 hz2 u3 x rfl HO3.out P3 t1 d3 rfl HP3.out HN1.out HB3.out.size ?_
             intro v4 w4 hown4 hg4 _
             have HB4 : Hid (Below w.heap.size w w4) := Lib.hid (Below.grown HB3.out hg4 HB3.out.size HKV.out)
             have HO4 := Lib.hid hown4
             obtain ⟨e0, e1⟩ := HC.out _ HB4.out
             clear hown4 hg4)
          | (go_at_call_of 61 (Value.string (vlOf l k)); refine (HX2.out _).mono ?_; rintro e w5 ⟨v5, rfl, ho5, hb5⟩
             obtain ⟨P5, d5, hv5, hP5, _⟩ := own_slice' ho5
             subst hv5
             have HB5 : Hid (Below w.heap.size w w5) := Lib.hid (HB4.out.trans (hb5.mono HB4.out.size))
             have HO5 : Hid (Own w5 w.heap.size v4 (x ++ t1)) := Lib.hid (own_below HO4.out hb5)
             have HP5 := Lib.hid hP5
             obtain ⟨f0, f1⟩ := HC.out _ HB5.out
             clear ho5 hb5 hP5)
          | (refine step_app _ rfl (.tmp 21) (.tmp 27) 27 rfl w.heap.size i0 Try.underlying27 hi hz0 hz1 hz2 v4 (x ++ t1) rfl HO5.out P5 t2 d5 rfl HP5.out HN2.out HB5.out.size ?_
             intro v6 w6 hown6 hg6 _
             have HB6 : Hid (Below w.heap.size w w6) := Lib.hid (Below.grown HB5.out hg6 HB5.out.size (fun k hk => (World.ownsRow.lt HO5.out _ hk).1))
             have HO6 := Lib.hid hown6
             obtain ⟨g0, g1⟩ := HC.out _ HB6.out
             clear hown6 hg6))
      all_goals
        go_wp2_with fail
        go_roundw
        case rel => exact ⟨k + 1, by omega, by go_num, by rw [HT.out]; exact HO6.out, HB6.out⟩
        case measure => simp [intOf]; omega
    · obtain rfl : k = l.length := by omega
      go_wp2_with fail
      go_ret
      exact ⟨_, rfl, ho, hbr⟩
end Go.Proofs.Ytmgolnlkepiocaa

namespace Go.Proofs.Ytmgolnlkepiocaa
open Go.RowKit Go.Maps
set_option linter.unusedVariables false

/-- What is read as a number at any place (one out of the bytes too). -/
def GX (l : List UInt8) (a : Int) (n nx e : Nat) : Prop := ((a < 0 ∨ (l.length : Int) < a) ∧ n = 0 ∧ nx = 0 ∧ e = 2) ∨ ∃ k : Nat, a = k ∧ k ≤ l.length ∧ GU l k n nx e
theorem gx_total (l : List UInt8) (a : Int) : ∃ n nx e, GX l a n nx e := by
  by_cases h : a < 0 ∨ (l.length : Int) < a
  · exact ⟨0, 0, 2, .inl ⟨h, rfl, rfl, rfl⟩⟩
  · obtain ⟨k, rfl⟩ := Int.eq_ofNat_of_zero_le (a := a) (by omega)
    obtain ⟨n, nx, e, hg⟩ := gu_total l k (by omega)
    exact ⟨n, nx, e, .inr ⟨k, rfl, by omega, hg⟩⟩
theorem gx_place {l : List UInt8} {a : Int} {n nx e : Nat} (h : GX l a n nx e) : (e = 0 → nx ≤ l.length ∧ 0 < nx) ∧ n < 9223372036854775808 := by
  rcases h with ⟨_, rfl, rfl, rfl⟩ | ⟨k, rfl, _, hg⟩
  · exact ⟨fun h => absurd h (by omega), by omega⟩
  · exact ⟨fun he => ⟨(gu_place hg he).1, (gu_place hg he).2.1⟩, gu_small hg⟩
theorem gx_prog {l : List UInt8} {a : Int} {n nx e : Nat} (h : GX l a n nx e) (A : Option Addr) (c : Nat) (w : World) (hA : Bys w A l) (hlc : l.length ≤ c) (hl : l.length ≤ 140737488355328) :
    Calls Try.prog 95 #[.slice A l.length c, .int .i64 a] w fun e' w' => e' = .returned (.tuple #[.int .i64 n, .int .i64 nx, .int .i64 e]) ∧ Below w.heap.size w w' := by
  rcases h with ⟨h, rfl, rfl, rfl⟩ | ⟨k, rfl, hk, hg⟩
  · refine (getuint_bad A l c a w h).mono ?_
    rintro e w' ⟨rfl, rfl⟩
    exact ⟨rfl, Below.refl _ _⟩
  · exact getuint_prog A l c k n nx e w hA hlc hl hk hg
theorem gx_ref {l : List UInt8} {a : Int} {n nx e : Nat} (h : GX l a n nx e) (A : Option Addr) (c : Nat) (w : World) (hA : Bys w A l) (hlc : l.length ≤ c) (hl : l.length ≤ 140737488355328) :
    Calls Try.prog 98 #[.slice A l.length c, .int .i64 a] w fun e' w' => e' = .returned (.tuple #[.int .i64 n, .int .i64 nx, .int .i64 e]) ∧ Below w.heap.size w w' := by
  rcases h with ⟨h, rfl, rfl, rfl⟩ | ⟨k, rfl, hk, hg⟩
  · refine (getuint_ref_bad A l c a w h).mono ?_
    rintro e w' ⟨rfl, rfl⟩
    exact ⟨rfl, Below.refl _ _⟩
  · refine (getuint_ref A l c k n nx e w hA hl hk hg).mono ?_
    rintro e w' ⟨rfl, rfl⟩
    exact ⟨rfl, Below.refl _ _⟩
/-- What is read as a text at any place. -/
def TX (l : List UInt8) (a : Int) (s : ByteArray) (k e : Nat) : Prop := ∃ n nx e0, GX l a n nx e0 ∧ GT l n nx e0 s k e
theorem tx_total (l : List UInt8) (a : Int) : ∃ s k e, TX l a s k e := by
  obtain ⟨n, nx, e0, h⟩ := gx_total l a
  obtain ⟨s, k, e, h2⟩ := gt_total l n nx e0 (fun he => ((gx_place h).1 he).1)
  exact ⟨s, k, e, n, nx, e0, h, h2⟩
theorem tx_size {l : List UInt8} {a : Int} {s : ByteArray} {k e : Nat} (h : TX l a s k e) : s.size ≤ 65535 := by
  obtain ⟨n, nx, e0, _, h2⟩ := h
  cases h2 with
  | no e h => simp [ByteArray.size]
  | big h => simp [ByteArray.size]
  | short h hx hs => simp [ByteArray.size]
  | ok h hx hs => simp [txt, ByteArray.size]; omega
theorem tx_prog {l : List UInt8} {a : Int} {s : ByteArray} {k e : Nat} (h : TX l a s k e) (A : Option Addr) (c : Nat) (w : World) (hA : Bys w A l) (hlc : l.length ≤ c) (hl : l.length ≤ 140737488355328) :
    Calls Try.prog 106 #[.slice A l.length c, .int .i64 a] w fun e' w' => e' = .returned (.tuple #[.string s, .int .i64 k, .int .i64 e]) ∧ Below w.heap.size w w' := by
  obtain ⟨n, nx, e0, h1, h2⟩ := h
  exact gettext_prog A l c a n nx e0 s k e w hA hlc hl (gx_place h1).2 (fun he => ((gx_place h1).1 he).2) (gx_prog h1 A c w hA hlc hl) h2
theorem tx_ref {l : List UInt8} {a : Int} {s : ByteArray} {k e : Nat} (h : TX l a s k e) (A : Option Addr) (c : Nat) (w : World) (hA : Bys w A l) (hlc : l.length ≤ c) (hl : l.length ≤ 140737488355328) :
    Calls Try.prog 99 #[.slice A l.length c, .int .i64 a] w fun e' w' => e' = .returned (.tuple #[.string s, .int .i64 k, .int .i64 e]) ∧ Below w.heap.size w w' := by
  obtain ⟨n, nx, e0, h1, h2⟩ := h
  exact gettext_ref A l c a n nx e0 s k e w hA hlc hl (gx_place h1).2 (fun he => ((gx_place h1).1 he).2) (gx_ref h1 A c w hA hlc hl) h2
/-- What is read as n labels from a place on: the labels, the place behind, the error. -/
inductive RL (l : List UInt8) : Nat → Int → List Lbl → Int → Nat → Prop
  | done (a : Int) : RL l 0 a [] a 0
  | bad1 (n : Nat) (a : Int) (s : ByteArray) (k e : Nat) (h : TX l a s k e) (he : e ≠ 0) : RL l (n + 1) a [] 0 e
  | bad2 (n : Nat) (a : Int) (s : ByteArray) (k : Nat) (s2 : ByteArray) (k2 e : Nat) (h : TX l a s k 0) (h2 : TX l k s2 k2 e) (he : e ≠ 0) : RL l (n + 1) a [] 0 e
  | ok (n : Nat) (a : Int) (s : ByteArray) (k : Nat) (s2 : ByteArray) (k2 : Nat) (ls : List Lbl) (p : Int) (e : Nat) (h : TX l a s k 0) (h2 : TX l k s2 k2 0) (r : RL l n k2 ls p e) : RL l (n + 1) a ((s, s2) :: ls) p e
theorem rl_total (l : List UInt8) : ∀ n a, ∃ ls p e, RL l n a ls p e := by
  intro n
  induction n with
  | zero => intro a; exact ⟨_, _, _, .done a⟩
  | succ n ih =>
    intro a
    obtain ⟨s, k, e, h⟩ := tx_total l a
    by_cases he : e = 0
    · subst he
      obtain ⟨s2, k2, e2, h2⟩ := tx_total l k
      by_cases he2 : e2 = 0
      · subst he2
        obtain ⟨ls, p, e, r⟩ := ih k2
        exact ⟨_, _, _, .ok n a s k s2 k2 ls p e h h2 r⟩
      · exact ⟨_, _, _, .bad2 n a s k s2 k2 e2 h h2 he2⟩
    · exact ⟨_, _, _, .bad1 n a s k e h he⟩
theorem rl_size {l : List UInt8} {n : Nat} {a : Int} {ls : List Lbl} {p : Int} {e : Nat} (h : RL l n a ls p e) : LFits ls ∧ ls.length ≤ n := by
  induction h with
  | done a => exact ⟨fun i hi => by simp at hi, Nat.le_refl _⟩
  | bad1 n a s k e h he => exact ⟨fun i hi => by simp at hi, by simp⟩
  | bad2 n a s k s2 k2 e h h2 he => exact ⟨fun i hi => by simp at hi, by simp⟩
  | ok n a s k s2 k2 ls p e h h2 r ih =>
    refine ⟨fun i hi => ?_, by rw [List.length_cons]; omega⟩
    cases i with
    | zero =>
      have h3 := tx_size h
      have h4 := tx_size h2
      show s.size ≤ _ ∧ s2.size ≤ _
      omega
    | succ i => exact ih.1 i (by simpa using hi)

theorem ret_lbl3 {fn : Func} {p u v : Tmp} (h : fn.results = #[.cell p 108, .tmp u, .tmp v]) (tmps : Array Value) (w : World) (g : Nat) (cs : Array Value) (hp : tmps.getD p undef = .pointer (some ⟨g, 0, none⟩)) (hg : Row w g 108 cs) (hs : cs.size = 2) :
    (results fn tmps).run Try.prog w = .ok (.tuple #[.agg cs, tmps.getD u undef, tmps.getD v undef]) w := by
  have hp' : tmps[p]?.getD undef = .pointer (some ⟨g, 0, none⟩) := by simpa using hp
  simp only [results, h]
  simp [hp', asAddr, Result.andThen, run_loadVar_row w g _ _ cs _ _ hg Try.underlying108 rfl (by rw [hs]; kernel_rfl)]
theorem readlabel_bad1 {l : List UInt8} {a : Int} {s : ByteArray} {k e : Nat} (h : TX l a s k e) (he : e ≠ 0) (A : Option Addr) (c : Nat) (w : World) (hA : Bys w A l) (hlc : l.length ≤ c) (hl : l.length ≤ 140737488355328) :
    Calls Try.prog 96 #[.slice A l.length c, .int .i64 a] w fun e' w' => e' = .returned (.tuple #[.agg #[.string ⟨#[]⟩, .string ⟨#[]⟩], .int .i64 0, .int .i64 e]) ∧ Below w.heap.size w w' := by
  have HT := Lib.hid (tx_prog h A c (w.alloc (.cells #[.string ⟨#[]⟩, .string ⟨#[]⟩] 108)) (hA.alloc _) hlc hl)
  have i1 : ((e : Int) != 0) = true := bne_iff_ne.2 (by omega)
  have i2 : ((e : Int) == 0) = false := beq_eq_false_iff_ne.2 (by omega)
  have HR : Hid (Row (w.alloc (.cells #[.string ⟨#[]⟩, .string ⟨#[]⟩] 108)) w.heap.size 108 #[.string ⟨#[]⟩, .string ⟨#[]⟩]) := Lib.hid (Row.new w _ _)
  clear h he hA
  go_enter Try.func96, Try.ntmps96
  go_wp2_with (first
    | (go_at_call 106; refine HT.out.mono ?_; rintro e w2 ⟨rfl, hb2⟩; have HR2 := Lib.hid (HR.out.below hb2 (by simp)); have HB2 := Lib.hid ((below_one w _).trans (hb2.mono (by simp))); have r0 := HR2.out.cell 0; have r1 := HR2.out.cell 1; have f0 := HR2.out.frozen 0; have f1 := HR2.out.frozen 1; clear hb2))
  (try simp only [Exit.inBlock, Exit.then]); refine bodyPost_ret (ret_lbl3 rfl _ _ _ _ rfl ((HR2.out.setAt _ _).setAt _ _) rfl) rfl ?_
  exact ⟨rfl, (HB2.out.setCell (p := ⟨w.heap.size, 0, none⟩) (Nat.le_refl _) _).setCell (p := ⟨w.heap.size, 1, none⟩) (Nat.le_refl _) _⟩
end Go.Proofs.Ytmgolnlkepiocaa

namespace Go.Proofs.Ytmgolnlkepiocaa
open Go.RowKit Go.Maps
set_option linter.unusedVariables false

theorem readlabel_bad2 {l : List UInt8} {a : Int} {s s2 : ByteArray} {k k2 e : Nat} (h : TX l a s k 0) (h2 : TX l k s2 k2 e) (he : e ≠ 0) (A : Option Addr) (c : Nat) (w : World) (hA : Bys w A l) (hlc : l.length ≤ c) (hl : l.length ≤ 140737488355328) :
    Calls Try.prog 96 #[.slice A l.length c, .int .i64 a] w fun e' w' => e' = .returned (.tuple #[.agg #[.string ⟨#[]⟩, .string ⟨#[]⟩], .int .i64 0, .int .i64 e]) ∧ Below w.heap.size w w' := by
  have HT := Lib.hid (tx_prog h A c (w.alloc (.cells #[.string ⟨#[]⟩, .string ⟨#[]⟩] 108)) (hA.alloc _) hlc hl)
  have HT2 := Lib.hid (fun W (h : Below w.heap.size w W) => tx_prog h2 A c W (hA.below h) hlc hl)
  have i1 : ((e : Int) != 0) = true := bne_iff_ne.2 (by omega)
  have i2 : ((e : Int) == 0) = false := beq_eq_false_iff_ne.2 (by omega)
  have HR : Hid (Row (w.alloc (.cells #[.string ⟨#[]⟩, .string ⟨#[]⟩] 108)) w.heap.size 108 #[.string ⟨#[]⟩, .string ⟨#[]⟩]) := Lib.hid (Row.new w _ _)
  clear h h2 he hA
  go_enter Try.func96, Try.ntmps96
  go_upto_region 4 with (first
    | (go_at_call 106; refine HT.out.mono ?_; rintro e w2 ⟨rfl, hb2⟩; have HR2 := Lib.hid (HR.out.below hb2 (by simp)); have HB2 := Lib.hid ((below_one w _).trans (hb2.mono (by simp))); clear hb2))
  go_wp2_with (first
    | (go_at_call 106; refine (HT2.out _ HB2.out).mono ?_; rintro e w3 ⟨rfl, hb3⟩; have HR3 := Lib.hid (HR2.out.below hb3 (Row.lt HR2.out)); have HB3 := Lib.hid (HB2.out.trans (hb3.mono HB2.out.size)); have r0 := HR3.out.cell 0; have r1 := HR3.out.cell 1; have f0 := HR3.out.frozen 0; have f1 := HR3.out.frozen 1; clear hb3))
  (try simp only [Exit.inBlock, Exit.then]); refine bodyPost_ret (ret_lbl3 rfl _ _ _ _ rfl ((HR3.out.setAt _ _).setAt _ _) rfl) rfl ?_
  exact ⟨rfl, (HB3.out.setCell (p := ⟨w.heap.size, 0, none⟩) (Nat.le_refl _) _).setCell (p := ⟨w.heap.size, 1, none⟩) (Nat.le_refl _) _⟩
theorem readlabel_ok {l : List UInt8} {a : Int} {s s2 : ByteArray} {k k2 : Nat} (h : TX l a s k 0) (h2 : TX l k s2 k2 0) (A : Option Addr) (c : Nat) (w : World) (hA : Bys w A l) (hlc : l.length ≤ c) (hl : l.length ≤ 140737488355328) :
    Calls Try.prog 96 #[.slice A l.length c, .int .i64 a] w fun e' w' => e' = .returned (.tuple #[.agg #[.string s, .string s2], .int .i64 k2, .int .i64 0]) ∧ Below w.heap.size w w' := by
  have HT := Lib.hid (tx_prog h A c (w.alloc (.cells #[.string ⟨#[]⟩, .string ⟨#[]⟩] 108)) (hA.alloc _) hlc hl)
  have HT2 := Lib.hid (fun W (h : Below w.heap.size w W) => tx_prog h2 A c W (hA.below h) hlc hl)
  have HR : Hid (Row (w.alloc (.cells #[.string ⟨#[]⟩, .string ⟨#[]⟩] 108)) w.heap.size 108 #[.string ⟨#[]⟩, .string ⟨#[]⟩]) := Lib.hid (Row.new w _ _)
  clear h h2 hA
  go_enter Try.func96, Try.ntmps96
  go_upto_region 4 with (first
    | (go_at_call 106; refine HT.out.mono ?_; rintro e w2 ⟨rfl, hb2⟩; have HR2 := Lib.hid (HR.out.below hb2 (by simp)); have HB2 := Lib.hid ((below_one w _).trans (hb2.mono (by simp))); clear hb2))
  go_wp2_with (first
    | (go_at_call 106; refine (HT2.out _ HB2.out).mono ?_; rintro e w3 ⟨rfl, hb3⟩; have HR3 := Lib.hid (HR2.out.below hb3 (Row.lt HR2.out)); have HB3 := Lib.hid (HB2.out.trans (hb3.mono HB2.out.size)); have r0 := HR3.out.cell 0; have r1 := HR3.out.cell 1; have f0 := HR3.out.frozen 0; have f1 := HR3.out.frozen 1; clear hb3))
  (try simp only [Exit.inBlock, Exit.then]); refine bodyPost_ret (ret_lbl3 rfl _ _ _ _ rfl ((HR3.out.setAt _ _).setAt _ _) rfl) rfl ?_
  exact ⟨rfl, (HB3.out.setCell (p := ⟨w.heap.size, 0, none⟩) (Nat.le_refl _) _).setCell (p := ⟨w.heap.size, 1, none⟩) (Nat.le_refl _) _⟩

theorem row_new_set (w : World) (p q : Addr) (u v : Value) (t : TypeId) (cs : Array Value) : Row (((w.setCell p u).setCell q v).alloc (.cells cs t)) w.heap.size t cs := by
  have := Row.new ((w.setCell p u).setCell q v) t cs
  rw [show ((w.setCell p u).setCell q v).heap.size = w.heap.size from by simp [World.setCell]] at this
  exact this
/-- What Read tells: by what was read as a number, and as so many labels. -/
def readV (v : Value) (p : Int) (e : Nat) : Ending := .returned (.tuple #[v, .int .i64 p, .int .i64 e])
theorem ret_3 {v : Value} {b c b' c' : Int} (h2 : b = b') (h3 : c = c') : Ending.returned (.tuple #[v, .int .i64 b, .int .i64 c]) = .returned (.tuple #[v, .int .i64 b', .int .i64 c']) := by rw [h2, h3]
theorem read_no {l : List UInt8} {a : Int} {n nx e : Nat} (h : GX l a n nx e) (he : e ≠ 0) (A : Option Addr) (c : Nat) (w : World) (hA : Bys w A l) (hlc : l.length ≤ c) (hl : l.length ≤ 140737488355328) :
    Calls Try.prog 68 #[.slice A l.length c, .int .i64 a] w fun e' w' => e' = .returned (.tuple #[.slice none 0 0, .int .i64 0, .int .i64 e]) ∧ Below w.heap.size w w' := by
  have HT := Lib.hid (gx_prog h A c w hA hlc hl)
  have i1 : ((e : Int) != 0) = true := bne_iff_ne.2 (by omega)
  have i2 : ((e : Int) == 0) = false := beq_eq_false_iff_ne.2 (by omega)
  clear h he hA
  go_enter Try.func68, Try.ntmps68
  go_wp2_with (first | (go_at_call 95; refine HT.out.mono ?_; rintro e w2 ⟨rfl, hb2⟩))
  go_ret3
  exact ⟨rfl, hb2⟩
theorem read_big {l : List UInt8} {a : Int} {n nx : Nat} (h : GX l a n nx 0) (hn : 8 < n) (A : Option Addr) (c : Nat) (w : World) (hA : Bys w A l) (hlc : l.length ≤ c) (hl : l.length ≤ 140737488355328) :
    Calls Try.prog 68 #[.slice A l.length c, .int .i64 a] w fun e' w' => e' = .returned (.tuple #[.slice none 0 0, .int .i64 0, .int .i64 3]) ∧ Below w.heap.size w w' := by
  have HT := Lib.hid (gx_prog h A c w hA hlc hl)
  have i1 : decide ((8 : Int) < (n : Int)) = true := by simp; omega
  clear h hA
  go_enter Try.func68, Try.ntmps68
  go_wp2_with (first | (go_at_call 95; refine HT.out.mono ?_; rintro e w2 ⟨rfl, hb2⟩))
  go_ret3
  exact ⟨rfl, hb2⟩
/-- What Read hands back where so many labels are read. -/
def ReadTold (w : World) (LS : List Lbl) (P : Int) (E : Nat) (e' : Ending) (w' : World) : Prop :=
  Below w.heap.size w w' ∧ ((E ≠ 0 ∧ e' = .returned (.tuple #[.slice none 0 0, .int .i64 0, .int .i64 E])) ∨ (E = 0 ∧ lbChk LS ≠ 0 ∧ e' = .returned (.tuple #[.slice none 0 0, .int .i64 0, .int .i64 5])) ∨
    (E = 0 ∧ lbChk LS = 0 ∧ ∃ v, e' = .returned (.tuple #[v, .int .i64 P, .int .i64 0]) ∧ OwnL w' w.heap.size v LS))
set_option maxHeartbeats 1000000 in
theorem read_told {l : List UInt8} {a : Int} {n nx : Nat} {LS : List Lbl} {P : Int} {E : Nat} (h : GX l a n nx 0) (hn : n ≤ 8) (hr : RL l n nx LS P E) (A : Option Addr) (c : Nat) (w : World) (hA : Bys w A l) (hlc : l.length ≤ c) (hl : l.length ≤ 140737488355328) :
    Calls Try.prog 68 #[.slice A l.length c, .int .i64 a] w fun e' w' => ReadTold w LS P E e' w' := by
  have HT := Lib.hid (gx_prog h A c w hA hlc hl)
  have i1 : decide ((8 : Int) < (n : Int)) = false := by simp; omega
  have HA := Lib.hid hA
  have HRL := Lib.hid hr
  have hlen : LS.length ≤ 8 := by have := (rl_size hr).2; omega
  have HK := Lib.hid (show hlc = hlc ∧ hl = hl from ⟨rfl, rfl⟩)
  clear h hA hr
  go_enter Try.func68, Try.ntmps68
  go_wp2_with (first | (go_at_call 95; refine HT.out.mono ?_; rintro e w2 ⟨rfl, hb2⟩; have HB2 := Lib.hid hb2; clear hb2))
  go_loopw [24, 1, 9] (fun i u v wr => ∃ (k : Nat) (ac rest : List Lbl) (at_ : Int), k ≤ n ∧ i = .int .i64 (k : Int) ∧ u = .int .i64 at_ ∧ OwnL wr w.heap.size v ac ∧ RL l (n - k) at_ rest P E ∧ (E = 0 → ac ++ rest = LS) ∧ ac.length ≤ k ∧ Below w.heap.size w wr) (fun i _ _ _ => n - (intOf i).toNat)
  case atStart => exact ⟨0, [], LS, _, Nat.zero_le _, rfl, rfl, ownl_nil _ _, HRL.out, fun _ => rfl, Nat.le_refl _, HB2.out⟩
  case round =>
    obtain ⟨k, ac, rest, at_, hk, rfl, rfl, ho, hrl, hcat, hacl, hbr⟩ := hrel
    have hsz := hbr.size
    by_cases hlt : k < n
    · have i2 : (k : Int) < (n : Int) := by omega
      have HO := Lib.hid ho
      have HBR := Lib.hid hbr
      have HR : Hid (Row (wr.alloc (.cells #[.string ⟨#[]⟩, .string ⟨#[]⟩] 108)) wr.heap.size 108 #[.string ⟨#[]⟩, .string ⟨#[]⟩]) := Lib.hid (Row.new wr _ _)
      have HB1 := Lib.hid (hbr.alloc hsz (.cells #[.string ⟨#[]⟩, .string ⟨#[]⟩] 108))
      have HO1 := Lib.hid (ownl_below ho (below_one wr (.cells #[.string ⟨#[]⟩, .string ⟨#[]⟩] 108)))
      have hA1 := HA.out.below HB1.out
      obtain ⟨m, hm⟩ : ∃ m, n - k = m + 1 := ⟨n - k - 1, by omega⟩
      rw [hm] at hrl
      clear ho hbr
      cases hrl with
      | bad1 _ _ s q e h he =>
        have HC := Lib.hid (readlabel_bad1 h he A c _ hA1 hlc hl)
        have j1 : ((E : Int) != 0) = true := bne_iff_ne.2 (by omega)
        have j2 : ((E : Int) == 0) = false := beq_eq_false_iff_ne.2 (by omega)
        have HE := Lib.hid he
        clear h he hA1 hcat
        go_wp2_with (first | (go_at_call 96; refine HC.out.mono ?_; rintro e w3 ⟨rfl, hb3⟩; have HR3 := Lib.hid (HR.out.below hb3 (by simp)); have r0 := HR3.out.cell 0; have r1 := HR3.out.cell 1; have f0 := HR3.out.frozen 0; have f1 := HR3.out.frozen 1; have HB3 := Lib.hid (HB1.out.trans (hb3.mono HB1.out.size)); clear hb3))
        go_ret3
        exact ⟨(HB3.out.setCell (p := ⟨wr.heap.size, 0, none⟩) hsz _).setCell (p := ⟨wr.heap.size, 1, none⟩) hsz _, .inl ⟨HE.out, rfl⟩⟩
      | bad2 _ _ s q s2 k2 e h h2 he =>
        have HC := Lib.hid (readlabel_bad2 h h2 he A c _ hA1 hlc hl)
        have j1 : ((E : Int) != 0) = true := bne_iff_ne.2 (by omega)
        have j2 : ((E : Int) == 0) = false := beq_eq_false_iff_ne.2 (by omega)
        have HE := Lib.hid he
        clear h h2 he hA1 hcat
        go_wp2_with (first | (go_at_call 96; refine HC.out.mono ?_; rintro e w3 ⟨rfl, hb3⟩; have HR3 := Lib.hid (HR.out.below hb3 (by simp)); have r0 := HR3.out.cell 0; have r1 := HR3.out.cell 1; have f0 := HR3.out.frozen 0; have f1 := HR3.out.frozen 1; have HB3 := Lib.hid (HB1.out.trans (hb3.mono HB1.out.size)); clear hb3))
        go_ret3
        exact ⟨(HB3.out.setCell (p := ⟨wr.heap.size, 0, none⟩) hsz _).setCell (p := ⟨wr.heap.size, 1, none⟩) hsz _, .inl ⟨HE.out, rfl⟩⟩
      | ok _ _ s q s2 k2 ls _ _ h h2 r =>
        have HC := Lib.hid (readlabel_ok h h2 A c _ hA1 hlc hl)
        have HCAT := Lib.hid hcat
        have HRR := Lib.hid r
        have HAC := Lib.hid hacl
        clear h h2 hA1 hcat r
        go_wp2_with (first
          | (go_at_call 96; refine HC.out.mono ?_; rintro e w3 ⟨rfl, hb3⟩; have HR3 := Lib.hid (HR.out.below hb3 (by simp)); have r0 := HR3.out.cell 0; have r1 := HR3.out.cell 1; have f0 := HR3.out.frozen 0; have f1 := HR3.out.frozen 1; have HB3 := Lib.hid ((HB1.out.trans (hb3.mono HB1.out.size)).setCell (p := ⟨wr.heap.size, 0, none⟩) hsz (.string s) |>.setCell (p := ⟨wr.heap.size, 1, none⟩) hsz (.string s2)); have HBX := Lib.hid (((below_one wr (.cells #[.string ⟨#[]⟩, .string ⟨#[]⟩] 108)).trans (hb3.mono (by simp))).setCell (p := ⟨wr.heap.size, 0, none⟩) (Nat.le_refl _) (.string s) |>.setCell (p := ⟨wr.heap.size, 1, none⟩) (Nat.le_refl _) (.string s2)); have HO4 := Lib.hid (ownl_below HO.out HBX.out); have HN4 := Lib.hid (row_new_set w3 ⟨wr.heap.size, 0, none⟩ ⟨wr.heap.size, 1, none⟩ (.string s) (.string s2) 108 #[.string s, .string s2]); clear hb3)
          | (at_builtin; refine app_lbls rfl (.tmp 36) (.tmp 38) rfl w.heap.size _ ac rfl (ownl_below HO4.out (below_one _ _)) _ [(s, s2)] 1 rfl (lbls_cell HN4.out) (by have := HAC.out; simp only [List.length_cons, List.length_nil]; omega) (Nat.le_trans HB3.out.size (by simp)) ?_; intro v5 w5 hown5 hb5 _; have HO5 := Lib.hid hown5; have HB5 := Lib.hid ((HB3.out.alloc HB3.out.size _).trans hb5); clear hown5 hb5))
        go_roundw
        case rel => exact ⟨k + 1, ac ++ [(s, s2)], ls, k2, by omega, by go_num, rfl, HO5.out, by rw [show n - (k + 1) = m from by omega]; exact HRR.out, fun h => by rw [← HCAT.out h]; simp, by have := HAC.out; rw [List.length_append]; simp only [List.length_cons, List.length_nil]; omega, HB5.out⟩
        case measure => simp [intOf]; omega
    · obtain rfl : k = n := by omega
      rw [Nat.sub_self] at hrl
      cases hrl with
      | done _ =>
        have hLS : ac = LS := by have := hcat rfl; simpa using this
        subst hLS
        obtain ⟨P0, c0, rfl, _, hL0, _⟩ := ownl_slice ho
        have HO := Lib.hid ho
        have HBR := Lib.hid hbr
        have HC := Lib.hid (lbchk_prog P0 ac c0 wr hL0 (by omega))
        obtain ⟨X, hX⟩ : ∃ X, lbChk ac = X := ⟨_, rfl⟩
        have HX := Lib.hid hX
        rw [hX] at HC
        clear ho hbr hL0 hcat hX
        by_cases h0 : X = 0
        · subst h0
          go_wp2_with (first | (go_at_call 35; refine HC.out.mono ?_; rintro e w3 ⟨rfl, hb3⟩; have HB3 := Lib.hid (HBR.out.trans (hb3.mono HBR.out.size)); have HO3 := Lib.hid (ownl_below HO.out hb3); clear hb3))
          go_ret3
          exact ⟨HB3.out, .inr (.inr ⟨rfl, HX.out, _, rfl, HO3.out⟩)⟩
        · have j1 : (X != 0) = true := bne_iff_ne.2 h0
          have j2 : (X == 0) = false := beq_eq_false_iff_ne.2 h0
          have H0 := Lib.hid h0
          clear h0
          go_wp2_with (first | (go_at_call 35; refine HC.out.mono ?_; rintro e w3 ⟨rfl, hb3⟩; have HB3 := Lib.hid (HBR.out.trans (hb3.mono HBR.out.size)); clear hb3))
          go_ret3
          exact ⟨HB3.out, .inr (.inl ⟨rfl, by rw [HX.out]; exact H0.out, rfl⟩)⟩
end Go.Proofs.Ytmgolnlkepiocaa

namespace Go.Proofs.Ytmgolnlkepiocaa
open Go.RowKit Go.Maps
set_option linter.unusedVariables false

theorem read_ref_no {l : List UInt8} {a : Int} {n nx e : Nat} (h : GX l a n nx e) (he : e ≠ 0) (A : Option Addr) (c : Nat) (w : World) (hA : Bys w A l) (hlc : l.length ≤ c) (hl : l.length ≤ 140737488355328) :
    Calls Try.prog 72 #[.slice A l.length c, .int .i64 a] w fun e' w' => e' = .returned (.tuple #[.slice none 0 0, .int .i64 0, .int .i64 e]) ∧ Below w.heap.size w w' := by
  have HT := Lib.hid (gx_ref h A c w hA hlc hl)
  have i1 : ((e : Int) != 0) = true := bne_iff_ne.2 (by omega)
  have i2 : ((e : Int) == 0) = false := beq_eq_false_iff_ne.2 (by omega)
  clear h he hA
  go_enter Try.func72, Try.ntmps72
  go_wp2_with (first | (go_at_call 98; refine HT.out.mono ?_; rintro e w2 ⟨rfl, hb2⟩))
  go_ret3
  exact ⟨rfl, hb2⟩
theorem read_ref_big {l : List UInt8} {a : Int} {n nx : Nat} (h : GX l a n nx 0) (hn : 8 < n) (A : Option Addr) (c : Nat) (w : World) (hA : Bys w A l) (hlc : l.length ≤ c) (hl : l.length ≤ 140737488355328) :
    Calls Try.prog 72 #[.slice A l.length c, .int .i64 a] w fun e' w' => e' = .returned (.tuple #[.slice none 0 0, .int .i64 0, .int .i64 3]) ∧ Below w.heap.size w w' := by
  have HT := Lib.hid (gx_ref h A c w hA hlc hl)
  have i1 : decide ((8 : Int) < (n : Int)) = true := by simp; omega
  clear h hA
  go_enter Try.func72, Try.ntmps72
  go_wp2_with (first | (go_at_call 98; refine HT.out.mono ?_; rintro e w2 ⟨rfl, hb2⟩))
  go_ret3
  exact ⟨rfl, hb2⟩
set_option maxHeartbeats 1000000 in
theorem read_ref_told {l : List UInt8} {a : Int} {n nx : Nat} {LS : List Lbl} {P : Int} {E : Nat} (h : GX l a n nx 0) (hn : n ≤ 8) (hr : RL l n nx LS P E) (A : Option Addr) (c : Nat) (w : World) (hA : Bys w A l) (hlc : l.length ≤ c) (hl : l.length ≤ 140737488355328) :
    Calls Try.prog 72 #[.slice A l.length c, .int .i64 a] w fun e' w' => ReadTold w LS P E e' w' := by
  have HT := Lib.hid (gx_ref h A c w hA hlc hl)
  have i1 : decide ((8 : Int) < (n : Int)) = false := by simp; omega
  have HA := Lib.hid hA
  have HRL := Lib.hid hr
  have HFT := Lib.hid (rl_size hr).1
  have hlen : LS.length ≤ 8 := by have := (rl_size hr).2; omega
  clear h hA hr
  go_enter Try.func72, Try.ntmps72
  go_wp2_with (first | (go_at_call 98; refine HT.out.mono ?_; rintro e w2 ⟨rfl, hb2⟩; have HB2 := Lib.hid hb2; clear hb2))
  go_loopw [10, 1, 9] (fun i u v wr => ∃ (k : Nat) (ac rest : List Lbl) (at_ : Int), k ≤ n ∧ i = .int .i64 (k : Int) ∧ u = .int .i64 at_ ∧ OwnL wr w.heap.size v ac ∧ RL l (n - k) at_ rest P E ∧ (E = 0 → ac ++ rest = LS) ∧ ac.length ≤ k ∧ Below w.heap.size w wr) (fun i _ _ _ => n - (intOf i).toNat)
  case atStart => exact ⟨0, [], LS, _, Nat.zero_le _, rfl, rfl, ownl_nil _ _, HRL.out, fun _ => rfl, Nat.le_refl _, HB2.out⟩
  case round =>
    obtain ⟨k, ac, rest, at_, hk, rfl, rfl, ho, hrl, hcat, hacl, hbr⟩ := hrel
    have hsz := hbr.size
    by_cases hlt : k < n
    · have i2 : (k : Int) < (n : Int) := by omega
      have HO := Lib.hid ho
      have HBR := Lib.hid hbr
      have hA1 := HA.out.below hbr
      obtain ⟨m, hm⟩ : ∃ m, n - k = m + 1 := ⟨n - k - 1, by omega⟩
      rw [hm] at hrl
      clear ho hbr
      cases hrl with
      | bad1 _ _ s q e h he =>
        have HC := Lib.hid (tx_ref h A c _ hA1 hlc hl)
        have j1 : ((E : Int) != 0) = true := bne_iff_ne.2 (by omega)
        have j2 : ((E : Int) == 0) = false := beq_eq_false_iff_ne.2 (by omega)
        have HE := Lib.hid he
        clear h he hA1 hcat
        go_wp2_with (first | (go_at_call 99; refine HC.out.mono ?_; rintro e w3 ⟨rfl, hb3⟩; have HB3 := Lib.hid (HBR.out.trans (hb3.mono HBR.out.size)); clear hb3))
        go_ret3
        exact ⟨HB3.out, .inl ⟨HE.out, rfl⟩⟩
      | bad2 _ _ s q s2 k2 e h h2 he =>
        have HC := Lib.hid (tx_ref h A c _ hA1 hlc hl)
        have HC2 := Lib.hid (fun W (hW : Below w.heap.size w W) => tx_ref h2 A c W (HA.out.below hW) hlc hl)
        have j1 : ((E : Int) != 0) = true := bne_iff_ne.2 (by omega)
        have j2 : ((E : Int) == 0) = false := beq_eq_false_iff_ne.2 (by omega)
        have HE := Lib.hid he
        clear h h2 he hA1 hcat
        go_upto_region 13 with (first | (go_at_call 99; refine HC.out.mono ?_; rintro e w3 ⟨rfl, hb3⟩; have HB3 := Lib.hid (HBR.out.trans (hb3.mono HBR.out.size)); clear hb3))
        go_wp2_with (first | (go_at_call 99; refine (HC2.out _ HB3.out).mono ?_; rintro e w4 ⟨rfl, hb4⟩; have HB4 := Lib.hid (HB3.out.trans (hb4.mono HB3.out.size)); clear hb4))
        go_ret3
        exact ⟨HB4.out, .inl ⟨HE.out, rfl⟩⟩
      | ok _ _ s q s2 k2 ls _ _ h h2 r =>
        have HC := Lib.hid (tx_ref h A c _ hA1 hlc hl)
        have HC2 := Lib.hid (fun W (hW : Below w.heap.size w W) => tx_ref h2 A c W (HA.out.below hW) hlc hl)
        have HCAT := Lib.hid hcat
        have HRR := Lib.hid r
        have HAC := Lib.hid hacl
        clear h h2 hA1 hcat r
        go_upto_region 13 with (first | (go_at_call 99; refine HC.out.mono ?_; rintro e w3 ⟨rfl, hb3⟩; have HB3 := Lib.hid (HBR.out.trans (hb3.mono HBR.out.size)); have HO3 := Lib.hid (ownl_below HO.out hb3); clear hb3))
        go_wp2_with (first
          | (go_at_call 99; refine (HC2.out _ HB3.out).mono ?_; rintro e w4 ⟨rfl, hb4⟩; have HB4 := Lib.hid (HB3.out.trans (hb4.mono HB3.out.size)); have HO4 := Lib.hid (ownl_below HO3.out hb4); clear hb4)
          | (at_builtin; refine app_lbls rfl (.tmp 53) (.tmp 57) rfl w.heap.size _ ac rfl (ownl_below HO4.out (below_one _ _)) _ [(s, s2)] 1 rfl (lbls_cell (Row.new _ _ _)) (by have := HAC.out; simp only [List.length_cons, List.length_nil]; omega) (Nat.le_trans HB4.out.size (by simp)) ?_; intro v5 w5 hown5 hb5 _; have HO5 := Lib.hid hown5; have HB5 := Lib.hid ((HB4.out.alloc HB4.out.size _).trans hb5); clear hown5 hb5))
        go_roundw
        case rel => exact ⟨k + 1, ac ++ [(s, s2)], ls, k2, by omega, by go_num, rfl, HO5.out, by rw [show n - (k + 1) = m from by omega]; exact HRR.out, fun h => by rw [← HCAT.out h]; simp, by have := HAC.out; rw [List.length_append]; simp only [List.length_cons, List.length_nil]; omega, HB5.out⟩
        case measure => simp [intOf]; omega
    · obtain rfl : k = n := by omega
      rw [Nat.sub_self] at hrl
      cases hrl with
      | done _ =>
        have hLS : ac = LS := by have := hcat rfl; simpa using this
        subst hLS
        obtain ⟨P0, c0, rfl, _, hL0, _⟩ := ownl_slice ho
        have HO := Lib.hid ho
        have HBR := Lib.hid hbr
        have HC := Lib.hid (lbchk_ref P0 ac c0 wr hL0 (by omega) HFT.out)
        obtain ⟨X, hX⟩ : ∃ X, lbChk ac = X := ⟨_, rfl⟩
        have HX := Lib.hid hX
        rw [hX] at HC
        clear ho hbr hL0 hcat hX
        by_cases h0 : X = 0
        · subst h0
          go_wp2_with (first | (go_at_call 38; refine HC.out.mono ?_; rintro e w3 ⟨rfl, hb3⟩; have HB3 := Lib.hid (HBR.out.trans (hb3.mono HBR.out.size)); have HO3 := Lib.hid (ownl_below HO.out hb3); clear hb3))
          go_ret3
          exact ⟨HB3.out, .inr (.inr ⟨rfl, HX.out, _, rfl, HO3.out⟩)⟩
        · have j1 : (X != 0) = true := bne_iff_ne.2 h0
          have j2 : (X == 0) = false := beq_eq_false_iff_ne.2 h0
          have H0 := Lib.hid h0
          clear h0
          go_wp2_with (first | (go_at_call 38; refine HC.out.mono ?_; rintro e w3 ⟨rfl, hb3⟩; have HB3 := Lib.hid (HBR.out.trans (hb3.mono HBR.out.size)); clear hb3))
          go_ret3
          exact ⟨HB3.out, .inr (.inl ⟨rfl, by rw [HX.out]; exact H0.out, rfl⟩)⟩

end Go.Proofs.Ytmgolnlkepiocaa
