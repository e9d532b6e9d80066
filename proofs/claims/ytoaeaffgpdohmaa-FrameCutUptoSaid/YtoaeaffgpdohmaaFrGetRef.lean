/- The frame at a place, as the document's own answer reads it. -/
import Derived.Test.YtoaeaffgpdohmaaFrPut
import Derived.Test.YtoaeaffgpdohmaaFrGet
import Derived.Deep.RegionWith
import Derived.Deep.RegionLaw
import Derived.Deep.DeepCutAuto
namespace Go.Proofs.Ytoaeaffgpdohmaa
open Go.RowKit
set_option linter.unusedVariables false

theorem getref_bad (A : Option Addr) (l : List UInt8) (c : Nat) (a : Int) (w : World) (ha : a < 0 ∨ (l.length : Int) < a) :
    Calls Try.prog 30 #[.slice A l.length c, .int .i64 a] w fun e w' => e = .returned (.tuple #[.slice none 0 0, .int .i64 0, .int .i64 2]) ∧ w = w' := by
  have h : decide (a < 0) = true ∨ (decide (a < 0) = false ∧ decide ((l.length : Int) < a) = true) := by simp only [decide_eq_true_eq, decide_eq_false_iff_not]; omega
  rcases h with h | ⟨h, h2⟩
  all_goals
    go_enter Try.func30, Try.ntmps30
    go_wp2
    go_ret3
    exact ⟨rfl, rfl⟩
theorem getref_few (A : Option Addr) (m c a : Nat) (w : World) (hl : m ≤ 140737488355328) (ha : a ≤ m) (h : m - a < 6) :
    Calls Try.prog 30 #[.slice A m c, .int .i64 a] w fun e w' => e = .returned (.tuple #[.slice none 0 0, .int .i64 0, .int .i64 4]) ∧ w = w' := by
  have q1 : decide ((a : Int) < 0) = false := by simp
  have q2 : decide ((m : Int) < (a : Int)) = false := by simp; omega
  have q3 : decide ((m : Int) - (a : Int) < 6) = true := by simp; omega
  go_enter Try.func30, Try.ntmps30
  go_wp2
  go_ret3
  exact ⟨rfl, rfl⟩
theorem same_not' (x : ByteArray) : (x.toList != x.toList) = false := by simp
theorem txt_ne {a b : List UInt8} (h : a ≠ b) : ((txt a).toList == (txt b).toList) = false := by
  rw [beq_eq_false_iff_ne]
  intro e
  apply h
  have : ∀ l : List UInt8, (txt l).toList = l := fun l => by simp [txt, ByteArray.toList_eq]
  rwa [this, this] at e
theorem fn_int' (l : List UInt8) (a : Nat) : ((l.getD a 0).toNat : Int) * 256 + (l.getD (a + 1) 0).toNat = ((fn l a : Nat) : Int) := by unfold fn; omega

theorem getref_short (b o : Nat) (l : List UInt8) (c a : Nat) (w : World) (hA : Bys w (some ⟨b, o, none⟩) l) (hl : l.length ≤ 140737488355328) (h6 : 6 ≤ l.length - a) (h : l.length - a < fn l a + 6) :
    Calls Try.prog 30 #[.slice (some ⟨b, o, none⟩) l.length c, .int .i64 a] w fun e w' => e = .returned (.tuple #[.slice none 0 0, .int .i64 0, .int .i64 4]) ∧ Below w.heap.size w w' := by
  have q1 : decide ((a : Int) < 0) = false := by simp
  have q2 : decide ((l.length : Int) < (a : Int)) = false := by simp; omega
  have q3 : decide ((l.length : Int) - (a : Int) < 6) = false := by simp; omega
  obtain ⟨b', o', e, hb, hcl⟩ := hA.at_ (by omega)
  obtain ⟨rfl, rfl⟩ : b = b' ∧ o = o' := by simpa using e
  have hx0 := hcl a (by omega)
  have hx1 := hcl (a + 1) (by omega)
  have b0 := byte_nat (l.getD a 0)
  have b1 := byte_nat (l.getD (a + 1) 0)
  have HF := fn_int' l a
  have hr0 : (a : Int) < (l.length : Int) := by omega
  have hr1 : (a : Int) + 1 < (l.length : Int) := by omega
  have hsh : decide ((l.length : Int) - (a : Int) - 6 < ((l.getD a 0).toNat : Int) * 256 + (l.getD (a + 1) 0).toNat) = true := by rw [decide_eq_true_eq, HF]; omega
  clear hA hcl e h HF
  generalize (l.getD a 0).toNat = x0 at *
  generalize (l.getD (a + 1) 0).toNat = x1 at *
  go_enter Try.func30, Try.ntmps30
  go_wp2_with fail
  go_quiet (fail)
  go_wp2
  go_ret3
  exact ⟨rfl, below_drewN' (Below.refl _ _) _⟩

set_option maxHeartbeats 2000000 in
theorem getref_whole (b o : Nat) (l : List UInt8) (c a f : Nat) (w : World) (hf : fn l a = f) (hA : Bys w (some ⟨b, o, none⟩) l) (hlc : l.length ≤ c) (hl : l.length ≤ 140737488355328) (h : f + 6 ≤ l.length - a) (hcr : carries l a) :
    Calls Try.prog 30 #[.slice (some ⟨b, o, none⟩) l.length c, .int .i64 a] w fun e w' => ∃ v, e = .returned (.tuple #[v, .int .i64 ((a + f + 6 : Nat) : Int), .int .i64 0]) ∧ Own w' w.heap.size v ((l.drop (a + 2)).take f) ∧ Below w.heap.size w w' := by
  have q1 : decide ((a : Int) < 0) = false := by simp
  have q2 : decide ((l.length : Int) < (a : Int)) = false := by simp; omega
  have q3 : decide ((l.length : Int) - (a : Int) < 6) = false := by simp; omega
  obtain ⟨b', o', e, hb, hcl⟩ := hA.at_ (by omega)
  obtain ⟨rfl, rfl⟩ : b = b' ∧ o = o' := by simpa using e
  have hx0 := hcl a (by omega)
  have hx1 := hcl (a + 1) (by omega)
  have b0 := byte_nat (l.getD a 0)
  have b1 := byte_nat (l.getD (a + 1) 0)
  have HF := fn_int' l a
  have hfn := fn_lt l a
  have hfr := frame_at l a (by omega)
  rw [hf] at HF hfr hfn
  have hr0 : (a : Int) < (l.length : Int) := by omega
  have hr1 : (a : Int) + 1 < (l.length : Int) := by omega
  have hsh : decide ((l.length : Int) - (a : Int) - 6 < ((l.getD a 0).toNat : Int) * 256 + (l.getD (a + 1) 0).toNat) = false := by rw [decide_eq_false_iff_not, HF]; omega
  have HB2 := Lib.hid ((hA.from (a + 2)).front f)
  have hl2 : ((l.drop (a + 2)).take f).length = f := by simp; omega
  have HBseg := Lib.hid ((hA.from a).front (f + 6))
  have hlseg : ((l.drop a).take (f + 6)).length = f + 6 := by simp; omega
  have hseg := hfr.2 hcr
  have HFF := Lib.hid HF
  clear hA hcl e hcr hfr hf HF
  generalize (l.drop a).take (f + 6) = Z at *
  generalize hXX : (l.drop (a + 2)).take f = X at *
  clear hXX
  subst hl2
  subst hseg
  clear hlseg
  generalize (l.getD a 0).toNat = x0 at *
  generalize (l.getD (a + 1) 0).toNat = x1 at *
  have q4 : ¬ c = a + 2 := by omega
  have q5 : ¬ c = a := by omega
  go_enter Try.func30, Try.ntmps30
  go_wp2_with fail
  go_quiet (fail)
  go_upto_region 8 with fail
  rw [HFF.out]
  go_upto_region 9 with (at_builtin; go_loud (refine app_u8 rfl (.tmp 42) (.tmp 50) rfl w.heap.size _ [] rfl (own_empty (Row.new _ _ _) (Nat.le_refl _)) (some ⟨b, o + (a + 2), none⟩) X (c - (a + 2)) (by first | rfl | (show Value.slice (some ⟨b, o + (a + 2), none⟩) (a + 2 + X.length - (a + 2)) (c - (a + 2)) = _; rw [Nat.add_sub_cancel_left])) ((bys_drewN' HB2.out _).alloc _) (by simp only [List.length_nil]; omega) (by simp) ?_); intro v1 w1 hown1 hb1 hg1)
  obtain ⟨B1, d1, rfl, hB1, _⟩ := own_slice' hown1
  have hbw1 : Below w.heap.size w w1 := ((below_drewN' (Below.refl _ w) _).alloc (Nat.le_refl _) _).trans hb1
  have hBs1 := HBseg.out.below hbw1
  have HO1 := Lib.hid hown1
  have HFL := Lib.hid (frameL_length X)
  clear hown1 hb1 hg1 hx0 hx1 hr0 hr1
  simp only [List.nil_append]
  rw [List.nil_append] at hB1
  generalize hF : frameL X = Fx at *
  have hw6 : IntKind.i64.wrap ((a : Int) + 6) = (a : Int) + 6 := IntWalk.i64_in _ (by omega)
  have hw7 : IntKind.i64.wrap ((a : Int) + 6 + (X.length : Int)) = (a : Int) + 6 + (X.length : Int) := IntWalk.i64_in _ (by omega)
  have hz0 : (0 : Int) ≤ (a : Int) := by omega
  have hz1 : (0 : Int) ≤ (a : Int) + 6 + (X.length : Int) := by omega
  have hz2 : (a : Int) ≤ (a : Int) + 6 + (X.length : Int) := by omega
  have hz3 : (a : Int) + 6 + (X.length : Int) ≤ (c : Int) := by omega
  have hz4 : ((a : Int) + 6 + (X.length : Int)).toNat = a + 6 + X.length := by omega
  have hz5 : a + 6 + X.length - a = X.length + 6 := by omega
  have kk : ∀ W, Bys W (some ⟨b, o + a, none⟩) Fx → (convert 22 9 (.slice (some ⟨b, o + a, none⟩) (X.length + 6) (c - a))).run Try.prog W = .ok (.string (txt Fx)) W := fun W hW => by
    have := conv_bys W (some ⟨b, o + a, none⟩) Fx (c - a) hW
    rwa [HFL.out] at this
  have k1 := kk w1 hBs1
  have k1d : ∀ n, _ := fun n => kk (w1.drewN n) hBs1
  have k1e := kk w1.drew hBs1
  have q := same_not' (txt Fx)
  go_region_with (go_at_call 39; refine (frame_ref B1 X d1 w1.drew hB1 (by omega)).mono ?_; rintro e w2 ⟨v2, rfl, hown2, hb2⟩; obtain ⟨B2, d2, hv2, hB2, _⟩ := own_slice' hown2; rw [hF] at hv2 hB2; rw [HFL.out] at hv2; subst hv2; have c2 : (convert 22 9 (.slice B2 (X.length + 6) d2)).run Try.prog w2 = .ok (.string (txt Fx)) w2 := (by have := conv_bys w2 B2 Fx d2 hB2; rwa [HFL.out] at this); have k2 := kk w2 ((show Bys w1.drew _ _ from hBs1).below hb2); have hO1' := own_below (show Own w1.drew _ _ _ from HO1.out) hb2)
  all_goals
    go_wp2
    go_ret3
    exact ⟨_, ret_get rfl (by omega) rfl, by simpa using hO1', below_then hbw1.drew hb2⟩
set_option maxHeartbeats 2000000 in
theorem getref_corrupt (b o : Nat) (l : List UInt8) (c a f : Nat) (w : World) (hf : fn l a = f) (hA : Bys w (some ⟨b, o, none⟩) l) (hlc : l.length ≤ c) (hl : l.length ≤ 140737488355328) (h : f + 6 ≤ l.length - a) (hcr : ¬ carries l a) :
    Calls Try.prog 30 #[.slice (some ⟨b, o, none⟩) l.length c, .int .i64 a] w fun e w' => e = .returned (.tuple #[.slice none 0 0, .int .i64 0, .int .i64 5]) ∧ Below w.heap.size w w' := by
  have q1 : decide ((a : Int) < 0) = false := by simp
  have q2 : decide ((l.length : Int) < (a : Int)) = false := by simp; omega
  have q3 : decide ((l.length : Int) - (a : Int) < 6) = false := by simp; omega
  obtain ⟨b', o', e, hb, hcl⟩ := hA.at_ (by omega)
  obtain ⟨rfl, rfl⟩ : b = b' ∧ o = o' := by simpa using e
  have hx0 := hcl a (by omega)
  have hx1 := hcl (a + 1) (by omega)
  have b0 := byte_nat (l.getD a 0)
  have b1 := byte_nat (l.getD (a + 1) 0)
  have HF := fn_int' l a
  have hfn := fn_lt l a
  have hfr := frame_at l a (by omega)
  rw [hf] at HF hfr hfn
  have hr0 : (a : Int) < (l.length : Int) := by omega
  have hr1 : (a : Int) + 1 < (l.length : Int) := by omega
  have hsh : decide ((l.length : Int) - (a : Int) - 6 < ((l.getD a 0).toNat : Int) * 256 + (l.getD (a + 1) 0).toNat) = false := by rw [decide_eq_false_iff_not, HF]; omega
  have HB2 := Lib.hid ((hA.from (a + 2)).front f)
  have hl2 : ((l.drop (a + 2)).take f).length = f := by simp; omega
  have HBseg := Lib.hid ((hA.from a).front (f + 6))
  have hlseg : ((l.drop a).take (f + 6)).length = f + 6 := by simp; omega
  have hseg := fun h => hcr (hfr.1 h)
  have HFF := Lib.hid HF
  clear hA hcl e hcr hfr hf HF
  generalize (l.drop a).take (f + 6) = Z at *
  generalize hXX : (l.drop (a + 2)).take f = X at *
  clear hXX
  subst hl2
  have hq := txt_ne hseg
  clear hseg
  generalize (l.getD a 0).toNat = x0 at *
  generalize (l.getD (a + 1) 0).toNat = x1 at *
  have q4 : ¬ c = a + 2 := by omega
  have q5 : ¬ c = a := by omega
  go_enter Try.func30, Try.ntmps30
  go_wp2_with fail
  go_quiet (fail)
  go_upto_region 8 with fail
  rw [HFF.out]
  go_upto_region 9 with (at_builtin; go_loud (refine app_u8 rfl (.tmp 42) (.tmp 50) rfl w.heap.size _ [] rfl (own_empty (Row.new _ _ _) (Nat.le_refl _)) (some ⟨b, o + (a + 2), none⟩) X (c - (a + 2)) (by first | rfl | (show Value.slice (some ⟨b, o + (a + 2), none⟩) (a + 2 + X.length - (a + 2)) (c - (a + 2)) = _; rw [Nat.add_sub_cancel_left])) ((bys_drewN' HB2.out _).alloc _) (by simp only [List.length_nil]; omega) (by simp) ?_); intro v1 w1 hown1 hb1 hg1)
  obtain ⟨B1, d1, rfl, hB1, _⟩ := own_slice' hown1
  have hbw1 : Below w.heap.size w w1 := ((below_drewN' (Below.refl _ w) _).alloc (Nat.le_refl _) _).trans hb1
  have hBs1 := HBseg.out.below hbw1
  have HO1 := Lib.hid hown1
  have HFL := Lib.hid (frameL_length X)
  clear hown1 hb1 hg1 hx0 hx1 hr0 hr1
  simp only [List.nil_append]
  rw [List.nil_append] at hB1
  generalize hF : frameL X = Fx at *
  have HZL := Lib.hid hlseg
  clear hlseg
  have hw6 : IntKind.i64.wrap ((a : Int) + 6) = (a : Int) + 6 := IntWalk.i64_in _ (by omega)
  have hw7 : IntKind.i64.wrap ((a : Int) + 6 + (X.length : Int)) = (a : Int) + 6 + (X.length : Int) := IntWalk.i64_in _ (by omega)
  have hz0 : (0 : Int) ≤ (a : Int) := by omega
  have hz1 : (0 : Int) ≤ (a : Int) + 6 + (X.length : Int) := by omega
  have hz2 : (a : Int) ≤ (a : Int) + 6 + (X.length : Int) := by omega
  have hz3 : (a : Int) + 6 + (X.length : Int) ≤ (c : Int) := by omega
  have hz4 : ((a : Int) + 6 + (X.length : Int)).toNat = a + 6 + X.length := by omega
  have hz5 : a + 6 + X.length - a = X.length + 6 := by omega
  have kk : ∀ W, Bys W (some ⟨b, o + a, none⟩) Z → (convert 22 9 (.slice (some ⟨b, o + a, none⟩) (X.length + 6) (c - a))).run Try.prog W = .ok (.string (txt Z)) W := fun W hW => by
    have := conv_bys W (some ⟨b, o + a, none⟩) Z (c - a) hW
    rwa [HZL.out] at this
  have k1 := kk w1 hBs1
  have k1d : ∀ n, _ := fun n => kk (w1.drewN n) hBs1
  have k1e := kk w1.drew hBs1
  go_region_with (go_at_call 39; refine (frame_ref B1 X d1 w1.drew hB1 (by omega)).mono ?_; rintro e w2 ⟨v2, rfl, hown2, hb2⟩; obtain ⟨B2, d2, hv2, hB2, _⟩ := own_slice' hown2; rw [hF] at hv2 hB2; rw [HFL.out] at hv2; subst hv2; have c2 : (convert 22 9 (.slice B2 (X.length + 6) d2)).run Try.prog w2 = .ok (.string (txt Fx)) w2 := (by have := conv_bys w2 B2 Fx d2 hB2; rwa [HFL.out] at this); have k2 := kk w2 ((show Bys w1.drew _ _ from hBs1).below hb2); have hO1' := own_below (show Own w1.drew _ _ _ from HO1.out) hb2)
  all_goals
    go_wp2
    go_ret3
    exact ⟨rfl, below_then hbw1.drew hb2⟩

/-- What the document's own answer reads as a frame at a place, whatever there is. -/
theorem getref_prog (A : Option Addr) (l : List UInt8) (c a : Nat) (x : List UInt8) (n e : Nat) (w : World) (hA : Bys w A l) (hlc : l.length ≤ c) (hl : l.length ≤ 140737488355328) (ha : a ≤ l.length) (hg : FG l a x n e) :
    Calls Try.prog 30 #[.slice A l.length c, .int .i64 a] w fun e' w' => ∃ v, e' = .returned (.tuple #[v, .int .i64 n, .int .i64 e]) ∧ Own w' w.heap.size v x ∧ Below w.heap.size w w' := by
  cases hg with
  | few h =>
    refine (getref_few A l.length c a w hl ha h).mono ?_
    rintro e w' ⟨rfl, rfl⟩
    exact ⟨_, rfl, own_nil _ _, Below.refl _ _⟩
  | short h6 h =>
    obtain ⟨b, o, rfl, _⟩ := hA.at_ (by omega)
    refine (getref_short b o l c a w hA hl h6 h).mono ?_
    rintro e w' ⟨rfl, hb⟩
    exact ⟨_, rfl, own_nil _ _, hb⟩
  | bad h hc =>
    obtain ⟨b, o, rfl, _⟩ := hA.at_ (by omega)
    refine (getref_corrupt b o l c a _ w rfl hA hlc hl h hc).mono ?_
    rintro e w' ⟨rfl, hb⟩
    exact ⟨_, rfl, own_nil _ _, hb⟩
  | ok h hc =>
    obtain ⟨b, o, rfl, _⟩ := hA.at_ (by omega)
    exact getref_whole b o l c a _ w rfl hA hlc hl h hc
end Go.Proofs.Ytoaeaffgpdohmaa
