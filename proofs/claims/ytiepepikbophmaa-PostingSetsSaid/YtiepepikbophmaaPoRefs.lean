/- Two lists held together, as the document's own answer does it. -/
import Derived.Test.YtiepepikbophmaaPoChosen
namespace Go.Proofs.Ytiepepikbophmaa
open Go.RowKit Go.Maps
set_option linter.unusedVariables false

theorem ref_both_no (A B : Option Addr) (la lb : List Int) (ca cb : Nat) (w : World) (hA : Zs w A la) (hB : Zs w B lb) (ma : la.length ≤ 281474976710656) (mb : lb.length ≤ 281474976710656) (he : refE la lb ≠ 0) :
    Calls Try.prog 25 #[.slice A la.length ca, .slice B lb.length cb] w fun e w' => e = .returned (.tuple #[.slice none 0 0, .int .i64 (refE la lb)]) ∧ Below w.heap.size w w' := by
  have HC := Lib.hid (refused_ref A B la lb ca cb w hA hB ma mb)
  generalize refE la lb = x at *
  have j1 : (x != 0) = true := bne_iff_ne.2 he
  have j2 : (x == 0) = false := beq_eq_false_iff_ne.2 he
  clear hA hB he
  go_enter Try.func25, Try.ntmps25
  go_wp2_with fail
  refine HC.out.mono ?_
  rintro e w1 ⟨rfl, hb1⟩
  go_wp2_with fail
  go_ret2
  exact ⟨rfl, hb1⟩
theorem ref_less_no (A B : Option Addr) (la lb : List Int) (ca cb : Nat) (w : World) (hA : Zs w A la) (hB : Zs w B lb) (ma : la.length ≤ 281474976710656) (mb : lb.length ≤ 281474976710656) (he : refE la lb ≠ 0) :
    Calls Try.prog 27 #[.slice A la.length ca, .slice B lb.length cb] w fun e w' => e = .returned (.tuple #[.slice none 0 0, .int .i64 (refE la lb)]) ∧ Below w.heap.size w w' := by
  have HC := Lib.hid (refused_ref A B la lb ca cb w hA hB ma mb)
  generalize refE la lb = x at *
  have j1 : (x != 0) = true := bne_iff_ne.2 he
  have j2 : (x == 0) = false := beq_eq_false_iff_ne.2 he
  clear hA hB he
  go_enter Try.func27, Try.ntmps27
  go_wp2_with fail
  refine HC.out.mono ?_
  rintro e w1 ⟨rfl, hb1⟩
  go_wp2_with fail
  go_ret2
  exact ⟨rfl, hb1⟩
theorem ref_either_no (A B : Option Addr) (la lb : List Int) (ca cb : Nat) (w : World) (hA : Zs w A la) (hB : Zs w B lb) (ma : la.length ≤ 281474976710656) (mb : lb.length ≤ 281474976710656) (he : refE la lb ≠ 0) :
    Calls Try.prog 26 #[.slice A la.length ca, .slice B lb.length cb] w fun e w' => e = .returned (.tuple #[.slice none 0 0, .int .i64 (refE la lb)]) ∧ Below w.heap.size w w' := by
  have HC := Lib.hid (refused_ref A B la lb ca cb w hA hB ma mb)
  generalize refE la lb = x at *
  have j1 : (x != 0) = true := bne_iff_ne.2 he
  have j2 : (x == 0) = false := beq_eq_false_iff_ne.2 he
  clear hA hB he
  go_enter Try.func26, Try.ntmps26
  go_wp2_with fail
  refine HC.out.mono ?_
  rintro e w1 ⟨rfl, hb1⟩
  go_wp2_with fail
  go_ret2
  exact ⟨rfl, hb1⟩
theorem refE_zero {a b : List Int} (ha : pchk a = 0) (hb : pchk b = 0) : refE a b = 0 := by unfold refE; rw [if_pos ha, hb]
theorem ref_both_yes (A B : Option Addr) (la lb : List Int) (ca cb : Nat) (w : World) (hA : Zs w A la) (hB : Zs w B lb) (ea : pchk la = 0) (eb : pchk lb = 0) :
    Calls Try.prog 25 #[.slice A la.length ca, .slice B lb.length cb] w fun e w' => ∃ v, e = .returned (.tuple #[v, .int .i64 0]) ∧ OwnZ w' w.heap.size v (bothL la lb) ∧ Below w.heap.size w w' := by
  obtain ⟨ma, ua⟩ := pchk_zero.1 ea
  obtain ⟨mb, ub⟩ := pchk_zero.1 eb
  have HC := Lib.hid (refused_ref A B la lb ca cb w hA hB (by omega) (by omega))
  rw [refE_zero ea eb] at HC
  have HP := Lib.hid (fun W (h : Below w.heap.size w W) => pick_ref A B la lb ca cb true W (hA.below h) (hB.below h) (by omega) (by omega))
  rw [← both_pick ua ub] at HP
  generalize bothL la lb = res at *
  clear hA hB ea eb ua ub
  go_enter Try.func25, Try.ntmps25
  go_wp2_with fail
  refine HC.out.mono ?_
  rintro e w1 ⟨rfl, hb1⟩
  go_wp2_with fail
  refine (HP.out _ hb1).mono ?_
  rintro e w2 ⟨v, rfl, hv, hb2⟩
  go_wp2_with fail
  go_ret2
  exact ⟨_, rfl, ownz_lower hv hb1.size, below_then hb1 hb2⟩
theorem ref_less_yes (A B : Option Addr) (la lb : List Int) (ca cb : Nat) (w : World) (hA : Zs w A la) (hB : Zs w B lb) (ea : pchk la = 0) (eb : pchk lb = 0) :
    Calls Try.prog 27 #[.slice A la.length ca, .slice B lb.length cb] w fun e w' => ∃ v, e = .returned (.tuple #[v, .int .i64 0]) ∧ OwnZ w' w.heap.size v (lessL la lb) ∧ Below w.heap.size w w' := by
  obtain ⟨ma, ua⟩ := pchk_zero.1 ea
  obtain ⟨mb, ub⟩ := pchk_zero.1 eb
  have HC := Lib.hid (refused_ref A B la lb ca cb w hA hB (by omega) (by omega))
  rw [refE_zero ea eb] at HC
  have HP := Lib.hid (fun W (h : Below w.heap.size w W) => pick_ref A B la lb ca cb false W (hA.below h) (hB.below h) (by omega) (by omega))
  rw [← less_pick ua ub] at HP
  generalize lessL la lb = res at *
  clear hA hB ea eb ua ub
  go_enter Try.func27, Try.ntmps27
  go_wp2_with fail
  refine HC.out.mono ?_
  rintro e w1 ⟨rfl, hb1⟩
  go_wp2_with fail
  refine (HP.out _ hb1).mono ?_
  rintro e w2 ⟨v, rfl, hv, hb2⟩
  go_wp2_with fail
  go_ret2
  exact ⟨_, rfl, ownz_lower hv hb1.size, below_then hb1 hb2⟩
/-- Where the document's Either stands: out is told already, rest is left of the one, and from k on of the other list. -/
def ElRel (W : World) (la res : List Int) (k : Nat) (p o : Value) (wr : World) : Prop :=
  ∃ (R : Option Addr) (rest out : List Int) (cr : Nat), p = .slice R rest.length cr ∧ rest.length ≤ cr ∧ Zs W R rest ∧ OwnZ wr W.heap.size o out ∧ out.length + (la.length - k) + rest.length ≤ 2048 ∧ out ++ layF (la.drop k) rest = res ∧ Below W.heap.size W wr
set_option maxRecDepth 100000 in
set_option maxHeartbeats 2000000 in
theorem ref_either_yes (A B : Option Addr) (la lb : List Int) (ca cb : Nat) (w : World) (hA : Zs w A la) (hB : Zs w B lb) (ea : pchk la = 0) (eb : pchk lb = 0) :
    Calls Try.prog 26 #[.slice A la.length ca, .slice B lb.length cb] w (ChTold w (eitherL la lb)) := by
  obtain ⟨ma, ua⟩ := pchk_zero.1 ea
  obtain ⟨mb, ub⟩ := pchk_zero.1 eb
  have HC := Lib.hid (refused_ref A B la lb ca cb w hA hB (by omega) (by omega))
  rw [refE_zero ea eb] at HC
  have HP := Lib.hid (fun W (h : Below w.heap.size w W) => pick_ref B A lb la cb ca false W (hB.below h) (hA.below h) (by omega) (by omega))
  have HEQ := Lib.hid (either_lay ua ub)
  have HPL := Lib.hid (pick_len lb la false)
  have HA := Lib.hid hA
  generalize eitherL la lb = res at *
  generalize pickL lb la false = rs at *
  clear hA hB ea eb ua ub
  go_enter Try.func26, Try.ntmps26
  go_wp2_with fail
  refine HC.out.mono ?_
  rintro e w1 ⟨rfl, hb1⟩
  go_wp2_with fail
  refine (HP.out _ hb1).mono ?_
  rintro e W ⟨v, rfl, hv, hb2⟩
  obtain ⟨R0, c0, rfl, hlc0, hR0, _⟩ := ownz_slice hv
  have HB := Lib.hid (below_then hb1 hb2)
  have HR0 := Lib.hid hR0
  have HLC := Lib.hid hlc0
  clear hb1 hb2 hv hR0 hlc0
  go_wp2_with fail
  go_loopw [9, 8, 7] (fun i p o wr => ∃ k : Nat, k ≤ la.length ∧ i = .int .i64 (k : Int) ∧ ElRel W la res k p o wr) (fun i _ _ _ => la.length - (intOf i).toNat)
  case atStart => exact ⟨0, Nat.zero_le _, rfl, R0, rs, [], c0, rfl, HLC.out, HR0.out, ownz_nil _ _, by have := HPL.out; simp; omega, HEQ.out.symm, Below.refl _ _⟩
  case round =>
    obtain ⟨k, hk, rfl, R, rest, out, cr, rfl, hlc, hR, ho, hlen, hinv, hbr⟩ := hrel
    by_cases hlt : k < la.length
    · have i2 : (k : Int) < (la.length : Int) := by omega
      have HST : Hid (ElRel W la res k (.slice R rest.length cr) u7 wr) := Lib.hid ⟨R, rest, out, cr, rfl, hlc, hR, ho, hlen, hinv, hbr⟩
      obtain ⟨bA, oA, rfl, hbA, gA⟩ := HA.out.at_ hlt
      have HGA := Lib.hid (fun wx (h : Below W.heap.size W wx) => (h.cell (p := ⟨bA, oA + k, none⟩) (Nat.lt_of_lt_of_le hbA HB.out.size)).trans ((HB.out.cell (p := ⟨bA, oA + k, none⟩) hbA).trans gA))
      have HDR := Lib.hid (drop_cons la hlt)
      clear ho hlen hinv hbr hR hlc gA
      go_wp2_with fail
      go_loopw [8, 7] (fun p o wx => ElRel W la res k p o wx) (fun p _ _ => lenS p)
      case atStart => exact HST.out
      case round =>
        obtain ⟨R2, rest, out, c2, rfl, hlc, hR, ho, hlen, hinv, hbx⟩ := hrel
        have eA := HGA.out _ hbx
        have hsz := hbx.size
        have HBX := Lib.hid hbx
        have HO := Lib.hid ho
        have HLEN := Lib.hid hlen
        have HLC := Lib.hid hlc
        generalize hx : la.getD k 0 = x at *
        rw [HDR.out] at hinv
        cases rest with
        | nil =>
          have HN := Lib.hid (show (out ++ [x]) ++ layF (la.drop (k + 1)) [] = res by rw [lay_end] at hinv; simpa using hinv)
          clear hinv hbx ho hx hR
          go_upto_region 9 with fail
          go_quiet (fail)
          go_wp2_with (first
            | (at_builtin; refine app_zs rfl (.tmp 46) (.tmp 51) rfl W.heap.size _ out rfl (ownz_below (ownz_draws HO.out (by first | exact Drew.refl _ | exact (Drew.refl _).more _ | exact ((Drew.refl _).more _).more _)) (below_one _ _)) _ [x] 1 rfl (zs_cell (Row.new _ _ _)) (by rw [List.length_singleton]; have := HLEN.out; simp at this; omega) (Nat.le_trans hsz (by simp [World.drewN])) ?_; intro v1 w1 hown1 hb1 _; have HO1 := Lib.hid hown1; have HX1 := Lib.hid (((below_draws HBX.out (by first | exact Drew.refl _ | exact (Drew.refl _).more _ | exact ((Drew.refl _).more _).more _)).alloc (by simpa [World.drewN] using hsz) _).trans hb1); clear hown1 hb1))
          go_roundw
          case rel => exact ⟨k + 1, by omega, by go_num, R2, [], out ++ [x], c2, rfl, by simp, Zs.nil _ _, HO1.out, by have := HLEN.out; simp at this ⊢; omega, HN.out, HX1.out⟩
          case measure => simp [intOf]; omega
        | cons y rest =>
          obtain ⟨b, o, rfl, hb, g0, hR2⟩ := hR.head
          have e0 := (hbx.cell (p := ⟨b, o, none⟩) hb).trans g0
          have HR2 := Lib.hid (zs_rest hR2 hlc)
          have HR := Lib.hid hR
          by_cases hyx : y < x
          · have HN := Lib.hid (show (out ++ [y]) ++ layF (la.drop k) rest = res by rw [lay_lt _ _ hyx] at hinv; rw [HDR.out]; simpa using hinv)
            have q1 : decide (y < x) = true := decide_eq_true hyx
            clear hinv hbx ho hx hR hyx g0 hR2
            go_upto_region 9 with fail
            go_quiet (fail)
            go_wp2_with (first
              | (at_builtin; refine app_zs rfl (.tmp 38) (.tmp 42) rfl W.heap.size _ out rfl (ownz_below (ownz_draws HO.out (by first | exact Drew.refl _ | exact (Drew.refl _).more _ | exact ((Drew.refl _).more _).more _)) (below_one _ _)) _ [y] 1 rfl (zs_cell (Row.new _ _ _)) (by rw [List.length_singleton]; have := HLEN.out; simp at this; omega) (Nat.le_trans hsz (by simp [World.drewN])) ?_; intro v1 w1 hown1 hb1 _; have HO1 := Lib.hid hown1; have HX1 := Lib.hid (((below_draws HBX.out (by first | exact Drew.refl _ | exact (Drew.refl _).more _ | exact ((Drew.refl _).more _).more _)).alloc (by simpa [World.drewN] using hsz) _).trans hb1); clear hown1 hb1))
            go_roundw
            case rel => exact ⟨_, rest, out ++ [y], _, rfl, by have := HLC.out; simp at this; omega, HR2.out, HO1.out, by have := HLEN.out; simp at this ⊢; omega, HN.out, HX1.out⟩
            case measure => first | (simp [lenS]; done) | (simp [lenS]; omega)
          · have HN := Lib.hid (show (out ++ [x]) ++ layF (la.drop (k + 1)) (y :: rest) = res by rw [lay_ge _ _ hyx] at hinv; simpa using hinv)
            have q1 : decide (y < x) = false := decide_eq_false hyx
            clear hinv hbx ho hx hR hyx g0 hR2
            go_upto_region 9 with fail
            go_quiet (fail)
            go_wp2_with (first
              | (at_builtin; refine app_zs rfl (.tmp 46) (.tmp 51) rfl W.heap.size _ out rfl (ownz_below (ownz_draws HO.out (by first | exact Drew.refl _ | exact (Drew.refl _).more _ | exact ((Drew.refl _).more _).more _)) (below_one _ _)) _ [x] 1 rfl (zs_cell (Row.new _ _ _)) (by rw [List.length_singleton]; have := HLEN.out; simp at this; omega) (Nat.le_trans hsz (by simp [World.drewN])) ?_; intro v1 w1 hown1 hb1 _; have HO1 := Lib.hid hown1; have HX1 := Lib.hid (((below_draws HBX.out (by first | exact Drew.refl _ | exact (Drew.refl _).more _ | exact ((Drew.refl _).more _).more _)).alloc (by simpa [World.drewN] using hsz) _).trans hb1); clear hown1 hb1))
            go_roundw
            case rel => exact ⟨k + 1, by omega, by go_num, _, y :: rest, out ++ [x], c2, rfl, HLC.out, HR.out, HO1.out, by have := HLEN.out; simp at this ⊢; omega, HN.out, HX1.out⟩
            case measure => simp [intOf]; omega
    · obtain rfl : k = la.length := by omega
      rw [List.drop_length, lay_nil] at hinv
      have HINV := Lib.hid hinv
      have HBW := Lib.hid (HB.out.trans (hbr.mono HB.out.size))
      have HBR := Lib.hid hbr
      have HO := Lib.hid ho
      have HR := Lib.hid (hR.below hbr)
      have hrl : (out.length + rest.length) * 8 ≤ 140737488355328 := by omega
      have hrs : res.length = (out ++ rest).length := by rw [hinv]
      clear hinv hbr ho hR hlen hlc
      by_cases hbig : 1024 < res.length
      · have q0 : decide ((1024 : Int) < (res.length : Int)) = true := decide_eq_true (by omega)
        have HBIG := Lib.hid hbig
        clear hbig hrs
        go_wp2_with (first
          | (at_builtin; refine app_zs rfl (.tmp 53) (.tmp 54) rfl W.heap.size _ out rfl HO.out R rest cr rfl HR.out hrl HBR.out.size ?_; intro v1 w1 hown1 hb1 _; rw [HINV.out] at hown1; obtain ⟨P1, d1, hv1, _, _⟩ := ownz_slice hown1; have HO1 := Lib.hid hown1; have HX1 := Lib.hid (HBW.out.trans (hb1.mono HB.out.size)); clear hown1 hb1; subst hv1))
        go_ret2
        exact ⟨HX1.out, .inl ⟨HBIG.out, rfl⟩⟩
      · have q0 : decide ((1024 : Int) < (res.length : Int)) = false := decide_eq_false (by omega)
        have HBIG := Lib.hid (show res.length ≤ 1024 by omega)
        clear hbig hrs
        go_wp2_with (first
          | (at_builtin; refine app_zs rfl (.tmp 53) (.tmp 54) rfl W.heap.size _ out rfl HO.out R rest cr rfl HR.out hrl HBR.out.size ?_; intro v1 w1 hown1 hb1 _; rw [HINV.out] at hown1; obtain ⟨P1, d1, hv1, _, _⟩ := ownz_slice hown1; have HO1 := Lib.hid hown1; have HX1 := Lib.hid (HBW.out.trans (hb1.mono HB.out.size)); clear hown1 hb1; subst hv1))
        go_ret2
        exact ⟨HX1.out, .inr ⟨HBIG.out, _, rfl, ownz_lower HO1.out HB.out.size⟩⟩
end Go.Proofs.Ytiepepikbophmaa
