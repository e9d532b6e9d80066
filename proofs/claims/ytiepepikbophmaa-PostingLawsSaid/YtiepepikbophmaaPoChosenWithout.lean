/- The program's walk along two posting lists, whom the closure of Without lets stay. Written by tools/genchosen.py. -/
import Derived.Test.YtiepepikbophmaaPoChosen
namespace Go.Proofs.Ytiepepikbophmaa
open Go.RowKit Go.Maps
set_option linter.unusedVariables false

theorem fnWithout_tt (w : World) : Calls Try.prog 58 #[.bool true, .bool true] w fun e w' => e = .returned (.bool false) ∧ w = w' := by
  go_enter Try.func58, Try.ntmps58
  go_wp2_with fail
  go_ret
  exact ⟨rfl, rfl⟩
theorem fnWithout_tf (w : World) : Calls Try.prog 58 #[.bool true, .bool false] w fun e w' => e = .returned (.bool true) ∧ w = w' := by
  go_enter Try.func58, Try.ntmps58
  go_wp2_with fail
  go_ret
  exact ⟨rfl, rfl⟩
theorem fnWithout_ft (w : World) : Calls Try.prog 58 #[.bool false, .bool true] w fun e w' => e = .returned (.bool false) ∧ w = w' := by
  go_enter Try.func58, Try.ntmps58
  go_wp2_with fail
  go_ret
  exact ⟨rfl, rfl⟩
theorem fnWithout_ff (w : World) : Calls Try.prog 58 #[.bool false, .bool false] w fun e w' => e = .returned (.bool false) ∧ w = w' := by
  go_enter Try.func58, Try.ntmps58
  go_wp2_with fail
  go_ret
  exact ⟨rfl, rfl⟩
set_option maxRecDepth 100000 in
set_option maxHeartbeats 2000000 in
theorem chosenWithout (A B : Option Addr) (la lb : List Int) (ca cb : Nat) (w : World) (hA : Zs w A la) (hB : Zs w B lb) (hca : la.length ≤ ca) (hcb : lb.length ≤ cb) (ea : pchk la = 0) (eb : pchk lb = 0) :
    Calls Try.prog 55 #[.slice A la.length ca, .slice B lb.length cb, .func (.func 58) #[] #[]] w (ChTold w (lessL la lb)) := by
  obtain ⟨ma, _⟩ := pchk_zero.1 ea
  obtain ⟨mb, _⟩ := pchk_zero.1 eb
  have HC1 := Lib.hid (check_prog A la ca w hA (by omega))
  have HC2 := Lib.hid (check_prog B lb cb w hB (by omega))
  rw [ea] at HC1
  rw [eb] at HC2
  have HA := Lib.hid hA
  have HB := Lib.hid hB
  have HI := Lib.hid (show [] ++ mergeF (fun p q => p && !q) la lb = lessL la lb from rfl)
  generalize lessL la lb = res at *
  clear hA hB ea eb
  go_enter Try.func55, Try.ntmps55
  go_wp2_with fail
  refine HC1.out.mono ?_
  rintro e w1 ⟨rfl, rfl⟩
  go_wp2_with fail
  refine HC2.out.mono ?_
  rintro e w1 ⟨rfl, rfl⟩
  go_wp2_with fail
  go_loopw [0, 1, 10] (fun p q o wr => ChRel w (fun p q => p && !q) res p q o wr) (fun p q _ _ => lenS p + lenS q)
  case atStart => exact ⟨A, B, la, lb, [], ca, cb, rfl, hca, HA.out, rfl, hcb, HB.out, ma, mb, ownz_nil _ _, by simp; omega, HI.out, Below.refl _ _⟩
  case round =>
    obtain ⟨A1, B1, xa, xb, out, c1, c2, rfl, h1, hA1, rfl, h2, hB1, m1, m2, ho, hlen, hinv, hbr⟩ := hrel
    have hsz := hbr.size
    have HBR := Lib.hid hbr
    have HO := Lib.hid ho
    cases xa with
    | nil =>
      cases xb with
      | nil =>
        rw [merge_nil, List.append_nil] at hinv
        subst hinv
        obtain ⟨P, cc, rfl, hlc, hP, _⟩ := ownz_slice ho
        clear hbr ho
        by_cases hbig : 1024 < out.length
        · have q0 : decide ((1024 : Int) < (out.length : Int)) = true := decide_eq_true (by omega)
          have HBIG := Lib.hid hbig
          clear hbig
          go_wp2_with fail
          go_ret2
          exact ⟨HBR.out, .inl ⟨HBIG.out, rfl⟩⟩
        · have q0 : decide ((1024 : Int) < (out.length : Int)) = false := decide_eq_false (by omega)
          have HBIG := Lib.hid (show out.length ≤ 1024 by omega)
          clear hbig
          go_wp2_with fail
          go_ret2
          exact ⟨HBR.out, .inr ⟨HBIG.out, _, rfl, HO.out⟩⟩
      | cons y tb =>
        obtain ⟨b, o, rfl, hb, g0, hB2⟩ := hB1.head
        have HB2 := Lib.hid (zs_rest hB2 h2)
        have e0 : wr.cell? ⟨b, o, none⟩ = some (.int .i64 y) := (hbr.cell (p := ⟨b, o, none⟩) hb).trans g0
        have HI1 := Lib.hid (show out ++ mergeF (fun p q => p && !q) [] tb = res by
          rw [merge_r] at hinv
          simpa [keepIf] using hinv)
        have HLEN := Lib.hid hlen
        have zb1 : ((tb.length : Int) + 1 == 0) = false := by rw [beq_eq_false_iff_ne]; omega
        have zb2 : (((y :: tb).length : Int) == 0) = false := by rw [beq_eq_false_iff_ne]; simp; omega
        clear hinv hbr ho
        go_upto_region 9 with fail
        go_quiet (fail)
        go_upto_region 10 with fail
        go_quiet (fail)
        go_upto_region 15 with fail
        go_quiet (fail)
        go_wp2_with (first
          | (go_at_call 58; refine (fnWithout_ft _).mono ?_; rintro e w2 ⟨rfl, rfl⟩))
        go_roundw
        case rel => exact ⟨A1, _, [], tb, out, c1, _, rfl, by simp, Zs.nil _ _, rfl, by simp at h2; omega, HB2.out, by simp, by simp at m2; omega, ownz_draws HO.out (by first | exact Drew.refl _ | exact (Drew.refl _).more _ | exact ((Drew.refl _).more _).more _ | exact (((Drew.refl _).more _).more _).more _ | exact ((((Drew.refl _).more _).more _).more _).more _), by have := HLEN.out; simp at this ⊢; omega, HI1.out, below_draws HBR.out (by first | exact Drew.refl _ | exact (Drew.refl _).more _ | exact ((Drew.refl _).more _).more _ | exact (((Drew.refl _).more _).more _).more _ | exact ((((Drew.refl _).more _).more _).more _).more _)⟩
        case measure => first | (simp [lenS]; done) | (simp [lenS]; omega)
    | cons x ta =>
      cases xb with
      | nil =>
        obtain ⟨b, o, rfl, hb, g0, hA2⟩ := hA1.head
        have HA2 := Lib.hid (zs_rest hA2 h1)
        have e0 : wr.cell? ⟨b, o, none⟩ = some (.int .i64 x) := (hbr.cell (p := ⟨b, o, none⟩) hb).trans g0
        have HI1 := Lib.hid (show (out ++ [x]) ++ mergeF (fun p q => p && !q) ta [] = res by
          rw [merge_l] at hinv
          simpa [keepIf] using hinv)
        have HLEN := Lib.hid hlen
        have za1 : ((ta.length : Int) + 1 == 0) = false := by rw [beq_eq_false_iff_ne]; omega
        have za2 : (((x :: ta).length : Int) == 0) = false := by rw [beq_eq_false_iff_ne]; simp; omega
        clear hinv hbr ho
        go_upto_region 9 with fail
        go_quiet (fail)
        go_upto_region 10 with fail
        go_quiet (fail)
        go_upto_region 13 with fail
        go_quiet (fail)
        go_wp2_with (first
          | (go_at_call 58; refine (fnWithout_tf _).mono ?_; rintro e w2 ⟨rfl, rfl⟩)
          | (at_builtin; refine app_zs rfl (.tmp 82) (.tmp 84) rfl w.heap.size _ out rfl (ownz_below (ownz_draws HO.out (by first | exact Drew.refl _ | exact (Drew.refl _).more _ | exact ((Drew.refl _).more _).more _ | exact (((Drew.refl _).more _).more _).more _ | exact ((((Drew.refl _).more _).more _).more _).more _)) (below_one _ _)) _ [x] 1 rfl (zs_cell (Row.new _ _ _)) (by rw [List.length_singleton]; have := HLEN.out; simp at this; omega) (Nat.le_trans hsz (by simp [World.drewN])) ?_; intro v1 w1 hown1 hb1 _; have HO1 := Lib.hid hown1; have HX1 := Lib.hid (((below_draws HBR.out (by first | exact Drew.refl _ | exact (Drew.refl _).more _ | exact ((Drew.refl _).more _).more _ | exact (((Drew.refl _).more _).more _).more _ | exact ((((Drew.refl _).more _).more _).more _).more _)).alloc (by simpa [World.drewN] using hsz) _).trans hb1); clear hown1 hb1))
        go_roundw
        case rel => exact ⟨_, B1, ta, [], out ++ [x], _, c2, rfl, by simp at h1; omega, HA2.out, rfl, by simp, Zs.nil _ _, by simp at m1; omega, by simp, HO1.out, by have := HLEN.out; simp at this ⊢; omega, HI1.out, HX1.out⟩
        case measure => first | (simp [lenS]; done) | (simp [lenS]; omega)
      | cons y tb =>
        obtain ⟨b, o, rfl, hb, g0, hA2⟩ := hA1.head
        obtain ⟨d, u, rfl, hd, k0, hB2⟩ := hB1.head
        have e0 : wr.cell? ⟨b, o, none⟩ = some (.int .i64 x) := (hbr.cell (p := ⟨b, o, none⟩) hb).trans g0
        have e1 : wr.cell? ⟨d, u, none⟩ = some (.int .i64 y) := (hbr.cell (p := ⟨d, u, none⟩) hd).trans k0
        have HA2 := Lib.hid (zs_rest hA2 h1)
        have HB2 := Lib.hid (zs_rest hB2 h2)
        rcases Int.lt_trichotomy x y with hxy | hxy | hxy
        · have q1 : decide (x ≤ y) = true := decide_eq_true (by omega)
          have q2 : decide (y ≤ x) = false := decide_eq_false (by omega)
          have HI1 := Lib.hid (show (out ++ [x]) ++ mergeF (fun p q => p && !q) ta (y :: tb) = res by
            rw [merge_lt _ _ _ hxy] at hinv
            simpa [keepIf] using hinv)
          have HLEN := Lib.hid hlen
          clear hxy
          have za1 : ((ta.length : Int) + 1 == 0) = false := by rw [beq_eq_false_iff_ne]; omega
          have za2 : (((x :: ta).length : Int) == 0) = false := by rw [beq_eq_false_iff_ne]; simp; omega
          have zb1 : ((tb.length : Int) + 1 == 0) = false := by rw [beq_eq_false_iff_ne]; omega
          have zb2 : (((y :: tb).length : Int) == 0) = false := by rw [beq_eq_false_iff_ne]; simp; omega
          clear hinv hbr ho
          go_upto_region 9 with fail
          go_quiet (fail)
          go_upto_region 10 with fail
          go_quiet (fail)
          go_upto_region 13 with fail
          go_quiet (fail)
          go_wp2_with (first
            | (go_at_call 58; refine (fnWithout_tf _).mono ?_; rintro e w2 ⟨rfl, rfl⟩)
            | (at_builtin; refine app_zs rfl (.tmp 82) (.tmp 84) rfl w.heap.size _ out rfl (ownz_below (ownz_draws HO.out (by first | exact Drew.refl _ | exact (Drew.refl _).more _ | exact ((Drew.refl _).more _).more _ | exact (((Drew.refl _).more _).more _).more _ | exact ((((Drew.refl _).more _).more _).more _).more _)) (below_one _ _)) _ [x] 1 rfl (zs_cell (Row.new _ _ _)) (by rw [List.length_singleton]; have := HLEN.out; simp at this; omega) (Nat.le_trans hsz (by simp [World.drewN])) ?_; intro v1 w1 hown1 hb1 _; have HO1 := Lib.hid hown1; have HX1 := Lib.hid (((below_draws HBR.out (by first | exact Drew.refl _ | exact (Drew.refl _).more _ | exact ((Drew.refl _).more _).more _ | exact (((Drew.refl _).more _).more _).more _ | exact ((((Drew.refl _).more _).more _).more _).more _)).alloc (by simpa [World.drewN] using hsz) _).trans hb1); clear hown1 hb1))
          go_roundw
          case rel => exact ⟨_, _, ta, (y :: tb), out ++ [x], _, c2, rfl, by simp at h1; omega, HA2.out, rfl, h2, hB1, by simp at m1; omega, m2, HO1.out, by have := HLEN.out; simp at this ⊢; omega, HI1.out, HX1.out⟩
          case measure => first | (simp [lenS]; done) | (simp [lenS]; omega)
        · subst hxy
          have q1 : decide (x ≤ x) = true := decide_eq_true (by omega)
          have HI1 := Lib.hid (show out ++ mergeF (fun p q => p && !q) ta tb = res by
            rw [merge_eq] at hinv
            simpa [keepIf] using hinv)
          have HLEN := Lib.hid hlen
          have za1 : ((ta.length : Int) + 1 == 0) = false := by rw [beq_eq_false_iff_ne]; omega
          have za2 : (((x :: ta).length : Int) == 0) = false := by rw [beq_eq_false_iff_ne]; simp; omega
          have zb1 : ((tb.length : Int) + 1 == 0) = false := by rw [beq_eq_false_iff_ne]; omega
          have zb2 : (((x :: tb).length : Int) == 0) = false := by rw [beq_eq_false_iff_ne]; simp; omega
          clear hinv hbr ho
          go_upto_region 9 with fail
          go_quiet (fail)
          go_upto_region 10 with fail
          go_quiet (fail)
          go_upto_region 13 with fail
          go_quiet (fail)
          go_upto_region 15 with fail
          go_quiet (fail)
          go_wp2_with (first
            | (go_at_call 58; refine (fnWithout_tt _).mono ?_; rintro e w2 ⟨rfl, rfl⟩))
          go_roundw
          case rel => exact ⟨_, _, ta, tb, out, _, _, rfl, by simp at h1; omega, HA2.out, rfl, by simp at h2; omega, HB2.out, by simp at m1; omega, by simp at m2; omega, ownz_draws HO.out (by first | exact Drew.refl _ | exact (Drew.refl _).more _ | exact ((Drew.refl _).more _).more _ | exact (((Drew.refl _).more _).more _).more _ | exact ((((Drew.refl _).more _).more _).more _).more _), by have := HLEN.out; simp at this ⊢; omega, HI1.out, below_draws HBR.out (by first | exact Drew.refl _ | exact (Drew.refl _).more _ | exact ((Drew.refl _).more _).more _ | exact (((Drew.refl _).more _).more _).more _ | exact ((((Drew.refl _).more _).more _).more _).more _)⟩
          case measure => first | (simp [lenS]; done) | (simp [lenS]; omega)
        · have q1 : decide (x ≤ y) = false := decide_eq_false (by omega)
          have q2 : decide (y ≤ x) = true := decide_eq_true (by omega)
          have HI1 := Lib.hid (show out ++ mergeF (fun p q => p && !q) (x :: ta) tb = res by
            rw [merge_gt _ _ _ hxy] at hinv
            simpa [keepIf] using hinv)
          have HLEN := Lib.hid hlen
          clear hxy
          have za1 : ((ta.length : Int) + 1 == 0) = false := by rw [beq_eq_false_iff_ne]; omega
          have za2 : (((x :: ta).length : Int) == 0) = false := by rw [beq_eq_false_iff_ne]; simp; omega
          have zb1 : ((tb.length : Int) + 1 == 0) = false := by rw [beq_eq_false_iff_ne]; omega
          have zb2 : (((y :: tb).length : Int) == 0) = false := by rw [beq_eq_false_iff_ne]; simp; omega
          clear hinv hbr ho
          go_upto_region 9 with fail
          go_quiet (fail)
          go_upto_region 10 with fail
          go_quiet (fail)
          go_upto_region 15 with fail
          go_quiet (fail)
          go_wp2_with (first
            | (go_at_call 58; refine (fnWithout_ft _).mono ?_; rintro e w2 ⟨rfl, rfl⟩))
          go_roundw
          case rel => exact ⟨_, _, (x :: ta), tb, out, c1, _, rfl, h1, hA1, rfl, by simp at h2; omega, HB2.out, m1, by simp at m2; omega, ownz_draws HO.out (by first | exact Drew.refl _ | exact (Drew.refl _).more _ | exact ((Drew.refl _).more _).more _ | exact (((Drew.refl _).more _).more _).more _ | exact ((((Drew.refl _).more _).more _).more _).more _), by have := HLEN.out; simp at this ⊢; omega, HI1.out, below_draws HBR.out (by first | exact Drew.refl _ | exact (Drew.refl _).more _ | exact ((Drew.refl _).more _).more _ | exact (((Drew.refl _).more _).more _).more _ | exact ((((Drew.refl _).more _).more _).more _).more _)⟩
          case measure => first | (simp [lenS]; done) | (simp [lenS]; omega)
theorem without_yes (A B : Option Addr) (la lb : List Int) (ca cb : Nat) (w : World) (hA : Zs w A la) (hB : Zs w B lb) (hca : la.length ≤ ca) (hcb : lb.length ≤ cb) (ea : pchk la = 0) (eb : pchk lb = 0) :
    Calls Try.prog 24 #[.slice A la.length ca, .slice B lb.length cb] w (ChTold w (lessL la lb)) := by
  have HC := Lib.hid (chosenWithout A B la lb ca cb w hA hB hca hcb ea eb)
  generalize lessL la lb = res at *
  clear hA hB ea eb
  go_enter Try.func24, Try.ntmps24
  go_wp2_with fail
  refine HC.out.mono ?_
  rintro e w1 ⟨hb1, ⟨hl, rfl⟩ | ⟨hl, v, rfl, hv⟩⟩
  · go_wp2_with fail
    go_ret2
    exact ⟨hb1, .inl ⟨hl, rfl⟩⟩
  · go_wp2_with fail
    go_ret2
    exact ⟨hb1, .inr ⟨hl, v, rfl, hv⟩⟩
theorem without_no (A B : Option Addr) (la lb : List Int) (ca cb : Nat) (w : World) (hA : Zs w A la) (hB : Zs w B lb) (ma : la.length ≤ 281474976710656) (mb : lb.length ≤ 281474976710656) (he : refE la lb ≠ 0) :
    Calls Try.prog 24 #[.slice A la.length ca, .slice B lb.length cb] w fun e w' => e = .returned (.tuple #[.slice none 0 0, .int .i64 (refE la lb)]) ∧ w = w' := by
  have HC := Lib.hid (chosen_no A B la lb ca cb (.func (.func 58) #[] #[]) w hA hB ma mb he)
  generalize refE la lb = x at *
  clear hA hB he
  go_enter Try.func24, Try.ntmps24
  go_wp2_with fail
  refine HC.out.mono ?_
  rintro e w1 ⟨rfl, rfl⟩
  go_wp2_with fail
  go_ret2
  exact ⟨rfl, rfl⟩
end Go.Proofs.Ytiepepikbophmaa
