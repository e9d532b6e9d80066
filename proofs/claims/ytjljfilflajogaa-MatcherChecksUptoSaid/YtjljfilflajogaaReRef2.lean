/- The document's own answer for patterns: a class, where it ends and whether it has a byte. -/
import Derived.Test.YtjljfilflajogaaReRef1
import Derived.Deep.DeepCutAuto
namespace Go.Proofs.Ytjljfilflajogaa
open Go.RowKit
set_option linter.unusedVariables false

theorem drop_byte (p : ByteArray) {k : Nat} (h : k < p.size) : (strL p).drop k = p[k] :: (strL p).drop (k + 1) := drop_at (strG p h)
theorem drop_end (p : ByteArray) {k : Nat} (h : p.size ≤ k) : (strL p).drop k = [] := List.drop_eq_nil_of_le (by rw [strL_length]; exact h)
theorem drop_len (p : ByteArray) (k : Nat) : ((strL p).drop k).length = p.size - k := by rw [List.length_drop, strL_length]
theorem cls_none {N : Nat} {x : List UInt8} {c : UInt8} (h : clsV x = none) : clsE N x = 0 ∧ clsH x c = false := by
  unfold clsE clsH
  rw [h]
  exact ⟨rfl, rfl⟩
theorem cls_some {N : Nat} {x : List UInt8} {c : UInt8} {ss : List (UInt8 × UInt8)} {y : List UInt8} (h : clsV x = some (ss, y)) : clsE N x = (N : Int) - (y.length : Int) ∧ clsH x c = (ss.any (spanHas c) != aheadM [94] x) := by
  unfold clsE clsH
  rw [h]
  exact ⟨rfl, rfl⟩
theorem ret_cls {a b : Int} {c d : Bool} (h1 : a = b) (h2 : c = d) : Ending.returned (.tuple #[.int .i64 a, .bool c]) = .returned (.tuple #[.int .i64 b, .bool d]) := by rw [h1, h2]
/-- The tests of a byte against a mark, in the walk's spellings. -/
theorem byte_is {c : UInt8} {k : Nat} (hk : k < 256) {b : Bool} (h : decide (c = UInt8.ofNat k) = b) : ((c.toNat : Int) == (k : Int)) = b ∧ ((c.toNat : Int) != (k : Int)) = !b := by
  have := byte_eq c k hk
  rw [h] at this
  exact ⟨this, by rw [bne, this]⟩
theorem byte_le (a b : UInt8) : decide ((a.toNat : Int) ≤ (b.toNat : Int)) = decide (a ≤ b) ∧ decide (a.toNat ≤ b.toNat) = decide (a ≤ b) := by
  constructor <;> (rw [decide_eq_decide, UInt8.le_iff_toNat_le]) <;> omega
theorem byte_lt (a b : UInt8) : decide ((a.toNat : Int) < (b.toNat : Int)) = !decide (b ≤ a) ∧ decide (a.toNat < b.toNat) = !decide (b ≤ a) := by
  by_cases h : b ≤ a
  · have h' := UInt8.le_iff_toNat_le.1 h
    rw [decide_eq_true h]
    exact ⟨decide_eq_false (by omega), decide_eq_false (by omega)⟩
  · have h' : ¬ b.toNat ≤ a.toNat := fun e => h (UInt8.le_iff_toNat_le.2 e)
    rw [decide_eq_false h]
    exact ⟨decide_eq_true (by omega), decide_eq_true (by omega)⟩
def ClsRel (p : ByteArray) (w : World) (x : List UInt8) (c : UInt8) (i h n : Value) (wr : World) : Prop :=
  ∃ (k : Nat) (ss : List (UInt8 × UInt8)), k ≤ p.size ∧ i = .int .i64 (k : Int) ∧ h = .bool (ss.any (spanHas c)) ∧ n = .int .i64 (ss.length : Int) ∧ ss.length ≤ k ∧ ClsAt x ss ((strL p).drop k) ∧ Below w.heap.size w wr
set_option maxRecDepth 100000 in
set_option maxHeartbeats 8000000 in
theorem class_ref (p : ByteArray) (j : Nat) (hp : p.size ≤ 1000) (hj : j < p.size) (c : UInt8) (w : World) :
    Calls Try.prog 53 #[.string p, .int .i64 (j : Int), .int .u8 (c.toNat : Int)] w fun e w' => e = .returned (.tuple #[.int .i64 (clsE p.size ((strL p).drop (j + 1))), .bool (clsH ((strL p).drop (j + 1)) c)]) ∧ Below w.heap.size w w' := by
  obtain ⟨x, hx⟩ : ∃ x, (strL p).drop (j + 1) = x := ⟨_, rfl⟩
  rw [hx]
  obtain ⟨neg, hneg⟩ : ∃ neg, aheadM [94] x = neg := ⟨_, rfl⟩
  obtain ⟨i0, hi0⟩ : ∃ i0 : Nat, (if neg then j + 2 else j + 1) = i0 := ⟨_, rfl⟩
  have key : (¬ j + 1 < p.size ∧ neg = false) ∨ (∃ h : j + 1 < p.size, decide (p[j + 1] = UInt8.ofNat 94) = neg) := by
    by_cases h1 : j + 1 < p.size
    · have hd := drop_byte p h1
      rw [hx] at hd
      refine .inr ⟨h1, ?_⟩
      rw [← hneg, hd]
      simp only [aheadM, List.contains_cons, List.contains_nil, Bool.or_false]
      rfl
    · have he : x = [] := by rw [← hx]; exact drop_end p (by omega)
      exact .inl ⟨h1, by rw [← hneg, he]; rfl⟩
  have HK : Hid (hatX x = (strL p).drop i0 ∧ i0 ≤ p.size) := by
    refine Lib.hid ?_
    unfold hatX
    rw [hneg, ← hi0]
    cases neg
    · exact ⟨hx.symm, hj⟩
    · rcases key with ⟨_, h⟩ | ⟨h, _⟩
      · cases h
      · refine ⟨?_, h⟩
        rw [if_pos rfl, if_pos rfl, ← hx, List.tail_drop]
  have HST := Lib.hid (show ClsAt x [] ((strL p).drop i0) by rw [← HK.out.1]; exact clsAt_start x)
  have HIL := Lib.hid HK.out.2
  have HN := Lib.hid hneg
  have HI0 := Lib.hid hi0
  clear hneg hx hi0 HK
  go_enter Try.func53, Try.ntmps53
  go_upto_region 2 with fail
  go_cut [9] (fun s9 wx => s9 = .bool neg ∧ w = wx)
  case first =>
    rcases key with ⟨h1, h2⟩ | ⟨h1, h2⟩
    · subst h2
      have q0 : decide (((j : Int) + 1) < (p.size : Int)) = false := by rw [decide_eq_false_iff_not]; omega
      go_wp2_with fail
      go_meet
      exact ⟨rfl, rfl⟩
    · obtain ⟨q1, q2⟩ := byte_is (by omega) h2
      have HQ1 := Lib.hid q1
      clear h2 q1 q2
      go_wp2_with fail
      go_meet
      exact ⟨by rw [← HQ1.out]; rfl, rfl⟩
  case rest =>
    obtain ⟨rfl, rfl⟩ := hcut
    clear key
    go_upto_if 26 with fail
    go_cut [8] (fun s8 wx => s8 = .int .i64 (i0 : Int) ∧ w = wx)
    case first =>
      cases neg
      · have he := HI0.out
        rw [if_neg (by simp)] at he
        go_wp2_with fail
        go_meet
        exact ⟨by rw [← he]; go_num, rfl⟩
      · have he := HI0.out
        rw [if_pos rfl] at he
        go_wp2_with fail
        go_meet
        exact ⟨by rw [← he]; go_num, rfl⟩
    case rest =>
    obtain ⟨rfl, rfl⟩ := hcut
    go_wp2_with fail
    go_loopw [8, 10, 11] (fun i h n wr => ClsRel p w x c i h n wr) (fun i _ _ _ => p.size - (intOf i).toNat)
    case atStart => exact ⟨i0, [], HIL.out, rfl, rfl, rfl, Nat.zero_le _, HST.out, Below.refl _ _⟩
    case round =>
      obtain ⟨k, ss, hk, rfl, rfl, rfl, hsk, hca, hbr⟩ := hrel
      have HBr := Lib.hid hbr
      generalize hA : ss.any (spanHas c) = A
      generalize hnn : ss.length = nn at hsk
      have HA := Lib.hid hA
      have HNN := Lib.hid hnn
      clear hbr hA hnn
      by_cases hlt : k < p.size
      · have hd := drop_byte p hlt
        rw [hd] at hca
        cases h93 : decide (p[k] = UInt8.ofNat 93)
        · obtain ⟨r1, r2⟩ := byte_is (by omega) h93
          have hne : p[k] ≠ 93 := of_decide_eq_false h93
          have HI := Lib.hid (fun W => item_ref p[k] W)
          cases hu : unlistedL.contains p[k]
          · rw [hu] at HI
            by_cases hk1 : k + 1 < p.size
            · have hd1 := drop_byte p hk1
              cases h45 : decide (p[k + 1] = UInt8.ofNat 45)
              · obtain ⟨s1, s2⟩ := byte_is (by omega) h45
                have HC := Lib.hid (clsAt_item hca hne (item_one hu (by rw [hd1]; simp only [aheadM, List.contains_cons, List.contains_nil, Bool.or_false, beq_eq_false_iff_ne]; exact of_decide_eq_false h45)))
                clear hd hd1 hca h93 hne hu h45
                go_upto_region 9 with (go_at_call 67; refine (HI.out _).mono ?_; rintro e w1 ⟨rfl, rfl⟩)
                go_region
                go_upto_region 16 with fail
                have HA2 := Lib.hid (show (ss ++ [(p[k], p[k])]).any (spanHas c) = (A || (decide (p[k] ≤ c) && decide (c ≤ p[k]))) by rw [any_snoc, HA.out])
                obtain ⟨l1, l2⟩ := byte_le p[k] c
                obtain ⟨l3, l4⟩ := byte_le c p[k]
                have HL2 := Lib.hid (show (ss ++ [(p[k], p[k])]).length = nn + 1 by rw [List.length_append, HNN.out]; rfl)
                cases A
                · cases hb1 : decide (p[k] ≤ c)
                  · rw [hb1] at HA2 l1 l2
                    clear l3 l4 hb1
                    go_wp2_with fail
                    go_roundw
                    case rel => exact ⟨k + 1, ss ++ [(p[k], p[k])], by omega, by go_num, by rw [HA2.out]; rfl, by rw [HL2.out]; go_num, by rw [HL2.out]; omega, HC.out, HBr.out.drew⟩
                    case measure => simp [intOf]; omega
                  · cases hb2 : decide (c ≤ p[k])
                    all_goals
                      rw [hb1, hb2] at HA2
                      rw [hb1] at l1 l2
                      rw [hb2] at l3 l4
                      clear hb1 hb2
                      go_wp2_with fail
                      go_roundw
                      case rel => exact ⟨k + 1, ss ++ [(p[k], p[k])], by omega, by go_num, by rw [HA2.out]; rfl, by rw [HL2.out]; go_num, by rw [HL2.out]; omega, HC.out, HBr.out.drew⟩
                      case measure => simp [intOf]; omega
                · clear l1 l2 l3 l4
                  go_wp2_with fail
                  go_roundw
                  case rel => exact ⟨k + 1, ss ++ [(p[k], p[k])], by omega, by go_num, by rw [HA2.out]; rfl, by rw [HL2.out]; go_num, by rw [HL2.out]; omega, HC.out, HBr.out.drew⟩
                  case measure => simp [intOf]; omega
              · have h45' : p[k + 1] = 45 := of_decide_eq_true h45
                obtain ⟨s1, s2⟩ := byte_is (by omega) h45
                rw [hd1, h45'] at hca
                by_cases hk2 : k + 2 < p.size
                · have hd2 := drop_byte p hk2
                  rw [hd2] at hca
                  have HI2 := Lib.hid (fun W => item_ref p[k + 2] W)
                  obtain ⟨m1, m2⟩ := byte_lt p[k + 2] p[k]
                  cases hu2 : unlistedL.contains p[k + 2]
                  · rw [hu2] at HI2
                    cases ho : decide (p[k] ≤ p[k + 2])
                    · rw [ho] at m1 m2
                      have hv := clsAt_bad hca hne (by rw [item_two hu hu2, if_neg (of_decide_eq_false ho)])
                      have HE := Lib.hid (cls_none (N := p.size) (c := c) hv).1
                      have HH := Lib.hid (cls_none (N := p.size) (c := c) hv).2
                      clear hv hca
                      clear hd hd1 hd2 h93 hne hu hu2 h45 h45' ho
                      go_upto_region 9 with (go_at_call 67; refine (HI.out _).mono ?_; rintro e w1 ⟨rfl, rfl⟩)
                      go_region
                      go_wp2_with (go_at_call 67; refine (HI2.out _).mono ?_; rintro e w1 ⟨rfl, rfl⟩)
                      go_ret2
                      exact ⟨ret_cls HE.out.symm HH.out.symm, HBr.out.drew⟩
                    · rw [ho] at m1 m2
                      have HC := Lib.hid (clsAt_item hca hne (by rw [item_two hu hu2, if_pos (of_decide_eq_true ho)]))
                      clear hd hd1 hd2 hca h93 hne hu hu2 h45 h45' ho
                      go_upto_region 9 with (go_at_call 67; refine (HI.out _).mono ?_; rintro e w1 ⟨rfl, rfl⟩)
                      go_region
                      go_upto_region 16 with (go_at_call 67; refine (HI2.out _).mono ?_; rintro e w1 ⟨rfl, rfl⟩)
                      have HA2 := Lib.hid (show (ss ++ [(p[k], p[k + 2])]).any (spanHas c) = (A || (decide (p[k] ≤ c) && decide (c ≤ p[k + 2]))) by rw [any_snoc, HA.out])
                      obtain ⟨l1, l2⟩ := byte_le p[k] c
                      obtain ⟨l3, l4⟩ := byte_le c p[k + 2]
                      have HL2 := Lib.hid (show (ss ++ [(p[k], p[k + 2])]).length = nn + 1 by rw [List.length_append, HNN.out]; rfl)
                      cases A
                      · cases hb1 : decide (p[k] ≤ c)
                        · rw [hb1] at HA2 l1 l2
                          clear l3 l4 hb1
                          go_wp2_with fail
                          go_roundw
                          case rel => exact ⟨k + 3, ss ++ [(p[k], p[k + 2])], by omega, by go_num, by rw [HA2.out]; rfl, by rw [HL2.out]; go_num, by rw [HL2.out]; omega, HC.out, HBr.out.drew⟩
                          case measure => simp [intOf]; omega
                        · cases hb2 : decide (c ≤ p[k + 2])
                          all_goals
                            rw [hb1, hb2] at HA2
                            rw [hb1] at l1 l2
                            rw [hb2] at l3 l4
                            clear hb1 hb2
                            go_wp2_with fail
                            go_roundw
                            case rel => exact ⟨k + 3, ss ++ [(p[k], p[k + 2])], by omega, by go_num, by rw [HA2.out]; rfl, by rw [HL2.out]; go_num, by rw [HL2.out]; omega, HC.out, HBr.out.drew⟩
                            case measure => simp [intOf]; omega
                      · clear l1 l2 l3 l4
                        go_wp2_with fail
                        go_roundw
                        case rel => exact ⟨k + 3, ss ++ [(p[k], p[k + 2])], by omega, by go_num, by rw [HA2.out]; rfl, by rw [HL2.out]; go_num, by rw [HL2.out]; omega, HC.out, HBr.out.drew⟩
                        case measure => simp [intOf]; omega
                  · rw [hu2] at HI2
                    have hv := clsAt_bad hca hne (item_bad2 hu hu2)
                    have HE := Lib.hid (cls_none (N := p.size) (c := c) hv).1
                    have HH := Lib.hid (cls_none (N := p.size) (c := c) hv).2
                    clear hv hca
                    clear hd hd1 hd2 h93 hne hu hu2 h45 h45' m1 m2
                    go_upto_region 9 with (go_at_call 67; refine (HI.out _).mono ?_; rintro e w1 ⟨rfl, rfl⟩)
                    go_region
                    go_wp2_with (go_at_call 67; refine (HI2.out _).mono ?_; rintro e w1 ⟨rfl, rfl⟩)
                    go_ret2
                    exact ⟨ret_cls HE.out.symm HH.out.symm, HBr.out.drew⟩
                · rw [drop_end p (by omega)] at hca
                  have hv := clsAt_bad hca hne (item_end hu)
                  have HE := Lib.hid (cls_none (N := p.size) (c := c) hv).1
                  have HH := Lib.hid (cls_none (N := p.size) (c := c) hv).2
                  clear hv hca
                  clear hd hd1 h93 hne hu h45 h45'
                  go_upto_region 9 with (go_at_call 67; refine (HI.out _).mono ?_; rintro e w1 ⟨rfl, rfl⟩)
                  go_region
                  go_wp2_with fail
                  go_ret2
                  exact ⟨ret_cls HE.out.symm HH.out.symm, HBr.out.drew⟩
            · have HC := Lib.hid (clsAt_item hca hne (item_one hu (by rw [drop_end p (by omega)]; rfl)))
              clear hd hca h93 hne hu
              go_upto_region 9 with (go_at_call 67; refine (HI.out _).mono ?_; rintro e w1 ⟨rfl, rfl⟩)
              go_region
              go_upto_region 16 with fail
              have HA2 := Lib.hid (show (ss ++ [(p[k], p[k])]).any (spanHas c) = (A || (decide (p[k] ≤ c) && decide (c ≤ p[k]))) by rw [any_snoc, HA.out])
              obtain ⟨l1, l2⟩ := byte_le p[k] c
              obtain ⟨l3, l4⟩ := byte_le c p[k]
              have HL2 := Lib.hid (show (ss ++ [(p[k], p[k])]).length = nn + 1 by rw [List.length_append, HNN.out]; rfl)
              cases A
              · cases hb1 : decide (p[k] ≤ c)
                · rw [hb1] at HA2 l1 l2
                  clear l3 l4 hb1
                  go_wp2_with fail
                  go_roundw
                  case rel => exact ⟨k + 1, ss ++ [(p[k], p[k])], by omega, by go_num, by rw [HA2.out]; rfl, by rw [HL2.out]; go_num, by rw [HL2.out]; omega, HC.out, HBr.out.drew⟩
                  case measure => simp [intOf]; omega
                · cases hb2 : decide (c ≤ p[k])
                  all_goals
                    rw [hb1, hb2] at HA2
                    rw [hb1] at l1 l2
                    rw [hb2] at l3 l4
                    clear hb1 hb2
                    go_wp2_with fail
                    go_roundw
                    case rel => exact ⟨k + 1, ss ++ [(p[k], p[k])], by omega, by go_num, by rw [HA2.out]; rfl, by rw [HL2.out]; go_num, by rw [HL2.out]; omega, HC.out, HBr.out.drew⟩
                    case measure => simp [intOf]; omega
              · clear l1 l2 l3 l4
                go_wp2_with fail
                go_roundw
                case rel => exact ⟨k + 1, ss ++ [(p[k], p[k])], by omega, by go_num, by rw [HA2.out]; rfl, by rw [HL2.out]; go_num, by rw [HL2.out]; omega, HC.out, HBr.out.drew⟩
                case measure => simp [intOf]; omega
          · rw [hu] at HI
            have hv := clsAt_bad hca hne (item_bad1 hu)
            have HE := Lib.hid (cls_none (N := p.size) (c := c) hv).1
            have HH := Lib.hid (cls_none (N := p.size) (c := c) hv).2
            clear hv hca
            clear hd h93 hne hu
            go_wp2_with (go_at_call 67; refine (HI.out _).mono ?_; rintro e w1 ⟨rfl, rfl⟩)
            go_ret2
            exact ⟨ret_cls HE.out.symm HH.out.symm, HBr.out⟩
        · obtain ⟨r1, r2⟩ := byte_is (by omega) h93
          rw [of_decide_eq_true h93] at hca
          have hv := clsAt_stop hca
          by_cases h0 : nn = 0
          · have hs0 : ss = [] := List.eq_nil_of_length_eq_zero (by rw [HNN.out]; exact h0)
            rw [hs0] at hv
            have HE := Lib.hid (cls_none (N := p.size) (c := c) hv).1
            have HH := Lib.hid (cls_none (N := p.size) (c := c) hv).2
            have z0 : ((nn : Int) == 0) = true := by rw [h0]; rfl
            clear hv hca hd h93 h0 hs0
            go_wp2_with fail
            go_ret2
            exact ⟨ret_cls HE.out.symm HH.out.symm, HBr.out⟩
          · have z0 : ((nn : Int) == 0) = false := by rw [beq_eq_false_iff_ne]; omega
            have hss : ss.isEmpty = false := by
              cases ss with
              | nil => have := HNN.out; simp at this; omega
              | cons s r => rfl
            rw [hss, if_neg (by simp)] at hv
            obtain ⟨he, hh⟩ := cls_some (N := p.size) (c := c) hv
            rw [drop_len, show (p.size : Int) - ((p.size - (k + 1) : Nat) : Int) = (k : Int) + 1 by omega] at he
            rw [HA.out, HN.out] at hh
            have HE := Lib.hid he
            have HH := Lib.hid hh
            clear hv hca hd h93 h0 hss he hh
            cases A
            all_goals
              go_wp2_with fail
              go_ret2
              exact ⟨ret_cls HE.out.symm (by rw [HH.out]; cases neg <;> rfl), HBr.out⟩
      · rw [drop_end p (by omega)] at hca
        have hv := clsAt_nil hca
        have HE := Lib.hid (cls_none (N := p.size) (c := c) hv).1
        have HH := Lib.hid (cls_none (N := p.size) (c := c) hv).2
        clear hv hca
        go_wp2_with fail
        go_ret2
        exact ⟨ret_cls HE.out.symm HH.out.symm, HBr.out⟩
end Go.Proofs.Ytjljfilflajogaa
