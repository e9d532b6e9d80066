/- In one text, written by lotify.py: ReRef1, ReRef2, ReRef3, ReRef4, ReRef5. -/
import Derived.Test.YtpcjnagdanmdpaaGreatHdLotRN
import Derived.Test.YtpcjnagdanmdpaaGreatHdLotRH
import Derived.Lib.MinMax
namespace Go.Proofs.YtpcjnagdanmdpaaGreat
open Go.RowKit
set_option linter.unusedVariables false
theorem byte_eq (c : UInt8) (k : Nat) (hk : k < 256) : ((c.toNat : Int) == (k : Int)) = decide (c = UInt8.ofNat k) := by
  rw [Bool.eq_iff_iff, beq_iff_eq, decide_eq_true_eq]
  constructor
  · intro h
    apply UInt8.toNat_inj.1
    rw [UInt8.toNat_ofNat']
    omega
  · intro h
    rw [h, UInt8.toNat_ofNat']
    omega
theorem item_ref (c : UInt8) (w : World) : Calls Tryz.prog 128 #[.int .u8 (c.toNat : Int)] w fun e w' => e = .returned (.bool (!unlistedL.contains c)) ∧ w = w' := by
  have e1 := byte_eq c 92 (by omega)
  have e2 := byte_eq c 91 (by omega)
  have e3 := byte_eq c 93 (by omega)
  have e4 := byte_eq c 94 (by omega)
  have e5 := byte_eq c 45 (by omega)
  have hc : (!unlistedL.contains c) = (!((c.toNat : Int) == 92) && (!((c.toNat : Int) == 91) && (!((c.toNat : Int) == 93) && (!((c.toNat : Int) == 94) && !((c.toNat : Int) == 45))))) := by
    rw [show ((92 : Int) = ((92 : Nat) : Int)) from rfl, show ((91 : Int) = ((91 : Nat) : Int)) from rfl, show ((93 : Int) = ((93 : Nat) : Int)) from rfl, show ((94 : Int) = ((94 : Nat) : Int)) from rfl, show ((45 : Int) = ((45 : Nat) : Int)) from rfl, e1, e2, e3, e4, e5]
    simp only [unlistedL, List.contains_cons, List.contains_nil, Bool.or_false, Bool.not_or]
    rfl
  rw [hc]
  clear e1 e2 e3 e4 e5 hc
  generalize (c.toNat : Int) = n
  have z : ∀ k : Int, (n != k) = !(n == k) := fun k => rfl
  have z1 := z 92
  have z2 := z 91
  have z3 := z 93
  have z4 := z 94
  have z5 := z 45
  clear z
  cases h1 : (n == 92)
  · cases h2 : (n == 91)
    · cases h3 : (n == 93)
      · cases h4 : (n == 94)
        · cases h5 : (n == 45)
          all_goals
            rw [h1] at z1
            rw [h2] at z2
            rw [h3] at z3
            rw [h4] at z4
            rw [h5] at z5
            clear h1 h2 h3 h4 h5
            go_enter Tryz.func128, Tryz.ntmps128
            go_wp2
            go_ret
            exact ⟨rfl, rfl⟩
        · rw [h1] at z1
          rw [h2] at z2
          rw [h3] at z3
          rw [h4] at z4
          clear h1 h2 h3 h4 z5
          go_enter Tryz.func128, Tryz.ntmps128
          go_wp2
          go_ret
          exact ⟨rfl, rfl⟩
      · rw [h1] at z1
        rw [h2] at z2
        rw [h3] at z3
        clear h1 h2 h3 z4 z5
        go_enter Tryz.func128, Tryz.ntmps128
        go_wp2
        go_ret
        exact ⟨rfl, rfl⟩
    · rw [h1] at z1
      rw [h2] at z2
      clear h1 h2 z3 z4 z5
      go_enter Tryz.func128, Tryz.ntmps128
      go_wp2
      go_ret
      exact ⟨rfl, rfl⟩
  · rw [h1] at z1
    clear h1 z2 z3 z4 z5
    go_enter Tryz.func128, Tryz.ntmps128
    go_wp2
    go_ret
    exact ⟨rfl, rfl⟩
def mrk (k : Nat) : UInt8 := marksL.getD k 0
theorem marks_step (c : UInt8) (k : Nat) (hk : k < 10) : (marksL.take (k + 1)).contains c = ((marksL.take k).contains c || decide (c = mrk k)) := by
  have hl : marksL.length = 10 := rfl
  have : marksL[k]? = some (mrk k) := by unfold mrk; rw [List.getD_eq_getElem?_getD, List.getElem?_eq_getElem (by omega)]; rfl
  rw [List.take_add_one, this, Bool.eq_iff_iff]
  simp
def marksB : ByteArray := ⟨#[92, 40, 41, 91, 93, 124, 42, 43, 63, 46]⟩
theorem marks_get (k : Nat) (hk : k < marksB.size) : mrk k = marksB[k] := by
  unfold mrk
  rw [List.getD_eq_getElem?_getD, List.getElem?_eq_getElem (show k < marksL.length from hk)]
  rfl
theorem byte_two (a c : UInt8) : ((a.toNat : Int) == (c.toNat : Int)) = decide (c = a) := by
  rw [Bool.eq_iff_iff, beq_iff_eq, decide_eq_true_eq, ← UInt8.toNat_inj]
  omega
theorem marks_yes {c : UInt8} {k : Nat} (h : (marksL.take (k + 1)).contains c = true) : marksL.contains c = true := by
  rw [List.contains_iff_mem] at h ⊢
  exact List.mem_of_mem_take h
set_option maxHeartbeats 1000000 in
theorem plain_ref (c : UInt8) (w : World) : Calls Tryz.prog 134 #[.int .u8 (c.toNat : Int)] w fun e w' => e = .returned (.bool (!marksL.contains c)) ∧ w = w' := by
  obtain ⟨B, hB⟩ : ∃ B, marksL.contains c = B := ⟨_, rfl⟩
  rw [hB]
  have HQ := Lib.hid hB
  clear hB
  have HS := Lib.hid (marks_step c)
  go_enter Tryz.func134, Tryz.ntmps134
  go_wp2_with fail
  go_loop [4] (fun i => ∃ k : Nat, k ≤ 10 ∧ i = .int .i64 (k : Int) ∧ (marksL.take k).contains c = false) (fun i => 10 - (intOf i).toNat)
  case atStart => exact ⟨0, by omega, rfl, rfl⟩
  case round =>
    obtain ⟨k, hk, rfl, hn⟩ := hrel
    by_cases hlt : k < 10
    · have hs := HS.out k hlt
      have hsz : k < (⟨#[92, 40, 41, 91, 93, 124, 42, 43, 63, 46]⟩ : ByteArray).size := hlt
      have he := byte_two (⟨#[92, 40, 41, 91, 93, 124, 42, 43, 63, 46]⟩ : ByteArray)[k] c
      rw [hn, Bool.false_or, marks_get k hsz] at hs
      have hs' : (marksL.take (k + 1)).contains c = decide (c = (⟨#[92, 40, 41, 91, 93, 124, 42, 43, 63, 46]⟩ : ByteArray)[k]) := hs
      rw [← he] at hs'
      have i1 : (0 : Int) ≤ (k : Int) := by omega
      have i2 : (k : Int) < 10 := by omega
      have i3 : (k : Int) < (((⟨#[92, 40, 41, 91, 93, 124, 42, 43, 63, 46]⟩ : ByteArray).size : Nat) : Int) := i2
      cases hb : ((((⟨#[92, 40, 41, 91, 93, 124, 42, 43, 63, 46]⟩ : ByteArray)[k]).toNat : Int) == (c.toNat : Int))
      · rw [hb] at hs'
        have HB := Lib.hid hs'
        clear hs hs' he hn
        go_wp2_with fail
        exact ⟨⟨k + 1, by omega, by go_num, HB.out⟩, by simp [intOf]; omega⟩
      · rw [hb] at hs'
        have HB := Lib.hid (show B = true by rw [← HQ.out]; exact marks_yes hs')
        clear hs hs' he hn
        go_wp2_with fail
        go_ret
        exact ⟨by rw [HB.out]; rfl, rfl⟩
    · obtain rfl : k = 10 := by omega
      have HN := Lib.hid (show B = false by rw [← HQ.out]; exact hn)
      clear hn hk
      go_wp2_with fail
      go_ret
      exact ⟨by rw [HN.out]; rfl, rfl⟩
theorem drop_byte (p : ByteArray) {k : Nat} (h : k < p.size) : (strL p).drop k = p[k] :: (strL p).drop (k + 1) := drop_at (strG p h)
theorem drop_end (p : ByteArray) {k : Nat} (h : p.size ≤ k) : (strL p).drop k = [] := List.drop_eq_nil_of_le (by rw [strL_length]; exact h)
theorem drop_len (p : ByteArray) (k : Nat) : ((strL p).drop k).length = p.size - k := by rw [List.length_drop, strL_length]
theorem cls_none {N : Nat} {x : List UInt8} {c : UInt8} (h : clsV x = none) : clsE N x = 0 ∧ clsH x c = false := by
  unfold clsE clsH
  rw [h]
  exact ⟨rfl, rfl⟩
theorem cls_some {N : Nat} {x : List UInt8} {c : UInt8} {ss : List (UInt8 × UInt8)} {y : List UInt8} (h : clsV x = some (ss, y)) : clsE N x = (N : Int) - (y.length : Int) ∧ clsH x c = (ss.any (spanHas c) != aheadM [94] x) := by
  unfold clsE clsH
  rw [h]
  exact ⟨rfl, rfl⟩
theorem ret_cls {a b : Int} {c d : Bool} (h1 : a = b) (h2 : c = d) : Ending.returned (.tuple #[.int .i64 a, .bool c]) = .returned (.tuple #[.int .i64 b, .bool d]) := by rw [h1, h2]
/-- The tests of a byte against a mark, in the walk's spellings. -/
theorem byte_is {c : UInt8} {k : Nat} (hk : k < 256) {b : Bool} (h : decide (c = UInt8.ofNat k) = b) : ((c.toNat : Int) == (k : Int)) = b ∧ ((c.toNat : Int) != (k : Int)) = !b := by
  have := byte_eq c k hk
  rw [h] at this
  exact ⟨this, by rw [bne, this]⟩
theorem byte_le (a b : UInt8) : decide ((a.toNat : Int) ≤ (b.toNat : Int)) = decide (a ≤ b) ∧ decide (a.toNat ≤ b.toNat) = decide (a ≤ b) := by
  constructor <;> (rw [decide_eq_decide, UInt8.le_iff_toNat_le]) <;> omega
theorem byte_lt (a b : UInt8) : decide ((a.toNat : Int) < (b.toNat : Int)) = !decide (b ≤ a) ∧ decide (a.toNat < b.toNat) = !decide (b ≤ a) := by
  by_cases h : b ≤ a
  · have h' := UInt8.le_iff_toNat_le.1 h
    rw [decide_eq_true h]
    exact ⟨decide_eq_false (by omega), decide_eq_false (by omega)⟩
  · have h' : ¬ b.toNat ≤ a.toNat := fun e => h (UInt8.le_iff_toNat_le.2 e)
    rw [decide_eq_false h]
    exact ⟨decide_eq_true (by omega), decide_eq_true (by omega)⟩
def ClsRel (p : ByteArray) (w : World) (x : List UInt8) (c : UInt8) (i h n : Value) (wr : World) : Prop :=
  ∃ (k : Nat) (ss : List (UInt8 × UInt8)), k ≤ p.size ∧ i = .int .i64 (k : Int) ∧ h = .bool (ss.any (spanHas c)) ∧ n = .int .i64 (ss.length : Int) ∧ ss.length ≤ k ∧ ClsAt x ss ((strL p).drop k) ∧ Below w.heap.size w wr
set_option maxRecDepth 100000 in
set_option maxHeartbeats 8000000 in
theorem class_ref (p : ByteArray) (j : Nat) (hp : p.size ≤ 1000) (hj : j < p.size) (c : UInt8) (w : World) :
    Calls Tryz.prog 120 #[.string p, .int .i64 (j : Int), .int .u8 (c.toNat : Int)] w fun e w' => e = .returned (.tuple #[.int .i64 (clsE p.size ((strL p).drop (j + 1))), .bool (clsH ((strL p).drop (j + 1)) c)]) ∧ Below w.heap.size w w' := by
  obtain ⟨x, hx⟩ : ∃ x, (strL p).drop (j + 1) = x := ⟨_, rfl⟩
  rw [hx]
  obtain ⟨neg, hneg⟩ : ∃ neg, aheadM [94] x = neg := ⟨_, rfl⟩
  obtain ⟨i0, hi0⟩ : ∃ i0 : Nat, (if neg then j + 2 else j + 1) = i0 := ⟨_, rfl⟩
  have key : (¬ j + 1 < p.size ∧ neg = false) ∨ (∃ h : j + 1 < p.size, decide (p[j + 1] = UInt8.ofNat 94) = neg) := by
    by_cases h1 : j + 1 < p.size
    · have hd := drop_byte p h1
      rw [hx] at hd
      refine .inr ⟨h1, ?_⟩
      rw [← hneg, hd]
      simp only [aheadM, List.contains_cons, List.contains_nil, Bool.or_false]
      rfl
    · have he : x = [] := by rw [← hx]; exact drop_end p (by omega)
      exact .inl ⟨h1, by rw [← hneg, he]; rfl⟩
  have HK : Hid (hatX x = (strL p).drop i0 ∧ i0 ≤ p.size) := by
    refine Lib.hid ?_
    unfold hatX
    rw [hneg, ← hi0]
    cases neg
    · exact ⟨hx.symm, hj⟩
    · rcases key with ⟨_, h⟩ | ⟨h, _⟩
      · cases h
      · refine ⟨?_, h⟩
        rw [if_pos rfl, if_pos rfl, ← hx, List.tail_drop]
  have HST := Lib.hid (show ClsAt x [] ((strL p).drop i0) by rw [← HK.out.1]; exact clsAt_start x)
  have HIL := Lib.hid HK.out.2
  have HN := Lib.hid hneg
  have HI0 := Lib.hid hi0
  clear hneg hx hi0 HK
  go_enter Tryz.func120, Tryz.ntmps120
  go_upto_region 2 with fail
  go_cut [9] (fun s9 wx => s9 = .bool neg ∧ w = wx)
  case first =>
    rcases key with ⟨h1, h2⟩ | ⟨h1, h2⟩
    · subst h2
      have q0 : decide (((j : Int) + 1) < (p.size : Int)) = false := by rw [decide_eq_false_iff_not]; omega
      go_wp2_with fail
      go_meet
      exact ⟨rfl, rfl⟩
    · obtain ⟨q1, q2⟩ := byte_is (by omega) h2
      have HQ1 := Lib.hid q1
      clear h2 q1 q2
      go_wp2_with fail
      go_meet
      exact ⟨by rw [← HQ1.out]; rfl, rfl⟩
  case rest =>
    obtain ⟨rfl, rfl⟩ := hcut
    clear key
    go_upto_if 26 with fail
    go_cut [8] (fun s8 wx => s8 = .int .i64 (i0 : Int) ∧ w = wx)
    case first =>
      cases neg
      · have he := HI0.out
        rw [if_neg (by simp)] at he
        go_wp2_with fail
        go_meet
        exact ⟨by rw [← he]; go_num, rfl⟩
      · have he := HI0.out
        rw [if_pos rfl] at he
        go_wp2_with fail
        go_meet
        exact ⟨by rw [← he]; go_num, rfl⟩
    case rest =>
    obtain ⟨rfl, rfl⟩ := hcut
    go_wp2_with fail
    go_loopw [8, 10, 11] (fun i h n wr => ClsRel p w x c i h n wr) (fun i _ _ _ => p.size - (intOf i).toNat)
    case atStart => exact ⟨i0, [], HIL.out, rfl, rfl, rfl, Nat.zero_le _, HST.out, Below.refl _ _⟩
    case round =>
      obtain ⟨k, ss, hk, rfl, rfl, rfl, hsk, hca, hbr⟩ := hrel
      have HBr := Lib.hid hbr
      generalize hA : ss.any (spanHas c) = A
      generalize hnn : ss.length = nn at hsk
      have HA := Lib.hid hA
      have HNN := Lib.hid hnn
      clear hbr hA hnn
      by_cases hlt : k < p.size
      · have hd := drop_byte p hlt
        rw [hd] at hca
        cases h93 : decide (p[k] = UInt8.ofNat 93)
        · obtain ⟨r1, r2⟩ := byte_is (by omega) h93
          have hne : p[k] ≠ 93 := of_decide_eq_false h93
          have HI := Lib.hid (fun W => item_ref p[k] W)
          cases hu : unlistedL.contains p[k]
          · rw [hu] at HI
            by_cases hk1 : k + 1 < p.size
            · have hd1 := drop_byte p hk1
              cases h45 : decide (p[k + 1] = UInt8.ofNat 45)
              · obtain ⟨s1, s2⟩ := byte_is (by omega) h45
                have HC := Lib.hid (clsAt_item hca hne (item_one hu (by rw [hd1]; simp only [aheadM, List.contains_cons, List.contains_nil, Bool.or_false, beq_eq_false_iff_ne]; exact of_decide_eq_false h45)))
                clear hd hd1 hca h93 hne hu h45
                go_upto_region 9 with (go_at_call 128; refine (HI.out _).mono ?_; rintro e w1 ⟨rfl, rfl⟩)
                go_region
                go_upto_region 16 with fail
                have HA2 := Lib.hid (show (ss ++ [(p[k], p[k])]).any (spanHas c) = (A || (decide (p[k] ≤ c) && decide (c ≤ p[k]))) by rw [any_snoc, HA.out])
                obtain ⟨l1, l2⟩ := byte_le p[k] c
                obtain ⟨l3, l4⟩ := byte_le c p[k]
                have HL2 := Lib.hid (show (ss ++ [(p[k], p[k])]).length = nn + 1 by rw [List.length_append, HNN.out]; rfl)
                cases A
                · cases hb1 : decide (p[k] ≤ c)
                  · rw [hb1] at HA2 l1 l2
                    clear l3 l4 hb1
                    go_wp2_with fail
                    go_roundw
                    case rel => exact ⟨k + 1, ss ++ [(p[k], p[k])], by omega, by go_num, by rw [HA2.out]; rfl, by rw [HL2.out]; go_num, by rw [HL2.out]; omega, HC.out, HBr.out.drew⟩
                    case measure => simp [intOf]; omega
                  · cases hb2 : decide (c ≤ p[k])
                    all_goals
                      rw [hb1, hb2] at HA2
                      rw [hb1] at l1 l2
                      rw [hb2] at l3 l4
                      clear hb1 hb2
                      go_wp2_with fail
                      go_roundw
                      case rel => exact ⟨k + 1, ss ++ [(p[k], p[k])], by omega, by go_num, by rw [HA2.out]; rfl, by rw [HL2.out]; go_num, by rw [HL2.out]; omega, HC.out, HBr.out.drew⟩
                      case measure => simp [intOf]; omega
                · clear l1 l2 l3 l4
                  go_wp2_with fail
                  go_roundw
                  case rel => exact ⟨k + 1, ss ++ [(p[k], p[k])], by omega, by go_num, by rw [HA2.out]; rfl, by rw [HL2.out]; go_num, by rw [HL2.out]; omega, HC.out, HBr.out.drew⟩
                  case measure => simp [intOf]; omega
              · have h45' : p[k + 1] = 45 := of_decide_eq_true h45
                obtain ⟨s1, s2⟩ := byte_is (by omega) h45
                rw [hd1, h45'] at hca
                by_cases hk2 : k + 2 < p.size
                · have hd2 := drop_byte p hk2
                  rw [hd2] at hca
                  have HI2 := Lib.hid (fun W => item_ref p[k + 2] W)
                  obtain ⟨m1, m2⟩ := byte_lt p[k + 2] p[k]
                  cases hu2 : unlistedL.contains p[k + 2]
                  · rw [hu2] at HI2
                    cases ho : decide (p[k] ≤ p[k + 2])
                    · rw [ho] at m1 m2
                      have hv := clsAt_bad hca hne (by rw [item_two hu hu2, if_neg (of_decide_eq_false ho)])
                      have HE := Lib.hid (cls_none (N := p.size) (c := c) hv).1
                      have HH := Lib.hid (cls_none (N := p.size) (c := c) hv).2
                      clear hv hca
                      clear hd hd1 hd2 h93 hne hu hu2 h45 h45' ho
                      go_upto_region 9 with (go_at_call 128; refine (HI.out _).mono ?_; rintro e w1 ⟨rfl, rfl⟩)
                      go_region
                      go_wp2_with (go_at_call 128; refine (HI2.out _).mono ?_; rintro e w1 ⟨rfl, rfl⟩)
                      go_ret2
                      exact ⟨ret_cls HE.out.symm HH.out.symm, HBr.out.drew⟩
                    · rw [ho] at m1 m2
                      have HC := Lib.hid (clsAt_item hca hne (by rw [item_two hu hu2, if_pos (of_decide_eq_true ho)]))
                      clear hd hd1 hd2 hca h93 hne hu hu2 h45 h45' ho
                      go_upto_region 9 with (go_at_call 128; refine (HI.out _).mono ?_; rintro e w1 ⟨rfl, rfl⟩)
                      go_region
                      go_upto_region 16 with (go_at_call 128; refine (HI2.out _).mono ?_; rintro e w1 ⟨rfl, rfl⟩)
                      have HA2 := Lib.hid (show (ss ++ [(p[k], p[k + 2])]).any (spanHas c) = (A || (decide (p[k] ≤ c) && decide (c ≤ p[k + 2]))) by rw [any_snoc, HA.out])
                      obtain ⟨l1, l2⟩ := byte_le p[k] c
                      obtain ⟨l3, l4⟩ := byte_le c p[k + 2]
                      have HL2 := Lib.hid (show (ss ++ [(p[k], p[k + 2])]).length = nn + 1 by rw [List.length_append, HNN.out]; rfl)
                      cases A
                      · cases hb1 : decide (p[k] ≤ c)
                        · rw [hb1] at HA2 l1 l2
                          clear l3 l4 hb1
                          go_wp2_with fail
                          go_roundw
                          case rel => exact ⟨k + 3, ss ++ [(p[k], p[k + 2])], by omega, by go_num, by rw [HA2.out]; rfl, by rw [HL2.out]; go_num, by rw [HL2.out]; omega, HC.out, HBr.out.drew⟩
                          case measure => simp [intOf]; omega
                        · cases hb2 : decide (c ≤ p[k + 2])
                          all_goals
                            rw [hb1, hb2] at HA2
                            rw [hb1] at l1 l2
                            rw [hb2] at l3 l4
                            clear hb1 hb2
                            go_wp2_with fail
                            go_roundw
                            case rel => exact ⟨k + 3, ss ++ [(p[k], p[k + 2])], by omega, by go_num, by rw [HA2.out]; rfl, by rw [HL2.out]; go_num, by rw [HL2.out]; omega, HC.out, HBr.out.drew⟩
                            case measure => simp [intOf]; omega
                      · clear l1 l2 l3 l4
                        go_wp2_with fail
                        go_roundw
                        case rel => exact ⟨k + 3, ss ++ [(p[k], p[k + 2])], by omega, by go_num, by rw [HA2.out]; rfl, by rw [HL2.out]; go_num, by rw [HL2.out]; omega, HC.out, HBr.out.drew⟩
                        case measure => simp [intOf]; omega
                  · rw [hu2] at HI2
                    have hv := clsAt_bad hca hne (item_bad2 hu hu2)
                    have HE := Lib.hid (cls_none (N := p.size) (c := c) hv).1
                    have HH := Lib.hid (cls_none (N := p.size) (c := c) hv).2
                    clear hv hca
                    clear hd hd1 hd2 h93 hne hu hu2 h45 h45' m1 m2
                    go_upto_region 9 with (go_at_call 128; refine (HI.out _).mono ?_; rintro e w1 ⟨rfl, rfl⟩)
                    go_region
                    go_wp2_with (go_at_call 128; refine (HI2.out _).mono ?_; rintro e w1 ⟨rfl, rfl⟩)
                    go_ret2
                    exact ⟨ret_cls HE.out.symm HH.out.symm, HBr.out.drew⟩
                · rw [drop_end p (by omega)] at hca
                  have hv := clsAt_bad hca hne (item_end hu)
                  have HE := Lib.hid (cls_none (N := p.size) (c := c) hv).1
                  have HH := Lib.hid (cls_none (N := p.size) (c := c) hv).2
                  clear hv hca
                  clear hd hd1 h93 hne hu h45 h45'
                  go_upto_region 9 with (go_at_call 128; refine (HI.out _).mono ?_; rintro e w1 ⟨rfl, rfl⟩)
                  go_region
                  go_wp2_with fail
                  go_ret2
                  exact ⟨ret_cls HE.out.symm HH.out.symm, HBr.out.drew⟩
            · have HC := Lib.hid (clsAt_item hca hne (item_one hu (by rw [drop_end p (by omega)]; rfl)))
              clear hd hca h93 hne hu
              go_upto_region 9 with (go_at_call 128; refine (HI.out _).mono ?_; rintro e w1 ⟨rfl, rfl⟩)
              go_region
              go_upto_region 16 with fail
              have HA2 := Lib.hid (show (ss ++ [(p[k], p[k])]).any (spanHas c) = (A || (decide (p[k] ≤ c) && decide (c ≤ p[k]))) by rw [any_snoc, HA.out])
              obtain ⟨l1, l2⟩ := byte_le p[k] c
              obtain ⟨l3, l4⟩ := byte_le c p[k]
              have HL2 := Lib.hid (show (ss ++ [(p[k], p[k])]).length = nn + 1 by rw [List.length_append, HNN.out]; rfl)
              cases A
              · cases hb1 : decide (p[k] ≤ c)
                · rw [hb1] at HA2 l1 l2
                  clear l3 l4 hb1
                  go_wp2_with fail
                  go_roundw
                  case rel => exact ⟨k + 1, ss ++ [(p[k], p[k])], by omega, by go_num, by rw [HA2.out]; rfl, by rw [HL2.out]; go_num, by rw [HL2.out]; omega, HC.out, HBr.out.drew⟩
                  case measure => simp [intOf]; omega
                · cases hb2 : decide (c ≤ p[k])
                  all_goals
                    rw [hb1, hb2] at HA2
                    rw [hb1] at l1 l2
                    rw [hb2] at l3 l4
                    clear hb1 hb2
                    go_wp2_with fail
                    go_roundw
                    case rel => exact ⟨k + 1, ss ++ [(p[k], p[k])], by omega, by go_num, by rw [HA2.out]; rfl, by rw [HL2.out]; go_num, by rw [HL2.out]; omega, HC.out, HBr.out.drew⟩
                    case measure => simp [intOf]; omega
              · clear l1 l2 l3 l4
                go_wp2_with fail
                go_roundw
                case rel => exact ⟨k + 1, ss ++ [(p[k], p[k])], by omega, by go_num, by rw [HA2.out]; rfl, by rw [HL2.out]; go_num, by rw [HL2.out]; omega, HC.out, HBr.out.drew⟩
                case measure => simp [intOf]; omega
          · rw [hu] at HI
            have hv := clsAt_bad hca hne (item_bad1 hu)
            have HE := Lib.hid (cls_none (N := p.size) (c := c) hv).1
            have HH := Lib.hid (cls_none (N := p.size) (c := c) hv).2
            clear hv hca
            clear hd h93 hne hu
            go_wp2_with (go_at_call 128; refine (HI.out _).mono ?_; rintro e w1 ⟨rfl, rfl⟩)
            go_ret2
            exact ⟨ret_cls HE.out.symm HH.out.symm, HBr.out⟩
        · obtain ⟨r1, r2⟩ := byte_is (by omega) h93
          rw [of_decide_eq_true h93] at hca
          have hv := clsAt_stop hca
          by_cases h0 : nn = 0
          · have hs0 : ss = [] := List.eq_nil_of_length_eq_zero (by rw [HNN.out]; exact h0)
            rw [hs0] at hv
            have HE := Lib.hid (cls_none (N := p.size) (c := c) hv).1
            have HH := Lib.hid (cls_none (N := p.size) (c := c) hv).2
            have z0 : ((nn : Int) == 0) = true := by rw [h0]; rfl
            clear hv hca hd h93 h0 hs0
            go_wp2_with fail
            go_ret2
            exact ⟨ret_cls HE.out.symm HH.out.symm, HBr.out⟩
          · have z0 : ((nn : Int) == 0) = false := by rw [beq_eq_false_iff_ne]; omega
            have hss : ss.isEmpty = false := by
              cases ss with
              | nil => have := HNN.out; simp at this; omega
              | cons s r => rfl
            rw [hss, if_neg (by simp)] at hv
            obtain ⟨he, hh⟩ := cls_some (N := p.size) (c := c) hv
            rw [drop_len, show (p.size : Int) - ((p.size - (k + 1) : Nat) : Int) = (k : Int) + 1 by omega] at he
            rw [HA.out, HN.out] at hh
            have HE := Lib.hid he
            have HH := Lib.hid hh
            clear hv hca hd h93 h0 hss he hh
            cases A
            all_goals
              go_wp2_with fail
              go_ret2
              exact ⟨ret_cls HE.out.symm (by rw [HH.out]; cases neg <;> rfl), HBr.out⟩
      · rw [drop_end p (by omega)] at hca
        have hv := clsAt_nil hca
        have HE := Lib.hid (cls_none (N := p.size) (c := c) hv).1
        have HH := Lib.hid (cls_none (N := p.size) (c := c) hv).2
        clear hv hca
        go_wp2_with fail
        go_ret2
        exact ⟨ret_cls HE.out.symm HH.out.symm, HBr.out⟩
theorem scan_inv {o : Nat} {c : UInt8} {t : List UInt8} {q : Option (List UInt8)} (h : Scan o (c :: t) q) : (c = 92 ∧ Scan o t.tail q) ∨ (c = 91 ∧ ∃ ss y, clsV t = some (ss, y) ∧ Scan o y q) ∨ (c = 91 ∧ clsV t = none ∧ q = none) ∨ (c = 40 ∧ Scan (o + 1) t q) ∨ (c = 41 ∧ o = 1 ∧ q = some (41 :: t)) ∨ (c = 41 ∧ ∃ k, o = k + 2 ∧ Scan (k + 1) t q) ∨ (c ≠ 92 ∧ c ≠ 91 ∧ c ≠ 40 ∧ c ≠ 41 ∧ Scan o t q) := by
  cases h with
  | esc _ _ _ h => exact .inl ⟨rfl, h⟩
  | cls _ n _ y r _ hc h =>
    obtain ⟨ss, h1, _⟩ := class_of hc
    exact .inr (.inl ⟨rfl, ss, y, h1, h⟩)
  | ncl _ _ h =>
    refine .inr (.inr (.inl ⟨rfl, ?_, rfl⟩))
    cases hc : clsV t with
    | none => rfl
    | some r =>
      have := class_is (ss := r.1) (y := r.2) hc
      rw [h] at this
      cases this
  | opn _ _ _ h => exact .inr (.inr (.inr (.inl ⟨rfl, h⟩)))
  | stop _ => exact .inr (.inr (.inr (.inr (.inl ⟨rfl, rfl, rfl⟩))))
  | cl k _ _ h => exact .inr (.inr (.inr (.inr (.inr (.inl ⟨rfl, k, rfl, h⟩)))))
  | oth _ _ _ _ a b c d h => exact .inr (.inr (.inr (.inr (.inr (.inr ⟨a, b, c, d, h⟩)))))
theorem scan_nil {o : Nat} {q : Option (List UInt8)} (h : Scan o [] q) : q = none := by cases h; rfl
theorem suffix_drop {L a y : List UInt8} (h : L = a ++ y) : y = L.drop (L.length - y.length) := by
  rw [h, List.length_append, Nat.add_sub_cancel, List.drop_left]
/-- What a class leaves stands at a place of the text. -/
theorem cls_rest {p : ByteArray} {j : Nat} {ss : List (UInt8 × UInt8)} {y : List UInt8} (hj : j ≤ p.size) (h : clsV ((strL p).drop j) = some (ss, y)) : ∃ m : Nat, clsE p.size ((strL p).drop j) = (m : Int) ∧ y = (strL p).drop m ∧ j ≤ m ∧ m ≤ p.size := by
  obtain ⟨u, hu, _⟩ := class_cut (class_is h)
  have hl := drop_len p j
  have hy : y.length ≤ p.size - j := by rw [← hl, hu, List.length_append]; omega
  refine ⟨p.size - y.length, ?_, ?_, by omega, by omega⟩
  · rw [(cls_some (c := 0) h).1]; omega
  · have : strL p = ((strL p).take j ++ u) ++ y := by rw [List.append_assoc, ← hu, List.take_append_drop]
    have := suffix_drop this
    rw [strL_length] at this
    exact this
def closV (N : Nat) (q : Option (List UInt8)) : Int := match q with | none => -1 | some y => (N : Int) - (y.length : Int)
theorem ret_i {a b : Int} (h : a = b) : Ending.returned (.int .i64 a) = .returned (.int .i64 b) := by rw [h]
/-- The tests of a byte that is k, or is not. -/
theorem test_yes {c : UInt8} (k : Nat) (hk : k < 256) (h : c = UInt8.ofNat k) : ((c.toNat : Int) == (k : Int)) = true := (byte_is hk (decide_eq_true h)).1
theorem test_no {c : UInt8} (k : Nat) (hk : k < 256) (h : c ≠ UInt8.ofNat k) : ((c.toNat : Int) == (k : Int)) = false := (byte_is hk (decide_eq_false h)).1
def CloRel (p : ByteArray) (w : World) (q : Option (List UInt8)) (o i : Value) (wr : World) : Prop :=
  ∃ k n : Nat, k ≤ p.size + 1 ∧ i = .int .i64 (k : Int) ∧ o = .int .i64 (n : Int) ∧ n ≤ k ∧ Scan n ((strL p).drop k) q ∧ Below w.heap.size w wr
set_option maxRecDepth 100000 in
set_option maxHeartbeats 4000000 in
theorem closing_ref (p : ByteArray) (j : Nat) (hp : p.size ≤ 1000) (hj : j < p.size) (h40 : p[j] = 40) (q : Option (List UInt8)) (hs : Scan 1 ((strL p).drop (j + 1)) q) (w : World) :
    Calls Tryz.prog 135 #[.string p, .int .i64 (j : Int)] w fun e w' => e = .returned (.int .i64 (closV p.size q)) ∧ Below w.heap.size w w' := by
  have HS := Lib.hid (show Scan 0 ((strL p).drop j) q by rw [drop_byte p hj, h40]; exact .opn _ _ _ hs)
  have HC := Lib.hid (fun (k : Nat) (hk : k < p.size) W => class_ref p k hp hk 0 W)
  clear hs h40
  go_enter Tryz.func135, Tryz.ntmps135
  go_wp2_with fail
  go_loopw [5, 6] (fun o i wr => CloRel p w q o i wr) (fun _ i _ => p.size + 1 - (intOf i).toNat)
  case atStart => exact ⟨j, 0, by omega, rfl, rfl, Nat.zero_le _, HS.out, Below.refl _ _⟩
  case round =>
    obtain ⟨k, n, hk, rfl, rfl, hn, hsc, hbr⟩ := hrel
    have HBr := Lib.hid hbr
    clear hbr
    by_cases hlt : k < p.size
    · rw [drop_byte p hlt] at hsc
      rcases scan_inv hsc with ⟨hc, h⟩ | ⟨hc, ss, y, hv, h⟩ | ⟨hc, hv, h⟩ | ⟨hc, h⟩ | ⟨hc, h1, h⟩ | ⟨hc, m, h1, h⟩ | ⟨h1, h2, h3, h4, h⟩
      · have t1 : ((p[k].toNat : Int) == 92) = true := test_yes 92 (by omega) hc
        have H := Lib.hid (show Scan n ((strL p).drop (k + 2)) q by rw [List.tail_drop] at h; exact h)
        clear hsc hc h
        go_wp2_with fail
        exact ⟨⟨k + 2, n, by omega, by go_num, rfl, by omega, H.out, HBr.out⟩, by simp [intOf]; omega⟩
      · have t1 : ((p[k].toNat : Int) == 92) = false := test_no 92 (by omega) (show p[k] ≠ UInt8.ofNat 92 by rw [hc]; decide)
        have t2 : ((p[k].toNat : Int) == 91) = true := test_yes 91 (by omega) hc
        obtain ⟨m, hm1, rfl, hm2, hm3⟩ := cls_rest (by omega) hv
        have HC1 := Lib.hid (fun W => HC.out k hlt W)
        rw [hm1] at HC1
        have z0 : ((m : Int) == 0) = false := by rw [beq_eq_false_iff_ne]; omega
        have H := Lib.hid h
        generalize clsH ((strL p).drop (k + 1)) 0 = hb at HC1
        clear hsc hc h hv hm1
        go_wp2_with (go_at_call 120; refine (HC1.out _).mono ?_; rintro e w2 ⟨rfl, hb2⟩; have HB2 := Lib.hid (HBr.out.trans (hb2.mono HBr.out.size)); clear hb2)
        go_roundw
        case rel => exact ⟨m, n, by omega, by go_num, rfl, by omega, H.out, HB2.out⟩
        case measure => simp [intOf]; omega
      · have t1 : ((p[k].toNat : Int) == 92) = false := test_no 92 (by omega) (show p[k] ≠ UInt8.ofNat 92 by rw [hc]; decide)
        have t2 : ((p[k].toNat : Int) == 91) = true := test_yes 91 (by omega) hc
        have HC1 := Lib.hid (fun W => HC.out k hlt W)
        rw [(cls_none (c := 0) hv).1] at HC1
        have HQ := Lib.hid (show (-1 : Int) = closV p.size q by rw [h]; rfl)
        generalize clsH ((strL p).drop (k + 1)) 0 = hb at HC1
        clear hsc hc h hv
        go_wp2_with (go_at_call 120; refine (HC1.out _).mono ?_; rintro e w2 ⟨rfl, hb2⟩; have HB2 := Lib.hid (HBr.out.trans (hb2.mono HBr.out.size)); clear hb2)
        go_ret
        exact ⟨ret_i HQ.out, HB2.out⟩
      · have t1 : ((p[k].toNat : Int) == 92) = false := test_no 92 (by omega) (show p[k] ≠ UInt8.ofNat 92 by rw [hc]; decide)
        have t2 : ((p[k].toNat : Int) == 91) = false := test_no 91 (by omega) (show p[k] ≠ UInt8.ofNat 91 by rw [hc]; decide)
        have t3 : ((p[k].toNat : Int) == 40) = true := test_yes 40 (by omega) hc
        have H := Lib.hid h
        clear hsc hc h
        go_wp2_with fail
        exact ⟨⟨k + 1, n + 1, by omega, by go_num, by go_num, by omega, H.out, HBr.out⟩, by simp [intOf]; omega⟩
      · have t1 : ((p[k].toNat : Int) == 92) = false := test_no 92 (by omega) (show p[k] ≠ UInt8.ofNat 92 by rw [hc]; decide)
        have t2 : ((p[k].toNat : Int) == 91) = false := test_no 91 (by omega) (show p[k] ≠ UInt8.ofNat 91 by rw [hc]; decide)
        have t3 : ((p[k].toNat : Int) == 40) = false := test_no 40 (by omega) (show p[k] ≠ UInt8.ofNat 40 by rw [hc]; decide)
        have t4 : ((p[k].toNat : Int) == 41) = true := test_yes 41 (by omega) hc
        subst h1
        have HQ := Lib.hid (show (k : Int) = closV p.size q by rw [h]; show _ = (p.size : Int) - _; rw [List.length_cons, drop_len]; omega)
        clear hsc hc h
        go_wp2_with fail
        go_ret
        exact ⟨ret_i HQ.out, HBr.out⟩
      · have t1 : ((p[k].toNat : Int) == 92) = false := test_no 92 (by omega) (show p[k] ≠ UInt8.ofNat 92 by rw [hc]; decide)
        have t2 : ((p[k].toNat : Int) == 91) = false := test_no 91 (by omega) (show p[k] ≠ UInt8.ofNat 91 by rw [hc]; decide)
        have t3 : ((p[k].toNat : Int) == 40) = false := test_no 40 (by omega) (show p[k] ≠ UInt8.ofNat 40 by rw [hc]; decide)
        have t4 : ((p[k].toNat : Int) == 41) = true := test_yes 41 (by omega) hc
        have z0 : ((n : Int) - 1 == 0) = false := by rw [beq_eq_false_iff_ne]; omega
        have z1 : ¬ (n : Int) - 1 = 0 := by omega
        have i1 : (1 : Int) ≤ (n : Int) := by omega
        have HN := Lib.hid (show (n : Int) - 1 = ((m + 1 : Nat) : Int) by omega)
        have HM := Lib.hid (show m + 1 ≤ k by omega)
        have H := Lib.hid h
        clear hsc hc h h1
        go_wp2_with fail
        exact ⟨⟨k + 1, m + 1, by omega, by go_num, by rw [HN.out], by have := HM.out; omega, H.out, HBr.out⟩, by simp [intOf]; omega⟩
      · have t1 : ((p[k].toNat : Int) == 92) = false := test_no 92 (by omega) h1
        have t2 : ((p[k].toNat : Int) == 91) = false := test_no 91 (by omega) h2
        have t3 : ((p[k].toNat : Int) == 40) = false := test_no 40 (by omega) h3
        have t4 : ((p[k].toNat : Int) == 41) = false := test_no 41 (by omega) h4
        have H := Lib.hid h
        clear hsc h h1 h2 h3 h4
        go_wp2_with fail
        exact ⟨⟨k + 1, n, by omega, by go_num, rfl, by omega, H.out, HBr.out⟩, by simp [intOf]; omega⟩
    · rw [drop_end p (by omega)] at hsc
      have HQ := Lib.hid (show (-1 : Int) = closV p.size q by rw [scan_nil hsc]; rfl)
      clear hsc
      go_wp2_with fail
      go_ret
      exact ⟨ret_i HQ.out, HBr.out⟩
theorem dep_inv {o m out : Nat} {c : UInt8} {t : List UInt8} (h : Dep o m (c :: t) out) : (c = 92 ∧ Dep o m t.tail out) ∨ (c = 91 ∧ ∃ ss y, clsV t = some (ss, y) ∧ Dep o m y out) ∨ (c = 40 ∧ Dep (o + 1) (max m (o + 1)) t out) ∨ (c = 41 ∧ ∃ k, o = k + 1 ∧ Dep k m t out) ∨ (c ≠ 92 ∧ c ≠ 91 ∧ c ≠ 40 ∧ c ≠ 41 ∧ Dep o m t out) := by
  cases h with
  | esc _ _ _ _ h => exact .inl ⟨rfl, h⟩
  | cls _ _ _ n _ y r hc h =>
    obtain ⟨ss, h1, _⟩ := class_of hc
    exact .inr (.inl ⟨rfl, ss, y, h1, h⟩)
  | opn _ _ _ _ h => exact .inr (.inr (.inl ⟨rfl, h⟩))
  | cl k _ _ _ h => exact .inr (.inr (.inr (.inl ⟨rfl, k, rfl, h⟩)))
  | oth _ _ _ _ _ a b c d h => exact .inr (.inr (.inr (.inr ⟨a, b, c, d, h⟩)))
theorem dep_nil {o m out : Nat} (h : Dep o m [] out) : out = m := by cases h; rfl
def DepRel (p : ByteArray) (w : World) (out : Nat) (o m i : Value) (wr : World) : Prop :=
  ∃ k n d : Nat, k ≤ p.size + 1 ∧ i = .int .i64 (k : Int) ∧ o = .int .i64 (n : Int) ∧ m = .int .i64 (d : Int) ∧ n ≤ k ∧ d ≤ k ∧ Dep n d ((strL p).drop k) out ∧ Below w.heap.size w wr
set_option maxRecDepth 100000 in
set_option maxHeartbeats 4000000 in
theorem depth_ref (p : ByteArray) (hp : p.size ≤ 1000) (out : Nat) (hs : Dep 0 0 (strL p) out) (w : World) :
    Calls Tryz.prog 109 #[.string p] w fun e w' => e = .returned (.int .i64 (out : Int)) ∧ Below w.heap.size w w' := by
  have HS := Lib.hid hs
  have HC := Lib.hid (fun (k : Nat) (hk : k < p.size) W => class_ref p k hp hk 0 W)
  clear hs
  go_enter Tryz.func109, Tryz.ntmps109
  go_wp2_with fail
  go_loopw [3, 4, 5] (fun o m i wr => DepRel p w out o m i wr) (fun _ _ i _ => p.size + 1 - (intOf i).toNat)
  case atStart => exact ⟨0, 0, 0, by omega, rfl, rfl, rfl, Nat.zero_le _, Nat.zero_le _, HS.out, Below.refl _ _⟩
  case round =>
    obtain ⟨k, n, d, hk, rfl, rfl, rfl, hn, hdk, hsc, hbr⟩ := hrel
    have HBr := Lib.hid hbr
    clear hbr
    by_cases hlt : k < p.size
    · rw [drop_byte p hlt] at hsc
      rcases dep_inv hsc with ⟨hc, h⟩ | ⟨hc, ss, y, hv, h⟩ | ⟨hc, h⟩ | ⟨hc, m, h1, h⟩ | ⟨h1, h2, h3, h4, h⟩
      · have t1 : ((p[k].toNat : Int) == 92) = true := test_yes 92 (by omega) hc
        have H := Lib.hid (show Dep n d ((strL p).drop (k + 2)) out by rw [List.tail_drop] at h; exact h)
        clear hsc hc h
        go_wp2_with fail
        exact ⟨⟨k + 2, n, d, by omega, by go_num, rfl, rfl, by omega, by omega, H.out, HBr.out⟩, by simp [intOf]; omega⟩
      · have t1 : ((p[k].toNat : Int) == 92) = false := test_no 92 (by omega) (show p[k] ≠ UInt8.ofNat 92 by rw [hc]; decide)
        have t2 : ((p[k].toNat : Int) == 91) = true := test_yes 91 (by omega) hc
        obtain ⟨m, hm1, rfl, hm2, hm3⟩ := cls_rest (by omega) hv
        have HC1 := Lib.hid (fun W => HC.out k hlt W)
        rw [hm1] at HC1
        have H := Lib.hid h
        generalize clsH ((strL p).drop (k + 1)) 0 = hb at HC1
        clear hsc hc h hv hm1
        go_wp2_with (go_at_call 120; refine (HC1.out _).mono ?_; rintro e w2 ⟨rfl, hb2⟩; have HB2 := Lib.hid (HBr.out.trans (hb2.mono HBr.out.size)); clear hb2)
        go_roundw
        case rel => exact ⟨m, n, d, by omega, by go_num, rfl, rfl, by omega, by omega, H.out, HB2.out⟩
        case measure => simp [intOf]; omega
      · have t1 : ((p[k].toNat : Int) == 92) = false := test_no 92 (by omega) (show p[k] ≠ UInt8.ofNat 92 by rw [hc]; decide)
        have t2 : ((p[k].toNat : Int) == 91) = false := test_no 91 (by omega) (show p[k] ≠ UInt8.ofNat 91 by rw [hc]; decide)
        have t3 : ((p[k].toNat : Int) == 40) = true := test_yes 40 (by omega) hc
        have H := Lib.hid h
        clear hsc hc h
        by_cases hmx : n + 1 ≤ d
        · have HX := Lib.hid (show max d (n + 1) = d by omega)
          rw [HX.out] at H
          go_wp2_with fail
          exact ⟨⟨k + 1, n + 1, d, by omega, by go_num, by go_num, by congr 1; omega, by omega, by omega, H.out, HBr.out⟩, by simp [intOf]; omega⟩
        · have HX := Lib.hid (show max d (n + 1) = n + 1 by omega)
          rw [HX.out] at H
          go_wp2_with fail
          exact ⟨⟨k + 1, n + 1, n + 1, by omega, by go_num, by go_num, by congr 1; omega, by omega, by omega, H.out, HBr.out⟩, by simp [intOf]; omega⟩
      · have t1 : ((p[k].toNat : Int) == 92) = false := test_no 92 (by omega) (show p[k] ≠ UInt8.ofNat 92 by rw [hc]; decide)
        have t2 : ((p[k].toNat : Int) == 91) = false := test_no 91 (by omega) (show p[k] ≠ UInt8.ofNat 91 by rw [hc]; decide)
        have t3 : ((p[k].toNat : Int) == 40) = false := test_no 40 (by omega) (show p[k] ≠ UInt8.ofNat 40 by rw [hc]; decide)
        have t4 : ((p[k].toNat : Int) == 41) = true := test_yes 41 (by omega) hc
        have i1 : (1 : Int) ≤ (n : Int) := by omega
        have HN := Lib.hid (show (n : Int) - 1 = (m : Int) by omega)
        have HM := Lib.hid (show m ≤ k by omega)
        have H := Lib.hid h
        clear hsc hc h h1
        go_wp2_with fail
        exact ⟨⟨k + 1, m, d, by omega, by go_num, by rw [HN.out], rfl, by have := HM.out; omega, by omega, H.out, HBr.out⟩, by simp [intOf]; omega⟩
      · have t1 : ((p[k].toNat : Int) == 92) = false := test_no 92 (by omega) h1
        have t2 : ((p[k].toNat : Int) == 91) = false := test_no 91 (by omega) h2
        have t3 : ((p[k].toNat : Int) == 40) = false := test_no 40 (by omega) h3
        have t4 : ((p[k].toNat : Int) == 41) = false := test_no 41 (by omega) h4
        have H := Lib.hid h
        clear hsc h h1 h2 h3 h4
        go_wp2_with fail
        exact ⟨⟨k + 1, n, d, by omega, by go_num, rfl, rfl, by omega, by omega, H.out, HBr.out⟩, by simp [intOf]; omega⟩
    · rw [drop_end p (by omega)] at hsc
      have HQ := Lib.hid (show (d : Int) = (out : Int) by rw [dep_nil hsc])
      clear hsc
      go_wp2_with fail
      go_ret
      exact ⟨ret_i HQ.out, HBr.out⟩
end Go.Proofs.YtpcjnagdanmdpaaGreat

namespace Go.Proofs.YtpcjnagdanmdpaaGreat
open Go.RowKit Go.Maps
set_option linter.unusedVariables false
/-! ### rows of texts of the call's own -/
def strE (u : List UInt8) : List Value := [.string (txt u)]
theorem strE_len (u : List UInt8) : (strE u).length = 1 := rfl
def OwnT (w : World) (base : Nat) (v : Value) (us : List (List UInt8)) : Prop := w.ownsRow base 9 1 v us.length (us.flatMap strE)
section
variable {w w' : World} {base : Nat} {v : Value} {us : List (List UInt8)}
theorem ownt_nil (w : World) (base : Nat) : OwnT w base (.slice none 0 0) [] := ⟨rfl, .inl ⟨rfl, rfl⟩⟩
theorem ownt_below (h : OwnT w base v us) (hb : Below w.heap.size w w') : OwnT w' base v us := rows_below h hb
theorem ownt_slice (h : OwnT w base v us) : ∃ P c, v = .slice P us.length c ∧ us.length ≤ c ∧ At w P (us.flatMap strE) ∧ ∀ ad, P = some ad → base ≤ ad.block := rows_slice h
end
theorem str_info : (Tryz.prog.info? 9).map (fun i => (i.zero, i.size, i.bytes)) = some (some (.string ⟨#[]⟩), 1, 16) := by kernel_rfl
theorem str_one (l : List (List UInt8)) : ∀ u ∈ l.flatMap strE, u.oneCell' = true := by
  intro u hu
  simp only [List.mem_flatMap, strE, List.mem_cons, List.not_mem_nil, or_false] at hu
  obtain ⟨x, _, rfl⟩ := hu
  rfl
theorem app_strs {w : World} {ops : Array Oper} {rest : List Oper} {o : Oper} {a : Act} {Q : Exit → Act → World → Prop} (hgd : o.guard = none) (s y : Operand)
    (ho : o.op = .call { callee := .builtin .append, args := #[s, y], argTypes := #[166, 166] })
    (base : Nat) (v : Value) (x : List (List UInt8)) (hs : a.eval s = v) (hown : OwnT w base v x) (A : Option Addr) (l : List (List UInt8)) (c : Nat) (hy : a.eval y = .slice A l.length c) (hA : At w A (l.flatMap strE)) (hn : (x.length + l.length) * 16 ≤ 140737488355328) (hbase : base ≤ w.heap.size)
    (h : ∀ v' w', OwnT w' base v' (x ++ l) → Below base w w' → w.grownBy w' v.ownBlock → wpList Tryz.prog ops Q rest (a.put o.dst v') w') : wpList Tryz.prog ops Q (o :: rest) a w := by
  obtain ⟨i0, hi, hz0, hz1, hz2⟩ := info_parts str_info
  refine wpList_app_at hgd s y 166 ho base 9 i0 _ 1 16 Tryz.underlying166 hi hz0 hz1 hz2 rfl (by omega) v x.length (x.flatMap strE) hs hown A l.length c (l.flatMap strE) hy (flat_len strE 1 strE_len l) hA (str_one l)
    (by simp only [maxLen]; omega) hn hbase ?_
  intro v' w' h1 h2 h3
  refine h v' w' ?_ h2 h3
  unfold OwnT
  rw [List.flatMap_append, List.length_append]
  exact h1
theorem str_cell {w : World} {g : Nat} {s : ByteArray} {u : List UInt8} (h : Row w g 9 #[.string s]) (hs : strL s = u) : At w (some ⟨g, 0, none⟩) ([u].flatMap strE) := by
  have := At.row h
  rw [show [u].flatMap strE = (#[Value.string s]).toList by rw [← hs]; simp [strE, txt_strL]]
  exact this
theorem ext_txt (p : ByteArray) (i j : Nat) (hj : j ≤ p.size) : strL (p.extract i j) = ((strL p).drop i).take (j - i) := by
  unfold strL
  rw [ByteArray.data_extract, Array.toList_extract, List.extract_eq_take_drop]
/-! ### the answer -/
def RightAt (p : ByteArray) : Prop := ∀ (b : Bool) (w : World), (b = true ↔ RightP (strL p)) → Calls Tryz.prog 108 #[.string p] w fun e w' => e = .returned (.bool b) ∧ Below w.heap.size w w'
def AtomAt (p : ByteArray) : Prop := ∀ (k : Nat) (v : Int) (w : World), k ≤ p.size → AtIs p.size ((strL p).drop k) v → Calls Tryz.prog 127 #[.string p, .int .i64 (k : Int)] w fun e w' => e = .returned (.int .i64 v) ∧ Below w.heap.size w w'
set_option maxRecDepth 100000 in
set_option maxHeartbeats 4000000 in
theorem atom_ref (p : ByteArray) (hp : p.size ≤ 1000) (hr : ∀ q : ByteArray, q.size < p.size → RightAt q) : AtomAt p := by
  intro k v w hk hv
  have HR := Lib.hid hr
  clear hr
  by_cases hlt : k < p.size
  · have hd := drop_byte p hlt
    rw [hd] at hv
    have HP := Lib.hid (fun (d : UInt8) W => plain_ref d W)
    cases hm : marksL.contains p[k]
    · -- a plain byte
      have hz := at_yes hv (at_plain hm)
      rw [drop_len, show (p.size : Int) - ((p.size - (k + 1) : Nat) : Int) = (k : Int) + 1 by omega] at hz
      have HZ := Lib.hid hz
      have t1 : ((p[k].toNat : Int) == 46) = false := test_no 46 (by omega) (show p[k] ≠ UInt8.ofNat 46 by rintro e; rw [e] at hm; exact absurd hm (by decide))
      have HP1 := Lib.hid (fun W => HP.out p[k] W)
      rw [hm] at HP1
      clear hv hd hz hm
      go_enter Tryz.func127, Tryz.ntmps127
      go_wp2_with (go_at_call 134; refine (HP1.out _).mono ?_; rintro e w1 ⟨rfl, rfl⟩)
      go_ret
      exact ⟨ret_i HZ.out.symm, Below.refl _ _⟩
    · by_cases h46 : p[k] = 46
      · have hz := at_yes hv (by rw [h46]; exact at_dot _)
        rw [drop_len, show (p.size : Int) - ((p.size - (k + 1) : Nat) : Int) = (k : Int) + 1 by omega] at hz
        have HZ := Lib.hid hz
        have t1 : ((p[k].toNat : Int) == 46) = true := test_yes 46 (by omega) h46
        clear hv hd hz hm h46
        go_enter Tryz.func127, Tryz.ntmps127
        go_wp2_with fail
        go_ret
        exact ⟨ret_i HZ.out.symm, Below.refl _ _⟩
      · have t1 : ((p[k].toNat : Int) == 46) = false := test_no 46 (by omega) h46
        have HP1 := Lib.hid (fun W => HP.out p[k] W)
        rw [hm] at HP1
        by_cases h92 : p[k] = 92
        · have t2 : ((p[k].toNat : Int) == 92) = true := test_yes 92 (by omega) h92
          have t3 : ((p[k].toNat : Int) == 91) = false := test_no 91 (by omega) (show p[k] ≠ UInt8.ofNat 91 by rw [h92]; decide)
          have t4 : ((p[k].toNat : Int) == 40) = false := test_no 40 (by omega) (show p[k] ≠ UInt8.ofNat 40 by rw [h92]; decide)
          rw [h92] at hv
          by_cases hk1 : k + 1 < p.size
          · have hd1 := drop_byte p hk1
            rw [hd1] at hv
            have HP2 := Lib.hid (fun W => HP.out p[k + 1] W)
            cases hm2 : marksL.contains p[k + 1]
            · rw [hm2] at HP2
              have HZ := Lib.hid (at_not hv (no_esc2 hm2))
              clear hv hd hd1 hm hm2 h46 h92
              go_enter Tryz.func127, Tryz.ntmps127
              go_wp2_with (first
                | (go_at_call 134; (with_reducible refine (HP1.out _).mono ?_); rintro e w1 ⟨rfl, rfl⟩)
                | (go_at_call 134; (with_reducible refine (HP2.out _).mono ?_); rintro e w1 ⟨rfl, rfl⟩))
              go_ret
              exact ⟨ret_i HZ.out.symm, Below.refl _ _⟩
            · rw [hm2] at HP2
              have hz := at_yes hv (at_esc hm2)
              rw [drop_len, show (p.size : Int) - ((p.size - (k + 1 + 1) : Nat) : Int) = (k : Int) + 2 by omega] at hz
              have HZ := Lib.hid hz
              clear hv hd hd1 hm hm2 h46 h92 hz
              go_enter Tryz.func127, Tryz.ntmps127
              go_wp2_with (first
                | (go_at_call 134; (with_reducible refine (HP1.out _).mono ?_); rintro e w1 ⟨rfl, rfl⟩)
                | (go_at_call 134; (with_reducible refine (HP2.out _).mono ?_); rintro e w1 ⟨rfl, rfl⟩))
              go_ret
              exact ⟨ret_i HZ.out.symm, Below.refl _ _⟩
          · rw [drop_end p (by omega)] at hv
            have HZ := Lib.hid (at_not hv no_esc1)
            clear hv hd hm h46 h92
            go_enter Tryz.func127, Tryz.ntmps127
            go_wp2_with (go_at_call 134; refine (HP1.out _).mono ?_; rintro e w1 ⟨rfl, rfl⟩)
            go_ret
            exact ⟨ret_i HZ.out.symm, Below.refl _ _⟩
        · have t2 : ((p[k].toNat : Int) == 92) = false := test_no 92 (by omega) h92
          by_cases h91 : p[k] = 91
          · have t3 : ((p[k].toNat : Int) == 91) = true := test_yes 91 (by omega) h91
            rw [h91] at hv
            have HC := Lib.hid (fun W => class_ref p k hp hlt 0 W)
            have HZ := Lib.hid (show clsE p.size ((strL p).drop (k + 1)) = v by
              cases hc : clsV ((strL p).drop (k + 1)) with
              | none => rw [(cls_none (c := 0) hc).1, at_not hv (no_cls hc)]
              | some q => rw [(cls_some (c := 0) (ss := q.1) (y := q.2) hc).1, at_yes hv (at_cls (ss := q.1) (y := q.2) hc)])
            rw [HZ.out] at HC
            generalize clsH ((strL p).drop (k + 1)) 0 = hb at HC
            clear hv hd hm h46 h92 h91
            go_enter Tryz.func127, Tryz.ntmps127
            go_wp2_with (first
              | (go_at_call 134; refine (HP1.out _).mono ?_; rintro e w1 ⟨rfl, rfl⟩)
              | (go_at_call 120; refine (HC.out _).mono ?_; rintro e w2 ⟨rfl, hb2⟩; have HB2 := Lib.hid hb2; clear hb2))
            go_ret
            exact ⟨rfl, HB2.out⟩
          · have t3 : ((p[k].toNat : Int) == 91) = false := test_no 91 (by omega) h91
            by_cases h40 : p[k] = 40
            · have t4 : ((p[k].toNat : Int) == 40) = true := test_yes 40 (by omega) h40
              rw [h40] at hv
              rcases atom_or (40 :: (strL p).drop (k + 1)) with hno | ⟨z, hz⟩
              · have HZ := Lib.hid (at_not hv hno)
                obtain ⟨q, hq⟩ := scan_all _ ((strL p).drop (k + 1)) 0 (Nat.le_refl _)
                have HC := Lib.hid (fun W => closing_ref p k hp hlt h40 q hq W)
                cases q with
                | none =>
                  have HC' := Lib.hid (fun W => (show Calls Tryz.prog 135 #[.string p, .int .i64 (k : Int)] W fun e w' => e = .returned (.int .i64 (-1)) ∧ Below W.heap.size W w' from HC.out W))
                  clear hv hd hm h46 h92 h91 h40 hno hq HC
                  go_enter Tryz.func127, Tryz.ntmps127
                  go_wp2_with (first
                    | (go_at_call 134; refine (HP1.out _).mono ?_; rintro e w1 ⟨rfl, rfl⟩)
                    | (go_at_call 135; refine (HC'.out _).mono ?_; rintro e w2 ⟨rfl, hb2⟩; have HB2 := Lib.hid hb2; clear hb2))
                  go_ret
                  exact ⟨ret_i HZ.out.symm, HB2.out⟩
                | some y =>
                  obtain ⟨u, z, hu, hyz⟩ := scan_head hq y rfl
                  rw [hyz] at hu
                  have hnr := group_no hno hu
                  have hyl : u.length + y.length = p.size - (k + 1) := by rw [← drop_len p (k + 1), hu, hyz, List.length_append]
                  obtain ⟨m, hm1⟩ : ∃ m : Nat, p.size - y.length = m := ⟨_, rfl⟩
                  have hml : k + 1 ≤ m ∧ m ≤ p.size := by omega
                  have hsl : strL (p.extract (k + 1) m) = u := by
                    rw [ext_txt p _ _ hml.2, hu, show m - (k + 1) = u.length by omega, List.take_left]
                  have hsz : (p.extract (k + 1) m).size < p.size := by rw [← strL_length, hsl]; omega
                  have HG := Lib.hid (fun W => HR.out _ hsz false W (by rw [hsl]; exact ⟨fun h => (by cases h), fun h => absurd h hnr⟩))
                  have hcv : closV p.size (some y) = (m : Int) := by show (p.size : Int) - _ = _; omega
                  rw [hcv] at HC
                  have i1 : (k : Int) + 1 ≤ (m : Int) := by omega
                  have i2 : (m : Int) ≤ (p.size : Int) := by omega
                  clear hv hd hm h46 h92 h91 h40 hno hq hu hyz hnr hyl hm1 hsl hsz hcv
                  go_enter Tryz.func127, Tryz.ntmps127
                  go_wp2_with (first
                    | (go_at_call 134; refine (HP1.out _).mono ?_; rintro e w1 ⟨rfl, rfl⟩)
                    | (go_at_call 135; refine (HC.out _).mono ?_; rintro e w2 ⟨rfl, hb2⟩; have HB2 := Lib.hid hb2; clear hb2)
                    | (go_at_call 108; refine (HG.out _).mono ?_; rintro e w3 ⟨rfl, hb3⟩; have HB3 := Lib.hid (HB2.out.trans (hb3.mono HB2.out.size)); clear hb3))
                  go_ret
                  exact ⟨ret_i HZ.out.symm, HB3.out⟩
              · obtain ⟨hq, u, hu, hru⟩ := group_yes hz
                have hzv := at_yes hv hz
                have HC := Lib.hid (fun W => closing_ref p k hp hlt h40 _ hq W)
                have hyl : u.length + (z.length + 1) = p.size - (k + 1) := by rw [← drop_len p (k + 1), hu, List.length_append, List.length_cons]
                obtain ⟨m, hm1⟩ : ∃ m : Nat, p.size - (z.length + 1) = m := ⟨_, rfl⟩
                have hml : k + 1 ≤ m ∧ m ≤ p.size := by omega
                have hsl : strL (p.extract (k + 1) m) = u := by
                  rw [ext_txt p _ _ hml.2, hu, show m - (k + 1) = u.length by omega, List.take_left]
                have hsz : (p.extract (k + 1) m).size < p.size := by rw [← strL_length, hsl]; omega
                have HG := Lib.hid (fun W => HR.out _ hsz true W (by rw [hsl]; exact ⟨fun _ => hru, fun _ => rfl⟩))
                have hcv : closV p.size (some (41 :: z)) = (m : Int) := by show (p.size : Int) - _ = _; rw [List.length_cons]; omega
                rw [hcv] at HC
                have HZ := Lib.hid (show (m : Int) + 1 = v by rw [hzv]; omega)
                have i1 : (k : Int) + 1 ≤ (m : Int) := by omega
                have i2 : (m : Int) ≤ (p.size : Int) := by omega
                clear hv hd hm h46 h92 h91 h40 hz hq hu hru hyl hm1 hsl hsz hcv hzv
                go_enter Tryz.func127, Tryz.ntmps127
                go_wp2_with (first
                  | (go_at_call 134; refine (HP1.out _).mono ?_; rintro e w1 ⟨rfl, rfl⟩)
                  | (go_at_call 135; refine (HC.out _).mono ?_; rintro e w2 ⟨rfl, hb2⟩; have HB2 := Lib.hid hb2; clear hb2)
                  | (go_at_call 108; refine (HG.out _).mono ?_; rintro e w3 ⟨rfl, hb3⟩; have HB3 := Lib.hid (HB2.out.trans (hb3.mono HB2.out.size)); clear hb3))
                go_ret
                exact ⟨ret_i HZ.out, HB3.out⟩
            · have t4 : ((p[k].toNat : Int) == 40) = false := test_no 40 (by omega) h40
              have HZ := Lib.hid (at_not hv (no_other hm h40 h91 h46 h92))
              clear hv hd hm h46 h92 h91 h40
              go_enter Tryz.func127, Tryz.ntmps127
              go_wp2_with (go_at_call 134; refine (HP1.out _).mono ?_; rintro e w1 ⟨rfl, rfl⟩)
              go_ret
              exact ⟨ret_i HZ.out.symm, Below.refl _ _⟩
  · rw [drop_end p (by omega)] at hv
    have HZ := Lib.hid (at_not hv no_nil)
    clear hv
    go_enter Tryz.func127, Tryz.ntmps127
    go_wp2_with fail
    go_ret
    exact ⟨ret_i HZ.out.symm, Below.refl _ _⟩
def CutTold (w : World) (r : Option (List (List UInt8))) (e : Ending) (w' : World) : Prop :=
  match r with
  | none => e = .returned (.tuple #[.slice none 0 0, .bool false]) ∧ Below w.heap.size w w'
  | some us => ∃ v, e = .returned (.tuple #[v, .bool true]) ∧ OwnT w' w.heap.size v us ∧ Below w.heap.size w w'
def CutRel (p : ByteArray) (w : World) (r : Option (List (List UInt8))) (o f i : Value) (wr : World) : Prop :=
  ∃ (k j : Nat) (us : List (List UInt8)) (r' : Option (List (List UInt8))), k ≤ p.size ∧ j ≤ k ∧ us.length ≤ k ∧ i = .int .i64 (k : Int) ∧ f = .int .i64 (j : Int) ∧ OwnT wr w.heap.size o us ∧ Res (((strL p).drop j).take (k - j)) ((strL p).drop k) r' ∧ r = r'.map (us ++ ·) ∧ Below w.heap.size w wr
theorem mark_is (p : ByteArray) {m : Nat} : behindP ((strL p).drop m) = if MarkP ((strL p).drop m) then (strL p).drop (m + 1) else (strL p).drop m := by
  unfold behindP
  rw [List.tail_drop]
theorem mark_at (p : ByteArray) {m : Nat} (h : m < p.size) : MarkP ((strL p).drop m) = (decide (p[m] = UInt8.ofNat 42) || (decide (p[m] = UInt8.ofNat 43) || decide (p[m] = UInt8.ofNat 63))) := by
  rw [drop_byte p h]
  unfold MarkP
  simp only [aheadM, List.contains_cons, List.contains_nil, Bool.or_false, Bool.or_assoc]
  rfl
theorem mark_end (p : ByteArray) {m : Nat} (h : p.size ≤ m) : MarkP ((strL p).drop m) = false := by rw [drop_end p h]; rfl
theorem take_more (L v y : List UInt8) (j k m : Nat) (hj : j ≤ k) (hkm : k ≤ m) (hm : m ≤ L.length) (h : L.drop k = v ++ L.drop m) : (L.drop j).take (k - j) ++ v = (L.drop j).take (m - j) := by
  have hv : v = (L.drop k).take (m - k) := by
    have h2 : (L.drop k).length = v.length + (L.drop m).length := by rw [h, List.length_append]
    rw [List.length_drop, List.length_drop] at h2
    rw [h, show m - k = v.length by omega, List.take_left]
  rw [hv, show m - j = (k - j) + (m - k) by omega, List.take_add, List.drop_drop, show j + (k - j) = k by omega]
set_option maxRecDepth 100000 in
set_option maxHeartbeats 8000000 in
theorem cut_ref (p : ByteArray) (hp : p.size ≤ 1000) (ha : AtomAt p) (r : Option (List (List UInt8))) (hr : Res [] (strL p) r) (w : World) :
    Calls Tryz.prog 119 #[.string p] w (CutTold w r) := by
  have HA := Lib.hid ha
  have HR := Lib.hid hr
  clear ha hr
  go_enter Tryz.func119, Tryz.ntmps119
  go_wp2_with fail
  go_loopw [4, 5, 6] (fun o f i wr => CutRel p w r o f i wr) (fun _ _ i _ => p.size - (intOf i).toNat)
  case atStart => exact ⟨0, 0, [], r, Nat.zero_le _, Nat.le_refl _, Nat.le_refl _, rfl, rfl, ownt_nil _ _, by simpa using HR.out, by cases r <;> rfl, Below.refl _ _⟩
  case round =>
    obtain ⟨k, j, us, r', hk, hjk, hus, rfl, rfl, ho, hres, hrr, hbr⟩ := hrel
    have hsz := hbr.size
    obtain ⟨P, cc, rfl, _, _, _⟩ := ownt_slice ho
    have HBr := Lib.hid hbr
    have HO := Lib.hid ho
    clear hbr ho
    by_cases hlt : k < p.size
    · have hd := drop_byte p hlt
      by_cases hb : p[k] = 124
      · have t1 : ((p[k].toNat : Int) == 124) = true := test_yes 124 (by omega) hb
        rw [hd, hb] at hres
        obtain ⟨r2, hr2, hres2⟩ := res_bar hres
        have HS := Lib.hid (show strL (p.extract j k) = ((strL p).drop j).take (k - j) from ext_txt p j k hk)
        have HRR := Lib.hid (show r = r2.map ((us ++ [((strL p).drop j).take (k - j)]) ++ ·) by rw [hrr, hr2]; cases r2 <;> simp)
        have HRES := Lib.hid (show Res (((strL p).drop (k + 1)).take (k + 1 - (k + 1))) ((strL p).drop (k + 1)) r2 by rw [Nat.sub_self]; exact hres2)
        have HN := Lib.hid (show (us.length + 1) * 16 ≤ 140737488355328 by omega)
        generalize ((strL p).drop j).take (k - j) = u at *
        have i1 : (j : Int) ≤ (k : Int) := by omega
        have i2 : (k : Int) ≤ (p.size : Int) := by omega
        have HL := Lib.hid (show (us ++ [u]).length ≤ k + 1 by simp; omega)
        clear hd hb hres hr2 hres2 hrr
        go_wp2_with (at_builtin; refine app_strs rfl (.tmp 16) (.tmp 21) rfl w.heap.size _ us rfl (ownt_below HO.out (below_one _ _)) _ [u] 1 rfl (str_cell (Row.new _ _ _) HS.out) HN.out (Nat.le_trans hsz (by simp)) ?_; intro v1 w1 hown1 hb1 _; have HO1 := Lib.hid hown1; have HB1 := Lib.hid ((HBr.out.alloc hsz _).trans hb1); clear hown1 hb1)
        exact ⟨⟨k + 1, k + 1, us ++ [u], r2, by omega, Nat.le_refl _, HL.out, by go_num, by go_num, HO1.out, HRES.out, HRR.out, HB1.out⟩, by simp [intOf]; omega⟩
      · have t1 : ((p[k].toNat : Int) == 124) = false := test_no 124 (by omega) hb
        have hah : aheadM [124] ((strL p).drop k) = false := by rw [hd]; simp only [aheadM, List.contains_cons, List.contains_nil, Bool.or_false, beq_eq_false_iff_ne]; exact hb
        rcases atom_or ((strL p).drop k) with hno | ⟨z, hz⟩
        · have hrn := res_bad hno (by rw [hd]; simp) hah hres
          have HRN := Lib.hid (show r = none by rw [hrr, hrn]; rfl)
          have HC := Lib.hid (fun W => HA.out k 0 W hk (.inr ⟨hno, rfl⟩))
          clear hd hb hres hrr hah hno hrn
          go_wp2_with (go_at_call 127; refine (HC.out _).mono ?_; rintro e w2 ⟨rfl, hb2⟩; have HB2 := Lib.hid (HBr.out.trans (hb2.mono HBr.out.size)); clear hb2)
          go_ret2
          rw [HRN.out]
          exact ⟨rfl, HB2.out⟩
        · obtain ⟨v, hv, _⟩ := atomP_cut hz
          obtain ⟨v2, hv2, hres2⟩ := res_one hz hres
          have hzl := atomP_len hz
          have hzd : (strL p) = ((strL p).take k ++ v) ++ z := by rw [List.append_assoc, ← hv, List.take_append_drop]
          have hzs := suffix_drop hzd
          rw [strL_length] at hzs
          rw [drop_len] at hzl
          obtain ⟨m, hm⟩ : ∃ m : Nat, p.size - z.length = m := ⟨_, rfl⟩
          rw [hm] at hzs
          have hzle : z.length ≤ p.size := by omega
          have hkm : k < m ∧ m ≤ p.size := by omega
          have HC := Lib.hid (fun W => HA.out k (m : Int) W hk (.inl ⟨z, hz, by omega⟩))
          have z0 : ((m : Int) == 0) = false := by rw [beq_eq_false_iff_ne]; omega
          rw [hzs] at hv2 hres2
          rw [mark_is] at hv2 hres2
          by_cases hmk : MarkP ((strL p).drop m) = true
          · rw [if_pos hmk] at hv2 hres2
            have hms : m < p.size := by
              rcases Nat.lt_or_ge m p.size with h | h
              · exact h
              · rw [mark_end p h] at hmk; cases hmk
            rw [take_more (strL p) v2 [] j k (m + 1) hjk (by omega) (by rw [strL_length]; omega) hv2] at hres2
            rw [mark_at p hms] at hmk
            have HRES := Lib.hid hres2
            have HRR := Lib.hid hrr
            have q1 := byte_eq p[m] 42 (by omega)
            have q2 := byte_eq p[m] 43 (by omega)
            have q3 := byte_eq p[m] 63 (by omega)
            clear hd hb hres hrr hah hv hv2 hzl hzd hzs hz hres2 hm
            cases h1 : decide (p[m] = UInt8.ofNat 42)
            · cases h2 : decide (p[m] = UInt8.ofNat 43)
              · cases h3 : decide (p[m] = UInt8.ofNat 63)
                · rw [h1, h2, h3] at hmk; cases hmk
                · have s1 : ((p[m].toNat : Int) == 42) = false := q1.trans h1
                  have s2 : ((p[m].toNat : Int) == 43) = false := q2.trans h2
                  have s3 : ((p[m].toNat : Int) == 63) = true := q3.trans h3
                  clear q1 q2 q3 h1 h2 h3 hmk
                  go_wp2_with (go_at_call 127; refine (HC.out _).mono ?_; rintro e w2 ⟨rfl, hb2⟩; have HB2 := Lib.hid (HBr.out.trans (hb2.mono HBr.out.size)); have HO2 := Lib.hid (ownt_below HO.out hb2); clear hb2)
                  exact ⟨⟨m + 1, j, us, r', by omega, by omega, by omega, by go_num, rfl, HO2.out, HRES.out, HRR.out, HB2.out⟩, by simp [intOf]; omega⟩
              · have s1 : ((p[m].toNat : Int) == 42) = false := q1.trans h1
                have s2 : ((p[m].toNat : Int) == 43) = true := q2.trans h2
                clear q1 q2 q3 h1 h2 hmk
                go_wp2_with (go_at_call 127; refine (HC.out _).mono ?_; rintro e w2 ⟨rfl, hb2⟩; have HB2 := Lib.hid (HBr.out.trans (hb2.mono HBr.out.size)); have HO2 := Lib.hid (ownt_below HO.out hb2); clear hb2)
                exact ⟨⟨m + 1, j, us, r', by omega, by omega, by omega, by go_num, rfl, HO2.out, HRES.out, HRR.out, HB2.out⟩, by simp [intOf]; omega⟩
            · have s1 : ((p[m].toNat : Int) == 42) = true := q1.trans h1
              clear q1 q2 q3 h1 hmk
              go_wp2_with (go_at_call 127; refine (HC.out _).mono ?_; rintro e w2 ⟨rfl, hb2⟩; have HB2 := Lib.hid (HBr.out.trans (hb2.mono HBr.out.size)); have HO2 := Lib.hid (ownt_below HO.out hb2); clear hb2)
              exact ⟨⟨m + 1, j, us, r', by omega, by omega, by omega, by go_num, rfl, HO2.out, HRES.out, HRR.out, HB2.out⟩, by simp [intOf]; omega⟩
          · rw [if_neg hmk] at hv2 hres2
            rw [take_more (strL p) v2 [] j k m hjk (by omega) (by rw [strL_length]; omega) hv2] at hres2
            have HRES := Lib.hid hres2
            have HRR := Lib.hid hrr
            have hmk' := Bool.eq_false_iff.2 hmk
            clear hd hb hres hrr hah hv hv2 hzl hzd hzs hz hres2 hm hmk
            by_cases hms : m < p.size
            · rw [mark_at p hms, Bool.or_eq_false_iff, Bool.or_eq_false_iff] at hmk'
              have s1 : ((p[m].toNat : Int) == 42) = false := (byte_eq p[m] 42 (by omega)).trans hmk'.1
              have s2 : ((p[m].toNat : Int) == 43) = false := (byte_eq p[m] 43 (by omega)).trans hmk'.2.1
              have s3 : ((p[m].toNat : Int) == 63) = false := (byte_eq p[m] 63 (by omega)).trans hmk'.2.2
              clear hmk'
              go_wp2_with (go_at_call 127; refine (HC.out _).mono ?_; rintro e w2 ⟨rfl, hb2⟩; have HB2 := Lib.hid (HBr.out.trans (hb2.mono HBr.out.size)); have HO2 := Lib.hid (ownt_below HO.out hb2); clear hb2)
              exact ⟨⟨m, j, us, r', by omega, by omega, by omega, rfl, rfl, HO2.out, HRES.out, HRR.out, HB2.out⟩, by simp [intOf]; omega⟩
            · clear hmk'
              go_wp2_with (go_at_call 127; refine (HC.out _).mono ?_; rintro e w2 ⟨rfl, hb2⟩; have HB2 := Lib.hid (HBr.out.trans (hb2.mono HBr.out.size)); have HO2 := Lib.hid (ownt_below HO.out hb2); clear hb2)
              exact ⟨⟨m, j, us, r', by omega, by omega, by omega, rfl, rfl, HO2.out, HRES.out, HRR.out, HB2.out⟩, by simp [intOf]; omega⟩
    · obtain rfl : k = p.size := by omega
      rw [drop_end p (Nat.le_refl _)] at hres
      have hrn := res_nil hres
      have HS := Lib.hid (show strL (p.extract j p.size) = ((strL p).drop j).take (p.size - j) from ext_txt p j _ (Nat.le_refl _))
      have HRR := Lib.hid (show r = some (us ++ [((strL p).drop j).take (p.size - j)]) by rw [hrr, hrn]; rfl)
      generalize ((strL p).drop j).take (p.size - j) = u at *
      have HN := Lib.hid (show (us.length + 1) * 16 ≤ 140737488355328 by omega)
      have i1 : (j : Int) ≤ (p.size : Int) := by omega
      clear hres hrn hrr
      go_wp2_with (at_builtin; refine app_strs rfl (.tmp 56) (.tmp 60) rfl w.heap.size _ us rfl (ownt_below HO.out (below_one _ _)) _ [u] 1 rfl (str_cell (Row.new _ _ _) HS.out) HN.out (Nat.le_trans hsz (by simp)) ?_; intro v1 w1 hown1 hb1 _; have HO1 := Lib.hid hown1; have HB1 := Lib.hid ((HBr.out.alloc hsz _).trans hb1); clear hown1 hb1)
      go_ret2
      rw [HRR.out]
      exact ⟨v1, rfl, HO1.out, HB1.out⟩
theorem right_ref (p : ByteArray) (hp : p.size ≤ 1000) (ha : AtomAt p) : RightAt p := by
  intro b w hb
  obtain ⟨r, hr⟩ := res_all _ (strL p) [] (Nat.le_refl _)
  have hq := res_right hr
  have HC := Lib.hid (cut_ref p hp ha r hr w)
  cases r with
  | none =>
    have hbf : b = false := by rw [Bool.eq_false_iff, Ne, hb, hq]; simp
    subst hbf
    have HC' := Lib.hid (show Calls Tryz.prog 119 #[.string p] w fun e w' => e = .returned (.tuple #[.slice none 0 0, .bool false]) ∧ Below w.heap.size w w' from HC.out)
    clear HC hb hq hr ha
    go_enter Tryz.func108, Tryz.ntmps108
    go_wp2_with (go_at_call 119; refine HC'.out.mono ?_; rintro e w2 ⟨rfl, hb2⟩; have HB2 := Lib.hid hb2; clear hb2)
    go_ret
    exact ⟨rfl, HB2.out⟩
  | some us =>
    have hbt : b = true := hb.2 (hq.2 rfl)
    subst hbt
    have HC' := Lib.hid (show Calls Tryz.prog 119 #[.string p] w (fun e w' => ∃ P c, e = .returned (.tuple #[.slice P us.length c, .bool true]) ∧ Below w.heap.size w w') from HC.out.mono fun e w' h => by
      obtain ⟨v, h1, h2, h3⟩ := h
      obtain ⟨P, c, h4, _⟩ := ownt_slice h2
      exact ⟨P, c, by rw [h1, h4], h3⟩)
    clear HC hb hq hr ha
    go_enter Tryz.func108, Tryz.ntmps108
    go_wp2_with (go_at_call 119; refine HC'.out.mono ?_; rintro e w2 ⟨P, c, rfl, hb2⟩; have HB2 := Lib.hid hb2; clear hb2)
    go_ret
    exact ⟨rfl, HB2.out⟩
theorem atom_all : ∀ (m : Nat) (p : ByteArray), p.size ≤ m → p.size ≤ 1000 → AtomAt p := by
  intro m
  induction m with
  | zero => intro p h h2; exact atom_ref p h2 fun q hq => by omega
  | succ m ih => intro p h h2; exact atom_ref p h2 fun q hq => right_ref q (by omega) (ih q (by omega) (by omega))
theorem right_all (p : ByteArray) (h : p.size ≤ 1000) : RightAt p := right_ref p h (atom_all _ p (Nat.le_refl _) h)
end Go.Proofs.YtpcjnagdanmdpaaGreat
