/- An atom of a pattern. -/
import Derived.Test.YtjljfilflajogaaReAtom
namespace Go.Proofs.Ytjljfilflajogaa
open Go.RowKit Go.Maps
set_option linter.unusedVariables false

theorem Tells.class {w w1 w' : World} {X op dp : Nat} {e : Ending} {q : Option (Re × List UInt8)} (h : ClsTold w1 w' X op dp e q) (ht : Two w w1 X X) (hod : op ≤ dp) : Tells w w' X op dp e (q.map fun r => (r.1, r.2, 0)) := by
  cases q with
  | none => exact ⟨ht.trans h.1, h.2.1, h.2.2⟩
  | some r =>
    obtain ⟨r, y⟩ := r
    obtain ⟨h1, h2, v, M, rfl, hN, hM⟩ := h
    exact ⟨ht.trans h1, by rw [show max dp (op + 0) = dp by omega]; exact h2, v, M, rfl, hN, fun k hk => Nat.le_trans ht.size (hM k hk)⟩
theorem Tells.behind {w w1 w' : World} {X op dp : Nat} {e : Ending} {q : Option (Re × List UInt8 × Nat)} (h : Tells w1 w' X op dp e q) (ht : Two w w1 X X) : Tells w w' X op dp e q := by
  cases q with
  | none => exact ⟨ht.trans h.1, h.2.1, h.2.2⟩
  | some r =>
    obtain ⟨r, y, d⟩ := r
    obtain ⟨h1, h2, v, M, rfl, hN, hM⟩ := h
    exact ⟨ht.trans h1, h2, v, M, rfl, hN, fun k hk => Nat.le_trans ht.size (hM k hk)⟩
theorem Tells.leaf {w w' : World} {X op dp : Nat} {r : Re} {y : List UInt8} {v : Value} {M : List Nat} (ht : Two w w' X X) (hr : Rdr w' X y op dp) (hod : op ≤ dp) (hN : NodeAt w' r v M) (hM : ∀ k ∈ M, w.heap.size ≤ k) : Tells w w' X op dp (.returned (.tuple #[v, .bool true])) (some (r, y, 0)) :=
  ⟨ht, by rw [show max dp (op + 0) = dp by omega]; exact hr, v, M, rfl, hN, hM⟩
theorem dot_node (w : World) : NodeAt (w.alloc (.cells #[.slice none 0 0, .bool true, .bool false] 89)) (.atom [] true false) (.iface 86 (.pointer (some ⟨w.heap.size, 0, none⟩))) [w.heap.size] := by
  simp only [NodeAt]
  exact ⟨_, none, 0, [], rfl, by simp, Row.new w _ _, .inl ⟨rfl, rfl⟩, by simp, rfl⟩
/-- A tuple of a call that is handed on as it is. -/
def Handed (e : Ending) (v : Value) (b : Bool) : Prop := e = .returned (.tuple #[v, .bool b])
theorem Tells.pair {w w' : World} {X op dp : Nat} {e : Ending} {q : Option (Re × List UInt8 × Nat)} (h : Tells w w' X op dp e q) : ∃ v b, Handed e v b := by
  cases q with
  | none => obtain ⟨_, _, v, rfl⟩ := h; exact ⟨v, false, rfl⟩
  | some r => obtain ⟨r, y, d⟩ := r; obtain ⟨_, _, v, M, rfl, _⟩ := h; exact ⟨v, true, rfl⟩
theorem ClsTold.pair {w w' : World} {X op dp : Nat} {e : Ending} {q : Option (Re × List UInt8)} (h : ClsTold w w' X op dp e q) : ∃ v b, Handed e v b := by
  cases q with
  | none => obtain ⟨_, _, v, rfl⟩ := h; exact ⟨v, false, rfl⟩
  | some r => obtain ⟨r, y⟩ := r; obtain ⟨_, _, v, M, rfl, _⟩ := h; exact ⟨v, true, rfl⟩
set_option maxHeartbeats 2000000 in
theorem atom_prog {n m : Nat} (hg : ∀ k, k < m → GrpReads n k) (hmn : m ≤ n) : Reads 83 (atomM (n + 1)) m := by
  intro w X x op dp h hod hopx hm
  have hX := h.lt
  have HG := Lib.hid hg
  have D1 : ∀ z, aheadM (strL ⟨#[40]⟩) z = aheadM [40] z := fun _ => rfl
  have D2 : ∀ z, aheadM (strL ⟨#[91]⟩) z = aheadM [91] z := fun _ => rfl
  have D3 : ∀ z, aheadM (strL ⟨#[46]⟩) z = aheadM [46] z := fun _ => rfl
  have D4 : ∀ z, aheadM (strL ⟨#[92]⟩) z = aheadM [92] z := fun _ => rfl
  have D5 : ∀ z, aheadM (strL ⟨#[92, 40, 41, 91, 93, 124, 42, 43, 63, 46]⟩) z = aheadM marksL z := fun _ => rfl
  have D6 : ∀ z, takeButM (strL ⟨#[92, 40, 41, 91, 93, 124, 42, 43, 63, 46]⟩) z = takeButM marksL z := fun _ => rfl
  have HS1 := Lib.hid (skip_prog h ⟨#[40]⟩)
  simp only [D1] at HS1
  clear h hg
  cases h1 : aheadM [40] x
  · simp only [h1, Bool.false_eq_true, if_false] at HS1
    cases h2 : aheadM [91] x
    · cases h3 : aheadM [46] x
      · cases h4 : aheadM [92] x
        · have HK := Lib.hid (show atomM (n + 1) x = (takeButM marksL x).map (fun r => (oneM r.1, r.2, 0)) by
            simp only [atomM, h1, h2, h3, h4, Bool.false_eq_true, if_false]
            cases takeButM marksL x with
            | none => rfl
            | some r => rfl)
          cases h5 : takeButM marksL x with
          | none =>
            rw [h5] at HK
            go_enter Try.func83, Try.ntmps83
            go_wp2_with (first
              | (go_at_call 87; refine HO.out.mono ?_; rintro e w7 ⟨hb7, v7, M7, rfl, hN7, hM7⟩; have HB7 := Lib.hid hb7; have HN7 := Lib.hid hN7; have HM7 := Lib.hid hM7; clear hb7 hN7 hM7)
              | (go_at_call 88; refine HS5.out.mono ?_; rintro e w6 ⟨rfl, hr6, ht6⟩
                 have HR6 := Lib.hid hr6
                 have HT6 := Lib.hid (HT5.out.trans ht6)
                 have HO := Lib.hid (show Calls Try.prog 87 #[.int .u8 0] w6 _ from one_prog 0 w6)
                 clear hr6 ht6)
              | (go_at_call 65; refine HS4.out.mono ?_; rintro e w5 ⟨rfl, hr5, ht5⟩
                 have HS5 := Lib.hid (takeBut_prog hr5 ⟨#[92, 40, 41, 91, 93, 124, 42, 43, 63, 46]⟩)
                 simp only [D6, h5, tellBut, leftBut] at HS5
                 have HT5 := Lib.hid (HT4.out.trans ht5); clear hr5 ht5)
              | (go_at_call 65; refine HS3.out.mono ?_; rintro e w4 ⟨rfl, hr4, ht4⟩
                 have HS4 := Lib.hid (skip_prog hr4 ⟨#[92]⟩)
                 simp only [D4, h4, Bool.false_eq_true, if_false] at HS4
                 have HT4 := Lib.hid (HT3.out.trans ht4); clear hr4 ht4)
              | (go_at_call 65; refine HS2.out.mono ?_; rintro e w3 ⟨rfl, hr3, ht3⟩
                 have HS3 := Lib.hid (skip_prog hr3 ⟨#[46]⟩)
                 simp only [D3, h3, Bool.false_eq_true, if_false] at HS3
                 have HT3 := Lib.hid (HT2.out.trans ht3); clear hr3 ht3)
              | (go_at_call 65; refine HS1.out.mono ?_; rintro e w2 ⟨rfl, hr2, ht2⟩
                 have HS2 := Lib.hid (skip_prog hr2 ⟨#[91]⟩)
                 simp only [D2, h2, Bool.false_eq_true, if_false] at HS2
                 have HT2 := Lib.hid ht2; clear hr2 ht2))
            go_ret2
            rw [HK.out]
            exact ⟨HT6.out.trans (two_of_below HB7.out), (HR6.out.two HB7.out).any, _, rfl⟩
          | some r =>
            obtain ⟨c, y⟩ := r
            rw [h5] at HK
            go_enter Try.func83, Try.ntmps83
            go_wp2_with (first
              | (go_at_call 87; refine HO.out.mono ?_; rintro e w7 ⟨hb7, v7, M7, rfl, hN7, hM7⟩; have HB7 := Lib.hid hb7; have HN7 := Lib.hid hN7; have HM7 := Lib.hid hM7; clear hb7 hN7 hM7)
              | (go_at_call 88; refine HS5.out.mono ?_; rintro e w6 ⟨rfl, hr6, ht6⟩
                 have HR6 := Lib.hid hr6
                 have HT6 := Lib.hid (HT5.out.trans ht6)
                 have HO := Lib.hid (one_prog c w6)
                 clear hr6 ht6)
              | (go_at_call 65; refine HS4.out.mono ?_; rintro e w5 ⟨rfl, hr5, ht5⟩
                 have HS5 := Lib.hid (takeBut_prog hr5 ⟨#[92, 40, 41, 91, 93, 124, 42, 43, 63, 46]⟩)
                 simp only [D6, h5, tellBut, leftBut] at HS5
                 have HT5 := Lib.hid (HT4.out.trans ht5); clear hr5 ht5)
              | (go_at_call 65; refine HS3.out.mono ?_; rintro e w4 ⟨rfl, hr4, ht4⟩
                 have HS4 := Lib.hid (skip_prog hr4 ⟨#[92]⟩)
                 simp only [D4, h4, Bool.false_eq_true, if_false] at HS4
                 have HT4 := Lib.hid (HT3.out.trans ht4); clear hr4 ht4)
              | (go_at_call 65; refine HS2.out.mono ?_; rintro e w3 ⟨rfl, hr3, ht3⟩
                 have HS3 := Lib.hid (skip_prog hr3 ⟨#[46]⟩)
                 simp only [D3, h3, Bool.false_eq_true, if_false] at HS3
                 have HT3 := Lib.hid (HT2.out.trans ht3); clear hr3 ht3)
              | (go_at_call 65; refine HS1.out.mono ?_; rintro e w2 ⟨rfl, hr2, ht2⟩
                 have HS2 := Lib.hid (skip_prog hr2 ⟨#[91]⟩)
                 simp only [D2, h2, Bool.false_eq_true, if_false] at HS2
                 have HT2 := Lib.hid ht2; clear hr2 ht2))
            go_ret2
            rw [HK.out]
            exact Tells.leaf (HT6.out.trans (two_of_below HB7.out)) (HR6.out.two HB7.out) hod HN7.out (fun k hk => Nat.le_trans HT6.out.size (HM7.out k hk))
        · cases h5 : aheadM marksL x.tail
          · have HK := Lib.hid (show atomM (n + 1) x = none by
              simp only [atomM, h1, h2, h3, h4, Bool.false_eq_true, if_false, if_true]
              cases hx : x.tail with
              | nil => rfl
              | cons c y => rw [hx] at h5; simp only; rw [if_neg]; exact fun e => by rw [show aheadM marksL (c :: y) = marksL.contains c from rfl, e] at h5; cases h5)
            go_enter Try.func83, Try.ntmps83
            go_wp2_with (first
              | (go_at_call 74; refine HS5.out.mono ?_; rintro e w6 ⟨rfl, rfl⟩)
              | (go_at_call 65; refine HS4.out.mono ?_; rintro e w5 ⟨rfl, hr5, ht5⟩
                 have HS5 := Lib.hid (ahead_prog hr5 ⟨#[92, 40, 41, 91, 93, 124, 42, 43, 63, 46]⟩)
                 simp only [D5, h5] at HS5
                 have HR5 := Lib.hid hr5
                 have HT5 := Lib.hid (HT4.out.trans ht5); clear hr5 ht5)
              | (go_at_call 65; refine HS3.out.mono ?_; rintro e w4 ⟨rfl, hr4, ht4⟩
                 have HS4 := Lib.hid (skip_prog hr4 ⟨#[92]⟩)
                 simp only [D4, h4, if_true] at HS4
                 have HT4 := Lib.hid (HT3.out.trans ht4); clear hr4 ht4)
              | (go_at_call 65; refine HS2.out.mono ?_; rintro e w3 ⟨rfl, hr3, ht3⟩
                 have HS3 := Lib.hid (skip_prog hr3 ⟨#[46]⟩)
                 simp only [D3, h3, Bool.false_eq_true, if_false] at HS3
                 have HT3 := Lib.hid (HT2.out.trans ht3); clear hr3 ht3)
              | (go_at_call 65; refine HS1.out.mono ?_; rintro e w2 ⟨rfl, hr2, ht2⟩
                 have HS2 := Lib.hid (skip_prog hr2 ⟨#[91]⟩)
                 simp only [D2, h2, Bool.false_eq_true, if_false] at HS2
                 have HT2 := Lib.hid ht2; clear hr2 ht2))
            go_ret2
            rw [HK.out]
            exact ⟨HT5.out, HR5.out.any, _, rfl⟩
          · obtain ⟨c, y, hxt, hc⟩ := ahead_tail h5
            have HK := Lib.hid (show atomM (n + 1) x = some (oneM c, y, 0) by
              simp only [atomM, h1, h2, h3, h4, Bool.false_eq_true, if_false, if_true]
              rw [hxt]
              simp only
              rw [if_pos hc])
            have HX := Lib.hid hxt
            clear hxt
            go_enter Try.func83, Try.ntmps83
            go_wp2_with (first
              | (go_at_call 87; refine HO.out.mono ?_; rintro e w7 ⟨hb7, v7, M7, rfl, hN7, hM7⟩; have HB7 := Lib.hid hb7; have HN7 := Lib.hid hN7; have HM7 := Lib.hid hM7; clear hb7 hN7 hM7)
              | (go_at_call 76; refine HS6.out.mono ?_; rintro e w8 ⟨rfl, hr8, ht8⟩
                 have HR8 := Lib.hid hr8
                 have HT8 := Lib.hid (HT5.out.trans ht8)
                 have HO := Lib.hid (one_prog c w8)
                 clear hr8 ht8)
              | (go_at_call 74; refine HS5.out.mono ?_; rintro e w6 ⟨rfl, rfl⟩)
              | (go_at_call 65; refine HS4.out.mono ?_; rintro e w5 ⟨rfl, hr5, ht5⟩
                 have HS5 := Lib.hid (ahead_prog hr5 ⟨#[92, 40, 41, 91, 93, 124, 42, 43, 63, 46]⟩)
                 simp only [D5, h5] at HS5
                 rw [HX.out] at hr5
                 have HS6 := Lib.hid (take_prog hr5)
                 have HT5 := Lib.hid (HT4.out.trans ht5); clear hr5 ht5)
              | (go_at_call 65; refine HS3.out.mono ?_; rintro e w4 ⟨rfl, hr4, ht4⟩
                 have HS4 := Lib.hid (skip_prog hr4 ⟨#[92]⟩)
                 simp only [D4, h4, if_true] at HS4
                 have HT4 := Lib.hid (HT3.out.trans ht4); clear hr4 ht4)
              | (go_at_call 65; refine HS2.out.mono ?_; rintro e w3 ⟨rfl, hr3, ht3⟩
                 have HS3 := Lib.hid (skip_prog hr3 ⟨#[46]⟩)
                 simp only [D3, h3, Bool.false_eq_true, if_false] at HS3
                 have HT3 := Lib.hid (HT2.out.trans ht3); clear hr3 ht3)
              | (go_at_call 65; refine HS1.out.mono ?_; rintro e w2 ⟨rfl, hr2, ht2⟩
                 have HS2 := Lib.hid (skip_prog hr2 ⟨#[91]⟩)
                 simp only [D2, h2, Bool.false_eq_true, if_false] at HS2
                 have HT2 := Lib.hid ht2; clear hr2 ht2))
            go_ret2
            rw [HK.out]
            exact Tells.leaf (HT8.out.trans (two_of_below HB7.out)) (HR8.out.two HB7.out) hod HN7.out (fun k hk => Nat.le_trans HT8.out.size (HM7.out k hk))
      · have HK := Lib.hid (show atomM (n + 1) x = some (.atom [] true false, x.tail, 0) by simp only [atomM, h1, h2, h3, Bool.false_eq_true, if_false, if_true])
        go_enter Try.func83, Try.ntmps83
        go_wp2_with (first
          | (go_at_call 65; refine HS3.out.mono ?_; rintro e w4 ⟨rfl, hr4, ht4⟩
             have HR4 := Lib.hid hr4
             have HT4 := Lib.hid (HT3.out.trans ht4); clear hr4 ht4)
          | (go_at_call 65; refine HS2.out.mono ?_; rintro e w3 ⟨rfl, hr3, ht3⟩
             have HS3 := Lib.hid (skip_prog hr3 ⟨#[46]⟩)
             simp only [D3, h3, if_true] at HS3
             have HT3 := Lib.hid (HT2.out.trans ht3); clear hr3 ht3)
          | (go_at_call 65; refine HS1.out.mono ?_; rintro e w2 ⟨rfl, hr2, ht2⟩
             have HS2 := Lib.hid (skip_prog hr2 ⟨#[91]⟩)
             simp only [D2, h2, Bool.false_eq_true, if_false] at HS2
             have HT2 := Lib.hid ht2; clear hr2 ht2))
        go_ret2
        rw [HK.out]
        exact Tells.leaf (HT4.out.trans (two_of_below (below_one w4 _))) (HR4.out.two (below_one w4 _)) hod (dot_node w4) (fun k hk => by simp at hk; subst hk; exact HT4.out.size)
    · have HK := Lib.hid (show atomM (n + 1) x = (classM n x.tail).map (fun r => (r.1, r.2, 0)) by
        simp only [atomM, h1, h2, Bool.false_eq_true, if_false, if_true]
        cases classM n x.tail <;> rfl)
      have hl := tail_len h2
      go_enter Try.func83, Try.ntmps83
      go_wp2_with (first
        | (go_at_call 86; refine HS3.out.mono ?_; rintro e w4 hT
           obtain ⟨v4, b4, he4⟩ := hT.pair
           have HT := Lib.hid hT
           unfold Handed at he4
           subst he4
           clear hT)
        | (go_at_call 65; refine HS2.out.mono ?_; rintro e w3 ⟨rfl, hr3, ht3⟩
           have HS3 := Lib.hid (class_prog (n := n) hr3 (by omega) (by omega))
           have HT3 := Lib.hid (HT2.out.trans ht3); clear hr3 ht3)
        | (go_at_call 65; refine HS1.out.mono ?_; rintro e w2 ⟨rfl, hr2, ht2⟩
           have HS2 := Lib.hid (skip_prog hr2 ⟨#[91]⟩)
           simp only [D2, h2, if_true] at HS2
           have HT2 := Lib.hid ht2; clear hr2 ht2))
      go_ret2
      rw [HK.out]
      exact Tells.class HT.out HT3.out hod
  · simp only [h1, if_true] at HS1
    have HK := Lib.hid (show atomM (n + 1) x = grpR n x.tail by
      simp only [atomM, h1, if_true]
      unfold grpR
      cases patM n x.tail <;> rfl)
    have hl := tail_len h1
    go_enter Try.func83, Try.ntmps83
    go_wp2_with (first
      | (go_at_call 85; refine HS2.out.mono ?_; rintro e w4 hT
         obtain ⟨v4, b4, he4⟩ := hT.pair
         have HT := Lib.hid hT
         unfold Handed at he4
         subst he4
         clear hT)
      | (go_at_call 65; refine HS1.out.mono ?_; rintro e w2 ⟨rfl, hr2, ht2⟩
         have HS2 := Lib.hid (HG.out x.tail.length (by omega) w2 X x.tail op dp hr2 hod (by omega) (Nat.le_refl _))
         have HT2 := Lib.hid ht2; clear hr2 ht2))
    go_ret2
    rw [HK.out]
    exact Tells.behind HT.out HT2.out
end Go.Proofs.Ytjljfilflajogaa
