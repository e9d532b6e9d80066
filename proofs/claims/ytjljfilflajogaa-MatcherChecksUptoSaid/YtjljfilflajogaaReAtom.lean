/- A group, an atom, a piece of a pattern: each by what it calls. -/
import Derived.Test.YtjljfilflajogaaReClass2
import Derived.Lib.MinMax
namespace Go.Proofs.Ytjljfilflajogaa
open Go.RowKit Go.Maps
set_option linter.unusedVariables false

def grpR (n : Nat) (x : List UInt8) : Option (Re × List UInt8 × Nat) :=
  match patM n x with
  | none => none
  | some (ls, y, d) => if aheadM [41] y then some (.alt ls, y.tail, d + 1) else none
def GrpReads (n m : Nat) : Prop :=
  ∀ (w : World) (X : Nat) (x : List UInt8) (op dp : Nat), Rdr w X x op dp → op ≤ dp → op + 1 + x.length ≤ 64 → x.length ≤ m →
    Calls Try.prog 85 #[.pointer (some ⟨X, 0, none⟩)] w fun e w' => Tells w w' X op dp e (grpR n x)
set_option maxHeartbeats 1000000 in
theorem group_prog {n m : Nat} (hp : Reads 51 (patR n) m) : GrpReads n m := by
  intro w X x op dp h hod hopx hm
  obtain ⟨D, hD⟩ : ∃ D, D = max dp (op + 1) := ⟨_, rfl⟩
  obtain ⟨s, hsx, hr⟩ := h
  have hr1 := hr.setAt 1 (.int .i64 ((op : Int) + 1))
  have hr2 : Row ((w.setCell ⟨X, 1, none⟩ (.int .i64 ((op : Int) + 1))).drew.setCell ⟨X, 2, none⟩ (.int .i64 (D : Int))) X _ _ := Row.setAt (w := (w.setCell ⟨X, 1, none⟩ (.int .i64 ((op : Int) + 1))).drew) hr1 2 (.int .i64 (D : Int))
  have hR2 : Rdr ((w.setCell ⟨X, 1, none⟩ (.int .i64 ((op : Int) + 1))).drew.setCell ⟨X, 2, none⟩ (.int .i64 (D : Int))) X x (op + 1) D := ⟨s, hsx, by simpa using hr2⟩
  have HT2 := Lib.hid (show Two w ((w.setCell ⟨X, 1, none⟩ (.int .i64 ((op : Int) + 1))).drew.setCell ⟨X, 2, none⟩ (.int .i64 (D : Int))) X X from ((((Two.refl w X X).set (p := ⟨X, 1, none⟩) (.inl rfl) _)).drewN 1).set (p := ⟨X, 2, none⟩) (.inl rfl) _)
  have HP := Lib.hid (hp _ X x (op + 1) D hR2 (by omega) (by omega) hm)
  have c1 : w.cell? ⟨X, 1, none⟩ = some (.int .i64 (op : Int)) := hr.cell 1
  have f1 := hr.frozen 1
  have d1 : (w.setCell ⟨X, 1, none⟩ (.int .i64 ((op : Int) + 1))).cell? ⟨X, 1, none⟩ = some (.int .i64 ((op : Int) + 1)) := hr1.cell 1
  have d2 : (w.setCell ⟨X, 1, none⟩ (.int .i64 ((op : Int) + 1))).cell? ⟨X, 2, none⟩ = some (.int .i64 (dp : Int)) := hr1.cell 2
  have g2 := hr1.frozen 2
  have wm : max (dp : Int) ((op : Int) + 1) = (D : Int) := by rw [hD]; omega
  have hop : op ≤ 64 := by omega
  have HE := Lib.hid hD
  have HR2 := Lib.hid hR2
  have HOD := Lib.hid hod
  clear hr hr1 hr2 hR2 hD hod hsx
  cases hq : patM n x with
  | none =>
    have HN := Lib.hid (show grpR n x = none by unfold grpR; rw [hq])
    have HP2 := Lib.hid (show patR n x = none by unfold patR; rw [hq]; rfl)
    rw [HP2.out] at HP
    go_enter Try.func85, Try.ntmps85
    go_wp2_with fail
    go_region
    go_wp2_with (go_at_call 51; refine HP.out.mono ?_; rintro e w3 ⟨ht3, ⟨s3, a3, b3, hr3⟩, v3, rfl⟩
                 have k1 := hr3.cell 1
                 have l1 := hr3.frozen 1
                 simp at k1
                 have HR3 := Lib.hid hr3
                 have HT3 := Lib.hid ht3
                 clear hr3 ht3)
    go_ret2
    rw [HN.out]
    exact ⟨(HT2.out.trans HT3.out).set (p := ⟨X, 1, none⟩) (.inl rfl) _, ⟨_, _, _, HR3.out.setAt 1 _⟩, _, rfl⟩
  | some q =>
    obtain ⟨ls, y, d⟩ := q
    have HP2 := Lib.hid (show patR n x = some (.alt ls, y, d) by unfold patR; rw [hq]; rfl)
    have HQ := Lib.hid (show grpR n x = if aheadM [41] y then some (.alt ls, y.tail, d + 1) else none by unfold grpR; rw [hq])
    have HD2 : ∀ z, aheadM (strL ⟨#[41]⟩) z = aheadM [41] z := fun _ => rfl
    rw [HP2.out] at HP
    clear hq
    cases ha : aheadM [41] y
    all_goals
      rw [ha] at HQ
      go_enter Try.func85, Try.ntmps85
      go_wp2_with fail
      go_region
      go_wp2_with (first
        | (go_at_call 65; refine HS.out.mono ?_; rintro e w5 ⟨rfl, hr5, ht5⟩; have HR5 := Lib.hid hr5; have HT5 := Lib.hid ht5; clear hr5 ht5)
        | (go_at_call 51; refine HP.out.mono ?_; rintro e w3 ⟨ht3, ⟨s3, hs3, hr3⟩, v3, M3, rfl, hN3, hM3⟩
           have k1 : w3.cell? ⟨X, 1, none⟩ = some (.int .i64 ((op : Int) + 1)) := by have := hr3.cell 1; simpa using this
           have l1 := hr3.frozen 1
           have hR4 : Rdr (w3.setCell ⟨X, 1, none⟩ (.int .i64 (op : Int))) X y op (max D (op + 1 + d)) := ⟨s3, hs3, by simpa using hr3.setAt 1 (.int .i64 (op : Int))⟩
           have HS := Lib.hid (skip_prog hR4 ⟨#[41]⟩)
           simp only [HD2, ha, Bool.false_eq_true, if_false, if_true] at HS
           have HX3 := Lib.hid (show ∀ k ∈ M3, k ≠ X from fun k hk e => by have h1 := hM3 k hk; have h2 := HR2.out.lt; omega)
           have HN3 := Lib.hid hN3
           have HM3 := Lib.hid hM3
           have HR4 := Lib.hid hR4
           have HT3 := Lib.hid ht3
           clear hr3 hs3 ht3 hR4 hN3 hM3))
      go_ret2
      rw [HQ.out]
    · exact ⟨((HT2.out.trans HT3.out).set (p := ⟨X, 1, none⟩) (.inl rfl) _).trans HT5.out, HR5.out.any, _, rfl⟩
    · refine ⟨((HT2.out.trans HT3.out).set (p := ⟨X, 1, none⟩) (.inl rfl) _).trans HT5.out, ?_, v3, M3, rfl, ?_, ?_⟩
      · rw [show max dp (op + (d + 1)) = max D (op + 1 + d) by rw [HE.out]; omega]
        exact HR5.out
      · exact HN3.out.keep fun k hk => (HT5.out.block k (by have := HN3.out.lt k hk; simpa [World.setCell] using this) (HX3.out k hk) (HX3.out k hk)).trans (Below.heap_setCell w3 ⟨X, 1, none⟩ _ k (HX3.out k hk))
      · intro k hk
        exact Nat.le_trans HT2.out.size (HM3.out k hk)

set_option maxHeartbeats 1000000 in
theorem piece_prog {n m : Nat} (ha : Reads 83 (atomM n) m) : Reads 75 (pieceM (n + 1)) m := by
  intro w X x op dp h hod hopx hm
  have HA := Lib.hid (ha w X x op dp h hod hopx hm)
  have hX := h.lt
  have HD1 : ∀ z, aheadM (strL ⟨#[42]⟩) z = aheadM [42] z := fun _ => rfl
  have HD2 : ∀ z, aheadM (strL ⟨#[43]⟩) z = aheadM [43] z := fun _ => rfl
  have HD3 : ∀ z, aheadM (strL ⟨#[63]⟩) z = aheadM [63] z := fun _ => rfl
  clear h
  cases hq : atomM n x with
  | none =>
    have HN := Lib.hid (show pieceM (n + 1) x = none by simp only [pieceM, hq])
    rw [hq] at HA
    go_enter Try.func75, Try.ntmps75
    go_wp2_with (go_at_call 83; refine HA.out.mono ?_; rintro e w3 ⟨ht3, hr3, v3, rfl⟩)
    go_ret2
    rw [HN.out]
    exact ⟨ht3, hr3, _, rfl⟩
  | some q =>
    obtain ⟨r, y, d⟩ := q
    rw [hq] at HA
    have HQ := Lib.hid (show pieceM (n + 1) x = (if aheadM [42] y then some (.rep r true true, y.tail, d) else if aheadM [43] y then some (.rep r false true, y.tail, d) else if aheadM [63] y then some (.rep r true false, y.tail, d) else some (r, y, d)) by simp only [pieceM, hq])
    clear hq
    cases h1 : aheadM [42] y
    · cases h2 : aheadM [43] y
      · cases h3 : aheadM [63] y
        all_goals
          rw [h1, h2, h3] at HQ
          go_enter Try.func75, Try.ntmps75
          go_wp2_with (first
            | (go_at_call 65; refine HS3.out.mono ?_; rintro e w6 ⟨rfl, hr6, ht6⟩; have HR6 := Lib.hid hr6; have HT6 := Lib.hid (HT5.out.trans ht6); clear hr6 ht6)
            | (go_at_call 65; refine HS2.out.mono ?_; rintro e w5 ⟨rfl, hr5, ht5⟩
               have HS3 := Lib.hid (skip_prog hr5 ⟨#[63]⟩)
               simp only [HD3, h3, Bool.false_eq_true, if_false, if_true] at HS3
               have HT5 := Lib.hid (HT4.out.trans ht5); clear hr5 ht5)
            | (go_at_call 65; refine HS1.out.mono ?_; rintro e w4 ⟨rfl, hr4, ht4⟩
               have HS2 := Lib.hid (skip_prog hr4 ⟨#[43]⟩)
               simp only [HD2, h2, Bool.false_eq_true, if_false] at HS2
               have HT4 := Lib.hid ht4; clear hr4 ht4)
            | (go_at_call 83; refine HA.out.mono ?_; rintro e w3 ⟨ht3, hr3, v3, M3, rfl, hN3, hM3⟩
               obtain ⟨T3, y3, rfl⟩ := node_form hN3
               have HS1 := Lib.hid (skip_prog hr3 ⟨#[42]⟩)
               simp only [HD1, h1, Bool.false_eq_true, if_false] at HS1
               have HN3 := Lib.hid hN3
               have HM3 := Lib.hid hM3
               have HT3 := Lib.hid ht3
               clear hr3 ht3 hN3 hM3))
          go_ret2
          rw [HQ.out]
        · exact ⟨HT3.out.trans HT6.out, HR6.out, _, M3, rfl, HN3.out.two HT6.out HM3.out hX, HM3.out⟩
        · refine ⟨HT3.out.trans HT6.out, HR6.out, _, M3, rfl, ?_, HM3.out⟩
          simp only [NodeAt]
          exact ⟨_, rfl, HN3.out.two HT6.out HM3.out hX⟩
      · rw [h1, h2] at HQ
        go_enter Try.func75, Try.ntmps75
        go_wp2_with (first
          | (go_at_call 65; refine HS2.out.mono ?_; rintro e w5 ⟨rfl, hr5, ht5⟩; have HR5 := Lib.hid hr5; have HT5 := Lib.hid (HT4.out.trans ht5); clear hr5 ht5)
          | (go_at_call 65; refine HS1.out.mono ?_; rintro e w4 ⟨rfl, hr4, ht4⟩
             have HS2 := Lib.hid (skip_prog hr4 ⟨#[43]⟩)
             simp only [HD2, h2, if_true] at HS2
             have HT4 := Lib.hid ht4; clear hr4 ht4)
          | (go_at_call 83; refine HA.out.mono ?_; rintro e w3 ⟨ht3, hr3, v3, M3, rfl, hN3, hM3⟩
             obtain ⟨T3, y3, rfl⟩ := node_form hN3
             have HS1 := Lib.hid (skip_prog hr3 ⟨#[42]⟩)
             simp only [HD1, h1, Bool.false_eq_true, if_false] at HS1
             have HN3 := Lib.hid hN3
             have HM3 := Lib.hid hM3
             have HT3 := Lib.hid ht3
             clear hr3 ht3 hN3 hM3))
        go_ret2
        rw [HQ.out]
        refine ⟨HT3.out.trans HT5.out, HR5.out, _, M3, rfl, ?_, HM3.out⟩
        simp only [NodeAt]
        exact ⟨_, rfl, HN3.out.two HT5.out HM3.out hX⟩
    · rw [h1] at HQ
      go_enter Try.func75, Try.ntmps75
      go_wp2_with (first
        | (go_at_call 65; refine HS1.out.mono ?_; rintro e w4 ⟨rfl, hr4, ht4⟩; have HR4 := Lib.hid hr4; have HT4 := Lib.hid ht4; clear hr4 ht4)
        | (go_at_call 83; refine HA.out.mono ?_; rintro e w3 ⟨ht3, hr3, v3, M3, rfl, hN3, hM3⟩
           obtain ⟨T3, y3, rfl⟩ := node_form hN3
           have HS1 := Lib.hid (skip_prog hr3 ⟨#[42]⟩)
           simp only [HD1, h1, if_true] at HS1
           have HN3 := Lib.hid hN3
           have HM3 := Lib.hid hM3
           have HT3 := Lib.hid ht3
           clear hr3 ht3 hN3 hM3))
      go_ret2
      rw [HQ.out]
      refine ⟨HT3.out.trans HT4.out, HR4.out, _, M3, rfl, ?_, HM3.out⟩
      simp only [NodeAt]
      exact ⟨_, rfl, HN3.out.two HT4.out HM3.out hX⟩
end Go.Proofs.Ytjljfilflajogaa
