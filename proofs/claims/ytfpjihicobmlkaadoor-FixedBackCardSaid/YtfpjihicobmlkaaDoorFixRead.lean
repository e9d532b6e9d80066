/- Layer 3: Parse: the number of a text, or why it is none. -/
import Derived.Test.YtfpjihicobmlkaaDoorFixParse
namespace Go.Proofs.YtfpjihicobmlkaaDoor
open Go.RowKit
set_option linter.unusedVariables false

def parseV (l : List UInt8) : Int := if goodB' l then tellV (negB l) (partsN l) else 0
def parseE (l : List UInt8) : Int := if goodB' l then tellE (partsN l) else 14
theorem parse_bad {l : List UInt8} (h : goodB' l = false) : parseV l = 0 ∧ parseE l = 14 := by
  unfold parseV parseE
  simp [h]
theorem tell_sat (b : Bool) (l : List UInt8) : tellV b (sat 0 l) = tellV b (exact 0 l) ∧ tellE (sat 0 l) = tellE (exact 0 l) := by
  obtain ⟨h1, h2⟩ := satB_exact 1152921504606846976 l 0
  by_cases h : sat 0 l ≤ 1152921504606846976
  · have e : sat 0 l = exact 0 l := h1 h
    rw [e]
    exact ⟨rfl, rfl⟩
  · have hx : ¬ exact 0 l ≤ 1152921504606846976 := Nat.not_le.2 (h2 (Nat.not_le.1 h))
    unfold tellV tellE
    simp only [if_neg h, if_neg hx]
    exact ⟨trivial, trivial⟩
theorem parse_good {l : List UInt8} (h : goodB' l = true) : parseV l = tellV (negB l) (sat 0 (ahead (bare l) ++ pad 6 (behind (bare l)))) ∧ parseE l = tellE (sat 0 (ahead (bare l) ++ pad 6 (behind (bare l)))) := by
  obtain ⟨h1, h2⟩ := tell_sat (negB l) (ahead (bare l) ++ pad 6 (behind (bare l)))
  unfold parseV parseE partsN
  rw [h1, h2]
  simp [h]

theorem bare_length (l : List UInt8) : (bare l).length ≤ l.length := by
  unfold bare
  split <;> simp
theorem ahead_length (l : List UInt8) : (ahead l).length ≤ l.length := by
  induction l with
  | nil => simp [ahead]
  | cons c r ih =>
    unfold ahead
    split
    · simp
    · simp
      omega
theorem behind_length (l : List UInt8) : (behind l).length ≤ l.length := by
  induction l with
  | nil => simp [behind]
  | cons c r ih =>
    unfold behind
    split <;> simp
    omega

/-- What a text must be, as the program asks it. -/
theorem parse_walk (s : ByteArray) (w : World) (hs : s.size ≤ 140737488351232) (N P W B D : Bool) (A T b : ByteArray) (V E : Int) (S : Nat)
    (H1 : Calls Tryd.prog 38 #[.string s, .string { data := #[45] }] w fun e w' => e = .returned (.tuple #[.string T, .bool N]) ∧ w = w')
    (H2 : ∀ w, Calls Tryd.prog 39 #[.string T, .string { data := #[46] }] w fun e w' => e = .returned (.tuple #[.string A, .string b, .bool P]) ∧ Below w.heap.size w w')
    (H3 : ∀ w, Calls Tryd.prog 40 #[.string A] w fun e w' => e = .returned (.bool W) ∧ w = w')
    (H4 : ∀ w, Calls Tryd.prog 41 #[.string b] w fun e w' => e = .returned (.bool B) ∧ w = w')
    (H5 : W = true → (P = true → B = true) → ∀ w, Calls Tryd.prog 42 #[.string A, .string b] w fun e w' => e = .returned (.int .u64 (S : Int)) ∧ Below w.heap.size w w')
    (HD : (s.toList == [45, 48]) = D) (hSb : S ≤ 18446744073709551615)
    (hg : W = true → (P = true → B = true) → D = false → V = tellV N S ∧ E = tellE S) (hb : ¬ (W = true ∧ (P = true → B = true) ∧ D = false) → V = 0 ∧ E = 14) :
    Calls Tryd.prog 28 #[.string s] w fun e w' => e = .returned (.tuple #[.int .i64 V, .int .i64 E]) ∧ Below w.heap.size w w' := by
  cases hW : W
  · subst hW
    obtain ⟨rfl, rfl⟩ := hb (by simp)
    clear H5 hg hb HD
    go_enter Tryd.func28, Tryd.ntmps28
    go_wp2_with fail
    refine H1.mono ?_
    rintro e w1 ⟨rfl, rfl⟩
    go_wp2_with fail
    refine (H2 w).mono ?_
    rintro e w1 ⟨rfl, hb1⟩
    go_wp2_with fail
    refine (H3 w1).mono ?_
    rintro e w2 ⟨rfl, rfl⟩
    go_wp2
    go_ret2
    exact ⟨rfl, hb1⟩
  · subst hW
    by_cases hPB : P = true ∧ B = false
    · obtain ⟨rfl, rfl⟩ := hPB
      obtain ⟨rfl, rfl⟩ := hb (by simp)
      clear H5 hg hb HD
      go_enter Tryd.func28, Tryd.ntmps28
      go_wp2_with fail
      refine H1.mono ?_
      rintro e w1 ⟨rfl, rfl⟩
      go_wp2_with fail
      refine (H2 w).mono ?_
      rintro e w1 ⟨rfl, hb1⟩
      go_wp2_with fail
      refine (H3 w1).mono ?_
      rintro e w2 ⟨rfl, rfl⟩
      go_wp2_with fail
      refine (H4 w1).mono ?_
      rintro e w2 ⟨rfl, rfl⟩
      go_wp2
      go_ret2
      exact ⟨rfl, hb1⟩
    · have hPB' : P = true → B = true := fun hp => by
        cases hB : B
        · exact absurd ⟨hp, hB⟩ hPB
        · rfl
      cases hD : D
      · subst hD
        obtain ⟨rfl, rfl⟩ := hg rfl hPB' rfl
        have HP := H5 rfl hPB'
        clear H5 hg hb
        cases hP : P
        · subst hP
          clear hPB hPB' H4
          go_enter Tryd.func28, Tryd.ntmps28
          go_wp2_with fail
          refine H1.mono ?_
          rintro e w1 ⟨rfl, rfl⟩
          go_wp2_with fail
          refine (H2 w).mono ?_
          rintro e w1 ⟨rfl, hb1⟩
          go_wp2_with fail
          refine (H3 w1).mono ?_
          rintro e w2 ⟨rfl, rfl⟩
          go_wp2_with fail
          refine (teller_prog N w1).mono ?_
          rintro e w2 ⟨rfl, rfl⟩
          go_wp2_with fail
          refine (HP _).mono ?_
          rintro e w2 ⟨rfl, hb2⟩
          go_wp2_with fail
          refine (told_prog N S ⟨w1.heap.size, 0, none⟩ w2 hSb ?_).mono ?_
          · exact (hb2.cell (p := ⟨w1.heap.size, 0, none⟩) (by simp)).trans (by rw [World.cell?_alloc_new]; rfl)
          rintro e w3 ⟨rfl, rfl⟩
          go_wp2
          go_ret2
          exact ⟨rfl, below_then hb1 (below_then (below_one _ _) hb2)⟩
        · subst hP
          have hB := hPB' rfl
          subst hB
          clear hPB hPB'
          go_enter Tryd.func28, Tryd.ntmps28
          go_wp2_with fail
          refine H1.mono ?_
          rintro e w1 ⟨rfl, rfl⟩
          go_wp2_with fail
          refine (H2 w).mono ?_
          rintro e w1 ⟨rfl, hb1⟩
          go_wp2_with fail
          refine (H3 w1).mono ?_
          rintro e w2 ⟨rfl, rfl⟩
          go_wp2_with fail
          refine (H4 w1).mono ?_
          rintro e w2 ⟨rfl, rfl⟩
          go_wp2_with fail
          refine (teller_prog N w1).mono ?_
          rintro e w2 ⟨rfl, rfl⟩
          go_wp2_with fail
          refine (HP _).mono ?_
          rintro e w2 ⟨rfl, hb2⟩
          go_wp2_with fail
          refine (told_prog N S ⟨w1.heap.size, 0, none⟩ w2 hSb ?_).mono ?_
          · exact (hb2.cell (p := ⟨w1.heap.size, 0, none⟩) (by simp)).trans (by rw [World.cell?_alloc_new]; rfl)
          rintro e w3 ⟨rfl, rfl⟩
          go_wp2
          go_ret2
          exact ⟨rfl, below_then hb1 (below_then (below_one _ _) hb2)⟩
      · subst hD
        obtain ⟨rfl, rfl⟩ := hb (by simp)
        clear H5 hg hb
        cases hP : P
        · subst hP
          clear hPB hPB' H4
          go_enter Tryd.func28, Tryd.ntmps28
          go_wp2_with fail
          refine H1.mono ?_
          rintro e w1 ⟨rfl, rfl⟩
          go_wp2_with fail
          refine (H2 w).mono ?_
          rintro e w1 ⟨rfl, hb1⟩
          go_wp2_with fail
          refine (H3 w1).mono ?_
          rintro e w2 ⟨rfl, rfl⟩
          go_wp2
          go_ret2
          exact ⟨rfl, hb1⟩
        · subst hP
          have hB := hPB' rfl
          subst hB
          clear hPB hPB'
          go_enter Tryd.func28, Tryd.ntmps28
          go_wp2_with fail
          refine H1.mono ?_
          rintro e w1 ⟨rfl, rfl⟩
          go_wp2_with fail
          refine (H2 w).mono ?_
          rintro e w1 ⟨rfl, hb1⟩
          go_wp2_with fail
          refine (H3 w1).mono ?_
          rintro e w2 ⟨rfl, rfl⟩
          go_wp2_with fail
          refine (H4 w1).mono ?_
          rintro e w2 ⟨rfl, rfl⟩
          go_wp2
          go_ret2
          exact ⟨rfl, hb1⟩

theorem parse_prog (s : ByteArray) (w : World) (hs : s.size ≤ 140737488351232) :
    Calls Tryd.prog 28 #[.string s] w fun e w' => e = .returned (.tuple #[.int .i64 (parseV (txl s)), .int .i64 (parseE (txl s))]) ∧ Below w.heap.size w w' := by
  have l0 := txl_length s
  have l1 := bare_length (txl s)
  have l2 := ahead_length (bare (txl s))
  have l3 := behind_length (bare (txl s))
  have HC : Calls Tryd.prog 38 #[.string s, .string { data := #[45] }] w fun e w' => e = .returned (.tuple #[.string (txt (bare (txl s))), .bool (negB (txl s))]) ∧ w = w' :=
    (Tryd.strings_CutPrefix s { data := #[45] } w).mono fun e w' ⟨h1, h2⟩ => ⟨h1, h2.symm⟩
  have hcut := fun w => cut_prog (txt (bare (txl s))) w (by rw [txt_size']; omega)
  rw [txl_txt] at hcut
  have hwh := fun w => whole_prog (txt (ahead (bare (txl s)))) w (by rw [txt_size']; omega)
  rw [txl_txt] at hwh
  have hbh := fun w => behind_is_prog (txt (behind (bare (txl s)))) w (by rw [txt_size']; omega)
  rw [txl_txt] at hbh
  have hD : (s.toList == [45, 48]) = decide (txl s = [45, 48]) := by
    rw [ByteArray.toList_eq, Bool.eq_iff_iff, beq_iff_eq, decide_eq_true_iff]
    exact Iff.rfl
  have hdig : wholeB (ahead (bare (txl s))) = true → (pointed (bare (txl s)) = true → behindB (behind (bare (txl s))) = true) → (ahead (bare (txl s))).all isDig = true ∧ (behind (bare (txl s))).all isDig = true ∧ (behind (bare (txl s))).length ≤ 6 := by
    intro h1 h2
    refine ⟨(whole_digs h1).2, ?_⟩
    cases hp : pointed (bare (txl s))
    · have : behind (bare (txl s)) = [] := (cut_none _ (by simpa [pointed] using hp)).2.1
      rw [this]
      simp
    · obtain ⟨_, b2, b3, _⟩ := digs_behind (h2 hp)
      exact ⟨b2, b3⟩
  by_cases hok : wholeB (ahead (bare (txl s))) = true ∧ (pointed (bare (txl s)) = true → behindB (behind (bare (txl s))) = true)
  · obtain ⟨d1, d2, d3⟩ := hdig hok.1 hok.2
    refine parse_walk s w hs _ _ _ _ _ _ _ _ _ _ (sat 0 (ahead (bare (txl s)) ++ pad 6 (behind (bare (txl s))))) HC hcut hwh hbh (fun _ _ w => ?_) hD ?_ ?_ ?_
    · have := parts_prog (txt (ahead (bare (txl s)))) (txt (behind (bare (txl s)))) w (by rw [txt_size']; omega) (by rw [txt_size']; exact d3) (by rw [txl_txt]; exact d1) (by rw [txl_txt]; exact d2)
      rw [txl_txt, txl_txt] at this
      exact this
    · have := sat_le (ahead (bare (txl s)) ++ pad 6 (behind (bare (txl s)))) 0 (by rw [List.all_append, d1, pad_digs d2]; rfl) (by omega)
      omega
    · intro h1 h2 h3
      refine parse_good ?_
      unfold goodB'
      rw [h1]
      have h4 : (!pointed (bare (txl s)) || behindB (behind (bare (txl s)))) = true := by
        cases hp : pointed (bare (txl s))
        · rfl
        · rw [h2 hp]; rfl
      rw [h4]
      simpa using h3
    · intro h
      refine parse_bad ?_
      have h3 : txl s = [45, 48] := by
        by_cases h3 : txl s = [45, 48]
        · exact h3
        · exact absurd ⟨hok.1, hok.2, decide_eq_false h3⟩ h
      unfold goodB'
      rw [h3]
      simp
  · refine parse_walk s w hs _ _ _ _ _ _ _ _ _ _ 0 HC hcut hwh hbh (fun h1 h2 => absurd ⟨h1, h2⟩ hok) hD (by omega) (fun h1 h2 => absurd ⟨h1, h2⟩ hok) (fun _ => parse_bad ?_)
    unfold goodB'
    cases h1 : wholeB (ahead (bare (txl s)))
    · rfl
    · cases hp : pointed (bare (txl s))
      · exact absurd ⟨h1, fun h => by rw [hp] at h; cases h⟩ hok
      · cases hb : behindB (behind (bare (txl s)))
        · rfl
        · exact absurd ⟨h1, fun _ => hb⟩ hok
end Go.Proofs.YtfpjihicobmlkaaDoor
