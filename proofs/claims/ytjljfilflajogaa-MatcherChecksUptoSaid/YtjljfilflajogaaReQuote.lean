/- Which bytes are plain; a text that is quoted; the text of a plain pattern. -/
import Derived.Test.YtjljfilflajogaaReFits
import Derived.Test.YtjljfilflajogaaReParse5
import Derived.Test.YtjljfilflajogaaShelf
import Derived.Lib.IndexAny
import Derived.BigRegion
import Derived.OwnWalk
namespace Go.Proofs.Ytjljfilflajogaa
open Go.RowKit
set_option linter.unusedVariables false

theorem row_byte {w : World} {g : Nat} {c : UInt8} (h : Row w g 5 #[.int .u8 (c.toNat : Int)]) : Bys w (some ⟨g, 0, none⟩) [c] := Row.bys (l := [c]) h
theorem plain_prog (c : UInt8) (w : World) : Calls Try.prog 40 #[.int .u8 (c.toNat : Int)] w fun e w' => e = .returned (.bool (!marksL.contains c)) ∧ w' = w := by
  have HC := Lib.hid (fun W => Try.strings_IndexByte ⟨#[92, 40, 41, 91, 93, 124, 42, 43, 63, 46]⟩ (c.toNat : Int) W)
  have HI := Lib.hid (show decide (Lib.indexByte (⟨#[92, 40, 41, 91, 93, 124, 42, 43, 63, 46]⟩ : ByteArray).data.toList c < 0) = !marksL.contains c by
    have h : (decide ((0 : Int) ≤ Lib.indexByte (⟨#[92, 40, 41, 91, 93, 124, 42, 43, 63, 46]⟩ : ByteArray).data.toList c)) = marksL.contains c := (Lib.contains_iff_indexByte _ _).symm
    rw [← h, Bool.eq_iff_iff]
    simp)
  go_enter Try.func40, Try.ntmps40
  go_wp2_with (go_at_call 57; refine (HC.out _).mono ?_; rintro e w1 ⟨rfl, rfl⟩)
  go_ret
  exact ⟨by rw [← HI.out]; rfl, rfl⟩
def quoteB (c : UInt8) : List UInt8 := if marksL.contains c then [92, c] else [c]
theorem quote_snoc (s : ByteArray) {k : Nat} (h : k < s.size) : quoteL ((strL s).take (k + 1)) = quoteL ((strL s).take k) ++ quoteB s[k] := by
  rw [List.take_add_one, strG s h]
  unfold quoteL
  rw [List.flatMap_append]
  simp [quoteB]
theorem quote_le (l : List UInt8) : (quoteL l).length ≤ 2 * l.length := by
  induction l with
  | nil => simp [quoteL]
  | cons c l ih =>
    rw [quote_cons, List.length_append, List.length_cons]
    split <;> simp <;> omega
theorem quote_prog (s : ByteArray) (w : World) (hs : s.size ≤ 105553116266496) :
    Calls Try.prog 21 #[.string s] w fun e w' => e = .returned (.string (txt (quoteL (strL s)))) ∧ Below w.heap.size w w' := by
  have HL := Lib.hid (strL_length s)
  go_enter Try.func21, Try.ntmps21
  go_wp2_with fail
  go_loopw [3, 7] (fun v i wr => ∃ k : Nat, k ≤ s.size ∧ i = .int .i64 (k : Int) ∧ Own wr w.heap.size v (quoteL ((strL s).take k)) ∧ Below w.heap.size w wr) (fun _ i _ => s.size - (intOf i).toNat)
  case atStart => exact ⟨0, Nat.zero_le _, rfl, by simpa [quoteL] using own_nil w w.heap.size, Below.refl _ _⟩
  case round =>
    obtain ⟨k, hk, rfl, ho, hbr⟩ := hrel
    have hle := quote_le ((strL s).take k)
    rw [List.length_take, HL.out, Nat.min_eq_left hk] at hle
    have hsz := hbr.size
    by_cases hlt : k < s.size
    · have HT := Lib.hid (quote_snoc s hlt)
      have HP := Lib.hid (plain_prog s[k] wr)
      generalize quoteL ((strL s).take k) = y at ho HT hle
      obtain ⟨B, d, rfl, _, _⟩ := own_slice' ho
      have HO := Lib.hid ho
      have HB := Lib.hid hbr
      clear ho hbr
      cases hm : marksL.contains s[k]
      · rw [hm] at HP
        unfold quoteB at HT
        rw [hm] at HT
        have hn1 : y.length + [s[k]].length ≤ 211106232532992 := by simp; omega
        have HN := Lib.hid hn1
        clear hm hn1
        go_wp2_with (first
          | (go_at_call 40; refine HP.out.mono ?_; rintro e w1 ⟨rfl, rfl⟩)
          | (at_builtin; refine app_u8 rfl (.tmp 18) (.tmp 22) rfl w.heap.size _ y rfl (own_alloc HO.out _) _ [s[k]] 1 rfl (row_byte (Row.new _ _ _)) HN.out (Nat.le_trans hsz (by simp)) ?_; intro v1 w1 hown1 hb1 _; have HO1 := Lib.hid hown1; have HB1 := Lib.hid ((HB.out.alloc hsz _).trans hb1); clear hown1 hb1))
        go_roundw
        case rel => exact ⟨k + 1, by omega, by go_num, by rw [HT.out]; exact HO1.out, HB1.out⟩
        case measure => simp [intOf]; omega
      · rw [hm] at HP
        unfold quoteB at HT
        rw [hm] at HT
        have hn1 : y.length + [92].length ≤ 211106232532992 := by simp; omega
        have hn2 : (y ++ [92]).length + [s[k]].length ≤ 211106232532992 := by simp; omega
        have HN := Lib.hid hn1
        have HN2 := Lib.hid hn2
        clear hm hn1 hn2
        go_wp2_with (first
          | (go_at_call 40; refine HP.out.mono ?_; rintro e w1 ⟨rfl, rfl⟩)
          | (at_builtin; refine app_u8 rfl (.tmp 18) (.tmp 22) rfl w.heap.size _ (y ++ [92]) rfl (own_alloc HO2.out _) _ [s[k]] 1 rfl (row_byte (Row.new _ _ _)) HN2.out (Nat.le_trans hs2 (by simp)) ?_; intro v3 w3 hown3 hb3 _; have HO3 := Lib.hid hown3; have HB3 := Lib.hid ((HB2.out.alloc hs2 _).trans hb3); clear hown3 hb3)
          | (at_builtin; refine app_u8 rfl (.tmp 15) (.tmp 16) rfl w.heap.size _ y rfl (own_alloc HO.out _) _ [92] 1 rfl (row_byte (c := 92) (Row.new _ _ _)) HN.out (Nat.le_trans hsz (by simp)) ?_; intro v2 w2 hown2 hb2 _
             obtain ⟨B2, d2, hv2, _, _⟩ := own_slice' hown2
             generalize hl2 : (y ++ [92]).length = l2 at hv2
             subst hv2
             have HO2 := Lib.hid hown2; have HB2 := Lib.hid ((HB.out.alloc hsz _).trans hb2); have hs2 := HB2.out.size; clear hown2 hb2))
        go_roundw
        case rel => exact ⟨k + 1, by omega, by go_num, by rw [HT.out]; simpa using HO3.out, HB3.out⟩
        case measure => simp [intOf]; omega
    · obtain rfl : k = s.size := by omega
      rw [List.take_of_length_le (by rw [HL.out]; exact Nat.le_refl _)] at ho
      obtain ⟨B, d, hv, hB, _⟩ := own_slice' ho
      have c2 := conv_bys wr B (quoteL (strL s)) d hB
      rw [← hv] at c2
      have HB := Lib.hid hbr
      clear ho hB hv
      go_wp2_with fail
      go_ret
      exact ⟨rfl, HB.out⟩
def litV (q : Option (List UInt8)) : Value := match q with | none => .tuple #[.string ⟨#[]⟩, .bool false] | some l => .tuple #[.string (txt l), .bool true]
theorem lit_step (s : ByteArray) {k : Nat} (h : k < s.size) : litM ((strL s).drop k) = if s[k] = 92 then (if h2 : k + 1 < s.size then (if marksL.contains s[k + 1] then (litM ((strL s).drop (k + 2))).map (s[k + 1] :: ·) else none) else none) else if marksL.contains s[k] then none else (litM ((strL s).drop (k + 1))).map (s[k] :: ·) := by
  have hl := strL_length s
  have e : ∀ {j : Nat} (hj : j < s.size), (strL s).drop j = s[j] :: (strL s).drop (j + 1) := fun hj => drop_at (strG s hj)
  rw [e h, litM.eq_def]
  simp only
  split
  · split
    · rename_i h2
      have h3 : ¬ k + 1 < s.size := fun hh => by rw [e hh] at h2; cases h2
      rw [dif_neg h3]
    · rename_i c2 t2 h2
      by_cases hh : k + 1 < s.size
      · rw [e hh] at h2
        simp only [List.cons.injEq] at h2
        obtain ⟨rfl, rfl⟩ := h2
        rw [dif_pos hh]
      · rw [List.drop_eq_nil_of_le (by omega)] at h2
        cases h2
  · rfl
theorem literal_prog (s : ByteArray) (w : World) (hs : s.size ≤ 105553116266496) :
    Calls Try.prog 22 #[.string s] w fun e w' => e = .returned (litV (litM (strL s))) ∧ Below w.heap.size w w' := by
  have HL := Lib.hid (strL_length s)
  go_enter Try.func22, Try.ntmps22
  go_wp2_with fail
  go_loopw [4, 5] (fun v i wr => ∃ (k : Nat) (y : List UInt8), k ≤ s.size ∧ y.length ≤ k ∧ i = .int .i64 (k : Int) ∧ Own wr w.heap.size v y ∧ litM (strL s) = (litM ((strL s).drop k)).map (y ++ ·) ∧ Below w.heap.size w wr) (fun _ i _ => s.size - (intOf i).toNat)
  case atStart => exact ⟨0, [], Nat.zero_le _, Nat.le_refl _, rfl, own_nil w w.heap.size, by simp, Below.refl _ _⟩
  case round =>
    obtain ⟨k, y, hk, hy, rfl, ho, hq, hbr⟩ := hrel
    have hsz := hbr.size
    obtain ⟨B, d, rfl, hB, _⟩ := own_slice' ho
    by_cases hlt : k < s.size
    · have hst := lit_step s hlt
      have HO := Lib.hid ho
      have HB := Lib.hid hbr
      have hn1 : y.length + [s[k]].length ≤ 211106232532992 := by simp; omega
      have HN := Lib.hid hn1
      clear ho hbr hn1 hB
      by_cases h92 : s[k] = 92
      · rw [if_pos h92] at hst
        have i1 : ((s[k].toNat : Int) == 92) = true := by rw [h92]; rfl
        by_cases h2 : k + 1 < s.size
        · rw [dif_pos h2] at hst
          have hn2 : y.length + [s[k + 1]].length ≤ 211106232532992 := by simp; omega
          have HN2 := Lib.hid hn2
          have HP := Lib.hid (plain_prog s[k + 1] wr)
          have j1 : (((k : Int) + 1) == (s.size : Int)) = false := by rw [beq_eq_false_iff_ne]; omega
          cases hm : marksL.contains s[k + 1]
          · rw [hm] at hst HP
            have HV := Lib.hid (show litV (litM (strL s)) = .tuple #[.string ⟨#[]⟩, .bool false] by rw [hq, hst]; rfl)
            clear hst hq hm hn2
            go_wp2_with (go_at_call 40; refine HP.out.mono ?_; rintro e w1 ⟨rfl, rfl⟩)
            go_ret2
            rw [HV.out]
            exact ⟨rfl, HB.out⟩
          · rw [hm] at hst HP
            have HV := Lib.hid (show litM (strL s) = (litM ((strL s).drop (k + 2))).map ((y ++ [s[k + 1]]) ++ ·) by rw [hq, hst]; cases litM ((strL s).drop (k + 2)) <;> simp)
            clear hst hq hm hn2
            go_wp2_with (first
              | (go_at_call 40; refine HP.out.mono ?_; rintro e w1 ⟨rfl, rfl⟩)
              | (at_builtin; refine app_u8 rfl (.tmp 32) (.tmp 36) rfl w.heap.size _ y rfl (own_alloc HO.out _) _ [s[k + 1]] 1 rfl (row_byte (Row.new _ _ _)) HN2.out (Nat.le_trans hsz (by simp)) ?_; intro v1 w1 hown1 hb1 _; have HO1 := Lib.hid hown1; have HB1 := Lib.hid ((HB.out.alloc hsz _).trans hb1); clear hown1 hb1))
            go_roundw
            case rel => exact ⟨k + 2, y ++ [s[k + 1]], by omega, by simp; omega, by go_num, HO1.out, HV.out, HB1.out⟩
            case measure => simp [intOf]; omega
        · rw [dif_neg h2] at hst
          have j1 : (((k : Int) + 1) == (s.size : Int)) = true := by rw [beq_iff_eq]; omega
          have HV := Lib.hid (show litV (litM (strL s)) = .tuple #[.string ⟨#[]⟩, .bool false] by rw [hq, hst]; rfl)
          clear hst hq
          go_wp2_with fail
          go_ret2
          rw [HV.out]
          exact ⟨rfl, HB.out⟩
      · rw [if_neg h92] at hst
        have i1 : ((s[k].toNat : Int) == 92) = false := by
          rw [beq_eq_false_iff_ne]
          intro e
          exact h92 (UInt8.toNat_inj.1 (by have h9 : (92 : UInt8).toNat = 92 := rfl; omega))
        have j1 : ((k : Int) == (s.size : Int)) = false := by rw [beq_eq_false_iff_ne]; omega
        have HP := Lib.hid (plain_prog s[k] wr)
        cases hm : marksL.contains s[k]
        · rw [hm] at hst HP
          have HV := Lib.hid (show litM (strL s) = (litM ((strL s).drop (k + 1))).map ((y ++ [s[k]]) ++ ·) by rw [hq, hst]; cases litM ((strL s).drop (k + 1)) <;> simp)
          clear hst hq hm
          go_wp2_with (first
            | (go_at_call 40; refine HP.out.mono ?_; rintro e w1 ⟨rfl, rfl⟩)
            | (at_builtin; refine app_u8 rfl (.tmp 32) (.tmp 36) rfl w.heap.size _ y rfl (own_alloc HO.out _) _ [s[k]] 1 rfl (row_byte (Row.new _ _ _)) HN.out (Nat.le_trans hsz (by simp)) ?_; intro v1 w1 hown1 hb1 _; have HO1 := Lib.hid hown1; have HB1 := Lib.hid ((HB.out.alloc hsz _).trans hb1); clear hown1 hb1))
          go_roundw
          case rel => exact ⟨k + 1, y ++ [s[k]], by omega, by simp; omega, by go_num, HO1.out, HV.out, HB1.out⟩
          case measure => simp [intOf]; omega
        · rw [hm] at hst HP
          have HV := Lib.hid (show litV (litM (strL s)) = .tuple #[.string ⟨#[]⟩, .bool false] by rw [hq, hst]; rfl)
          clear hst hq hm
          go_wp2_with (go_at_call 40; refine HP.out.mono ?_; rintro e w1 ⟨rfl, rfl⟩)
          go_ret2
          rw [HV.out]
          exact ⟨rfl, HB.out⟩
    · obtain rfl : k = s.size := by omega
      have HV := Lib.hid (show litV (litM (strL s)) = .tuple #[.string (txt y), .bool true] by
        rw [hq, List.drop_eq_nil_of_le (by rw [HL.out]; exact Nat.le_refl _)]
        simp [litM, litV])
      have c2 := conv_bys wr B y d hB
      have HB := Lib.hid hbr
      clear ho hB hq hbr
      go_wp2_with fail
      go_ret2
      rw [HV.out]
      exact ⟨rfl, HB.out⟩
end Go.Proofs.Ytjljfilflajogaa
