/- A text goes through a tree: fits, as fitsM; what a constant's bytes are. -/
import Derived.Test.YtjljfilflajogaaReFeed2
import Derived.Test.YtjljfilflajogaaAppStr
namespace Go.Proofs.Ytjljfilflajogaa
open Go.RowKit
set_option linter.unusedVariables false

theorem strG (s : ByteArray) {k : Nat} (h : k < s.size) : (strL s)[k]? = some s[k] := by
  rw [List.getElem?_eq_getElem (by rw [strL_length]; exact h)]
  rfl
theorem Touch.freshL {w w' : World} {M : List Nat} (h : Touch w w' M) (hM : ∀ x ∈ M, w.heap.size ≤ x) : Below w.heap.size w w' := ⟨h.os, h.tape, h.output, h.size, fun k hk => h.block k hk fun hm => by have := hM k hm; omega⟩
theorem fitsI_prog {w : World} {r : Re} {v : Value} {M : List Nat} (h : NodeAt w r v M) (s : ByteArray) (hs : s.size ≤ 1000) :
    Calls Try.prog 38 #[v, .string s] w fun e w' => e = .returned (.bool (fitsM r (strL s))) ∧ Touch w w' M := by
  have hl := strL_length s
  by_cases h0 : s.size = 0
  · have e0 : fitsM r (strL s) = emptyM r := by
      unfold fitsM
      rw [show strL s = [] from List.eq_nil_of_length_eq_zero (by omega)]
      rfl
    obtain ⟨T, y, f, rfl, hm, he, hc⟩ := empty_all r w v M h
    have HC := Lib.hid hc
    have d0 : ((s.size : Int) == 0) = true := by rw [h0]; rfl
    rw [e0]
    clear hc e0 h hl
    go_enter Try.func38, Try.ntmps38
    go_wp2_with (go_at_fn f; refine HC.out.mono ?_; rintro e w1 ⟨rfl, hb1⟩)
    go_ret
    exact ⟨rfl, Touch.of_below hb1⟩
  have d0 : ((s.size : Int) == 0) = false := by rw [beq_eq_false_iff_ne]; omega
  have HE := Lib.hid (show fitsM r (strL s) = doneM (feeds true r (strL s)) by
    unfold fitsM
    cases hx : strL s with
    | nil => rw [hx] at hl; simp at hl; omega
    | cons c t => rfl)
  have HN := Lib.hid h
  have HL := Lib.hid hl
  clear h hl
  go_enter Try.func38, Try.ntmps38
  go_wp2_with fail
  go_loopw [13] (fun i wr => ∃ k : Nat, k ≤ s.size ∧ i = .int .i64 (k : Int) ∧ NodeAt wr (feeds true r ((strL s).take k)) v M ∧ Touch w wr M) (fun i _ => s.size - (intOf i).toNat)
  case atStart => exact ⟨0, Nat.zero_le _, rfl, HN.out, Touch.refl _ _⟩
  case round =>
    obtain ⟨k, hk, rfl, hn, ht⟩ := hrel
    by_cases hlt : k < s.size
    · have HS := Lib.hid (show feeds true r ((strL s).take (k + 1)) = feedM s[k] (decide (k = 0)) (feeds true r ((strL s).take k)) by
        rw [List.take_add_one, strG s hlt]
        have e2 : ((strL s).take k).isEmpty = decide (k = 0) := by
          rw [Bool.eq_iff_iff, List.isEmpty_iff, decide_eq_true_eq, List.take_eq_nil_iff]
          constructor
          · rintro (h1 | h1)
            · exact h1
            · have := HL.out; rw [h1] at this; simp at this; omega
          · intro h1; exact .inl h1
        rw [show (some s[k]).toList = [s[k]] from rfl, feeds_snoc, e2, Bool.true_and])
      have HF := Lib.hid (feed_all (feeds true r ((strL s).take k)) wr v M s[k] (decide (k = 0)) hn)
      have HT := Lib.hid ht
      clear hn ht
      by_cases hk0 : k = 0
      · have i0 : ((k : Int) == 0) = true := by rw [hk0]; rfl
        rw [decide_eq_true hk0] at HF HS
        clear hk0
        go_wp2_with fail
        refine HF.out.mono ?_
        rintro e w1 ⟨rfl, hn1, ht1⟩
        go_wp2_with fail
        exact ⟨⟨k + 1, by omega, by go_num, by rw [HS.out]; exact hn1, HT.out.trans ht1⟩, by simp [intOf]; omega⟩
      · have i0 : ((k : Int) == 0) = false := by rw [beq_eq_false_iff_ne]; omega
        rw [decide_eq_false hk0] at HF HS
        clear hk0
        go_wp2_with fail
        refine HF.out.mono ?_
        rintro e w1 ⟨rfl, hn1, ht1⟩
        go_wp2_with fail
        exact ⟨⟨k + 1, by omega, by go_num, by rw [HS.out]; exact hn1, HT.out.trans ht1⟩, by simp [intOf]; omega⟩
    · obtain rfl : k = s.size := by omega
      rw [List.take_of_length_le (by rw [HL.out]; exact Nat.le_refl _)] at hn
      obtain ⟨T, y, f, rfl, hm, he, hc⟩ := done_all _ wr v M hn
      have HC := Lib.hid hc
      have HT := Lib.hid ht
      clear hc hn ht
      go_wp2_with (go_at_fn f; refine HC.out.mono ?_; rintro e w1 ⟨rfl, hb1⟩)
      go_ret
      exact ⟨by rw [HE.out]; rfl, HT.out.below hb1⟩
end Go.Proofs.Ytjljfilflajogaa
