/- strings.Cut at a point: by the library's contract of what it calls. -/
import Derived.Test.YtfpjihicobmlkaaDoorFixDigs
import Derived.Lib.IndexLaws
namespace Go.Proofs.YtfpjihicobmlkaaDoor
open Go.RowKit
set_option linter.unusedVariables false

theorem index_none : ∀ (l : List UInt8), Lib.indexByte l 46 = -1 → pointed l = false := by
  intro l
  induction l with
  | nil => intro _; rfl
  | cons c r ih =>
    intro h
    unfold Lib.indexByte at h
    by_cases hc : c = 46
    · subst hc
      simp at h
    · have hr : Lib.indexByte r 46 = -1 := by
        rw [if_neg (by simpa using hc)] at h
        have := Lib.indexByte_ge r 46
        split at h
        · rename_i h2
          simpa using h2
        · omega
      have := ih hr
      unfold pointed at this ⊢
      rw [List.contains_cons, this]
      simp [Ne.symm hc]
theorem index_some : ∀ (l : List UInt8) (o : Nat), Lib.indexByte l 46 = (o : Int) → o < l.length ∧ ahead l = l.take o ∧ behind l = l.drop (o + 1) ∧ pointed l = true := by
  intro l
  induction l with
  | nil => intro o h; unfold Lib.indexByte at h; omega
  | cons c r ih =>
    intro o h
    unfold Lib.indexByte at h
    by_cases hc : c = 46
    · subst hc
      simp at h
      obtain rfl : o = 0 := by omega
      simp [ahead, behind, pointed]
    · rw [if_neg (by simpa using hc)] at h
      have hge := Lib.indexByte_ge r 46
      split at h
      · omega
      · obtain ⟨o', ho'⟩ : ∃ o' : Nat, Lib.indexByte r 46 = (o' : Int) := ⟨(Lib.indexByte r 46).toNat, by
          rename_i h2
          have : Lib.indexByte r 46 ≠ -1 := by simpa using h2
          omega⟩
        obtain rfl : o = o' + 1 := by omega
        obtain ⟨h1, h2, h3, h4⟩ := ih o' ho'
        refine ⟨by simp; omega, ?_, ?_, ?_⟩
        · rw [ahead, if_neg hc, h2]
          rfl
        · rw [behind, if_neg hc, h3]
          rfl
        · unfold pointed at h4 ⊢
          rw [List.contains_cons, h4]
          simp
theorem extract_front (s : ByteArray) (o : Nat) (h : o ≤ s.size) : s.extract 0 o = txt ((txl s).take o) := by
  apply ByteArray.ext
  apply Array.ext'
  simp [txt, txl]
theorem extract_back (s : ByteArray) (o : Nat) : s.extract o s.size = txt ((txl s).drop o) := by
  apply ByteArray.ext
  apply Array.ext'
  have : (txl s).length = s.size := txl_length s
  simp [txt, txl]
  refine List.take_of_length_le ?_
  unfold txl at this
  rw [List.length_drop, this]
  exact Nat.le_refl _

theorem cut_lite (s : ByteArray) (w : World) (hs : s.size ≤ 140737488351232) :
    Calls Tryd.prog 50 #[.string s, .string { data := #[46] }] w fun e w' => e = .returned (.tuple #[.string (txt (ahead (txl s))), .string (txt (behind (txl s))), .bool (pointed (txl s))]) ∧ Below w.heap.size w w' := by
  have HI := Tryd.stringslite_Index_one s 46 w
  have hge := Lib.indexByte_ge (txl s) 46
  change Calls Tryd.prog 59 #[.string s, .string { data := #[46] }] w fun e w' => e = .returned (.int .i64 (Lib.indexByte (txl s) 46)) ∧ w' = w at HI
  by_cases h : Lib.indexByte (txl s) 46 = -1
  · have hp := index_none _ h
    obtain ⟨c1, c2, c3⟩ := cut_none (txl s) hp
    rw [h] at HI
    rw [c1, c2, c3, txt_txl]
    clear h hge hp c1 c2 c3
    go_enter Tryd.func50, Tryd.ntmps50
    go_wp2_with fail
    refine HI.mono ?_
    rintro e w1 ⟨rfl, rfl⟩
    go_wp2
    go_ret3
    exact ⟨rfl, Below.refl _ _⟩
  · obtain ⟨o, ho⟩ : ∃ o : Nat, Lib.indexByte (txl s) 46 = (o : Int) := ⟨(Lib.indexByte (txl s) 46).toNat, by omega⟩
    obtain ⟨h1, h2, h3, h4⟩ := index_some _ o ho
    rw [txl_length] at h1
    rw [ho] at HI
    rw [h2, h3, h4, ← extract_front s o (by omega), ← extract_back s (o + 1)]
    have i0 : (0 : Int) ≤ (o : Int) := by omega
    have i1 : (o : Int) ≤ (s.size : Int) := by omega
    have i2 : (o : Int) + 1 ≤ (s.size : Int) := by omega
    have i3 : ((o : Int) + 1).toNat = o + 1 := by omega
    have i4 : IntKind.i64.wrap ((o : Int) + 1) = (o : Int) + 1 := IntWalk.i64_in _ (by omega)
    have i5 : (0 : Int) ≤ (o : Int) + 1 := by omega
    clear h hge ho h2 h3 h4
    go_enter Tryd.func50, Tryd.ntmps50
    go_wp2_with fail
    refine HI.mono ?_
    rintro e w1 ⟨rfl, rfl⟩
    go_wp2_with fail
    go_quiet (fail)
    go_wp2
    go_ret3
    exact ⟨rfl, below_drewN' (Below.refl _ _) _⟩
theorem cut_prog (s : ByteArray) (w : World) (hs : s.size ≤ 140737488351232) :
    Calls Tryd.prog 39 #[.string s, .string { data := #[46] }] w fun e w' => e = .returned (.tuple #[.string (txt (ahead (txl s))), .string (txt (behind (txl s))), .bool (pointed (txl s))]) ∧ Below w.heap.size w w' := by
  have HC := cut_lite s w hs
  generalize txt (ahead (txl s)) = a at *
  generalize txt (behind (txl s)) = b at *
  generalize pointed (txl s) = c at *
  go_enter Tryd.func39, Tryd.ntmps39
  go_wp2_with fail
  refine HC.mono ?_
  rintro e w1 ⟨rfl, hb⟩
  go_wp2
  go_ret3
  exact ⟨rfl, hb⟩
end Go.Proofs.YtfpjihicobmlkaaDoor
