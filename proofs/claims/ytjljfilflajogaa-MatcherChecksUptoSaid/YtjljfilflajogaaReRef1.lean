/- The document's own answer for patterns: which bytes are plain, which may stand in a class's item; a class. -/
import Derived.Test.YtjljfilflajogaaReCut
import Derived.Test.YtjljfilflajogaaReQuote
import Derived.Deep.QuietTactic
import Derived.BigQuiet
namespace Go.Proofs.Ytjljfilflajogaa
open Go.RowKit
set_option linter.unusedVariables false

theorem byte_eq (c : UInt8) (k : Nat) (hk : k < 256) : ((c.toNat : Int) == (k : Int)) = decide (c = UInt8.ofNat k) := by
  rw [Bool.eq_iff_iff, beq_iff_eq, decide_eq_true_eq]
  constructor
  · intro h
    apply UInt8.toNat_inj.1
    rw [UInt8.toNat_ofNat']
    omega
  · intro h
    rw [h, UInt8.toNat_ofNat']
    omega
theorem item_ref (c : UInt8) (w : World) : Calls Try.prog 67 #[.int .u8 (c.toNat : Int)] w fun e w' => e = .returned (.bool (!unlistedL.contains c)) ∧ w = w' := by
  have e1 := byte_eq c 92 (by omega)
  have e2 := byte_eq c 91 (by omega)
  have e3 := byte_eq c 93 (by omega)
  have e4 := byte_eq c 94 (by omega)
  have e5 := byte_eq c 45 (by omega)
  have hc : (!unlistedL.contains c) = (!((c.toNat : Int) == 92) && (!((c.toNat : Int) == 91) && (!((c.toNat : Int) == 93) && (!((c.toNat : Int) == 94) && !((c.toNat : Int) == 45))))) := by
    rw [show ((92 : Int) = ((92 : Nat) : Int)) from rfl, show ((91 : Int) = ((91 : Nat) : Int)) from rfl, show ((93 : Int) = ((93 : Nat) : Int)) from rfl, show ((94 : Int) = ((94 : Nat) : Int)) from rfl, show ((45 : Int) = ((45 : Nat) : Int)) from rfl, e1, e2, e3, e4, e5]
    simp only [unlistedL, List.contains_cons, List.contains_nil, Bool.or_false, Bool.not_or]
    rfl
  rw [hc]
  clear e1 e2 e3 e4 e5 hc
  generalize (c.toNat : Int) = n
  have z : ∀ k : Int, (n != k) = !(n == k) := fun k => rfl
  have z1 := z 92
  have z2 := z 91
  have z3 := z 93
  have z4 := z 94
  have z5 := z 45
  clear z
  cases h1 : (n == 92)
  · cases h2 : (n == 91)
    · cases h3 : (n == 93)
      · cases h4 : (n == 94)
        · cases h5 : (n == 45)
          all_goals
            rw [h1] at z1
            rw [h2] at z2
            rw [h3] at z3
            rw [h4] at z4
            rw [h5] at z5
            clear h1 h2 h3 h4 h5
            go_enter Try.func67, Try.ntmps67
            go_wp2
            go_ret
            exact ⟨rfl, rfl⟩
        · rw [h1] at z1
          rw [h2] at z2
          rw [h3] at z3
          rw [h4] at z4
          clear h1 h2 h3 h4 z5
          go_enter Try.func67, Try.ntmps67
          go_wp2
          go_ret
          exact ⟨rfl, rfl⟩
      · rw [h1] at z1
        rw [h2] at z2
        rw [h3] at z3
        clear h1 h2 h3 z4 z5
        go_enter Try.func67, Try.ntmps67
        go_wp2
        go_ret
        exact ⟨rfl, rfl⟩
    · rw [h1] at z1
      rw [h2] at z2
      clear h1 h2 z3 z4 z5
      go_enter Try.func67, Try.ntmps67
      go_wp2
      go_ret
      exact ⟨rfl, rfl⟩
  · rw [h1] at z1
    clear h1 z2 z3 z4 z5
    go_enter Try.func67, Try.ntmps67
    go_wp2
    go_ret
    exact ⟨rfl, rfl⟩
def mrk (k : Nat) : UInt8 := marksL.getD k 0
theorem marks_step (c : UInt8) (k : Nat) (hk : k < 10) : (marksL.take (k + 1)).contains c = ((marksL.take k).contains c || decide (c = mrk k)) := by
  have hl : marksL.length = 10 := rfl
  have : marksL[k]? = some (mrk k) := by unfold mrk; rw [List.getD_eq_getElem?_getD, List.getElem?_eq_getElem (by omega)]; rfl
  rw [List.take_add_one, this, Bool.eq_iff_iff]
  simp
def marksB : ByteArray := ⟨#[92, 40, 41, 91, 93, 124, 42, 43, 63, 46]⟩
theorem marks_get (k : Nat) (hk : k < marksB.size) : mrk k = marksB[k] := by
  unfold mrk
  rw [List.getD_eq_getElem?_getD, List.getElem?_eq_getElem (show k < marksL.length from hk)]
  rfl
theorem byte_two (a c : UInt8) : ((a.toNat : Int) == (c.toNat : Int)) = decide (c = a) := by
  rw [Bool.eq_iff_iff, beq_iff_eq, decide_eq_true_eq, ← UInt8.toNat_inj]
  omega
theorem marks_yes {c : UInt8} {k : Nat} (h : (marksL.take (k + 1)).contains c = true) : marksL.contains c = true := by
  rw [List.contains_iff_mem] at h ⊢
  exact List.mem_of_mem_take h
set_option maxHeartbeats 1000000 in
theorem plain_ref (c : UInt8) (w : World) : Calls Try.prog 77 #[.int .u8 (c.toNat : Int)] w fun e w' => e = .returned (.bool (!marksL.contains c)) ∧ w = w' := by
  obtain ⟨B, hB⟩ : ∃ B, marksL.contains c = B := ⟨_, rfl⟩
  rw [hB]
  have HQ := Lib.hid hB
  clear hB
  have HS := Lib.hid (marks_step c)
  go_enter Try.func77, Try.ntmps77
  go_wp2_with fail
  go_loop [4] (fun i => ∃ k : Nat, k ≤ 10 ∧ i = .int .i64 (k : Int) ∧ (marksL.take k).contains c = false) (fun i => 10 - (intOf i).toNat)
  case atStart => exact ⟨0, by omega, rfl, rfl⟩
  case round =>
    obtain ⟨k, hk, rfl, hn⟩ := hrel
    by_cases hlt : k < 10
    · have hs := HS.out k hlt
      have hsz : k < (⟨#[92, 40, 41, 91, 93, 124, 42, 43, 63, 46]⟩ : ByteArray).size := hlt
      have he := byte_two (⟨#[92, 40, 41, 91, 93, 124, 42, 43, 63, 46]⟩ : ByteArray)[k] c
      rw [hn, Bool.false_or, marks_get k hsz] at hs
      have hs' : (marksL.take (k + 1)).contains c = decide (c = (⟨#[92, 40, 41, 91, 93, 124, 42, 43, 63, 46]⟩ : ByteArray)[k]) := hs
      rw [← he] at hs'
      have i1 : (0 : Int) ≤ (k : Int) := by omega
      have i2 : (k : Int) < 10 := by omega
      have i3 : (k : Int) < (((⟨#[92, 40, 41, 91, 93, 124, 42, 43, 63, 46]⟩ : ByteArray).size : Nat) : Int) := i2
      cases hb : ((((⟨#[92, 40, 41, 91, 93, 124, 42, 43, 63, 46]⟩ : ByteArray)[k]).toNat : Int) == (c.toNat : Int))
      · rw [hb] at hs'
        have HB := Lib.hid hs'
        clear hs hs' he hn
        go_wp2_with fail
        exact ⟨⟨k + 1, by omega, by go_num, HB.out⟩, by simp [intOf]; omega⟩
      · rw [hb] at hs'
        have HB := Lib.hid (show B = true by rw [← HQ.out]; exact marks_yes hs')
        clear hs hs' he hn
        go_wp2_with fail
        go_ret
        exact ⟨by rw [HB.out]; rfl, rfl⟩
    · obtain rfl : k = 10 := by omega
      have HN := Lib.hid (show B = false by rw [← HQ.out]; exact hn)
      clear hn hk
      go_wp2_with fail
      go_ret
      exact ⟨by rw [HN.out]; rfl, rfl⟩
end Go.Proofs.Ytjljfilflajogaa
