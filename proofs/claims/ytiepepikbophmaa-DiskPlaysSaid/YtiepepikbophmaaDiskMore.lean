/- A disk as the document says it: the power gone and back; one sure file renamed over another one. No program in this text. -/
import Derived.Test.YtiepepikbophmaaDiskFine
namespace Go.Proofs.Ytiepepikbophmaa
set_option linter.unusedVariables false

/-- A fuse of nought: the next SyncDir is refused, and the power is gone. -/
theorem fuse_out (d : Dsk) (name to b : List UInt8) : change (fuseD d 0) 6 name to b = ({ fuseD d 0 with dark := true }, 6) := by
  have h1 : whyNot (fuseD d 0) 6 name to b = 0 := by
    unfold whyNot
    simp
  have h2 : power (fuseD d 0) = ({ fuseD d 0 with dark := true }, 6) := by
    unfold power
    rw [if_pos (.inr (by show max (0 : Int) (-1) = 0; omega))]
  unfold change
  rw [if_neg (by rw [h1]; decide), h2]
  rfl
/-- Behind a crash the power is there. -/
theorem crash_sync (d : Dsk) (dirs : Int) (kept : List Int) (name to b : List UInt8) : (change (crashD d dirs kept) 6 name to b).2 = 0 ∧ (change (crashD d dirs kept) 6 name to b).1.count = d.count + 1 := by
  have h1 : whyNot (crashD d dirs kept) 6 name to b = 0 := by
    unfold whyNot
    simp
  have h2 : (power (crashD d dirs kept)).2 = 0 := by
    unfold power
    rw [if_neg (by show ¬ (false = true ∨ (-1 : Int) = 0); simp)]
  have h0 : (change (crashD d dirs kept) 6 name to b).2 = 0 := by
    unfold change
    rw [if_neg (by rw [h1]; decide), if_neg (by rw [h2]; decide)]
  exact ⟨h0, (done_one h0).2.2.2.1⟩

def nOne : List UInt8 := [111, 110, 101]
def nTwo : List UInt8 := [116, 119, 111]
/-- Two files, both sure, and the second one renamed over the first one: an entry that waits. -/
def swapD (a b : List UInt8) : Dsk := ⟨4194304, [⟨a, a.length⟩, ⟨b, b.length⟩], [⟨nOne, 0⟩, ⟨nTwo, 1⟩], [.move nTwo nOne], -1, false, 8⟩
theorem change_is {d : Dsk} {kind : Int} {name to b : List UInt8} (hw : whyNot d kind name to b = 0) (hd : d.dark = false) (hl : d.left = -1) : change d kind name to b = (applyD { d with count := d.count + 1 } kind name to b, 0) := by
  have hp : power d = ({ d with count := d.count + 1 }, 0) := by
    unfold power
    rw [if_neg (by rw [hd, hl]; simp), hl]
    cases d
    simp_all
  unfold change
  rw [if_neg (by rw [hw]; decide), hp]
  rfl
theorem swap_1 : change (newD 4194304) 1 nOne [] [] = (⟨4194304, [fil0], [], [.lay nOne 0], -1, false, 1⟩, 0) := by
  rw [change_is (by decide) rfl rfl]
  rfl
theorem swap_2 : change ⟨4194304, [fil0], [], [.lay nOne 0], -1, false, 1⟩ 1 nTwo [] [] = (⟨4194304, [fil0, fil0], [], [.lay nOne 0, .lay nTwo 1], -1, false, 2⟩, 0) := by
  rw [change_is (by decide) rfl rfl]
  rfl
theorem swap_live (fs : List Fil) (r c : Nat) (l : Int) (k : Bool) : live ⟨r, fs, [], [.lay nOne 0, .lay nTwo 1], l, k, c⟩ = [⟨nOne, 0⟩, ⟨nTwo, 1⟩] := by
  show dirOf [] [.lay nOne 0, .lay nTwo 1] = _
  decide
theorem swap_why (fs : List Fil) (r c : Nat) (l : Int) (k : Bool) (kind : Int) (name b : List UInt8) (hk : kind = 2 ∨ kind = 5) (hn : name = nOne ∨ name = nTwo) (ht : total ⟨r, fs, [], [.lay nOne 0, .lay nTwo 1], l, k, c⟩ + b.length ≤ r) :
    whyNot ⟨r, fs, [], [.lay nOne 0, .lay nTwo 1], l, k, c⟩ kind name [] b = 0 := by
  unfold whyNot
  rw [swap_live]
  have hnm : namedB name = true := by rcases hn with rfl | rfl <;> decide
  have hw : whose [⟨nOne, 0⟩, ⟨nTwo, 1⟩] name ≠ none := by rcases hn with rfl | rfl <;> decide
  rw [hnm]
  rw [if_neg (by simp; omega), if_neg (by omega), if_neg (by omega), if_neg (fun h => hw h.2.2), if_neg (by
    intro h
    have h2 : r < total ⟨r, fs, [], [.lay nOne 0, .lay nTwo 1], l, k, c⟩ + b.length := h.2
    omega)]
theorem swap_3 (a : List UInt8) (ha : a.length ≤ 100000) : change ⟨4194304, [fil0, fil0], [], [.lay nOne 0, .lay nTwo 1], -1, false, 2⟩ 2 nOne [] a = (⟨4194304, [⟨a, 0⟩, fil0], [], [.lay nOne 0, .lay nTwo 1], -1, false, 3⟩, 0) := by
  rw [change_is (swap_why _ _ _ _ _ 2 nOne a (.inl rfl) (.inl rfl) (by
    unfold total
    rw [swap_live]
    show 0 + (0 + 0) + a.length ≤ 4194304
    omega)) rfl rfl]
  rfl
theorem swap_4 (a b : List UInt8) (h : a.length + b.length ≤ 100000) : change ⟨4194304, [⟨a, 0⟩, fil0], [], [.lay nOne 0, .lay nTwo 1], -1, false, 3⟩ 2 nTwo [] b = (⟨4194304, [⟨a, 0⟩, ⟨b, 0⟩], [], [.lay nOne 0, .lay nTwo 1], -1, false, 4⟩, 0) := by
  rw [change_is (swap_why _ _ _ _ _ 2 nTwo b (.inl rfl) (.inr rfl) (by
    unfold total
    rw [swap_live]
    show a.length + (0 + 0) + b.length ≤ 4194304
    omega)) rfl rfl]
  rfl
theorem swap_5 (a b : List UInt8) (h : a.length + b.length ≤ 100000) : change ⟨4194304, [⟨a, 0⟩, ⟨b, 0⟩], [], [.lay nOne 0, .lay nTwo 1], -1, false, 4⟩ 5 nOne [] [] = (⟨4194304, [⟨a, a.length⟩, ⟨b, 0⟩], [], [.lay nOne 0, .lay nTwo 1], -1, false, 5⟩, 0) := by
  rw [change_is (swap_why _ _ _ _ _ 5 nOne [] (.inr rfl) (.inl rfl) (by
    unfold total
    rw [swap_live]
    show a.length + (b.length + 0) + 0 ≤ 4194304
    omega)) rfl rfl]
  rfl
theorem swap_6 (a b : List UInt8) (h : a.length + b.length ≤ 100000) : change ⟨4194304, [⟨a, a.length⟩, ⟨b, 0⟩], [], [.lay nOne 0, .lay nTwo 1], -1, false, 5⟩ 5 nTwo [] [] = (⟨4194304, [⟨a, a.length⟩, ⟨b, b.length⟩], [], [.lay nOne 0, .lay nTwo 1], -1, false, 6⟩, 0) := by
  rw [change_is (swap_why _ _ _ _ _ 5 nTwo [] (.inr rfl) (.inr rfl) (by
    unfold total
    rw [swap_live]
    show a.length + (b.length + 0) + 0 ≤ 4194304
    omega)) rfl rfl]
  rfl
theorem swap_7 (a b : List UInt8) : change ⟨4194304, [⟨a, a.length⟩, ⟨b, b.length⟩], [], [.lay nOne 0, .lay nTwo 1], -1, false, 6⟩ 6 [] [] [] = (⟨4194304, [⟨a, a.length⟩, ⟨b, b.length⟩], [⟨nOne, 0⟩, ⟨nTwo, 1⟩], [], -1, false, 7⟩, 0) := by
  rw [change_is (by unfold whyNot; simp) rfl rfl]
  rfl
theorem swap_8 (a b : List UInt8) : change ⟨4194304, [⟨a, a.length⟩, ⟨b, b.length⟩], [⟨nOne, 0⟩, ⟨nTwo, 1⟩], [], -1, false, 7⟩ 3 nTwo nOne [] = (swapD a b, 0) := by
  have hl : live ⟨4194304, [⟨a, a.length⟩, ⟨b, b.length⟩], [⟨nOne, 0⟩, ⟨nTwo, 1⟩], [], -1, false, 7⟩ = [⟨nOne, 0⟩, ⟨nTwo, 1⟩] := rfl
  rw [change_is (by
    unfold whyNot
    rw [hl]
    rw [if_neg (by decide), if_neg (by decide), if_neg (by decide), if_neg (by decide), if_neg (fun h => absurd h.1 (by decide))]) rfl rfl]
  rfl
theorem modU_two (dirs : Int) : modU dirs 2 = 0 ∨ modU dirs 2 = 1 := by
  unfold modU
  omega
theorem modU_one (dirs : Int) : modU dirs 1 = 0 := by
  unfold modU
  omega
/-- What a crash leaves of them: the one or the other, whole. -/
theorem swap_crash (a b : List UInt8) (dirs : Int) :
    (readD (crashD (swapD a b) dirs []) nOne = (a, 0) ∧ (readD (crashD (swapD a b) dirs []) nTwo).2 = 0) ∨ (readD (crashD (swapD a b) dirs []) nOne = (b, 0) ∧ (readD (crashD (swapD a b) dirs []) nTwo).2 = 9) := by
  have hcd : crashDir (swapD a b) dirs = dirOf [⟨nOne, 0⟩, ⟨nTwo, 1⟩] (([.move nTwo nOne] : List Stp).take (modU dirs 2)) := rfl
  rcases modU_two dirs with h | h
  · have e : crashDir (swapD a b) dirs = [⟨nOne, 0⟩, ⟨nTwo, 1⟩] := by rw [hcd, h]; rfl
    have hl : live (crashD (swapD a b) dirs []) = [⟨nOne, 0⟩, ⟨nTwo, 1⟩] := by show crashDir (swapD a b) dirs = _; exact e
    have hf : (crashD (swapD a b) dirs []).files = [⟨a, a.length⟩, ⟨b, b.length⟩] := by
      show crashFiles [⟨a, a.length⟩, ⟨b, b.length⟩] (crashDir (swapD a b) dirs) [] = _
      rw [e]
      show [crashOne ⟨a, a.length⟩ 0, crashOne ⟨b, b.length⟩ 0] = _
      unfold crashOne
      simp
    refine .inl ⟨?_, ?_⟩
    · rw [read_there (n := 0) (by decide) (by rw [hl]; decide) rfl, hf]
      rfl
    · rw [read_there (n := 1) (by decide) (by rw [hl]; decide) rfl]
  · have e : crashDir (swapD a b) dirs = [⟨nOne, 1⟩] := by rw [hcd, h]; decide
    have hl : live (crashD (swapD a b) dirs []) = [⟨nOne, 1⟩] := by show crashDir (swapD a b) dirs = _; exact e
    have hf : (crashD (swapD a b) dirs []).files = [⟨a, a.length⟩, ⟨b, b.length⟩] := by
      show crashFiles [⟨a, a.length⟩, ⟨b, b.length⟩] (crashDir (swapD a b) dirs) [] = _
      rw [e]
      show [⟨a, a.length⟩, crashOne ⟨b, b.length⟩ 0] = _
      unfold crashOne
      simp
    refine .inr ⟨?_, ?_⟩
    · rw [read_there (n := 1) (by decide) (by rw [hl]; decide) rfl, hf]
      rfl
    · unfold readD
      rw [hl]
      rfl
/-- Behind SyncDir: the new one. -/
theorem swap_sync (a b : List UInt8) : change (swapD a b) 6 [] [] [] = (⟨4194304, [⟨a, a.length⟩, ⟨b, b.length⟩], [⟨nOne, 1⟩], [], -1, false, 9⟩, 0) := by
  have hl : live { swapD a b with count := (swapD a b).count + 1 } = [⟨nOne, 1⟩] := by
    show dirOf [⟨nOne, 0⟩, ⟨nTwo, 1⟩] [.move nTwo nOne] = _
    decide
  rw [change_is (by unfold whyNot; simp) rfl rfl]
  unfold applyD
  rw [hl]
  rfl
theorem swap_crash_sync (a b : List UInt8) (dirs : Int) : readD (crashD ⟨4194304, [⟨a, a.length⟩, ⟨b, b.length⟩], [⟨nOne, 1⟩], [], -1, false, 9⟩ dirs []) nOne = (b, 0) ∧ (readD (crashD ⟨4194304, [⟨a, a.length⟩, ⟨b, b.length⟩], [⟨nOne, 1⟩], [], -1, false, 9⟩ dirs []) nTwo).2 = 9 := by
  have e : crashDir ⟨4194304, [⟨a, a.length⟩, ⟨b, b.length⟩], [⟨nOne, 1⟩], [], -1, false, 9⟩ dirs = [⟨nOne, 1⟩] := by
    show dirOf [⟨nOne, 1⟩] (([] : List Stp).take (modU dirs 1)) = _
    rw [modU_one]
    rfl
  have hl : live (crashD ⟨4194304, [⟨a, a.length⟩, ⟨b, b.length⟩], [⟨nOne, 1⟩], [], -1, false, 9⟩ dirs []) = [⟨nOne, 1⟩] := e
  have hf : (crashD ⟨4194304, [⟨a, a.length⟩, ⟨b, b.length⟩], [⟨nOne, 1⟩], [], -1, false, 9⟩ dirs []).files = [⟨a, a.length⟩, ⟨b, b.length⟩] := by
    show crashFiles [⟨a, a.length⟩, ⟨b, b.length⟩] (crashDir ⟨4194304, [⟨a, a.length⟩, ⟨b, b.length⟩], [⟨nOne, 1⟩], [], -1, false, 9⟩ dirs) [] = _
    rw [e]
    show [⟨a, a.length⟩, crashOne ⟨b, b.length⟩ 0] = _
    unfold crashOne
    simp
  refine ⟨?_, ?_⟩
  · rw [read_there (n := 1) (by decide) (by rw [hl]; decide) rfl, hf]
    rfl
  · unfold readD
    rw [hl]
    rfl
end Go.Proofs.Ytiepepikbophmaa
