/- The reader of a pattern: what stands next, taking it, skipping a mark. -/
import Derived.Test.YtjljfilflajogaaReFits
import Derived.Test.YtjljfilflajogaaReParse
import Derived.Test.YtjljfilflajogaaShelf
import Derived.Lib.IndexAny
namespace Go.Proofs.Ytjljfilflajogaa
open Go.RowKit
set_option linter.unusedVariables false

/-- The reader at block X has x before it, so many groups open, the deepest place so far. -/
def Rdr (w : World) (X : Nat) (x : List UInt8) (op dp : Nat) : Prop := ∃ s : ByteArray, strL s = x ∧ Row w X 69 #[.string s, .int .i64 (op : Int), .int .i64 (dp : Int)]
/-- A reader, whatever it holds. -/
def RdrAny (w : World) (X : Nat) : Prop := ∃ (s : ByteArray) (a b : Int), Row w X 69 #[.string s, .int .i64 a, .int .i64 b]
theorem Rdr.any {w : World} {X : Nat} {x : List UInt8} {op dp : Nat} (h : Rdr w X x op dp) : RdrAny w X := by
  obtain ⟨s, _, h⟩ := h
  exact ⟨s, _, _, h⟩
theorem index_has (q : ByteArray) (c : UInt8) : (decide ((0 : Int) ≤ Lib.indexByte q.data.toList c)) = (strL q).contains c := (Lib.contains_iff_indexByte _ _).symm
theorem ahead_prog {w : World} {X : Nat} {x : List UInt8} {op dp : Nat} (h : Rdr w X x op dp) (q : ByteArray) :
    Calls Try.prog 74 #[.pointer (some ⟨X, 0, none⟩), .string q] w fun e w' => e = .returned (.bool (aheadM (strL q) x)) ∧ w' = w := by
  obtain ⟨s, rfl, hr⟩ := h
  have c0 : w.cell? ⟨X, 0, none⟩ = some (.string s) := hr.cell 0
  have hl := strL_length s
  by_cases h0 : s.size = 0
  · have e1 : (s.toList == []) = true := by rw [ByteArray.toList_eq, beq_iff_eq]; exact List.eq_nil_of_length_eq_zero (by unfold strL at hl; omega)
    have e2 : aheadM (strL q) (strL s) = false := by rw [show strL s = [] from List.eq_nil_of_length_eq_zero (by omega)]; rfl
    rw [e2]
    clear e2 hl hr
    go_enter Try.func74, Try.ntmps74
    go_wp2_with fail
    go_ret
    exact ⟨rfl, rfl⟩
  · have e1 : (s.toList == []) = false := by
      rw [ByteArray.toList_eq, beq_eq_false_iff_ne]
      intro e
      unfold strL at hl
      rw [e] at hl
      simp at hl
      omega
    have hp : 0 < s.size := by omega
    have e2 : aheadM (strL q) (strL s) = (strL q).contains s[0] := by
      have := strG s hp
      cases hx : strL s with
      | nil => rw [hx] at this; simp at this
      | cons c y => rw [hx] at this; simp at this; rw [aheadM, this]
    have HI := Lib.hid (index_has q s[0])
    rw [e2]
    have HC := Lib.hid (fun W => Try.strings_IndexByte q (s[0].toNat : Int) W)
    clear e2 hl hr
    go_enter Try.func74, Try.ntmps74
    go_wp2_with (go_at_call 57; refine (HC.out _).mono ?_; rintro e w1 ⟨rfl, rfl⟩)
    go_ret
    exact ⟨by rw [← HI.out]; rfl, rfl⟩
theorem take_prog {w : World} {X : Nat} {c : UInt8} {y : List UInt8} {op dp : Nat} (h : Rdr w X (c :: y) op dp) :
    Calls Try.prog 76 #[.pointer (some ⟨X, 0, none⟩)] w fun e w' => e = .returned (.int .u8 (c.toNat : Int)) ∧ Rdr w' X y op dp ∧ Two w w' X X := by
  obtain ⟨s, hx, hr⟩ := h
  have c0 : w.cell? ⟨X, 0, none⟩ = some (.string s) := hr.cell 0
  have f0 : w.frozen? ⟨X, 0, none⟩ = false := hr.frozen 0
  have hl := strL_length s
  have hp : 0 < s.size := by rw [← hl, hx]; simp
  have hc : s[0] = c := by
    have := strG s hp
    rw [hx] at this
    simpa using this.symm
  have HY := Lib.hid (show strL (s.extract 1 s.size) = y by
    unfold strL at *
    rw [ByteArray.data_extract, Array.toList_extract, List.extract_eq_take_drop, hx]
    simp only [List.drop_succ_cons, List.drop_zero]
    apply List.take_of_length_le
    rw [hx] at hl
    simp at hl
    omega)
  have HR := Lib.hid hr
  have i1 : (1 : Int) ≤ (s.size : Int) := by omega
  rw [← hc]
  clear hl hr hx hc
  go_enter Try.func76, Try.ntmps76
  go_wp2_with fail
  go_ret
  exact ⟨rfl, ⟨_, HY.out, HR.out.setAt 0 _⟩, (Two.refl w X X).set (p := ⟨X, 0, none⟩) (.inl rfl) _⟩
theorem ahead_tail {q x : List UInt8} (h : aheadM q x = true) : ∃ c y, x = c :: y ∧ q.contains c = true := by
  cases x with
  | nil => simp [aheadM] at h
  | cons c y => exact ⟨c, y, rfl, h⟩
theorem skip_prog {w : World} {X : Nat} {x : List UInt8} {op dp : Nat} (h : Rdr w X x op dp) (q : ByteArray) :
    Calls Try.prog 65 #[.pointer (some ⟨X, 0, none⟩), .string q] w fun e w' => e = .returned (.bool (aheadM (strL q) x)) ∧ Rdr w' X (if aheadM (strL q) x then x.tail else x) op dp ∧ Two w w' X X := by
  have HA := Lib.hid (ahead_prog h q)
  have HR := Lib.hid h
  clear h
  cases ha : aheadM (strL q) x
  · rw [ha] at HA
    go_enter Try.func65, Try.ntmps65
    go_wp2_with (go_at_call 74; refine HA.out.mono ?_; rintro e w1 ⟨rfl, rfl⟩)
    go_ret
    exact ⟨rfl, by simpa using HR.out, Two.refl _ _ _⟩
  · rw [ha] at HA
    obtain ⟨c, y, rfl, _⟩ := ahead_tail ha
    have HT := Lib.hid (take_prog HR.out)
    clear ha
    go_enter Try.func65, Try.ntmps65
    go_wp2_with (first
      | (go_at_call 74; refine HA.out.mono ?_; rintro e w1 ⟨rfl, rfl⟩)
      | (go_at_call 76; refine HT.out.mono ?_; rintro e w2 ⟨rfl, hr2, ht2⟩))
    go_ret
    exact ⟨rfl, by simpa using hr2, ht2⟩
def tellBut (r : Option (UInt8 × List UInt8)) : Value := match r with | none => .tuple #[.int .u8 0, .bool false] | some (c, _) => .tuple #[.int .u8 (c.toNat : Int), .bool true]
def leftBut (x : List UInt8) (r : Option (UInt8 × List UInt8)) : List UInt8 := match r with | none => x | some (_, y) => y
theorem takeBut_prog {w : World} {X : Nat} {x : List UInt8} {op dp : Nat} (h : Rdr w X x op dp) (q : ByteArray) :
    Calls Try.prog 88 #[.pointer (some ⟨X, 0, none⟩), .string q] w fun e w' => e = .returned (tellBut (takeButM (strL q) x)) ∧ Rdr w' X (leftBut x (takeButM (strL q) x)) op dp ∧ Two w w' X X := by
  obtain ⟨s, hx, hr⟩ := id h
  have c0 : w.cell? ⟨X, 0, none⟩ = some (.string s) := hr.cell 0
  have hl := strL_length s
  have HA := Lib.hid (ahead_prog h q)
  have HR := Lib.hid h
  clear h hr
  cases x with
  | nil =>
    have e1 : (s.toList == []) = true := by rw [ByteArray.toList_eq, beq_iff_eq]; exact hx
    clear hx hl
    go_enter Try.func88, Try.ntmps88
    go_wp2_with fail
    go_ret2
    exact ⟨rfl, HR.out, Two.refl _ _ _⟩
  | cons c y =>
    have e1 : (s.toList == []) = false := by rw [ByteArray.toList_eq, beq_eq_false_iff_ne]; intro e; unfold strL at hx; rw [e] at hx; cases hx
    clear hx hl
    simp only [aheadM] at HA
    cases hq : (strL q).contains c
    · rw [hq] at HA
      have HT := Lib.hid (take_prog HR.out)
      have HK := Lib.hid (show takeButM (strL q) (c :: y) = some (c, y) by simp only [takeButM, hq]; rfl)
      clear hq
      go_enter Try.func88, Try.ntmps88
      go_wp2_with (first
        | (go_at_call 74; refine HA.out.mono ?_; rintro e w1 ⟨rfl, rfl⟩)
        | (go_at_call 76; refine HT.out.mono ?_; rintro e w2 ⟨rfl, hr2, ht2⟩))
      go_ret2
      rw [HK.out]
      exact ⟨rfl, hr2, ht2⟩
    · rw [hq] at HA
      have HK := Lib.hid (show takeButM (strL q) (c :: y) = none by simp only [takeButM, hq]; rfl)
      clear hq
      go_enter Try.func88, Try.ntmps88
      go_wp2_with (go_at_call 74; refine HA.out.mono ?_; rintro e w1 ⟨rfl, rfl⟩)
      go_ret2
      rw [HK.out]
      exact ⟨rfl, HR.out, Two.refl _ _ _⟩
theorem one_prog (c : UInt8) (w : World) :
    Calls Try.prog 87 #[.int .u8 (c.toNat : Int)] w fun e w' => Below w.heap.size w w' ∧ ∃ v M, e = .returned v ∧ NodeAt w' (oneM c) v M ∧ ∀ k ∈ M, w.heap.size ≤ k := by
  go_enter Try.func87, Try.ntmps87
  go_wp2_with fail
  go_ret
  refine ⟨below_then (below_one w _) (below_one _ _), _, [w.heap.size + 1, w.heap.size], rfl, ?_, ?_⟩
  · simp only [oneM, NodeAt]
    exact ⟨_, _, _, _, rfl, by simp, row_at w _ _ _, .inr ⟨_, _, rfl, rfl, (Row.new w _ _).alloc _, fun j u h => by simpa [spanCells] using h⟩, by simp, rfl⟩
  · intro k hk
    simp at hk
    omega
end Go.Proofs.Ytjljfilflajogaa
