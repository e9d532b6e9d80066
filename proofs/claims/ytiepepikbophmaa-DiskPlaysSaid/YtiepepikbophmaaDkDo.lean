/- The file that stands under a name; a change that is done, or not; an entry done in a directory. -/
import Derived.Test.YtiepepikbophmaaDkFind
namespace Go.Proofs.Ytiepepikbophmaa
open Go.RowKit Go.Maps
set_option linter.unusedVariables false

section
variable {w : World} {X dm bm : Nat} {wv : Value} {fb : Nat → Nat} {vb : Nat → Value} {d : Dsk}
theorem look_at (h : DiskIn w X dm bm wv fb vb d) (s : ByteArray) (hs : s.size ≤ maxLen) {w' : World} (hb : Below w.heap.size w w') :
    (Instr.lookup 70 (.map (some dm)) (.string s) false).run Try.prog w' = .ok (underV fb (live d) (strL s)) w' := dir_look (h.below hb).dir s hs
theorem find_bad (h : DiskIn w X dm bm wv fb vb d) (s : ByteArray) (hm : s.size ≤ 281474976710656) (hn : namedB (strL s) = false) :
    Calls Try.prog 69 #[.pointer (some ⟨X, 0, none⟩), .string s] w fun e w' => e = .returned (.tuple #[.pointer none, .int .i64 8]) ∧ Below w.heap.size w w' := by
  have hb := below_one w (.cells #[.string s] 9)
  have hc : ∀ k x, [s][k]? = some x → (w.alloc (.cells #[.string s] 9)).cell? ⟨w.heap.size, k, none⟩ = some (.string x) ∧ x.size ≤ 281474976710656 := by
    intro k x hk
    rcases k with _ | k
    · simp only [List.getElem?_cons_zero, Option.some.injEq] at hk
      subst hk
      exact ⟨(Row.new w 9 #[.string s]).cell 0, hm⟩
    · simp at hk
  have HC := Lib.hid (check_prog X w.heap.size [s] _ (by simp) hc)
  have hk : nameE (okNames [s]) = 8 := by simp [okNames, hn, nameE]
  rw [hk] at HC
  clear hc
  go_enter Try.func69, Try.ntmps69
  go_wp2_with fail
  refine HC.out.mono ?_
  rintro e w1 ⟨rfl, rfl⟩
  go_wp2
  go_ret2
  exact ⟨rfl, hb⟩
theorem find_none (h : DiskIn w X dm bm wv fb vb d) (s : ByteArray) (hn : namedB (strL s) = true) (hw : whose (live d) (strL s) = none) :
    Calls Try.prog 69 #[.pointer (some ⟨X, 0, none⟩), .string s] w fun e w' => e = .returned (.tuple #[.pointer none, .int .i64 9]) ∧ Below w.heap.size w w' := by
  have hsz := named_size hn
  have hb := below_one w (.cells #[.string s] 9)
  have hc : ∀ k x, [s][k]? = some x → (w.alloc (.cells #[.string s] 9)).cell? ⟨w.heap.size, k, none⟩ = some (.string x) ∧ x.size ≤ 281474976710656 := by
    intro k x hk
    rcases k with _ | k
    · simp only [List.getElem?_cons_zero, Option.some.injEq] at hk
      subst hk
      exact ⟨(Row.new w 9 #[.string s]).cell 0, by omega⟩
    · simp at hk
  have HC := Lib.hid (check_prog X w.heap.size [s] _ (by simp) hc)
  have hk : nameE (okNames [s]) = 0 := by simp [okNames, hn, nameE]
  rw [hk] at HC
  have hl := look_at h s (by simp only [maxLen]; omega) hb
  unfold underV at hl
  rw [hw] at hl
  obtain ⟨c0, c1, c2, c3, c4, c5, c6⟩ := (h.below hb).cells
  clear hc hw
  go_enter Try.func69, Try.ntmps69
  go_wp2_with fail
  refine HC.out.mono ?_
  rintro e w1 ⟨rfl, rfl⟩
  go_wp2
  go_ret2
  exact ⟨rfl, hb⟩
theorem find_some (h : DiskIn w X dm bm wv fb vb d) (s : ByteArray) (n : Nat) (hn : namedB (strL s) = true) (hw : whose (live d) (strL s) = some n) :
    Calls Try.prog 69 #[.pointer (some ⟨X, 0, none⟩), .string s] w fun e w' => e = .returned (.tuple #[.pointer (some ⟨fb n, 0, none⟩), .int .i64 0]) ∧ Below w.heap.size w w' := by
  have hsz := named_size hn
  have hb := below_one w (.cells #[.string s] 9)
  have hc : ∀ k x, [s][k]? = some x → (w.alloc (.cells #[.string s] 9)).cell? ⟨w.heap.size, k, none⟩ = some (.string x) ∧ x.size ≤ 281474976710656 := by
    intro k x hk
    rcases k with _ | k
    · simp only [List.getElem?_cons_zero, Option.some.injEq] at hk
      subst hk
      exact ⟨(Row.new w 9 #[.string s]).cell 0, by omega⟩
    · simp at hk
  have HC := Lib.hid (check_prog X w.heap.size [s] _ (by simp) hc)
  have hk : nameE (okNames [s]) = 0 := by simp [okNames, hn, nameE]
  rw [hk] at HC
  have hl := look_at h s (by simp only [maxLen]; omega) hb
  unfold underV at hl
  rw [hw] at hl
  simp only [ptrV] at hl
  obtain ⟨c0, c1, c2, c3, c4, c5, c6⟩ := (h.below hb).cells
  clear hc hw
  go_enter Try.func69, Try.ntmps69
  go_wp2_with fail
  refine HC.out.mono ?_
  rintro e w1 ⟨rfl, rfl⟩
  go_wp2
  go_ret2
  exact ⟨rfl, hb⟩
theorem find_nil (s : ByteArray) (w : World) :
    Calls Try.prog 69 #[.pointer none, .string s] w fun e w' => e = .returned (.tuple #[.pointer none, .int .i64 1]) ∧ Below w.heap.size w w' := by
  have hb := below_one w (.cells #[.string s] 9)
  go_enter Try.func69, Try.ntmps69
  go_wp2_with fail
  refine (check_nil _ _).mono ?_
  rintro e w1 ⟨rfl, rfl⟩
  go_wp2
  go_ret2
  exact ⟨rfl, hb⟩
end

/-! ### a change -/
theorem do_no {w : World} {X : Nat} {d : Dsk} {dm bm : Nat} {wv : Value} (hX : Row w X 73 (diskC d dm bm wv)) (hp : (power d).2 ≠ 0) (v : Value) :
    Calls Try.prog 71 #[.pointer (some ⟨X, 0, none⟩), v] w fun e w' => e = .returned (.int .i64 6) ∧ Row w' X 73 (diskC (power d).1 dm bm wv) ∧ Kept (fun k => k = X) w w' := by
  have hpn := power_no hp
  rw [hpn]
  have c4 : w.cell? ⟨X, 4, none⟩ = some (.int .i64 d.left) := (hX.cell 4).trans rfl
  have c5 : w.cell? ⟨X, 5, none⟩ = some (.bool d.dark) := (hX.cell 5).trans rfl
  have f5 := hX.frozen 5
  have HX := Lib.hid hX
  have HP := Lib.hid hp
  clear hX hp hpn
  by_cases hl : d.left = 0
  · have q : (d.left == 0) = true := by rw [hl]; rfl
    go_enter Try.func71, Try.ntmps71
    go_wp2
    go_ret
    exact ⟨rfl, HX.out.setAt 5 (.bool true), (Kept.refl (fun k => k = X) w).set (p := ⟨X, 5, none⟩) (.inl rfl) _⟩
  · have q : (d.left == 0) = false := by rw [beq_eq_false_iff_ne]; exact hl
    have hd : d.dark = true := by
      cases hd : d.dark
      · exfalso
        apply HP.out
        unfold power
        rw [if_neg (by rw [hd]; simp [hl])]
      · rfl
    rw [hd] at c5
    have HR := Lib.hid (show Row w X 73 (diskC { d with dark := true } dm bm wv) by have := HX.out; unfold diskC at this ⊢; rw [hd] at this; exact this)
    go_enter Try.func71, Try.ntmps71
    go_wp2
    go_ret
    exact ⟨rfl, HR.out, Kept.refl _ _⟩
theorem do_ok_enter {w : World} {X : Nat} {d : Dsk} {dm bm : Nat} {wv : Value} (hX : Row w X 73 (diskC d dm bm wv)) (hp : (power d).2 = 0) (hl0 : -1 ≤ d.left) (hl1 : d.left ≤ 9223372036854775807) (hc0 : d.count ≤ 1000000) (b1 b2 : Nat) (R : World → Prop)
    (hcall : ∀ w1, Row w1 X 73 (diskC (power d).1 dm bm wv) → Kept (fun k => k = X) w w1 → w1.heap.size = w.heap.size → Calls Try.prog 92 #[.pointer (some ⟨b1, 0, none⟩), .pointer (some ⟨b2, 0, none⟩)] w1 fun e w' => e = .returned (.tuple #[]) ∧ R w') :
    Calls Try.prog 71 #[.pointer (some ⟨X, 0, none⟩), .func (.func 92) #[] #[.pointer (some ⟨b1, 0, none⟩), .pointer (some ⟨b2, 0, none⟩)]] w fun e w' => e = .returned (.int .i64 0) ∧ R w' := by
  have hp' := hp
  unfold power at hp'
  have hnc : ¬ (d.dark = true ∨ d.left = 0) := by
    intro h
    rw [if_pos h] at hp'
    cases hp'
  have e1 : (power d).1 = { d with left := if 0 < d.left then d.left - 1 else d.left, count := d.count + 1 } := by
    unfold power
    rw [if_neg hnc]
  rw [e1] at hcall
  have hd : d.dark = false := by
    cases hd : d.dark
    · rfl
    · exact absurd (.inl hd) hnc
  have hl : d.left ≠ 0 := fun h => hnc (.inr h)
  have c4 : w.cell? ⟨X, 4, none⟩ = some (.int .i64 d.left) := (hX.cell 4).trans rfl
  have c5 : w.cell? ⟨X, 5, none⟩ = some (.bool d.dark) := (hX.cell 5).trans rfl
  have c6 : w.cell? ⟨X, 6, none⟩ = some (.int .i64 d.count) := (hX.cell 6).trans rfl
  rw [hd] at c5
  have f4 := hX.frozen 4
  have f6 := hX.frozen 6
  have q : (d.left == 0) = false := by rw [beq_eq_false_iff_ne]; exact hl
  have HX := Lib.hid hX
  have HH := Lib.hid hcall
  clear hX hp hp' hnc e1 hcall
  by_cases hm : d.left = -1
  · have q2 : (d.left != -1) = false := by rw [hm]; rfl
    have HR := Lib.hid (show Row (w.setCell ⟨X, 6, none⟩ (.int .i64 ((d.count : Int) + 1))) X 73 (diskC { d with left := if 0 < d.left then d.left - 1 else d.left, count := d.count + 1 } dm bm wv) by
      have := HX.out.setAt 6 (.int .i64 ((d.count : Int) + 1))
      have e : (diskC d dm bm wv).setIfInBounds 6 (.int .i64 ((d.count : Int) + 1)) = diskC { d with left := if 0 < d.left then d.left - 1 else d.left, count := d.count + 1 } dm bm wv := by
        rw [hm]
        unfold diskC
        rw [hm]
        rfl
      rw [e] at this
      exact this)
    have HK := Lib.hid ((Kept.refl (fun k => k = X) w).set (p := ⟨X, 6, none⟩) (.inl rfl) (.int .i64 ((d.count : Int) + 1)))
    clear hl
    go_enter Try.func71, Try.ntmps71
    go_wp2_with fail
    refine (HH.out _ HR.out HK.out (by simp [World.setCell])).mono ?_
    rintro e w2 ⟨rfl, hR⟩
    go_wp2
    go_ret
    exact ⟨rfl, hR⟩
  · have q2 : (d.left != -1) = true := by rw [bne_iff_ne]; exact hm
    have hpos : 0 < d.left := by omega
    have HR := Lib.hid (show Row ((w.setCell ⟨X, 4, none⟩ (.int .i64 (d.left - 1))).setCell ⟨X, 6, none⟩ (.int .i64 ((d.count : Int) + 1))) X 73 (diskC { d with left := if 0 < d.left then d.left - 1 else d.left, count := d.count + 1 } dm bm wv) by
      have := (HX.out.setAt 4 (.int .i64 (d.left - 1))).setAt 6 (.int .i64 ((d.count : Int) + 1))
      have e : ((diskC d dm bm wv).setIfInBounds 4 (.int .i64 (d.left - 1))).setIfInBounds 6 (.int .i64 ((d.count : Int) + 1)) = diskC { d with left := if 0 < d.left then d.left - 1 else d.left, count := d.count + 1 } dm bm wv := by
        rw [if_pos hpos]
        rfl
      rw [e] at this
      exact this)
    have HK := Lib.hid (((Kept.refl (fun k => k = X) w).set (p := ⟨X, 4, none⟩) (.inl rfl) (.int .i64 (d.left - 1))).set (p := ⟨X, 6, none⟩) (.inl rfl) (.int .i64 ((d.count : Int) + 1)))
    have hwr : IntKind.i64.wrap (d.left - 1) = d.left - 1 := IntWalk.i64_in _ (by omega)
    have hwr2 : wrap64 (d.left - 1) = d.left - 1 := IntWalk.wrap64_in _ (by omega)
    clear hl hm
    go_enter Try.func71, Try.ntmps71
    go_wp2_with fail
    refine (HH.out _ HR.out HK.out (by simp [World.setCell])).mono ?_
    rintro e w2 ⟨rfl, hR⟩
    go_wp2
    go_ret
    exact ⟨rfl, hR⟩
theorem do_ok_append {w : World} {X : Nat} {d : Dsk} {dm bm : Nat} {wv : Value} (hX : Row w X 73 (diskC d dm bm wv)) (hp : (power d).2 = 0) (hl0 : -1 ≤ d.left) (hl1 : d.left ≤ 9223372036854775807) (hc0 : d.count ≤ 1000000) (b1 b2 : Nat) (R : World → Prop)
    (hcall : ∀ w1, Row w1 X 73 (diskC (power d).1 dm bm wv) → Kept (fun k => k = X) w w1 → w1.heap.size = w.heap.size → Calls Try.prog 72 #[.pointer (some ⟨b1, 0, none⟩), .pointer (some ⟨b2, 0, none⟩)] w1 fun e w' => e = .returned (.tuple #[]) ∧ R w') :
    Calls Try.prog 71 #[.pointer (some ⟨X, 0, none⟩), .func (.func 72) #[] #[.pointer (some ⟨b1, 0, none⟩), .pointer (some ⟨b2, 0, none⟩)]] w fun e w' => e = .returned (.int .i64 0) ∧ R w' := by
  have hp' := hp
  unfold power at hp'
  have hnc : ¬ (d.dark = true ∨ d.left = 0) := by
    intro h
    rw [if_pos h] at hp'
    cases hp'
  have e1 : (power d).1 = { d with left := if 0 < d.left then d.left - 1 else d.left, count := d.count + 1 } := by
    unfold power
    rw [if_neg hnc]
  rw [e1] at hcall
  have hd : d.dark = false := by
    cases hd : d.dark
    · rfl
    · exact absurd (.inl hd) hnc
  have hl : d.left ≠ 0 := fun h => hnc (.inr h)
  have c4 : w.cell? ⟨X, 4, none⟩ = some (.int .i64 d.left) := (hX.cell 4).trans rfl
  have c5 : w.cell? ⟨X, 5, none⟩ = some (.bool d.dark) := (hX.cell 5).trans rfl
  have c6 : w.cell? ⟨X, 6, none⟩ = some (.int .i64 d.count) := (hX.cell 6).trans rfl
  rw [hd] at c5
  have f4 := hX.frozen 4
  have f6 := hX.frozen 6
  have q : (d.left == 0) = false := by rw [beq_eq_false_iff_ne]; exact hl
  have HX := Lib.hid hX
  have HH := Lib.hid hcall
  clear hX hp hp' hnc e1 hcall
  by_cases hm : d.left = -1
  · have q2 : (d.left != -1) = false := by rw [hm]; rfl
    have HR := Lib.hid (show Row (w.setCell ⟨X, 6, none⟩ (.int .i64 ((d.count : Int) + 1))) X 73 (diskC { d with left := if 0 < d.left then d.left - 1 else d.left, count := d.count + 1 } dm bm wv) by
      have := HX.out.setAt 6 (.int .i64 ((d.count : Int) + 1))
      have e : (diskC d dm bm wv).setIfInBounds 6 (.int .i64 ((d.count : Int) + 1)) = diskC { d with left := if 0 < d.left then d.left - 1 else d.left, count := d.count + 1 } dm bm wv := by
        rw [hm]
        unfold diskC
        rw [hm]
        rfl
      rw [e] at this
      exact this)
    have HK := Lib.hid ((Kept.refl (fun k => k = X) w).set (p := ⟨X, 6, none⟩) (.inl rfl) (.int .i64 ((d.count : Int) + 1)))
    clear hl
    go_enter Try.func71, Try.ntmps71
    go_wp2_with fail
    refine (HH.out _ HR.out HK.out (by simp [World.setCell])).mono ?_
    rintro e w2 ⟨rfl, hR⟩
    go_wp2
    go_ret
    exact ⟨rfl, hR⟩
  · have q2 : (d.left != -1) = true := by rw [bne_iff_ne]; exact hm
    have hpos : 0 < d.left := by omega
    have HR := Lib.hid (show Row ((w.setCell ⟨X, 4, none⟩ (.int .i64 (d.left - 1))).setCell ⟨X, 6, none⟩ (.int .i64 ((d.count : Int) + 1))) X 73 (diskC { d with left := if 0 < d.left then d.left - 1 else d.left, count := d.count + 1 } dm bm wv) by
      have := (HX.out.setAt 4 (.int .i64 (d.left - 1))).setAt 6 (.int .i64 ((d.count : Int) + 1))
      have e : ((diskC d dm bm wv).setIfInBounds 4 (.int .i64 (d.left - 1))).setIfInBounds 6 (.int .i64 ((d.count : Int) + 1)) = diskC { d with left := if 0 < d.left then d.left - 1 else d.left, count := d.count + 1 } dm bm wv := by
        rw [if_pos hpos]
        rfl
      rw [e] at this
      exact this)
    have HK := Lib.hid (((Kept.refl (fun k => k = X) w).set (p := ⟨X, 4, none⟩) (.inl rfl) (.int .i64 (d.left - 1))).set (p := ⟨X, 6, none⟩) (.inl rfl) (.int .i64 ((d.count : Int) + 1)))
    have hwr : IntKind.i64.wrap (d.left - 1) = d.left - 1 := IntWalk.i64_in _ (by omega)
    have hwr2 : wrap64 (d.left - 1) = d.left - 1 := IntWalk.wrap64_in _ (by omega)
    clear hl hm
    go_enter Try.func71, Try.ntmps71
    go_wp2_with fail
    refine (HH.out _ HR.out HK.out (by simp [World.setCell])).mono ?_
    rintro e w2 ⟨rfl, hR⟩
    go_wp2
    go_ret
    exact ⟨rfl, hR⟩
theorem do_ok_sync {w : World} {X : Nat} {d : Dsk} {dm bm : Nat} {wv : Value} (hX : Row w X 73 (diskC d dm bm wv)) (hp : (power d).2 = 0) (hl0 : -1 ≤ d.left) (hl1 : d.left ≤ 9223372036854775807) (hc0 : d.count ≤ 1000000) (b1 : Nat) (R : World → Prop)
    (hcall : ∀ w1, Row w1 X 73 (diskC (power d).1 dm bm wv) → Kept (fun k => k = X) w w1 → w1.heap.size = w.heap.size → Calls Try.prog 79 #[.pointer (some ⟨b1, 0, none⟩)] w1 fun e w' => e = .returned (.tuple #[]) ∧ R w') :
    Calls Try.prog 71 #[.pointer (some ⟨X, 0, none⟩), .func (.func 79) #[.pointer (some ⟨b1, 0, none⟩)] #[]] w fun e w' => e = .returned (.int .i64 0) ∧ R w' := by
  have hp' := hp
  unfold power at hp'
  have hnc : ¬ (d.dark = true ∨ d.left = 0) := by
    intro h
    rw [if_pos h] at hp'
    cases hp'
  have e1 : (power d).1 = { d with left := if 0 < d.left then d.left - 1 else d.left, count := d.count + 1 } := by
    unfold power
    rw [if_neg hnc]
  rw [e1] at hcall
  have hd : d.dark = false := by
    cases hd : d.dark
    · rfl
    · exact absurd (.inl hd) hnc
  have hl : d.left ≠ 0 := fun h => hnc (.inr h)
  have c4 : w.cell? ⟨X, 4, none⟩ = some (.int .i64 d.left) := (hX.cell 4).trans rfl
  have c5 : w.cell? ⟨X, 5, none⟩ = some (.bool d.dark) := (hX.cell 5).trans rfl
  have c6 : w.cell? ⟨X, 6, none⟩ = some (.int .i64 d.count) := (hX.cell 6).trans rfl
  rw [hd] at c5
  have f4 := hX.frozen 4
  have f6 := hX.frozen 6
  have q : (d.left == 0) = false := by rw [beq_eq_false_iff_ne]; exact hl
  have HX := Lib.hid hX
  have HH := Lib.hid hcall
  clear hX hp hp' hnc e1 hcall
  by_cases hm : d.left = -1
  · have q2 : (d.left != -1) = false := by rw [hm]; rfl
    have HR := Lib.hid (show Row (w.setCell ⟨X, 6, none⟩ (.int .i64 ((d.count : Int) + 1))) X 73 (diskC { d with left := if 0 < d.left then d.left - 1 else d.left, count := d.count + 1 } dm bm wv) by
      have := HX.out.setAt 6 (.int .i64 ((d.count : Int) + 1))
      have e : (diskC d dm bm wv).setIfInBounds 6 (.int .i64 ((d.count : Int) + 1)) = diskC { d with left := if 0 < d.left then d.left - 1 else d.left, count := d.count + 1 } dm bm wv := by
        rw [hm]
        unfold diskC
        rw [hm]
        rfl
      rw [e] at this
      exact this)
    have HK := Lib.hid ((Kept.refl (fun k => k = X) w).set (p := ⟨X, 6, none⟩) (.inl rfl) (.int .i64 ((d.count : Int) + 1)))
    clear hl
    go_enter Try.func71, Try.ntmps71
    go_wp2_with fail
    refine (HH.out _ HR.out HK.out (by simp [World.setCell])).mono ?_
    rintro e w2 ⟨rfl, hR⟩
    go_wp2
    go_ret
    exact ⟨rfl, hR⟩
  · have q2 : (d.left != -1) = true := by rw [bne_iff_ne]; exact hm
    have hpos : 0 < d.left := by omega
    have HR := Lib.hid (show Row ((w.setCell ⟨X, 4, none⟩ (.int .i64 (d.left - 1))).setCell ⟨X, 6, none⟩ (.int .i64 ((d.count : Int) + 1))) X 73 (diskC { d with left := if 0 < d.left then d.left - 1 else d.left, count := d.count + 1 } dm bm wv) by
      have := (HX.out.setAt 4 (.int .i64 (d.left - 1))).setAt 6 (.int .i64 ((d.count : Int) + 1))
      have e : ((diskC d dm bm wv).setIfInBounds 4 (.int .i64 (d.left - 1))).setIfInBounds 6 (.int .i64 ((d.count : Int) + 1)) = diskC { d with left := if 0 < d.left then d.left - 1 else d.left, count := d.count + 1 } dm bm wv := by
        rw [if_pos hpos]
        rfl
      rw [e] at this
      exact this)
    have HK := Lib.hid (((Kept.refl (fun k => k = X) w).set (p := ⟨X, 4, none⟩) (.inl rfl) (.int .i64 (d.left - 1))).set (p := ⟨X, 6, none⟩) (.inl rfl) (.int .i64 ((d.count : Int) + 1)))
    have hwr : IntKind.i64.wrap (d.left - 1) = d.left - 1 := IntWalk.i64_in _ (by omega)
    have hwr2 : wrap64 (d.left - 1) = d.left - 1 := IntWalk.wrap64_in _ (by omega)
    clear hl hm
    go_enter Try.func71, Try.ntmps71
    go_wp2_with fail
    refine (HH.out _ HR.out HK.out (by simp [World.setCell])).mono ?_
    rintro e w2 ⟨rfl, hR⟩
    go_wp2
    go_ret
    exact ⟨rfl, hR⟩
theorem do_ok_settle {w : World} {X : Nat} {d : Dsk} {dm bm : Nat} {wv : Value} (hX : Row w X 73 (diskC d dm bm wv)) (hp : (power d).2 = 0) (hl0 : -1 ≤ d.left) (hl1 : d.left ≤ 9223372036854775807) (hc0 : d.count ≤ 1000000) (b1 : Nat) (R : World → Prop)
    (hcall : ∀ w1, Row w1 X 73 (diskC (power d).1 dm bm wv) → Kept (fun k => k = X) w w1 → w1.heap.size = w.heap.size → Calls Try.prog 73 #[.pointer (some ⟨b1, 0, none⟩)] w1 fun e w' => e = .returned (.tuple #[]) ∧ R w') :
    Calls Try.prog 71 #[.pointer (some ⟨X, 0, none⟩), .func (.func 73) #[.pointer (some ⟨b1, 0, none⟩)] #[]] w fun e w' => e = .returned (.int .i64 0) ∧ R w' := by
  have hp' := hp
  unfold power at hp'
  have hnc : ¬ (d.dark = true ∨ d.left = 0) := by
    intro h
    rw [if_pos h] at hp'
    cases hp'
  have e1 : (power d).1 = { d with left := if 0 < d.left then d.left - 1 else d.left, count := d.count + 1 } := by
    unfold power
    rw [if_neg hnc]
  rw [e1] at hcall
  have hd : d.dark = false := by
    cases hd : d.dark
    · rfl
    · exact absurd (.inl hd) hnc
  have hl : d.left ≠ 0 := fun h => hnc (.inr h)
  have c4 : w.cell? ⟨X, 4, none⟩ = some (.int .i64 d.left) := (hX.cell 4).trans rfl
  have c5 : w.cell? ⟨X, 5, none⟩ = some (.bool d.dark) := (hX.cell 5).trans rfl
  have c6 : w.cell? ⟨X, 6, none⟩ = some (.int .i64 d.count) := (hX.cell 6).trans rfl
  rw [hd] at c5
  have f4 := hX.frozen 4
  have f6 := hX.frozen 6
  have q : (d.left == 0) = false := by rw [beq_eq_false_iff_ne]; exact hl
  have HX := Lib.hid hX
  have HH := Lib.hid hcall
  clear hX hp hp' hnc e1 hcall
  by_cases hm : d.left = -1
  · have q2 : (d.left != -1) = false := by rw [hm]; rfl
    have HR := Lib.hid (show Row (w.setCell ⟨X, 6, none⟩ (.int .i64 ((d.count : Int) + 1))) X 73 (diskC { d with left := if 0 < d.left then d.left - 1 else d.left, count := d.count + 1 } dm bm wv) by
      have := HX.out.setAt 6 (.int .i64 ((d.count : Int) + 1))
      have e : (diskC d dm bm wv).setIfInBounds 6 (.int .i64 ((d.count : Int) + 1)) = diskC { d with left := if 0 < d.left then d.left - 1 else d.left, count := d.count + 1 } dm bm wv := by
        rw [hm]
        unfold diskC
        rw [hm]
        rfl
      rw [e] at this
      exact this)
    have HK := Lib.hid ((Kept.refl (fun k => k = X) w).set (p := ⟨X, 6, none⟩) (.inl rfl) (.int .i64 ((d.count : Int) + 1)))
    clear hl
    go_enter Try.func71, Try.ntmps71
    go_wp2_with fail
    refine (HH.out _ HR.out HK.out (by simp [World.setCell])).mono ?_
    rintro e w2 ⟨rfl, hR⟩
    go_wp2
    go_ret
    exact ⟨rfl, hR⟩
  · have q2 : (d.left != -1) = true := by rw [bne_iff_ne]; exact hm
    have hpos : 0 < d.left := by omega
    have HR := Lib.hid (show Row ((w.setCell ⟨X, 4, none⟩ (.int .i64 (d.left - 1))).setCell ⟨X, 6, none⟩ (.int .i64 ((d.count : Int) + 1))) X 73 (diskC { d with left := if 0 < d.left then d.left - 1 else d.left, count := d.count + 1 } dm bm wv) by
      have := (HX.out.setAt 4 (.int .i64 (d.left - 1))).setAt 6 (.int .i64 ((d.count : Int) + 1))
      have e : ((diskC d dm bm wv).setIfInBounds 4 (.int .i64 (d.left - 1))).setIfInBounds 6 (.int .i64 ((d.count : Int) + 1)) = diskC { d with left := if 0 < d.left then d.left - 1 else d.left, count := d.count + 1 } dm bm wv := by
        rw [if_pos hpos]
        rfl
      rw [e] at this
      exact this)
    have HK := Lib.hid (((Kept.refl (fun k => k = X) w).set (p := ⟨X, 4, none⟩) (.inl rfl) (.int .i64 (d.left - 1))).set (p := ⟨X, 6, none⟩) (.inl rfl) (.int .i64 ((d.count : Int) + 1)))
    have hwr : IntKind.i64.wrap (d.left - 1) = d.left - 1 := IntWalk.i64_in _ (by omega)
    have hwr2 : wrap64 (d.left - 1) = d.left - 1 := IntWalk.wrap64_in _ (by omega)
    clear hl hm
    go_enter Try.func71, Try.ntmps71
    go_wp2_with fail
    refine (HH.out _ HR.out HK.out (by simp [World.setCell])).mono ?_
    rintro e w2 ⟨rfl, hR⟩
    go_wp2
    go_ret
    exact ⟨rfl, hR⟩
end Go.Proofs.Ytiepepikbophmaa
