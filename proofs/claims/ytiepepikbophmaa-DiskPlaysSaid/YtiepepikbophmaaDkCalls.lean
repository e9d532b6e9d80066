/- Create, Rename, Remove, Sync, SyncDir: what is told, and the disk behind. -/
import Derived.Test.YtiepepikbophmaaDkCreate
namespace Go.Proofs.Ytiepepikbophmaa
open Go.RowKit Go.Maps
set_option linter.unusedVariables false

theorem cells_1 (w : World) (s : ByteArray) (hm : s.size ≤ 281474976710656) : ∀ k x, [s][k]? = some x → (w.alloc (.cells #[.string s] 9)).cell? ⟨w.heap.size, k, none⟩ = some (.string x) ∧ x.size ≤ 281474976710656 := by
  intro k x hk
  rcases k with _ | k
  · simp only [List.getElem?_cons_zero, Option.some.injEq] at hk
    subst hk
    exact ⟨(Row.new w 9 #[.string s]).cell 0, hm⟩
  · simp at hk
theorem cells_2 (w : World) (s t : ByteArray) (hm : s.size ≤ 281474976710656) (hm2 : t.size ≤ 281474976710656) : ∀ k x, [s, t][k]? = some x → (w.alloc (.cells #[.string s, .string t] 9)).cell? ⟨w.heap.size, k, none⟩ = some (.string x) ∧ x.size ≤ 281474976710656 := by
  intro k x hk
  have hr := Row.new w 9 #[.string s, .string t]
  rcases k with _ | _ | k
  · simp only [List.getElem?_cons_zero, Option.some.injEq] at hk
    subst hk
    exact ⟨hr.cell 0, hm⟩
  · simp only [List.getElem?_cons_succ, List.getElem?_cons_zero, Option.some.injEq] at hk
    subst hk
    exact ⟨hr.cell 1, hm2⟩
  · simp at hk
theorem ret_i {a b : Int} (h : a = b) : Ending.returned (.int .i64 a) = .returned (.int .i64 b) := by rw [h]
theorem txt_nil : txt [] = ⟨#[]⟩ := rfl

section
variable {S : Nat → Prop} {w : World} {X : Nat} {d : Dsk}
theorem why_create_1 {s to b : List UInt8} (h : namedB s = false) : whyNot d 1 s to b = 8 := by unfold whyNot; rw [if_pos (.inl ⟨by decide, h⟩)]
theorem why_create_2 {s to b : List UInt8} (h : namedB s = true) {n : Nat} (hw : whose (live d) s = some n) : whyNot d 1 s to b = 10 := by
  unfold whyNot
  rw [if_neg (by simp [h]), if_pos ⟨rfl, by rw [hw]; rfl⟩]
theorem why_create_3 {s to b : List UInt8} (h : namedB s = true) (hw : whose (live d) s = none) (hl : 64 ≤ (live d).length) : whyNot d 1 s to b = 7 := by
  unfold whyNot
  rw [if_neg (by simp [h]), if_neg (by simp [hw]), if_pos ⟨rfl, hl⟩]
theorem why_create_4 {s to b : List UInt8} (h : namedB s = true) (hw : whose (live d) s = none) (hl : ¬ 64 ≤ (live d).length) : whyNot d 1 s to b = 0 := by
  unfold whyNot
  rw [if_neg (by simp [h]), if_neg (by simp [hw]), if_neg (by simp; omega), if_neg (by omega), if_neg (by omega)]

set_option maxRecDepth 20000 in
theorem create_prog (h : DiskAt S w X d) (hF : Fine d) (hq : Few d) (s : ByteArray) (to b : List UInt8) (hm : s.size ≤ 281474976710656) :
    Calls Try.prog 35 #[.pointer (some ⟨X, 0, none⟩), .string s] w fun e w' => e = .returned (.int .i64 (change d 1 (strL s) to b).2) ∧ After S w X (change d 1 (strL s) to b).1 w' := by
  have hb := below_one w (.cells #[.string s] 9)
  have HC := Lib.hid (check_prog X w.heap.size [s] _ (by simp) (cells_1 w s hm))
  have hk1 : okNames [s] = namedB (strL s) := by simp [okNames]
  rw [hk1] at HC
  have HS := Lib.hid (after_same h hb)
  obtain ⟨dm, bm, wv, fb, vb, hin, hS⟩ := h
  obtain ⟨c0, c1, c2, c3, c4, c5, c6⟩ := (hin.below hb).cells
  clear c0 c2 c3 c4 c5 c6
  cases hn : namedB (strL s)
  · have hw := why_create_1 (d := d) (to := to) (b := b) hn
    rw [change_no (by rw [hw]; decide), hw]
    rw [hn] at HC
    simp only [nameE] at HC
    clear hin hS hF hq
    go_enter Try.func35, Try.ntmps35
    go_wp2_with fail
    refine HC.out.mono ?_
    rintro e w1 ⟨rfl, rfl⟩
    go_wp2
    go_ret
    exact ⟨rfl, HS.out⟩
  · rw [hn] at HC
    simp only [nameE, if_true] at HC
    have hsz := named_size hn
    have hl := look_at hin s (by simp only [maxLen]; omega) hb
    unfold underV at hl
    cases hw : whose (live d) (strL s) with
    | some n =>
      have hy := why_create_2 (d := d) (to := to) (b := b) hn hw
      rw [change_no (by rw [hy]; decide), hy]
      rw [hw] at hl
      simp only [ptrV] at hl
      clear hin hS hF hq hw
      go_enter Try.func35, Try.ntmps35
      go_wp2_with fail
      refine HC.out.mono ?_
      rintro e w1 ⟨rfl, rfl⟩
      go_wp2
      go_ret
      exact ⟨rfl, HS.out⟩
    | none =>
      rw [hw] at hl
      have hlen := fun ty => dir_len (hin.below hb).dir ty
      by_cases h64 : 64 ≤ (live d).length
      · have hy := why_create_3 (d := d) (to := to) (b := b) hn hw h64
        rw [change_no (by rw [hy]; decide), hy]
        have q : decide ((64 : Int) ≤ ((live d).length : Int)) = true := decide_eq_true (by omega)
        clear hin hS hF hq hw
        go_enter Try.func35, Try.ntmps35
        go_wp2_with fail
        refine HC.out.mono ?_
        rintro e w1 ⟨rfl, rfl⟩
        go_wp2
        go_ret
        exact ⟨rfl, HS.out⟩
      · have hy := why_create_4 (d := d) (to := to) (b := b) hn hw h64
        have q : decide ((64 : Int) ≤ ((live d).length : Int)) = false := decide_eq_false (by omega)
        have hin1 := (hin.below hb).newfile hF
        have hS1 := foot_newfile hS (w.alloc (.cells #[.string s] 9)).heap.size
        obtain ⟨pf1, pf2⟩ := power_files d (d.files ++ [fil0])
        have hfN : newF fb d.files.length (w.alloc (.cells #[.string s] 9)).heap.size d.files.length = w.heap.size + 1 := by unfold newF; rw [if_pos rfl]; simp
        have hb2 := hb.alloc (w := w.alloc (.cells #[.string s] 9)) hb.size (.cells #[.slice none 0 0, .int .i64 0] 111)
        by_cases hp : (power d).2 = 0
        · rw [change_ok hy hp]
          have HE := enter_ok hin1 (fine_newfile hF) ⟨hq.count, hq.wait, hq.left⟩ (by rw [pf2]; exact hp) (.lay (strL s) d.files.length) (by show (strL s).length ≤ 24; rw [strL_length]; omega)
          rw [show entOf (live { d with files := d.files ++ [fil0] }) (.lay (strL s) d.files.length) = ([], strL s, some d.files.length) from rfl] at HE
          simp only [fileV, ptrV, hfN, txt_strL, txt_nil] at HE
          have HE' := Lib.hid HE
          have HA : ∀ w' wv', DiskIn w' X dm bm wv' (newF fb d.files.length (w.alloc (.cells #[.string s] 9)).heap.size) (newV vb d.files.length) { (power { d with files := d.files ++ [fil0] }).1 with wait := d.wait ++ [.lay (strL s) d.files.length] } →
              Kept (fun k => k = X ∨ k = dm ∨ wv.ownBlock = some k) ((w.alloc (.cells #[.string s] 9)).alloc (.cells #[.slice none 0 0, .int .i64 0] 111)) w' → (∀ k, wv'.ownBlock = some k → wv.ownBlock = some k ∨ ((w.alloc (.cells #[.string s] 9)).alloc (.cells #[.slice none 0 0, .int .i64 0] 111)).heap.size ≤ k) →
              After S w X (applyD (power d).1 1 (strL s) to b) w' := by
            intro w' wv' q1 q2 q3
            have := after_entered hin1 hS1 q1 (by rw [pf1]) q2 q3
            have := after_back hb2 this
            have e : applyD (power d).1 1 (strL s) to b = { (power { d with files := d.files ++ [fil0] }).1 with wait := d.wait ++ [.lay (strL s) d.files.length] } := by
              obtain ⟨_, _, _, _, p5, p6, p7, p8⟩ := power_ok hp
              rw [pf1]
              unfold applyD
              rw [if_pos rfl, p5, p7]
            rw [e]
            refine ⟨this.1.mono fun k hk => ?_, ?_⟩
            · rcases hk with (hk | hk) | hk
              · exact .inl hk
              · exact .inr (by rw [hk]; simp)
              · exact .inr hk
            · exact ⟨this.2.os, this.2.tape, this.2.output, this.2.size, fun k hk hn => this.2.block k hk (fun e => e.elim hn fun e => by simp at e; omega)⟩
          have HA' := Lib.hid HA
          clear hin hS hF hq hw hin1 hS1 pf1 pf2 HA HE hfN hp hb2 hsz hk1 hn h64 hy
          go_enter Try.func35, Try.ntmps35
          go_wp2_with fail
          refine HC.out.mono ?_
          rintro e w1 ⟨rfl, rfl⟩
          go_wp2_with fail
          refine HE'.out.mono ?_
          rintro e w2 ⟨rfl, wv', k1, k2, k3⟩
          have HK1 := Lib.hid k1
          have HK2 := Lib.hid k2
          have HK3 := Lib.hid k3
          clear k1 k2 k3
          go_wp2
          go_ret
          exact ⟨rfl, HA'.out _ _ HK1.out HK2.out HK3.out⟩
        · rw [change_dark hy hp]
          have HE := enter_no hin1 (by rw [pf2]; exact hp) ([], strL s, some d.files.length)
          simp only [fileV, ptrV, hfN, txt_strL, txt_nil] at HE
          have HE' := Lib.hid HE
          have hin2 := (hin.below hb).below (below_one (w.alloc (.cells #[.string s] 9)) (.cells #[.slice none 0 0, .int .i64 0] 111))
          have HA : ∀ w', Row w' X 73 (diskC (power { d with files := d.files ++ [fil0] }).1 dm bm wv) → Kept (fun k => k = X) ((w.alloc (.cells #[.string s] 9)).alloc (.cells #[.slice none 0 0, .int .i64 0] 111)) w' → After S w X (power d).1 w' := by
            intro w' q1 q2
            rw [pf1] at q1
            exact after_back hb2 (after_dark hin2 hS hp q1 q2)
          have HA' := Lib.hid HA
          clear hin hS hF hq hw hin1 hS1 pf1 pf2 HA HE hfN hp hb2 hsz hk1 hn h64 hy hin2
          go_enter Try.func35, Try.ntmps35
          go_wp2_with fail
          refine HC.out.mono ?_
          rintro e w1 ⟨rfl, rfl⟩
          go_wp2_with fail
          refine HE'.out.mono ?_
          rintro e w2 ⟨rfl, k1, k2⟩
          have HK1 := Lib.hid k1
          have HK2 := Lib.hid k2
          clear k1 k2
          go_wp2
          go_ret
          exact ⟨rfl, HA'.out _ HK1.out HK2.out⟩
end
end Go.Proofs.Ytiepepikbophmaa
