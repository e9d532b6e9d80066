/- Sync, SyncDir: what is told, and the disk behind. -/
import Derived.Test.YtiepepikbophmaaDkCalls2
namespace Go.Proofs.Ytiepepikbophmaa
open Go.RowKit Go.Maps
set_option linter.unusedVariables false

section
variable {S : Nat → Prop} {w : World} {X dm bm : Nat} {wv : Value} {fb : Nat → Nat} {vb : Nat → Value} {d : Dsk}
theorem apply_sync {name to b : List UInt8} {n : Nat} (hp : (power d).2 = 0) (hw : whose (live d) name = some n) : applyD (power d).1 5 name to b = { (power d).1 with files := d.files.set n ⟨(d.files.getD n fil0).b, (d.files.getD n fil0).b.length⟩ } := by
  obtain ⟨_, _, _, _, p5, p6, p7, _⟩ := power_ok hp
  have hl : live (power d).1 = live d := by unfold live; rw [p6, p7]
  unfold applyD
  dsimp only
  rw [if_neg (by decide), if_neg (by decide), if_neg (by decide), if_neg (by decide), if_pos rfl, hl, hw, p5]
  rfl
theorem apply_dir {name to b : List UInt8} (hp : (power d).2 = 0) : applyD (power d).1 6 name to b = { (power d).1 with base := live d, wait := [] } := by
  obtain ⟨_, _, _, _, p5, p6, p7, _⟩ := power_ok hp
  have hl : live (power d).1 = live d := by unfold live; rw [p6, p7]
  unfold applyD
  dsimp only
  rw [if_neg (by decide), if_neg (by decide), if_neg (by decide), if_neg (by decide), if_neg (by decide), hl]
theorem sync_do (hin : DiskIn w X dm bm wv fb vb d) (hS : ∀ k, Foot X dm bm wv fb vb d.files.length k → S k) (hF : Fine d) (hq : Few d) {n : Nat} (hn : n < d.files.length) {name to b : List UInt8} (hy : whyNot d 5 name to b = 0) (hw : whose (live d) name = some n) {w2 : World} (hb : Below w.heap.size w w2) :
    Calls Try.prog 71 #[.pointer (some ⟨X, 0, none⟩), .func (.func 79) #[.pointer (some ⟨fb n, 0, none⟩)] #[]] w2 fun e w' => e = .returned (.int .i64 (change d 5 name to b).2) ∧ After S w X (change d 5 name to b).1 w' := by
  have hin2 := hin.below hb
  by_cases hp : (power d).2 = 0
  · rw [change_ok hy hp, apply_sync hp hw]
    refine do_ok_sync hin2.row hp hF.left hq.left (by have := hq.count; omega) (fb n) (fun w' => After S w X { (power d).1 with files := d.files.set n ⟨(d.files.getD n fil0).b, (d.files.getD n fil0).b.length⟩ } w') fun w1 hX1 hK1 hs1 => ?_
    obtain ⟨a1, a2, a3, a4, a5, a6⟩ := hin2.apart
    obtain ⟨b1, b2, b3, b4, b5, b6, b7, b8, b9⟩ := a6 n hn
    have hrow := row_move (hin2.file n hn) (hK1.block _ (hin2.file n hn).lt b1)
    obtain ⟨B, c, hv, _, _⟩ := own_slice' (hin2.byts n hn)
    have hrow' := hrow
    rw [hv] at hrow'
    refine (fsettle_prog hrow').mono ?_
    rintro e w3 ⟨rfl, rfl⟩
    refine ⟨rfl, ?_⟩
    have K : Kept (fun k => k = X ∨ k = fb n ∨ (vb n).ownBlock = some k) w2 (w1.setCell ⟨fb n, 1, none⟩ (.int .i64 (d.files.getD n fil0).b.length)) := (hK1.mono fun k hk => Or.inl hk).set (p := ⟨fb n, 1, none⟩) (.inl (.inr (.inl rfl))) _
    have hown1 : Own w1 0 (vb n) (d.files.getD n fil0).b := own_move (hin2.byts n hn) fun k hk => hK1.block k (World.ownsRow.lt (hin2.byts n hn) k hk).2 (by rintro rfl; exact b5 hk)
    have hfin := hin2.filed hn (v' := vb n) (f' := ⟨(d.files.getD n fil0).b, (d.files.getD n fil0).b.length⟩) (d' := { (power d).1 with files := d.files.set n ⟨(d.files.getD n fil0).b, (d.files.getD n fil0).b.length⟩ })
      (hX1.setFar (p := ⟨fb n, 1, none⟩) (Ne.symm b1) _) (power_ok hp).2.2.2.2.2.1 (power_ok hp).2.2.2.2.2.2.1 rfl (hrow.setAt 1 _) (own_setFar hown1 (b9 n hn) _) K (fun k hk => .inl hk)
    exact after_back hb (after_filed hin2 hS hn hfin rfl K fun k hk => .inl hk)
  · rw [change_dark hy hp]
    refine (do_no hin2.row hp _).mono ?_
    rintro e w' ⟨he, k1, k2⟩
    exact ⟨he, after_back hb (after_dark hin2 hS hp k1 k2)⟩
theorem dir_do (hin : DiskIn w X dm bm wv fb vb d) (hS : ∀ k, Foot X dm bm wv fb vb d.files.length k → S k) (hF : Fine d) (hq : Few d) (name to b : List UInt8) :
    Calls Try.prog 71 #[.pointer (some ⟨X, 0, none⟩), .func (.func 73) #[.pointer (some ⟨X, 0, none⟩)] #[]] w fun e w' => e = .returned (.int .i64 (change d 6 name to b).2) ∧ After S w X (change d 6 name to b).1 w' := by
  have hy := why_sync_dir (d := d) name to b
  by_cases hp : (power d).2 = 0
  · rw [change_ok hy hp, apply_dir hp]
    refine do_ok_settle hin.row hp hF.left hq.left (by have := hq.count; omega) X (fun w' => After S w X { (power d).1 with base := live d, wait := [] } w') fun w1 hX1 hK1 hs1 => ?_
    obtain ⟨a1, a2, a3, a4, a5, a6⟩ := hin.apart
    have hd1 := hin.dir.block (hK1.block dm hin.dir.lt (Ne.symm a1))
    refine (settle_prog hX1 hd1).mono ?_
    rintro e w3 ⟨rfl, k1, k2, k3, k4⟩
    refine ⟨rfl, ?_⟩
    have K : Kept (fun k => k = X) w w3 := hK1.trans k4 fun i hi => .inl hi
    have hfs := hin.filesIn.move (w' := w3) fun k hk => K.block k (hin.filesIn.lt k hk) (by
      rintro rfl
      obtain ⟨i, hi, e | e⟩ := hk
      · exact (a6 i hi).1 e.symm
      · exact (a6 i hi).2.2.2.2.1 e)
    have hpf := (power_ok hp).2.2.2.2.1
    refine ⟨⟨dm, w1.heap.size, .slice none 0 0, fb, vb, ⟨k1, k2, k3, ?_, ⟨rfl, .inl ⟨rfl, rfl⟩⟩, ?_, ?_, ?_, ?_⟩, ?_⟩, K.mono fun k hk => hS k (.inl hk)⟩
    · have := hin.dir.lt
      omega
    · show ∀ i, i < (power d).1.files.length → _
      rw [hpf]
      exact hfs.file
    · show ∀ i, i < (power d).1.files.length → _
      rw [hpf]
      exact hfs.byts
    · show ∀ i j, i < (power d).1.files.length → j < (power d).1.files.length → _
      rw [hpf]
      exact hfs.fbs
    · show ∀ i j, i < (power d).1.files.length → j < (power d).1.files.length → _
      rw [hpf]
      exact hfs.vbs
    · show ∀ k, Foot X dm w1.heap.size (.slice none 0 0) fb vb (power d).1.files.length k → _
      rw [hpf]
      rintro k (e | e | e | e | e)
      · exact .inl (hS k (.inl e))
      · exact .inl (hS k (.inr (.inl e)))
      · exact .inr (by omega)
      · simp [Value.ownBlock] at e
      · exact .inl (hS k (.inr (.inr (.inr (.inr e)))))
  · rw [change_dark hy hp]
    refine (do_no hin.row hp _).mono ?_
    rintro e w' ⟨he, k1, k2⟩
    exact ⟨he, after_dark hin hS hp k1 k2⟩
end
section
variable {S : Nat → Prop} {w : World} {X : Nat} {d : Dsk}
set_option maxRecDepth 20000 in
theorem sync_prog (h : DiskAt S w X d) (hF : Fine d) (hq : Few d) (s : ByteArray) (to b : List UInt8) (hm : s.size ≤ 281474976710656) :
    Calls Try.prog 42 #[.pointer (some ⟨X, 0, none⟩), .string s] w fun e w' => e = .returned (.int .i64 (change d 5 (strL s) to b).2) ∧ After S w X (change d 5 (strL s) to b).1 w' := by
  have HS := Lib.hid (fun w' => after_same (w' := w') h)
  obtain ⟨dm, bm, wv, fb, vb, hin, hS⟩ := h
  have hmf : ∀ (fn : Fn) (first cap : Array Value) (w : World), (Instr.makeFunc fn first cap).run Try.prog w = .ok (.func fn first cap) w := fun _ _ _ _ => rfl
  cases hn : namedB (strL s)
  · have hw := why_bad (d := d) (kind := 5) (to := to) (b := b) (by decide) hn
    rw [change_no (by rw [hw]; decide), hw]
    have HC := Lib.hid (find_bad hin s hm hn)
    clear hin hS hF hq
    go_enter Try.func42, Try.ntmps42
    go_wp2_with fail
    refine HC.out.mono ?_
    rintro e w1 ⟨rfl, hb⟩
    have HB := Lib.hid hb
    clear hb
    go_wp2
    go_ret
    exact ⟨rfl, HS.out _ HB.out⟩
  · cases hw : whose (live d) (strL s) with
    | none =>
      have hy := why_none (d := d) (kind := 5) (to := to) (b := b) (by decide) hn (fun e => absurd e (by decide)) hw
      rw [change_no (by rw [hy]; decide), hy]
      have HC := Lib.hid (find_none hin s hn hw)
      clear hin hS hF hq hw
      go_enter Try.func42, Try.ntmps42
      go_wp2_with fail
      refine HC.out.mono ?_
      rintro e w1 ⟨rfl, hb⟩
      have HB := Lib.hid hb
      clear hb
      go_wp2
      go_ret
      exact ⟨rfl, HS.out _ HB.out⟩
    | some n =>
      have hy := why_fine (d := d) (kind := 5) (to := to) (b := b) (by decide) hn (fun e => absurd e (by decide)) hw
      have hnl := (hF.live_in _ ((whose_some hF.live_rises).1 hw)).1
      have HC := Lib.hid (find_some hin s n hn hw)
      have HE := Lib.hid (fun w2 hb => sync_do (w2 := w2) hin hS hF hq hnl hy hw hb)
      clear hin hS hF hq hw hy hnl
      go_enter Try.func42, Try.ntmps42
      go_wp2_with fail
      refine HC.out.mono ?_
      rintro e w1 ⟨rfl, hb⟩
      have HB := Lib.hid hb
      clear hb
      go_wp2_with fail
      refine (HE.out _ HB.out).mono ?_
      rintro e w2 ⟨rfl, h2⟩
      have H2 := Lib.hid h2
      clear h2
      go_wp2
      go_ret
      exact ⟨rfl, H2.out⟩
set_option maxRecDepth 20000 in
theorem syncdir_prog (h : DiskAt S w X d) (hF : Fine d) (hq : Few d) (name to b : List UInt8) :
    Calls Try.prog 37 #[.pointer (some ⟨X, 0, none⟩)] w fun e w' => e = .returned (.int .i64 (change d 6 name to b).2) ∧ After S w X (change d 6 name to b).1 w' := by
  obtain ⟨dm, bm, wv, fb, vb, hin, hS⟩ := h
  have hmf : ∀ (fn : Fn) (first cap : Array Value) (w : World), (Instr.makeFunc fn first cap).run Try.prog w = .ok (.func fn first cap) w := fun _ _ _ _ => rfl
  have HE := Lib.hid (dir_do hin hS hF hq name to b)
  clear hin hS hF hq
  go_enter Try.func37, Try.ntmps37
  go_wp2_with fail
  refine HE.out.mono ?_
  rintro e w2 ⟨rfl, h2⟩
  have H2 := Lib.hid h2
  clear h2
  go_wp2
  go_ret
  exact ⟨rfl, H2.out⟩
end
end Go.Proofs.Ytiepepikbophmaa
