/- Read, List, Done, Fuse, New: what is told, and the disk behind; and of no disk. -/
import Derived.Test.YtiepepikbophmaaDkAppend2
namespace Go.Proofs.Ytiepepikbophmaa
open Go.RowKit Go.Maps
set_option linter.unusedVariables false

theorem eql_slice_nil {P : Program} (w : World) (t e : TypeId) (a : Option Addr) (l c : Nat) (h : P.underlying t = some (.slice e)) : (binOp .eql t (.slice a l c) (.slice none 0 0)).run P w = .ok (.bool a.isNone) w := by
  simp only [binOp]
  simp [run_equal_slice_nil w t e a l c h]
set_option maxRecDepth 20000 in
theorem clone_bytes {w : World} {v : Value} {x : List UInt8} (h : Own w 0 v x) (hx : x.length ≤ 140737488355328) :
    Calls Try.prog 78 #[v] w fun e w' => ∃ v', e = .returned v' ∧ Own w' w.heap.size v' x ∧ Below w.heap.size w w' := by
  have hq := fun (w : World) a l c => eql_slice_nil (P := Try.prog) w 35 5 a l c Try.underlying35
  rcases h.2 with ⟨rfl, h0⟩ | ⟨g, cap, cur, rfl, hg, hh, r⟩
  · obtain rfl := List.eq_nil_of_length_eq_zero h0
    clear h
    go_enter Try.func78, Try.ntmps78
    go_wp2
    go_ret
    exact ⟨_, rfl, own_nil _ _, Below.refl _ _⟩
  · have HA := Lib.hid (own_bys h)
    clear h hh r
    go_enter Try.func78, Try.ntmps78
    go_wp2_with (at_builtin; refine app_u8 rfl (.tmp 5) (.tmp 6) rfl w.heap.size _ [] rfl (own_empty (Row.new w _ _) (Nat.le_refl _)) (some ⟨g, 0, none⟩) x cap rfl (HA.out.alloc _) (by simp only [List.length_nil]; omega) (by simp) ?_; intro v1 w1 hown1 hb1 hg1; have HO := Lib.hid hown1; have HB := Lib.hid (((Below.refl _ _).alloc (Nat.le_refl _) _).trans hb1); clear hown1 hb1 hg1)
    go_ret
    exact ⟨v1, rfl, HO.out, HB.out⟩

section
variable {S : Nat → Prop} {w : World} {X : Nat} {d : Dsk}
set_option maxRecDepth 20000 in
theorem read_prog (h : DiskAt S w X d) (hF : Fine d) (s : ByteArray) (hm : s.size ≤ 281474976710656) :
    Calls Try.prog 39 #[.pointer (some ⟨X, 0, none⟩), .string s] w fun e w' => ∃ v, e = .returned (.tuple #[v, .int .i64 (readD d (strL s)).2]) ∧ Own w' w.heap.size v (readD d (strL s)).1 ∧ Below w.heap.size w w' := by
  obtain ⟨dm, bm, wv, fb, vb, hin, hS⟩ := h
  unfold readD
  cases hn : namedB (strL s)
  · rw [if_pos rfl]
    have HC := Lib.hid (find_bad hin s hm hn)
    clear hin hS hF
    go_enter Try.func39, Try.ntmps39
    go_wp2_with fail
    refine HC.out.mono ?_
    rintro e w1 ⟨rfl, hb⟩
    have HB := Lib.hid hb
    clear hb
    go_wp2
    go_ret2
    exact ⟨_, rfl, own_nil _ _, HB.out⟩
  · rw [if_neg (by decide)]
    cases hw : whose (live d) (strL s) with
    | none =>
      have HC := Lib.hid (find_none hin s hn hw)
      clear hin hS hF hw
      go_enter Try.func39, Try.ntmps39
      go_wp2_with fail
      refine HC.out.mono ?_
      rintro e w1 ⟨rfl, hb⟩
      have HB := Lib.hid hb
      clear hb
      go_wp2
      go_ret2
      exact ⟨_, rfl, own_nil _ _, HB.out⟩
    | some n =>
      have hnl := (hF.live_in _ ((whose_some hF.live_rises).1 hw)).1
      have HC := Lib.hid (find_some hin s n hn hw)
      have HIN := Lib.hid (fun (x : World) (hb : Below w.heap.size w x) => hin.below hb)
      cases hdk : d.dark
      · simp only [Bool.false_eq_true, if_false]
        have hsm := hF.small n
        have hrm := hF.room
        have HCL := Lib.hid (fun (x : World) (hb : Below w.heap.size w x) => clone_bytes ((hin.below hb).byts n hnl) (by omega))
        have HFL := Lib.hid (fun (x : World) (hb : Below w.heap.size w x) => (hin.below hb).file n hnl)
        obtain ⟨B, c, hv, _, _⟩ := own_slice' (hin.byts n hnl)
        rw [hv] at HCL HFL
        clear hin hS hF hw hv hnl
        generalize d.files.getD n fil0 = f at *
        generalize f.b = fbs at *
        go_enter Try.func39, Try.ntmps39
        go_wp2_with fail
        refine HC.out.mono ?_
        rintro e w1 ⟨rfl, hb⟩
        have x5 : w1.cell? ⟨X, 5, none⟩ = some (.bool d.dark) := ((HIN.out _ hb).row.cell 5).trans rfl
        rw [hdk] at x5
        have f0 : w1.cell? ⟨fb n, 0, none⟩ = some (.slice B fbs.length c) := ((HFL.out _ hb).cell 0).trans rfl
        have HB := Lib.hid hb
        clear hb
        go_wp2_with fail
        refine (HCL.out _ HB.out).mono ?_
        rintro e w2 ⟨v, rfl, ho, hb2⟩
        have HO := Lib.hid ho
        have HB2 := Lib.hid hb2
        clear ho hb2
        go_wp2
        go_ret2
        exact ⟨v, rfl, own_lower HO.out HB.out.size, below_then HB.out HB2.out⟩
      · simp only [if_true]
        clear hS hF hw hin
        go_enter Try.func39, Try.ntmps39
        go_wp2_with fail
        refine HC.out.mono ?_
        rintro e w1 ⟨rfl, hb⟩
        have x5 : w1.cell? ⟨X, 5, none⟩ = some (.bool d.dark) := ((HIN.out _ hb).row.cell 5).trans rfl
        rw [hdk] at x5
        have HB := Lib.hid hb
        clear hb
        go_wp2
        go_ret2
        exact ⟨_, rfl, own_nil _ _, HB.out⟩
/-- Names as a slice of texts. -/
def Texts (w : World) (base : Nat) (v : Value) (ns : List (List UInt8)) : Prop := w.ownsRow base 9 1 v ns.length (ns.map Go.Proofs.encStr)
theorem list_prog (h : DiskAt S w X d) (hF : Fine d) :
    Calls Try.prog 48 #[.pointer (some ⟨X, 0, none⟩)] w fun e w' => ∃ v, e = .returned v ∧ Texts w' w.heap.size v (listD d) ∧ Below w.heap.size w w' := by
  obtain ⟨dm, bm, wv, fb, vb, hin, hS⟩ := h
  have x5 : w.cell? ⟨X, 5, none⟩ = some (.bool d.dark) := (hin.row.cell 5).trans rfl
  have x1 : w.cell? ⟨X, 1, none⟩ = some (.map (some dm)) := (hin.row.cell 1).trans rfl
  have HN := Lib.hid (names_prog hin.dir hF.live_rises (by have := hF.live_few; omega))
  clear hin hS hF
  unfold listD
  cases hdk : d.dark
  · rw [hdk] at x5
    simp only [Bool.false_eq_true, if_false]
    go_enter Try.func48, Try.ntmps48
    go_wp2_with fail
    refine HN.out.mono ?_
    rintro e w1 ⟨v, rfl, ho, hb⟩
    have HO := Lib.hid ho
    have HB := Lib.hid hb
    clear ho hb
    go_wp2
    go_ret
    exact ⟨v, rfl, by unfold Texts; rw [List.length_map]; exact HO.out, HB.out⟩
  · rw [hdk] at x5
    simp only [if_true]
    go_enter Try.func48, Try.ntmps48
    go_wp2
    go_ret
    exact ⟨_, rfl, ⟨rfl, .inl ⟨rfl, rfl⟩⟩, Below.refl _ _⟩
theorem done_prog (h : DiskAt S w X d) :
    Calls Try.prog 51 #[.pointer (some ⟨X, 0, none⟩)] w fun e w' => e = .returned (.int .i64 d.count) ∧ w = w' := by
  obtain ⟨dm, bm, wv, fb, vb, hin, hS⟩ := h
  have x6 : w.cell? ⟨X, 6, none⟩ = some (.int .i64 d.count) := (hin.row.cell 6).trans rfl
  clear hin hS
  go_enter Try.func51, Try.ntmps51
  go_wp2
  go_ret
  exact ⟨rfl, rfl⟩
theorem fuse_prog (h : DiskAt S w X d) (n : Int) :
    Calls Try.prog 43 #[.pointer (some ⟨X, 0, none⟩), .int .i64 n] w fun e w' => e = .returned (.tuple #[]) ∧ After S w X (fuseD d n) w' := by
  obtain ⟨dm, bm, wv, fb, vb, hin, hS⟩ := h
  have x4 : w.cell? ⟨X, 4, none⟩ = some (.int .i64 d.left) := (hin.row.cell 4).trans rfl
  have f4 := hin.row.frozen 4
  have HA := Lib.hid (show After S w X (fuseD d n) (w.setCell ⟨X, 4, none⟩ (.int .i64 (max n (-1)))) from after_row (d' := fuseD d n) hin hS rfl rfl rfl rfl (hin.row.setAt 4 (.int .i64 (max n (-1)))) ((Kept.refl (fun k => k = X) w).set (p := ⟨X, 4, none⟩) (.inl rfl) _))
  clear hin hS
  go_enter Try.func43, Try.ntmps43
  go_wp2
  go_end0
  exact ⟨rfl, HA.out⟩
end
end Go.Proofs.Ytiepepikbophmaa
