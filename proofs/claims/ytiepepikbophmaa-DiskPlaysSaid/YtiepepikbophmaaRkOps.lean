/- The document's own disk: Live, step, Fuse, New. -/
import Derived.Test.YtiepepikbophmaaRkDisk
import Derived.Laws.ResultCell
import Derived.Laws.Rows
namespace Go.Proofs.Ytiepepikbophmaa
open Go.RowKit Go.Maps
set_option linter.unusedVariables false

theorem ret_one {fn : Func} {p : Tmp} (h : fn.results = #[.cell p 31]) (tmps : Array Value) (w : World) (g : Nat) (cs : Array Value) (hp : tmps.getD p undef = .pointer (some ⟨g, 0, none⟩)) (hg : Row w g 31 cs) (hs : cs.size = 7) :
    (results fn tmps).run Try.prog w = .ok (.agg cs) w :=
  results_cell_row h tmps w g _ cs _ _ hp hg Try.underlying31 rfl (by rw [hs]; kernel_rfl)
theorem ret_two {fn : Func} {p u : Tmp} (h : fn.results = #[.cell p 31, .tmp u]) (tmps : Array Value) (w : World) (g : Nat) (cs : Array Value) (hp : tmps.getD p undef = .pointer (some ⟨g, 0, none⟩)) (hg : Row w g 31 cs) (hs : cs.size = 7) :
    (results fn tmps).run Try.prog w = .ok (.tuple #[.agg cs, tmps.getD u undef]) w := by
  rw [results_cell_tmp h]
  have hp' : tmps[p]?.getD undef = .pointer (some ⟨g, 0, none⟩) := by simpa using hp
  simp [hp', asAddr, run_loadVar_row w g _ _ cs _ _ hg Try.underlying31 rfl (by rw [hs]; kernel_rfl)]
theorem row_new2 (w : World) (A : Obj) (t : TypeId) (cs : Array Value) : Row ((w.alloc A).alloc (.cells cs t)) (w.heap.size + 1) t cs := heap_alloc2_new w A _
def RefV (w : World) (val : Value) (d : Dsk) : Prop := ∃ fv bv wv, val = .agg (refC d fv bv wv).toArray ∧ RefIn w fv bv wv d
theorem RefV.below {w w' : World} {val : Value} {d : Dsk} (h : RefV w val d) (hb : Below w.heap.size w w') : RefV w' val d := by
  obtain ⟨fv, bv, wv, h1, h2⟩ := h
  exact ⟨fv, bv, wv, h1, h2.below hb⟩
theorem ref_forms {w : World} {fv bv wv : Value} {d : Dsk} (h : RefIn w fv bv wv d) : (∃ P c, fv = .slice P d.files.length c) ∧ (∃ P c, bv = .slice P d.base.length c) ∧ (∃ P c, wv = .slice P d.wait.length c) := by
  obtain ⟨Pw, cw, hwv, hcw, _⟩ := steps_at h.wait
  obtain ⟨Pb, cb, hbv, _, _⟩ := ents_at h.base
  obtain ⟨fl, hfe, hfl, _⟩ := h.files
  obtain ⟨Pf, cf, hfv, _, _⟩ := rows_at hfl
  have : fl.length = d.files.length := by rw [← hfe, List.length_map]
  exact ⟨⟨Pf, cf, by rw [hfv, this]⟩, ⟨Pb, cb, hbv⟩, ⟨Pw, cw, hwv⟩⟩
theorem live_ref {w : World} {fv bv wv : Value} {d : Dsk} (h : RefIn w fv bv wv d) (hF : Fine d) (hM : Met d) (hwl : d.wait.length ≤ 100000) :
    Calls Try.prog 81 #[.agg (refC d fv bv wv).toArray] w fun e w' => ∃ v', e = .returned v' ∧ EntsR w' 0 v' (live d) ∧ Below w.heap.size w w' := by
  have hB0 := below_one w (.cells (refC d fv bv wv).toArray 31)
  have HD := Lib.hid (dir_ref (h.below hB0) hF hM d.wait.length (Nat.le_refl _) hwl)
  rw [List.take_length] at HD
  have HB0 := Lib.hid hB0
  obtain ⟨x0, x1, x2, x3, x4, x5, x6⟩ := row_cells (Row.new w 31 (refC d fv bv wv).toArray)
  obtain ⟨⟨Pf, cf, hfv⟩, ⟨Pb, cb, hbv⟩, ⟨Pw, cw, hwv⟩⟩ := ref_forms h
  clear h hF hM hwl hB0
  unfold live
  obtain ⟨room, files, base, wait, left, dark, count⟩ := d
  simp only at hwv hbv hfv HD
  simp only [refC] at *
  generalize files.length = nf at *
  generalize base.length = nb at *
  subst hwv
  subst hbv
  subst hfv
  go_enter Try.func81, Try.ntmps81
  go_wp2_with fail
  refine HD.out.mono ?_
  rintro e w2 ⟨v2, rfl, hE2, hb2⟩
  obtain ⟨P2, c2, hv2, _, _⟩ := ents_at hE2
  have HE2 := Lib.hid hE2
  have HB2 := Lib.hid (below_then HB0.out hb2)
  clear hE2 hb2
  generalize (dirOf base wait).length = n2 at hv2
  subst hv2
  go_wp2
  go_ret
  exact ⟨_, rfl, HE2.out, HB2.out⟩
theorem fuse_ref {w : World} {fv bv wv : Value} {d : Dsk} (h : RefIn w fv bv wv d) (n : Int) :
    Calls Try.prog 46 #[.agg (refC d fv bv wv).toArray, .int .i64 n] w fun e w' => e = .returned (.agg (refC (fuseD d n) fv bv wv).toArray) ∧ Below w.heap.size w w' := by
  obtain ⟨⟨Pf, cf, hfv⟩, ⟨Pb, cb, hbv⟩, ⟨Pw, cw, hwv⟩⟩ := ref_forms h
  clear h
  unfold fuseD
  obtain ⟨room, files, base, wait, left, dark, count⟩ := d
  simp only at hwv hbv hfv
  simp only [refC] at *
  generalize files.length = nf at *
  generalize base.length = nb at *
  generalize wait.length = nw at *
  subst hwv
  subst hbv
  subst hfv
  go_enter Try.func46, Try.ntmps46
  go_wp2_with fail
  try simp only [Exit.inBlock, Exit.then]
  refine bodyPost_ret (ret_one rfl _ _ _ _ rfl (row_new2 _ _ _ _) rfl) rfl ?_
  exact ⟨rfl, (below_one _ _).alloc (by simp) _⟩
theorem step_ref {w : World} {fv bv wv : Value} {d : Dsk} (h : RefIn w fv bv wv d) (hl : -1 ≤ d.left ∧ d.left ≤ 9223372036854775807) (hc : d.count ≤ 1000000) :
    Calls Try.prog 83 #[.agg (refC d fv bv wv).toArray] w fun e w' => e = .returned (.tuple #[.agg (refC (power d).1 fv bv wv).toArray, .int .i64 (power d).2]) ∧ Below w.heap.size w w' := by
  obtain ⟨⟨Pf, cf, hfv⟩, ⟨Pb, cb, hbv⟩, ⟨Pw, cw, hwv⟩⟩ := ref_forms h
  clear h
  unfold power
  obtain ⟨room, files, base, wait, left, dark, count⟩ := d
  simp only at hwv hbv hfv hl hc
  simp only [refC] at *
  generalize files.length = nf at *
  generalize base.length = nb at *
  generalize wait.length = nw at *
  subst hwv
  subst hbv
  subst hfv
  cases dark
  · by_cases h0 : left = 0
    · subst h0
      rw [if_pos (.inr rfl)]
      go_enter Try.func83, Try.ntmps83
      go_wp2_with fail
      (try simp only [Exit.inBlock, Exit.then]); refine bodyPost_ret (ret_two rfl _ _ _ _ rfl (row_new2 _ _ _ _) rfl) rfl ?_
      exact ⟨rfl, (below_one _ _).alloc (by simp) _⟩
    · rw [if_neg (by simp [h0])]
      have q0 : (left == 0) = false := by rw [beq_eq_false_iff_ne]; exact h0
      by_cases h1 : 0 < left
      · have q1 : decide ((0 : Int) < left) = true := decide_eq_true h1
        rw [if_pos h1]
        clear h0 h1
        go_enter Try.func83, Try.ntmps83
        go_wp2_with fail
        (try simp only [Exit.inBlock, Exit.then]); refine bodyPost_ret (ret_two rfl _ _ _ _ rfl (row_new2 _ _ _ _) rfl) rfl ?_
        exact ⟨by simp, (below_one _ _).alloc (by simp) _⟩
      · have q1 : decide ((0 : Int) < left) = false := decide_eq_false h1
        rw [if_neg h1]
        clear h0 h1
        go_enter Try.func83, Try.ntmps83
        go_wp2_with fail
        (try simp only [Exit.inBlock, Exit.then]); refine bodyPost_ret (ret_two rfl _ _ _ _ rfl (row_new2 _ _ _ _) rfl) rfl ?_
        exact ⟨by simp, (below_one _ _).alloc (by simp) _⟩
  · rw [if_pos (.inl rfl)]
    by_cases h0 : left = 0
    · subst h0
      go_enter Try.func83, Try.ntmps83
      go_wp2_with fail
      (try simp only [Exit.inBlock, Exit.then]); refine bodyPost_ret (ret_two rfl _ _ _ _ rfl (row_new2 _ _ _ _) rfl) rfl ?_
      exact ⟨rfl, (below_one _ _).alloc (by simp) _⟩
    · have q0 : (left == 0) = false := by rw [beq_eq_false_iff_ne]; exact h0
      clear h0
      go_enter Try.func83, Try.ntmps83
      go_wp2_with fail
      (try simp only [Exit.inBlock, Exit.then]); refine bodyPost_ret (ret_two rfl _ _ _ _ rfl (row_new2 _ _ _ _) rfl) rfl ?_
      exact ⟨rfl, (below_one _ _).alloc (by simp) _⟩
theorem new_ref_ok (room : Nat) (hr : 1 ≤ room ∧ room ≤ 4194304) (w : World) :
    Calls Try.prog 12 #[.int .i64 (room : Int)] w fun e w' => e = .returned (.tuple #[.agg (refC (newD room) (.slice none 0 0) (.slice none 0 0) (.slice none 0 0)).toArray, .int .i64 0]) ∧ Below w.heap.size w w' := by
  have q1 : decide ((room : Int) < 1) = false := decide_eq_false (by omega)
  have q2 : decide ((4194304 : Int) < (room : Int)) = false := decide_eq_false (by omega)
  clear hr
  simp only [refC, newD]
  go_enter Try.func12, Try.ntmps12
  go_wp2_with fail
  (try simp only [Exit.inBlock, Exit.then]); refine bodyPost_ret (ret_two rfl _ _ _ _ rfl (Row.new _ _ _) rfl) rfl ?_
  exact ⟨rfl, below_one _ _⟩
theorem new_ref_no (room : Int) (hr : room < 1 ∨ 4194304 < room) (w : World) :
    Calls Try.prog 12 #[.int .i64 room] w fun e w' => (∃ v, e = .returned (.tuple #[v, .int .i64 2])) ∧ Below w.heap.size w w' := by
  by_cases h1 : room < 1
  · have q1 : decide (room < (1 : Int)) = true := decide_eq_true h1
    clear hr h1
    go_enter Try.func12, Try.ntmps12
    go_wp2_with fail
    (try simp only [Exit.inBlock, Exit.then]); refine bodyPost_ret (ret_two rfl _ _ _ _ rfl (Row.new _ _ _) rfl) rfl ?_
    exact ⟨⟨_, rfl⟩, below_one _ _⟩
  · have q1 : decide (room < (1 : Int)) = false := decide_eq_false h1
    have q2 : decide ((4194304 : Int) < room) = true := decide_eq_true (by omega)
    clear hr h1
    go_enter Try.func12, Try.ntmps12
    go_wp2_with fail
    (try simp only [Exit.inBlock, Exit.then]); refine bodyPost_ret (ret_two rfl _ _ _ _ rfl (Row.new _ _ _) rfl) rfl ?_
    exact ⟨⟨_, rfl⟩, below_one _ _⟩
theorem ref_new (w : World) (room : Nat) : RefIn w (.slice none 0 0) (.slice none 0 0) (.slice none 0 0) (newD room) :=
  ⟨⟨[], rfl, ⟨rfl, .inl ⟨rfl, rfl⟩⟩, fun x hx => by cases hx⟩, ents_nil _ _, ⟨rfl, .inl ⟨rfl, rfl⟩⟩⟩
end Go.Proofs.Ytiepepikbophmaa
