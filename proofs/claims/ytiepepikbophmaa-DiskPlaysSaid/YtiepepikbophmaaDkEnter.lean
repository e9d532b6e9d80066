/- What a change does: a file's bytes made sure, a directory made sure, an entry done and waiting, bytes laid behind a file's. -/
import Derived.Test.YtiepepikbophmaaDkWait
import Derived.RegionTactic
import Derived.Deep.RegionWith
import Derived.Deep.RegionHeld3
import Derived.Deep.RegionLaw
import Derived.StillTailTactics
namespace Go.Proofs.Ytiepepikbophmaa
open Go.RowKit Go.Maps
set_option linter.unusedVariables false

theorem fsettle_prog {w : World} {g n c : Nat} {B : Option Addr} {s : Int} (hX : Row w g 111 #[.slice B n c, .int .i64 s]) :
    Calls Try.prog 79 #[.pointer (some ⟨g, 0, none⟩)] w fun e w' => e = .returned (.tuple #[]) ∧ w.setCell ⟨g, 1, none⟩ (.int .i64 n) = w' := by
  have c0 : w.cell? ⟨g, 0, none⟩ = some (.slice B n c) := (hX.cell 0).trans rfl
  have c1 : w.cell? ⟨g, 1, none⟩ = some (.int .i64 s) := (hX.cell 1).trans rfl
  have f1 := hX.frozen 1
  clear hX
  go_enter Try.func79, Try.ntmps79
  go_wp2
  go_end0
  exact ⟨rfl, rfl⟩

theorem settle_prog {w : World} {X dm bm : Nat} {wv : Value} {fb : Nat → Nat} {l : List Ent} {d : Dsk} (hX : Row w X 73 (diskC d dm bm wv)) (hd : DirAt w fb dm l) :
    Calls Try.prog 73 #[.pointer (some ⟨X, 0, none⟩)] w fun e w' => e = .returned (.tuple #[]) ∧ Row w' X 73 (diskC d dm w.heap.size (.slice none 0 0)) ∧ DirAt w' fb dm l ∧ DirAt w' fb w.heap.size l ∧ Kept (fun k => k = X) w w' := by
  have c1 : w.cell? ⟨X, 1, none⟩ = some (.map (some dm)) := (hX.cell 1).trans rfl
  have HC := Lib.hid (clone_dir hd)
  have HX := Lib.hid hX
  have HD := Lib.hid hd
  have hlt := hX.lt
  have hXd : dm ≠ X := by
    intro e
    subst e
    obtain ⟨es, clock, hb⟩ := hd.map
    unfold Row at hX
    rw [hX] at hb
    cases hb
  clear hX hd
  go_enter Try.func73, Try.ntmps73
  go_wp2_with (go_at_call 93; refine HC.out.mono ?_; rintro e w1 ⟨rfl, hD1, hb1, hs1⟩; have hX1 := HX.out.below hb1 hlt; have f2 := hX1.frozen 2; have f3 := hX1.frozen 3; have q2 : w1.cell? ⟨X, 2, none⟩ = some (.map (some bm)) := (hX1.cell 2).trans rfl; have q3 : w1.cell? ⟨X, 3, none⟩ = some wv := (hX1.cell 3).trans rfl; have HX1 := Lib.hid hX1; have HD1 := Lib.hid hD1; have HB1 := Lib.hid hb1; clear hX1 hD1 hb1)
  go_end0
  refine ⟨rfl, (HX1.out.setAt 2 (.map (some w.heap.size))).setAt 3 (.slice none 0 0), ?_, ?_, ((Kept.below (S := fun k => k = X) HB1.out).set (p := ⟨X, 2, none⟩) (.inl rfl) _).set (p := ⟨X, 3, none⟩) (.inl rfl) _⟩
  · refine HD.out.block ?_
    rw [Below.heap_setCell _ _ _ _ hXd, Below.heap_setCell _ _ _ _ hXd]
    exact HB1.out.block dm HD.out.lt
  · refine HD1.out.block ?_
    rw [Below.heap_setCell _ _ _ _ (by show w.heap.size ≠ X; omega), Below.heap_setCell _ _ _ _ (by show w.heap.size ≠ X; omega)]

set_option maxHeartbeats 2000000 in
set_option maxRecDepth 20000 in
/-- The closure of a change of the directory: the entry is done, and waits. -/
theorem enter_do {w : World} {X dm bm b1 b2 n : Nat} {wv : Value} {fb : Nat → Nat} {l : List Ent} {d : Dsk} {es : List (List UInt8 × List UInt8 × Option Nat)} (hX : Row w X 73 (diskC d dm bm wv)) (hd : DirAt w fb dm l) (hr : Rises l) (hl : l.length ≤ 1000) (hw : w.ownsRow 0 96 3 wv n (waitC fb es)) (hn : n ≤ 1000000)
    (x : List UInt8 × List UInt8 × Option Nat) (h1 : x.1.length ≤ 1000) (h2 : x.2.1.length ≤ 1000)
    (hb1 : Row w b1 96 (entC fb x).toArray) (hb2 : Row w b2 23 #[.pointer (some ⟨X, 0, none⟩)]) (hbw : wv.ownBlock ≠ some b1) :
    Calls Try.prog 92 #[.pointer (some ⟨b1, 0, none⟩), .pointer (some ⟨b2, 0, none⟩)] w fun e w' => e = .returned (.tuple #[]) ∧ ∃ g' cap, Row w' X 73 (diskC d dm bm (.slice (some ⟨g', 0, none⟩) (n + 1) cap)) ∧ DirAt w' fb dm (progStep l x) ∧
      w'.ownsRow 0 96 3 (.slice (some ⟨g', 0, none⟩) (n + 1) cap) (n + 1) (waitC fb (es ++ [x])) ∧ Kept (fun k => k = X ∨ k = dm ∨ wv.ownBlock = some k) w w' ∧ (wv.ownBlock = some g' ∨ w.heap.size ≤ g') := by
  have HCH := Lib.hid (change_prog (w := w.drew) hd hr (by omega) x (by omega) (by omega))
  have c1 : w.cell? ⟨X, 1, none⟩ = some (.map (some dm)) := (hX.cell 1).trans rfl
  have e0 : w.cell? ⟨b1, 0, none⟩ = some (.string (txt x.1)) := (hb1.cell 0).trans rfl
  have e1 : w.cell? ⟨b1, 1, none⟩ = some (.string (txt x.2.1)) := (hb1.cell 1).trans rfl
  have e2 : w.cell? ⟨b1, 2, none⟩ = some (fileV fb x.2.2) := (hb1.cell 2).trans rfl
  have p0 : w.cell? ⟨b2, 0, none⟩ = some (.pointer (some ⟨X, 0, none⟩)) := (hb2.cell 0).trans rfl
  have HX := Lib.hid hX
  have Hb1 := Lib.hid hb1
  have Hb2 := Lib.hid hb2
  have HW := Lib.hid hw
  have n1 := row_ne_dir hX hd
  have n2 := row_ne_dir hb1 hd
  have n3 := row_ne_dir hb2 hd
  have n4 := dir_ne_rows hd hw
  have n5 := row_ne hX hb1 (by decide)
  have n6 := row_ne hX hb2 (by decide)
  have n7 := row_ne_rows hX hw (by decide)
  have n8 := row_ne_rows hb2 hw (by decide)
  have lX := hX.lt
  have l1 := hb1.lt
  have l2 := hb2.lt
  have ld := hd.lt
  have HLW := Lib.hid (fun k hk => (World.ownsRow.lt hw k hk).2)
  have HE := Lib.hid (show (entC fb x) = [.string (txt x.1), .string (txt x.2.1), fileV fb x.2.2] from rfl)
  generalize fileV fb x.2.2 = fv at *
  have HN := Lib.hid hn
  clear hX hb1 hb2 hd hr hl h1 h2 hw hn
  go_enter Try.func92, Try.ntmps92
  go_wp2
  go_still_tail 5, (by kernel_rfl)
  change wpList _ _ _ _ _ w.drew
  have hsz : w.drew.heap.size = w.heap.size := rfl
  go_wp2_with (go_at_call 75; refine HCH.out.mono ?_; rintro e w1 ⟨rfl, hD1, hK1⟩)
  have hK1' : Kept (fun k => k = dm) w w1 := ⟨hK1.os, hK1.tape, hK1.output, hK1.size, hK1.block⟩
  have s1 := hK1'.size
  have hX1 := row_move HX.out (hK1'.block X lX n1)
  have hb11 := row_move Hb1.out (hK1'.block b1 l1 n2)
  have hb21 := row_move Hb2.out (hK1'.block b2 l2 n3)
  have hw1 := rows_move HW.out fun k hk => hK1'.block k (HLW.out k hk) (fun e => n4 (by rw [hk, e]))
  rw [HE.out] at hb11
  have q3 : w1.cell? ⟨X, 3, none⟩ = some wv := (hX1.cell 3).trans rfl
  have f0 : w1.cell? ⟨b1, 0, none⟩ = some (.string (txt x.1)) := (hb11.cell 0).trans rfl
  have f1 : w1.cell? ⟨b1, 1, none⟩ = some (.string (txt x.2.1)) := (hb11.cell 1).trans rfl
  have f2 : w1.cell? ⟨b1, 2, none⟩ = some fv := (hb11.cell 2).trans rfl
  have g0 : w1.cell? ⟨b2, 0, none⟩ = some (.pointer (some ⟨X, 0, none⟩)) := (hb21.cell 0).trans rfl
  have HX1 := Lib.hid (show ∀ o, Row (w1.alloc o).drew X 73 (diskC d dm bm wv) from fun o => hX1.alloc o)
  have HB2 := Lib.hid (show ∀ o, Row (w1.alloc o).drew b2 23 #[.pointer (some ⟨X, 0, none⟩)] from fun o => hb21.alloc o)
  have HB1 := Lib.hid (show ∀ o, Row (w1.alloc o).drew b1 96 #[.string (txt x.1), .string (txt x.2.1), fv] from fun o => hb11.alloc o)
  have HW1 := Lib.hid (show ∀ o, (w1.alloc o).drew.ownsRow 0 96 3 wv n (waitC fb es) from fun o => World.ownsRow.alloc hw1 o)
  have HR1 := Lib.hid (show Row (w1.alloc (.cells #[.string (txt x.1), .string (txt x.2.1), fv] 96)).drew w1.heap.size 96 (entC fb x).toArray by rw [HE.out]; exact Row.new w1 _ _)
  have q3a : ∀ o, (w1.alloc o).cell? ⟨X, 3, none⟩ = some wv := fun o => ((hX1.alloc o).cell 3).trans rfl
  have f0a : ∀ o, (w1.alloc o).cell? ⟨b1, 0, none⟩ = some (.string (txt x.1)) := fun o => ((hb11.alloc o).cell 0).trans rfl
  have f1a : ∀ o, (w1.alloc o).cell? ⟨b1, 1, none⟩ = some (.string (txt x.2.1)) := fun o => ((hb11.alloc o).cell 1).trans rfl
  have f2a : ∀ o, (w1.alloc o).cell? ⟨b1, 2, none⟩ = some fv := fun o => ((hb11.alloc o).cell 2).trans rfl
  have g0a : ∀ o, (w1.alloc o).cell? ⟨b2, 0, none⟩ = some (.pointer (some ⟨X, 0, none⟩)) := fun o => ((hb21.alloc o).cell 0).trans rfl
  have HD1 := Lib.hid hD1
  have HK1 := Lib.hid hK1'
  clear hX1 hb11 hb21 hw1 hD1 hK1 hK1' HCH e0 e1 e2 p0 c1
  have fin := Lib.hid (show ∀ (g' cap : Nat) (w2 : World), Row w2 X 73 (diskC d dm bm wv) → w2.ownsRow 0 96 3 (.slice (some ⟨g', 0, none⟩) (n + 1) cap) (n + 1) (waitC fb (es ++ [x])) → (w1.alloc (.cells #[.string (txt x.1), .string (txt x.2.1), fv] 96)).drew.grownBy w2 wv.ownBlock → (wv.ownBlock = some g' ∨ g' = (w1.alloc (.cells #[.string (txt x.1), .string (txt x.2.1), fv] 96)).drew.heap.size) →
      (∃ g'' cap', Row (w2.setCell ⟨X, 3, none⟩ (.slice (some ⟨g', 0, none⟩) (n + 1) cap)) X 73 (diskC d dm bm (.slice (some ⟨g'', 0, none⟩) (n + 1) cap')) ∧ DirAt (w2.setCell ⟨X, 3, none⟩ (.slice (some ⟨g', 0, none⟩) (n + 1) cap)) fb dm (progStep l x) ∧
        (w2.setCell ⟨X, 3, none⟩ (.slice (some ⟨g', 0, none⟩) (n + 1) cap)).ownsRow 0 96 3 (.slice (some ⟨g'', 0, none⟩) (n + 1) cap') (n + 1) (waitC fb (es ++ [x])) ∧ Kept (fun k => k = X ∨ k = dm ∨ wv.ownBlock = some k) w (w2.setCell ⟨X, 3, none⟩ (.slice (some ⟨g', 0, none⟩) (n + 1) cap)) ∧ (wv.ownBlock = some g'' ∨ w.heap.size ≤ g'')) by
    intro g' cap w2 h1 h2 h3 h4
    have hdl := HD1.out.lt
    have hs3 := h3.size
    have K1 : Kept (fun k => k = X ∨ k = dm ∨ wv.ownBlock = some k) w (w1.alloc (.cells #[.string (txt x.1), .string (txt x.2.1), fv] 96)).drew := by
      have K0 : Kept (fun k => k = X ∨ k = dm ∨ wv.ownBlock = some k) w w1 := HK1.out.mono fun k hk => Or.inr (Or.inl hk)
      have K0a := K0.alloc (.cells #[.string (txt x.1), .string (txt x.2.1), fv] 96)
      exact ⟨K0a.os, K0a.tape, K0a.output, K0a.size, K0a.block⟩
    refine ⟨g', cap, h1.setAt 3 _, ?_, ?_, ?_, ?_⟩
    · refine HD1.out.block ?_
      rw [Below.heap_setCell _ _ _ _ (Ne.symm n1)]
      exact (h3.block dm (by show dm < (w1.alloc _).heap.size; simp; omega) (fun e => n4 e.symm)).trans (Below.heap_alloc _ _ _ hdl)
    · refine rows_move h2 fun k hk => Below.heap_setCell _ _ _ _ ?_
      rintro rfl
      exact row_ne_rows h1 h2 (by decide) hk
    · exact (K1.trans (Kept.grown h3 fun k hk => hk) fun i hi => .inl (.inr (.inr hi))).set (p := ⟨X, 3, none⟩) (.inl (.inl rfl)) _
    · rcases h4 with h4 | h4
      · exact .inl h4
      · refine .inr ?_
        rw [h4]
        show w.heap.size ≤ (w1.alloc _).heap.size
        simp
        omega)
  go_wp2
  go_region_law
    (first
      | (refine step_app_ent _ rfl (.tmp 12) (.tmp 14) rfl 0 wv fb es n rfl (HW1.out _) x w1.heap.size rfl HR1.out HN.out (Nat.zero_le _) ?_
         intro g' cap w2 hown2 hg2 hat2
         have hX2 : Row w2 X 73 (diskC d dm bm wv) := grown_row (HX1.out _) hg2 (fun e => n7 e.symm)
         have y0 : w2.cell? ⟨b2, 0, none⟩ = some (.pointer (some ⟨X, 0, none⟩)) := ((grown_row (HB2.out _) hg2 (fun e => n8 e.symm)).cell 0).trans rfl
         have r1 := grown_row (HB1.out _) hg2 (fun e => hbw e.symm)
         have y5 : w2.cell? ⟨b1, 0, none⟩ = some (.string (txt x.1)) := (r1.cell 0).trans rfl
         have y6 : w2.cell? ⟨b1, 1, none⟩ = some (.string (txt x.2.1)) := (r1.cell 1).trans rfl
         have y7 : w2.cell? ⟨b1, 2, none⟩ = some fv := (r1.cell 2).trans rfl
         have y3 : w2.cell? ⟨X, 3, none⟩ = some wv := (hX2.cell 3).trans rfl
         have z3 := hX2.frozen 3
         have HX2 := Lib.hid hX2
         have HO2 := Lib.hid hown2
         have HG2 := Lib.hid hg2
         have HA2 := Lib.hid hat2
         clear hX2 hown2 hg2 hat2 r1))
  all_goals
    go_end0
    exact ⟨rfl, fin.out _ _ _ HX2.out HO2.out HG2.out HA2.out⟩
end Go.Proofs.Ytiepepikbophmaa
