/- Bytes laid behind a file's: the closure of Append. -/
import Derived.Test.YtiepepikbophmaaDkWait
import Derived.Deep.RegionLaw
namespace Go.Proofs.Ytiepepikbophmaa
open Go.RowKit Go.Maps
set_option linter.unusedVariables false

set_option maxRecDepth 20000 in
set_option maxHeartbeats 2000000 in
theorem append_do {w : World} {b1 b2 g : Nat} {v : Value} {s : Int} {x l : List UInt8} {A : Option Addr} {c : Nat} (hb1 : Row w b1 94 #[.pointer (some ⟨g, 0, none⟩)]) (hb2 : Row w b2 35 #[.slice A l.length c]) (hg : Row w g 111 #[v, .int .i64 s]) (hv : Own w 0 v x) (hA : Bys w A l) (hn : x.length + l.length ≤ 211106232532992) :
    Calls Try.prog 72 #[.pointer (some ⟨b1, 0, none⟩), .pointer (some ⟨b2, 0, none⟩)] w fun e w' => e = .returned (.tuple #[]) ∧ ∃ v', Row w' g 111 #[v', .int .i64 s] ∧ Own w' 0 v' (x ++ l) ∧ Kept (fun k => k = g ∨ v.ownBlock = some k) w w' ∧ (v'.ownBlock = v.ownBlock ∨ v'.ownBlock = some w.heap.size) := by
  obtain ⟨i0, hi, hz0, hz1, hz2⟩ := info_parts u8_info
  obtain ⟨B0, d0, hv0, _, _⟩ := own_slice' hv
  have p1 : w.cell? ⟨b1, 0, none⟩ = some (.pointer (some ⟨g, 0, none⟩)) := (hb1.cell 0).trans rfl
  have p2 : w.cell? ⟨b2, 0, none⟩ = some (.slice A l.length c) := (hb2.cell 0).trans rfl
  have g0 : w.cell? ⟨g, 0, none⟩ = some v := (hg.cell 0).trans rfl
  have HV0 := Lib.hid hv0
  rw [hv0] at g0
  have n1 := row_ne_rows hb1 hv (by decide)
  have n3 := row_ne_rows hg hv (by decide)
  have lg := hg.lt
  have HV : Hid (Own w.drew 0 v x) := Lib.hid hv
  have HA : Hid (Bys w.drew A l) := Lib.hid hA
  have HG : Hid (Row w.drew g 111 #[v, .int .i64 s]) := Lib.hid hg
  have HB1 : Hid (Row w.drew b1 94 #[.pointer (some ⟨g, 0, none⟩)]) := Lib.hid hb1
  have HN := Lib.hid hn
  have fin := Lib.hid (show ∀ (v' : Value) (w2 : World), Own w2 0 v' (x ++ l) → w.drew.grownBy w2 v.ownBlock → (v'.ownBlock = v.ownBlock ∨ v'.ownBlock = some w.drew.heap.size) →
      (∃ v'', Row (w2.setCell ⟨g, 0, none⟩ v') g 111 #[v'', .int .i64 s] ∧ Own (w2.setCell ⟨g, 0, none⟩ v') 0 v'' (x ++ l) ∧ Kept (fun k => k = g ∨ v.ownBlock = some k) w (w2.setCell ⟨g, 0, none⟩ v') ∧ (v''.ownBlock = v.ownBlock ∨ v''.ownBlock = some w.heap.size)) by
    intro v' w2 h1 h2 h3
    have hg2 := grown_row HG.out h2 (fun e => n3 e.symm)
    have K0 : Kept (fun k => k = g ∨ v.ownBlock = some k) w w.drew := ⟨rfl, rfl, rfl, Nat.le_refl _, fun _ _ _ => rfl⟩
    refine ⟨v', (hg2.setAt 0 v'), own_setFar h1 (row_ne_rows hg2 h1 (by decide)) _, (K0.trans (Kept.grown h2 fun k hk => hk) fun i hi => .inl (.inr hi)).set (p := ⟨g, 0, none⟩) (.inl (.inl rfl)) _, h3⟩)
  clear hb1 hb2 hg hv hA hn hv0
  go_enter Try.func72, Try.ntmps72
  go_wp2
  go_region_law
    (first
      | (refine step_app _ rfl (.tmp 6) (.tmp 7) 35 rfl 0 i0 Try.underlying35 hi hz0 hz1 hz2 v x HV0.out.symm HV.out A l c rfl HA.out HN.out (Nat.zero_le _) ?_
         intro v1 w2 hown2 hg2 hat2
         have y0 : w2.cell? ⟨b1, 0, none⟩ = some (.pointer (some ⟨g, 0, none⟩)) := ((grown_row HB1.out hg2 (fun e => n1 e.symm)).cell 0).trans rfl
         have hgr := grown_row HG.out hg2 (fun e => n3 e.symm)
         have y3 : w2.cell? ⟨g, 0, none⟩ = some v := (hgr.cell 0).trans rfl
         have z3 := hgr.frozen 0
         obtain ⟨B1, d1, hv1, _, _⟩ := own_slice' hown2
         have HLX := Lib.hid (show (x ++ l).length = (x ++ l).length from rfl)
         generalize hll : (x ++ l).length = ln at hv1
         subst hv1
         have HO2 := Lib.hid hown2
         have HG2 := Lib.hid hg2
         have HA2 := Lib.hid hat2
         clear hgr hown2 hg2 hat2 hll))
  all_goals
    go_end0
    exact ⟨rfl, fin.out _ _ HO2.out HG2.out HA2.out⟩
end Go.Proofs.Ytiepepikbophmaa
