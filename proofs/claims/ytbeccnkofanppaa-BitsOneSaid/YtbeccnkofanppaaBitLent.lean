/- Bits that are lent in memory with a byte more behind their end; whether they were kept as they were; bytes that are written over. -/
import Derived.Test.YtbeccnkofanppaaApp
import Derived.Test.YtbeccnkofanppaaBitSame
import Derived.Test.YtbeccnkofanppaaBitLives
import Derived.Deep.RegionLaw
import Derived.Deep.RegionHeld3
namespace Go.Proofs.Ytbeccnkofanppaa
open Go.RowKit
set_option linter.unusedVariables false

theorem grown_row {w w' : World} {row : Option Nat} {g : Nat} {t : TypeId} {cs : Array Value} (h : Row w g t cs) (hg : w.grownBy w' row) (hne : some g ≠ row) : Row w' g t cs := (hg.block g h.lt hne).trans h

theorem Bys.setFar {w : World} {g : Nat} {l : List UInt8} (h : Bys w (some ⟨g, 0, none⟩) l) {p : Addr} (hp : g ≠ p.block) (u : Value) : Bys (w.setCell p u) (some ⟨g, 0, none⟩) l := by
  rcases h with rfl | ⟨b, o, e, hb, hc⟩
  · exact .inl rfl
  · injection e with e
    injection e with e1 e2 _
    subst e1
    subst e2
    exact .inr ⟨g, 0, rfl, by simpa [World.setCell] using hb, fun i hi => (World.cell?_of_block (w := w) (a := ⟨g, 0 + i, none⟩) (Below.heap_setCell w p u g hp)).trans (hc i hi)⟩
theorem row_at (w : World) (o : Obj) (cs : Array Value) (t : TypeId) : Row ((w.alloc o).alloc (.cells cs t)) (w.heap.size + 1) t cs := by
  have := Row.new (w.alloc o) t cs
  rw [show (w.alloc o).heap.size = w.heap.size + 1 from by simp] at this
  exact this
theorem own_empty {w : World} {g base : Nat} (h : Row w g 5 #[]) (hb : base ≤ g) : Own w base (.slice (some ⟨g, 0, none⟩) 0 0) [] :=
  ⟨by simp [bcells], .inr ⟨g, 0, #[], rfl, hb, h, Nat.le_refl _, by simp [maxLen], by simp, by simp [bcells]⟩⟩
theorem own_alloc {w : World} {base : Nat} {v : Value} {x : List UInt8} (h : Own w base v x) (o : Obj) : Own (w.alloc o) base v x := World.ownsRow.alloc h o
theorem bys_90 {w : World} {g : Nat} (h : Row w g 5 #[.int .u8 90]) : Bys w (some ⟨g, 0, none⟩) [90] := Row.bys (l := [90]) h

set_option maxHeartbeats 2000000 in
theorem lent_law (A : Option Addr) (l : List UInt8) (c : Nat) (N : Int) (w : World) (hA : Bys w A l) (hl : l.length ≤ 140737488351232) :
    Calls Try.prog 12 #[.agg #[.slice A l.length c, .int .i64 N]] w fun e w' => ∃ G cap,
      e = .returned (.agg #[.slice (some ⟨G, 0, none⟩) l.length cap, .int .i64 N]) ∧ Bys w' (some ⟨G, 0, none⟩) (l ++ [90]) ∧ l.length + 1 ≤ cap ∧ cap ≤ maxLen ∧ w.heap.size ≤ G ∧ Below w.heap.size w w' := by
  obtain ⟨i0, hi, hz0, hz1, hz2⟩ := info_parts u8_info
  have rb : Row ((w.alloc (.cells #[.slice A l.length c, .int .i64 N] 24)).alloc (.cells #[.slice none 0 0, .int .i64 0] 24)) w.heap.size 24 #[.slice A l.length c, .int .i64 N] := (Row.new w _ _).alloc _
  have rr : Row ((w.alloc (.cells #[.slice A l.length c, .int .i64 N] 24)).alloc (.cells #[.slice none 0 0, .int .i64 0] 24)) (w.heap.size + 1) 24 #[.slice none 0 0, .int .i64 0] := row_at w _ _ _
  have hx : Below w.heap.size w ((w.alloc (.cells #[.slice A l.length c, .int .i64 N] 24)).alloc (.cells #[.slice none 0 0, .int .i64 0] 24)) := (below_one w _).alloc (by simp) _
  go_enter Try.func12, Try.ntmps12
  go_wp2_with fail
  generalize ((w.alloc (.cells #[.slice A l.length c, .int .i64 N] 24)).alloc (.cells #[.slice none 0 0, .int .i64 0] 24)) = x0 at *
  have hAx := hA.below hx
  have hrb := rb.lt
  have hrr := rr.lt
  have c0 : x0.cell? ⟨w.heap.size, 0, none⟩ = some (.slice A l.length c) := rb.cell 0
  have c1 : x0.cell? ⟨w.heap.size, 1, none⟩ = some (.int .i64 N) := rb.cell 1
  have E1 : Own (x0.alloc (.cells #[] 5)).drew x0.heap.size (.slice (some ⟨x0.heap.size, 0, none⟩) 0 0) [] := own_empty (Row.new x0 _ _) (Nat.le_refl _)
  have E2 : ∀ o, Own ((x0.alloc (.cells #[] 5)).alloc o).drew x0.heap.size (.slice (some ⟨x0.heap.size, 0, none⟩) 0 0) [] := fun o => own_empty ((Row.new x0 _ _).alloc o) (Nat.le_refl _)
  have E3 : ∀ o, Own ((x0.alloc o).alloc (.cells #[] 5)).drew x0.heap.size (.slice (some ⟨x0.heap.size + 1, 0, none⟩) 0 0) [] := fun o => own_empty (row_at x0 _ _ _) (by omega)
  have B1 : ∀ o, Bys (x0.alloc o).drew A l := fun o => hAx.alloc o
  have B2 : ∀ o o', Bys ((x0.alloc o).alloc o').drew A l := fun o o' => (hAx.alloc o).alloc o'
  have S1 : ∀ o, x0.heap.size ≤ (x0.alloc o).drew.heap.size := fun o => by simp
  have S2 : ∀ o o', x0.heap.size ≤ ((x0.alloc o).alloc o').drew.heap.size := fun o o' => by simp; omega
  have RB1 : ∀ o, Row (x0.alloc o).drew w.heap.size 24 _ := fun o => rb.alloc o
  have RB2 : ∀ o o', Row ((x0.alloc o).alloc o').drew w.heap.size 24 _ := fun o o' => (rb.alloc o).alloc o'
  have RR1 : ∀ o, Row (x0.alloc o).drew (w.heap.size + 1) 24 _ := fun o => rr.alloc o
  have RR2 : ∀ o o', Row ((x0.alloc o).alloc o').drew (w.heap.size + 1) 24 _ := fun o o' => (rr.alloc o).alloc o'
  have W1 : ∀ o, Below w.heap.size w (x0.alloc o).drew := fun o => (hx.alloc hx.size o).drew
  have W2 : ∀ o o', Below w.heap.size w ((x0.alloc o).alloc o').drew := fun o o' => ((hx.alloc hx.size o).alloc (by have := hx.size; simp; omega) o').drew
  have N2 : ∀ o, Row ((x0.alloc o).alloc (.cells #[.int .u8 90] 5)).drew (x0.heap.size + 1) 5 #[.int .u8 90] := fun o => row_at x0 o _ _
  have N3 : ∀ o, Row ((x0.alloc (.cells #[.int .u8 90] 5)).alloc o).drew x0.heap.size 5 #[.int .u8 90] := fun o => (Row.new x0 _ _).alloc o
  go_region_held3 (fun w' => w'.cell? ⟨w.heap.size, 0, none⟩ = some (.slice A l.length c) ∧ w'.cell? ⟨w.heap.size, 1, none⟩ = some (.int .i64 N))
    (first | exact ⟨rbc0, rbc1⟩ | exact ⟨rbd0 _, rbd1 _⟩ | exact ⟨rbe0, rbe1⟩ | exact rbc0 | exact rbc1 | exact rbd0 _ | exact rbd1 _ | exact rbe0 | exact rbe1 | go_keep)
    (first
      | (refine step_app _ rfl (.tmp 3) (.tmp 5) 22 rfl x0.heap.size i0 Try.underlying22 hi hz0 hz1 hz2 (.slice (some ⟨x0.heap.size, 0, none⟩) 0 0) [] rfl (by first | exact E1 | exact E2 _) A l c rfl (by first | exact B1 _ | exact B2 _ _) (by show 0 + l.length ≤ _; omega) (by first | exact S1 _ | exact S2 _ _) ?_
         intro v1 w1 hown1 hg1 hat1
         have rb1 : Row w1 w.heap.size 24 #[.slice A l.length c, .int .i64 N] := by first | exact grown_row (RB1 _) hg1 (by simp [Value.ownBlock]; omega) | exact grown_row (RB2 _ _) hg1 (by simp [Value.ownBlock]; omega)
         have rr1 : Row w1 (w.heap.size + 1) 24 #[.slice none 0 0, .int .i64 0] := by first | exact grown_row (RR1 _) hg1 (by simp [Value.ownBlock]; omega) | exact grown_row (RR2 _ _) hg1 (by simp [Value.ownBlock]; omega)
         have hs1 : x0.heap.size ≤ w1.heap.size := by first | exact Nat.le_trans (S1 _) hg1.size | exact Nat.le_trans (S2 _ _) hg1.size
         have hW1 : Below w.heap.size w w1 := by first | exact Below.grown (W1 _) hg1 (W1 _).size (fun k hk => by simp [Value.ownBlock] at hk; omega) | exact Below.grown (W2 _ _) hg1 (W2 _ _).size (fun k hk => by simp [Value.ownBlock] at hk; omega)
         first | have n90 : Row w1 (x0.heap.size + 1) 5 #[.int .u8 90] := grown_row (N2 _) hg1 (by simp [Value.ownBlock]) | skip
         have rbc0 : w1.cell? ⟨w.heap.size, 0, none⟩ = some (.slice A l.length c) := rb1.cell 0
         have rbc1 : w1.cell? ⟨w.heap.size, 1, none⟩ = some (.int .i64 N) := rb1.cell 1
         have rbd0 : ∀ o, (w1.alloc o).cell? ⟨w.heap.size, 0, none⟩ = some (.slice A l.length c) := fun o => (rb1.alloc o).cell 0
         have rbd1 : ∀ o, (w1.alloc o).cell? ⟨w.heap.size, 1, none⟩ = some (.int .i64 N) := fun o => (rb1.alloc o).cell 1
         clear hat1)
      | (refine step_app _ rfl (.tmp 3) (.tmp 5) 22 rfl x0.heap.size i0 Try.underlying22 hi hz0 hz1 hz2 (.slice (some ⟨x0.heap.size + 1, 0, none⟩) 0 0) [] rfl (by first | exact E3 _) A l c rfl (by first | exact B1 _ | exact B2 _ _) (by show 0 + l.length ≤ _; omega) (by first | exact S1 _ | exact S2 _ _) ?_
         intro v1 w1 hown1 hg1 hat1
         have rb1 : Row w1 w.heap.size 24 #[.slice A l.length c, .int .i64 N] := by first | exact grown_row (RB1 _) hg1 (by simp [Value.ownBlock]; omega) | exact grown_row (RB2 _ _) hg1 (by simp [Value.ownBlock]; omega)
         have rr1 : Row w1 (w.heap.size + 1) 24 #[.slice none 0 0, .int .i64 0] := by first | exact grown_row (RR1 _) hg1 (by simp [Value.ownBlock]; omega) | exact grown_row (RR2 _ _) hg1 (by simp [Value.ownBlock]; omega)
         have hs1 : x0.heap.size ≤ w1.heap.size := by first | exact Nat.le_trans (S1 _) hg1.size | exact Nat.le_trans (S2 _ _) hg1.size
         have hW1 : Below w.heap.size w w1 := by first | exact Below.grown (W1 _) hg1 (W1 _).size (fun k hk => by simp [Value.ownBlock] at hk; omega) | exact Below.grown (W2 _ _) hg1 (W2 _ _).size (fun k hk => by simp [Value.ownBlock] at hk; omega)
         first | have n90 : Row w1 x0.heap.size 5 #[.int .u8 90] := grown_row (N3 _) hg1 (by simp [Value.ownBlock]) | skip
         have rbc0 : w1.cell? ⟨w.heap.size, 0, none⟩ = some (.slice A l.length c) := rb1.cell 0
         have rbc1 : w1.cell? ⟨w.heap.size, 1, none⟩ = some (.int .i64 N) := rb1.cell 1
         have rbd0 : ∀ o, (w1.alloc o).cell? ⟨w.heap.size, 0, none⟩ = some (.slice A l.length c) := fun o => (rb1.alloc o).cell 0
         have rbd1 : ∀ o, (w1.alloc o).cell? ⟨w.heap.size, 1, none⟩ = some (.int .i64 N) := fun o => (rb1.alloc o).cell 1
         clear hat1)
      | (refine step_app _ rfl (.tmp 6) (.tmp 7) 22 rfl x0.heap.size i0 Try.underlying22 hi hz0 hz1 hz2 v1 ([] ++ l) rfl (by first | exact hown1 | exact own_alloc hown1 _) _ [90] 1 rfl (by first | exact bys_90 n90 | exact bys_90 (Row.new _ _ _)) (by simp; omega) (by first | exact hs1 | exact Nat.le_trans hs1 (by simp)) ?_
         intro v2 w2 hown2 hg2 hat2
         have rr2 : Row w2 (w.heap.size + 1) 24 #[.slice none 0 0, .int .i64 0] := by first | exact grown_row rr1 hg2 (fun e => by have := (World.ownsRow.lt hown1 _ e.symm).1; omega) | exact grown_row (rr1.alloc _) hg2 (fun e => by have := (World.ownsRow.lt hown1 _ e.symm).1; omega)
         have rb2 : Row w2 w.heap.size 24 #[.slice A l.length c, .int .i64 N] := by first | exact grown_row rb1 hg2 (fun e => by have := (World.ownsRow.lt hown1 _ e.symm).1; omega) | exact grown_row (rb1.alloc _) hg2 (fun e => by have := (World.ownsRow.lt hown1 _ e.symm).1; omega)
         have hW2 : Below w.heap.size w w2 := by first | exact Below.grown hW1 hg2 hW1.size (fun k hk => by have := (World.ownsRow.lt hown1 _ hk).1; omega) | exact Below.grown (hW1.alloc hW1.size _) hg2 (hW1.alloc hW1.size _).size (fun k hk => by have := (World.ownsRow.lt hown1 _ hk).1; omega)
         have rbe0 : w2.cell? ⟨w.heap.size, 0, none⟩ = some (.slice A l.length c) := rb2.cell 0
         have rbe1 : w2.cell? ⟨w.heap.size, 1, none⟩ = some (.int .i64 N) := rb2.cell 1
         obtain ⟨g, cap, hv2, hgb, hglt, hcap, hmax, hcl⟩ := own_form hown2 (by simp)
         subst hv2
         have hby2 := own_bys hown2
         have f0 := rr2.frozen 0
         have f1 := rr2.frozen 1
         have r0 : w2.cell? ⟨w.heap.size + 1, 0, none⟩ = some (.slice none 0 0) := rr2.cell 0
         have r1 : w2.cell? ⟨w.heap.size + 1, 1, none⟩ = some (.int .i64 0) := rr2.cell 1
         have hcapl : l.length + 1 ≤ cap := by simpa using hcap
         have hcapn : l.length ≤ cap := by omega
         have hcapi : (l.length : Int) ≤ (cap : Int) := by omega
         have RR2' := Lib.hid rr2
         clear hcl hat2 hown1 hcap rr2))
  all_goals
    go_wp2
    have F := (RR2'.out.setAt 0 (.slice (some ⟨g, 0, none⟩) l.length cap)).setAt 1 (.int .i64 N)
    have hby3 := (hby2.setFar (p := ⟨w.heap.size + 1, 0, none⟩) (by show g ≠ w.heap.size + 1; omega) (.slice (some ⟨g, 0, none⟩) l.length cap)).setFar (p := ⟨w.heap.size + 1, 1, none⟩) (by show g ≠ w.heap.size + 1; omega) (.int .i64 N)
    have f5 := (hW2.setCell (p := ⟨w.heap.size + 1, 0, none⟩) (by show _ ≤ w.heap.size + 1; omega) (.slice (some ⟨g, 0, none⟩) l.length cap)).setCell (p := ⟨w.heap.size + 1, 1, none⟩) (by show _ ≤ w.heap.size + 1; omega) (.int .i64 N)
    generalize hWW : ((w2.setCell ⟨w.heap.size + 1, 0, none⟩ (.slice (some ⟨g, 0, none⟩) l.length cap)).setCell ⟨w.heap.size + 1, 1, none⟩ (.int .i64 N)) = WW at *
    have q0 : WW.cell? ⟨w.heap.size + 1, 0, none⟩ = some (.slice (some ⟨g, 0, none⟩) l.length cap) := F.cell 0
    have q1 : WW.cell? ⟨w.heap.size + 1, 1, none⟩ = some (.int .i64 N) := F.cell 1
    exact bodyPost_ret (v := .agg #[.slice (some ⟨g, 0, none⟩) l.length cap, .int .i64 N]) (by simp [results, Try.results12, go_sem, q0, q1]) rfl ⟨g, cap, rfl, by simpa using hby3, hcapl, hmax, by omega, f5⟩

theorem spoil_law (G m cap : Nat) (l : List UInt8) (w : World) (hl : l.length = m) (hm : m ≤ 281474976710656) (hG : Row w G 5 (bcells l)) :
    Calls Try.prog 17 #[.slice (some ⟨G, 0, none⟩) m cap] w fun e w' => e = .returned (.tuple #[]) ∧ Two w w' G G := by
  subst hl
  go_enter Try.func17, Try.ntmps17
  go_wp2
  go_loopw [2] (fun i wr => ∃ (k : Nat) (x : List UInt8), k ≤ l.length ∧ x.length = l.length ∧ i = .int .i64 k ∧ Row wr G 5 (bcells x) ∧ Two w wr G G) (fun i _ => l.length - (intOf i).toNat)
  case atStart => exact ⟨0, l, Nat.zero_le _, rfl, rfl, hG, Two.refl _ _ _⟩
  case round =>
    obtain ⟨k, x, hk, hx, rfl, hGr, htwo⟩ := hrel
    by_cases hlt : k < l.length
    · have hc := (hGr.cell k).trans (bcells_get x k (by omega))
      have hf := hGr.frozen k
      have hb := byte_toNat (x.getD k 0)
      have HG := Lib.hid hGr
      have Hx := Lib.hid hx
      clear hGr hx
      generalize (x.getD k 0).toNat = v at *
      go_wp2
      refine ⟨⟨k + 1, x.set k (UInt8.ofNat (v + 1)), by omega, by simpa using Hx.out, by go_num, ?_, htwo.set (p := ⟨G, k, none⟩) (.inl rfl) _⟩, by simp [intOf]; omega⟩
      have h1 := HG.out.setAt k (.int .u8 ((UInt8.ofNat (v + 1)).toNat : Int))
      rw [bcells_set] at h1
      rw [show ((v : Int) + 1) % 256 = ((UInt8.ofNat (v + 1)).toNat : Int) from by rw [UInt8.toNat_ofNat']; omega]
      exact h1
    · go_wp2
      go_end0
      exact ⟨rfl, htwo⟩
end Go.Proofs.Ytbeccnkofanppaa
