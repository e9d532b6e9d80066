/- What a crash leaves of one file: its sure bytes and a share of its loose ones. -/
import Derived.Test.YtiepepikbophmaaDkRead
import Derived.StillTailTactics
namespace Go.Proofs.Ytiepepikbophmaa
open Go.RowKit Go.Maps
set_option linter.unusedVariables false

theorem own_len (B : Option Addr) (n c m c' : Nat) : (Value.slice B n c).ownBlock = (Value.slice B m c').ownBlock := by cases B <;> rfl
/-- A row of the call's own, cut short. -/
theorem own_cut {w : World} {base : Nat} {B : Option Addr} {n c : Nat} {x : List UInt8} (h : Own w base (.slice B n c) x) {k : Nat} (hk : k ≤ x.length) : Own w base (.slice B k c) (x.take k) := by
  rcases h.2 with ⟨e, h0⟩ | ⟨g, cap, cur, e, hg, hh, hnc, hcm, hcs, htk⟩
  · injection e with e1 e2 e3
    subst e1
    subst e3
    have hx : x = [] := List.eq_nil_of_length_eq_zero h0
    subst hx
    obtain rfl : k = 0 := by simpa using hk
    exact own_nil _ _
  · injection e with e1 e2 e3
    subst e1
    subst e3
    have hl : (x.take k).length = k := by rw [List.length_take]; omega
    refine ⟨by simp [bcells], .inr ⟨g, c, cur, by rw [hl], hg, hh, by rw [hl]; omega, hcm, hcs, ?_⟩⟩
    rw [hl]
    have e2 : (bcells (x.take k)).toList = (bcells x).toList.take k := by simp [bcells, List.map_take]
    rw [e2, ← htk, List.take_take]
    congr 1
    omega
theorem share_at (x : Int) (y : Int) (m : Nat) (hy : y = (m : Int)) (w : World) (hm : m ≤ 140737488355328) (hx0 : -9223372036854775808 ≤ x) (hx1 : x ≤ 9223372036854775807) :
    Calls Try.prog 74 #[.int .i64 x, .int .i64 y] w fun e w' => e = .returned (.int .i64 (modU x (m + 1) : Nat)) ∧ w' = w := by
  subst hy
  exact (share_prog x m w hm hx0 hx1).mono fun _ _ h => ⟨h.1, h.2.symm⟩

set_option maxRecDepth 20000 in
theorem crash_one {w : World} {g : Nat} {v : Value} {s : Nat} {x : List UInt8} (hg : Row w g 111 #[v, .int .i64 (s : Int)]) (hv : Own w 0 v x) (hs : s ≤ x.length) (hx : x.length ≤ 4194304) (k : Int) (hk0 : -9223372036854775808 ≤ k) (hk1 : k ≤ 9223372036854775807) :
    Calls Try.prog 77 #[.pointer (some ⟨g, 0, none⟩), .int .i64 k] w fun e w' => e = .returned (.tuple #[]) ∧ ∃ v', Row w' g 111 #[v', .int .i64 ((s + modU k (x.length - s + 1) : Nat) : Int)] ∧ Own w' 0 v' (x.take (s + modU k (x.length - s + 1))) ∧ Kept (fun i => i = g) w w' ∧ v'.ownBlock = v.ownBlock := by
  obtain ⟨B, c, hv0, _, _, hlc, hcm⟩ := own_cap hv
  have hmod : modU k (x.length - s + 1) < x.length - s + 1 := Nat.mod_lt _ (by omega)
  have hne := row_ne_rows hg hv (by decide)
  rw [hv0] at hg hv hne ⊢
  have HM := Lib.hid (own_cut hv (k := s + modU k (x.length - s + 1)) (by omega))
  have HSH := Lib.hid (fun w => share_at k ((x.length : Int) - (s : Int)) (x.length - s) (by omega) w (by omega) hk0 hk1)
  generalize hln : x.length = n at *
  generalize modU k (n - s + 1) = r at *
  have g0 : w.cell? ⟨g, 0, none⟩ = some (.slice B n c) := (hg.cell 0).trans rfl
  have g1 : w.cell? ⟨g, 1, none⟩ = some (.int .i64 (s : Int)) := (hg.cell 1).trans rfl
  have f0 := hg.frozen 0
  have w1 : IntKind.i64.wrap ((n : Int) - (s : Int)) = (n : Int) - (s : Int) := IntWalk.i64_in _ (by omega)
  have w2 : IntKind.i64.wrap ((s : Int) + (r : Int)) = (s : Int) + (r : Int) := IntWalk.i64_in _ (by omega)
  have b1 : (0 : Int) ≤ (s : Int) + (r : Int) := by omega
  have b2 : (s : Int) + (r : Int) ≤ (c : Int) := by omega
  have b3 : ((s : Int) + (r : Int)).toNat = s + r := by omega
  have HG := Lib.hid hg
  have hnl : (Value.slice B (s + r) c).ownBlock ≠ some g := by rw [own_len B (s + r) c n c]; exact hne
  clear hg hv hv0 hs hx hmod hlc hcm hln
  go_enter Try.func77, Try.ntmps77
  go_wp2
  go_still_tail 25, (by kernel_rfl)
  still_call (HSH.out _)
  repeat still_step
  try refine wpStill_nil ?_
  change wpList _ _ _ _ _ w.drew
  have d0 : w.drew.cell? ⟨g, 0, none⟩ = some (.slice B n c) := g0
  have d1 : w.drew.cell? ⟨g, 1, none⟩ = some (.int .i64 (s : Int)) := g1
  have df : w.drew.frozen? ⟨g, 0, none⟩ = false := f0
  have HGD : Hid (Row w.drew g 111 #[.slice B n c, .int .i64 (s : Int)]) := Lib.hid HG.out
  have HMD : Hid (Own w.drew 0 (.slice B (s + r) c) (x.take (s + r))) := Lib.hid HM.out
  have HK : Hid (Kept (fun i => i = g) w w.drew) := Lib.hid ⟨rfl, rfl, rfl, Nat.le_refl _, fun _ _ _ => rfl⟩
  clear HG HM g0 g1 f0
  generalize w.drew = w2 at *
  go_wp2_with fail
  have hr2 : Row (w2.setCell ⟨g, 0, none⟩ (.slice B (s + r) c)) g 111 #[.slice B (s + r) c, .int .i64 (s : Int)] := HGD.out.setAt 0 (.slice B (s + r) c)
  have HS := Lib.hid (fsettle_prog hr2)
  have HR2 := Lib.hid (hr2.setAt 1 (.int .i64 ((s + r : Nat) : Int)))
  have HO2 := Lib.hid (own_setFar (own_setFar HMD.out (p := ⟨g, 0, none⟩) hnl (.slice B (s + r) c)) (p := ⟨g, 1, none⟩) hnl (.int .i64 ((s + r : Nat) : Int)))
  have HK2 := Lib.hid ((HK.out.set (p := ⟨g, 0, none⟩) (.inl rfl) (.slice B (s + r) c)).set (p := ⟨g, 1, none⟩) (.inl rfl) (.int .i64 ((s + r : Nat) : Int)))
  clear hr2
  refine HS.out.mono ?_
  rintro e w3 ⟨rfl, rfl⟩
  go_wp2
  go_end0
  exact ⟨rfl, _, HR2.out, HO2.out, HK2.out, own_len _ _ _ _ _⟩
end Go.Proofs.Ytiepepikbophmaa
