/- MatcherMore's walk. -/
import Derived.Test.YtjljfilflajogaaMtChkAll
import Derived.Deep.Cut
import Derived.Deep.RegionLaw
namespace Go.Proofs.Ytjljfilflajogaa
open Go.RowKit Go.Maps
set_option linter.unusedVariables false
theorem mts_len {l : List Mt} (h : l.length * 40 ≤ 140737488351232) : l.length ≤ 10000000000000 := by omega
set_option maxHeartbeats 4000000 in
theorem more_walk (w : World) (V : Option Addr) (ms : List Mt) (d : Nat) (hV : Mts w V ms) (hm : ms.length * 40 ≤ 140737488351232) (k : Int) (n v : ByteArray) (A : Option Addr) (l : List Lbl) (c : Nat) (hA : Lbls w A l) (hl : l.length ≤ 100000000000000) :
    Calls Try.prog 15 #[.slice V ms.length d, .agg #[.int .i64 k, .string n, .string v], .slice A l.length c] w fun e w' => e = .returned (.bool true) ∧ Below w.heap.size w w' := by
  obtain ⟨ms2, hms2⟩ : ∃ ms2, ms ++ [(k, n, v)] = ms2 := ⟨_, rfl⟩
  have hall : mall ms2 l = (mall ms l && mfits (k, n, v) l) := by rw [← hms2]; exact mall_snoc _ _ _
  have hl2 : ms2.length = ms.length + 1 := by rw [← hms2]; simp
  have hml := mts_len hm
  obtain ⟨N, hN⟩ : ∃ N : Obj, Obj.cells #[.int .i64 k, .string n, .string v] 39 = N := ⟨_, rfl⟩
  obtain ⟨E, hE⟩ : ∃ E : Obj, Obj.cells #[] 39 = E := ⟨_, rfl⟩
  have bM : Below w.heap.size w (w.alloc N) := below_one w N
  have bA : Below w.heap.size w ((w.alloc N).alloc E).drew := (below_then bM (below_one _ _)).drew
  have bB : Below w.heap.size w (((w.alloc N).alloc E).alloc N).drew := (below_then (below_then bM (below_one _ _)) (below_one _ _)).drew
  have bC : Below w.heap.size w (((w.alloc N).alloc N).alloc E).drew := (below_then (below_then bM (below_one _ _)) (below_one _ _)).drew
  have rM : Row (w.alloc N) w.heap.size 39 #[.int .i64 k, .string n, .string v] := by rw [← hN]; exact Row.new w _ _
  have rE : ∀ W : World, Row (W.alloc E) W.heap.size 39 #[] := fun W => by rw [← hE]; exact Row.new W _ _
  have rN : ∀ W : World, Row (W.alloc N) W.heap.size 39 #[.int .i64 k, .string n, .string v] := fun W => by rw [← hN]; exact Row.new W _ _
  have s1 : (w.alloc N).heap.size = w.heap.size + 1 := by simp
  have s2 : ((w.alloc N).alloc E).heap.size = w.heap.size + 2 := by simp
  have s3 : ((w.alloc N).alloc N).heap.size = w.heap.size + 2 := by simp
  have OA : Hid (OwnM ((w.alloc N).alloc E).drew (w.heap.size + 1) (.slice (some ⟨w.heap.size + 1, 0, none⟩) 0 0) []) := Lib.hid (ownm_empty (by have := rE (w.alloc N); rw [s1] at this; exact this) (Nat.le_refl _))
  have OB : Hid (OwnM (((w.alloc N).alloc E).alloc N).drew (w.heap.size + 1) (.slice (some ⟨w.heap.size + 1, 0, none⟩) 0 0) []) := Lib.hid (ownm_empty (by have := (rE (w.alloc N)).alloc N; rw [s1] at this; exact this) (Nat.le_refl _))
  have OC : Hid (OwnM (((w.alloc N).alloc N).alloc E).drew (w.heap.size + 1) (.slice (some ⟨w.heap.size + 2, 0, none⟩) 0 0) []) := Lib.hid (ownm_empty (by have := rE ((w.alloc N).alloc N); rw [s3] at this; exact this) (by omega))
  have RB : Hid (Row (((w.alloc N).alloc E).alloc N).drew (w.heap.size + 2) 39 #[.int .i64 k, .string n, .string v]) := Lib.hid (by have := rN ((w.alloc N).alloc E); rw [s2] at this; exact this)
  have RC : Hid (Row (((w.alloc N).alloc N).alloc E).drew (w.heap.size + 1) 39 #[.int .i64 k, .string n, .string v]) := Lib.hid (by have := (rN (w.alloc N)).alloc E; rw [s1] at this; exact this)
  have MA : Hid (Row ((w.alloc N).alloc E).drew w.heap.size 39 #[.int .i64 k, .string n, .string v]) := Lib.hid (rM.alloc _)
  have MB : Hid (Row (((w.alloc N).alloc E).alloc N).drew w.heap.size 39 #[.int .i64 k, .string n, .string v]) := Lib.hid ((rM.alloc _).alloc _)
  have MC : Hid (Row (((w.alloc N).alloc N).alloc E).drew w.heap.size 39 #[.int .i64 k, .string n, .string v]) := Lib.hid ((rM.alloc _).alloc _)
  have zA : Hid (w.heap.size + 1 ≤ ((w.alloc N).alloc E).drew.heap.size) := Lib.hid (by simp)
  have zB : Hid (w.heap.size + 1 ≤ (((w.alloc N).alloc E).alloc N).drew.heap.size) := Lib.hid (by simp)
  have zC : Hid (w.heap.size + 1 ≤ (((w.alloc N).alloc N).alloc E).drew.heap.size) := Lib.hid (by simp)
  have BA := Lib.hid bA
  have BB := Lib.hid bB
  have BC := Lib.hid bC
  have m0 : (w.alloc N).drew.cell? ⟨w.heap.size, 0, none⟩ = some (.int .i64 k) := rM.cell 0
  have m1 : (w.alloc N).drew.cell? ⟨w.heap.size, 1, none⟩ = some (.string n) := rM.cell 1
  have m2 : (w.alloc N).drew.cell? ⟨w.heap.size, 2, none⟩ = some (.string v) := rM.cell 2
  subst hN hE
  have HV := Lib.hid hV
  have HA := Lib.hid hA
  have HL2 := Lib.hid hl2
  have HMS := Lib.hid hms2
  have HM := Lib.hid hm
  have CM := Lib.hid (fun W P dd (h : Mts W P ms2) (h2 : Lbls W A l) => all_prog P ms2 dd A l c W h (by omega) h2 hl)
  have C1 := Lib.hid (fun W (h : Mts W V ms) (h2 : Lbls W A l) => all_prog V ms d A l c W h (by omega) h2 hl)
  have CF := Lib.hid (fun W (h2 : Lbls W A l) => mfits_prog k n v A l c W h2 hl)
  rw [hall] at CM
  generalize mall ms l = x at CM C1
  generalize mfits (k, n, v) l = y at CM CF
  clear bM bA bB bC rM rE rN s1 s2 s3 hV hA hl2 hms2 hall
  cases x <;> cases y
  all_goals
    go_enter Try.func15, Try.ntmps15
    go_upto_region 1 with fail
    go_region_held3 (fun w' => w'.cell? ⟨w.heap.size, 0, none⟩ = some (.int .i64 k) ∧ w'.cell? ⟨w.heap.size, 1, none⟩ = some (.string n) ∧ w'.cell? ⟨w.heap.size, 2, none⟩ = some (.string v)) (go_keep)
      (first
        | (refine step_mts rfl (.tmp 8) (.tmp 9) rfl (w.heap.size + 1) (.slice (some ⟨w.heap.size + 1, 0, none⟩) 0 0) [] rfl OA.out V ms d rfl (HV.out.below BA.out) (by simp only [List.length_nil]; omega) zA.out ?_
           intro v4 w4 hown4 hb4 hg4
           have HB4 : Hid (Below w.heap.size w w4) := Lib.hid (BA.out.trans (hb4.mono (by omega)))
           have HO4 := Lib.hid hown4
           have HM4 := Lib.hid (MA.out.below hb4 (by omega))
           have d0 := HM4.out.cell 0
           have d1 := HM4.out.cell 1
           have d2 := HM4.out.cell 2
           clear hown4 hb4 hg4)
        | (refine step_mts rfl (.tmp 8) (.tmp 9) rfl (w.heap.size + 1) (.slice (some ⟨w.heap.size + 1, 0, none⟩) 0 0) [] rfl OB.out V ms d rfl (HV.out.below BB.out) (by simp only [List.length_nil]; omega) zB.out ?_
           intro v4 w4 hown4 hb4 hg4
           have HB4 : Hid (Below w.heap.size w w4) := Lib.hid (BB.out.trans (hb4.mono (by omega)))
           have HO4 := Lib.hid hown4
           have HM4 := Lib.hid (MB.out.below hb4 (by omega))
           have HN4 := Lib.hid (grown_row RB.out hg4 (show some (w.heap.size + 2) ≠ some (w.heap.size + 1) by simp))
           have d0 := HM4.out.cell 0
           have d1 := HM4.out.cell 1
           have d2 := HM4.out.cell 2
           clear hown4 hb4 hg4)
        | (refine step_mts rfl (.tmp 8) (.tmp 9) rfl (w.heap.size + 1) (.slice (some ⟨w.heap.size + 2, 0, none⟩) 0 0) [] rfl OC.out V ms d rfl (HV.out.below BC.out) (by simp only [List.length_nil]; omega) zC.out ?_
           intro v4 w4 hown4 hb4 hg4
           have HB4 : Hid (Below w.heap.size w w4) := Lib.hid (BC.out.trans (hb4.mono (by omega)))
           have HO4 := Lib.hid hown4
           have HM4 := Lib.hid (MC.out.below hb4 (by omega))
           have HN4 := Lib.hid (grown_row RC.out hg4 (show some (w.heap.size + 1) ≠ some (w.heap.size + 2) by simp))
           have d0 := HM4.out.cell 0
           have d1 := HM4.out.cell 1
           have d2 := HM4.out.cell 2
           clear hown4 hb4 hg4)
        | (refine step_mts rfl (.tmp 10) (.tmp 12) rfl (w.heap.size + 1) v4 _ rfl HO4.out _ [(k, n, v)] 1 rfl (mts_cell HN4.out) (by simp only [List.length_nil, List.length_append, List.length_cons, Nat.zero_add]; omega) (HM4.out.lt) ?_
           intro v6 w6 hown6 hb6 hg6
           rw [List.nil_append, HMS.out] at hown6
           have HB6 : Hid (Below w.heap.size w w6) := Lib.hid (HB4.out.trans (hb6.mono (by omega)))
           have HM6 := Lib.hid (HM4.out.below hb6 (by omega))
           have e0 := HM6.out.cell 0
           have e1 := HM6.out.cell 1
           have e2 := HM6.out.cell 2
           obtain ⟨P6, c6, hv6, _, hP6, _⟩ := ownm_slice hown6
           subst hv6
           have HP6 := Lib.hid hP6
           clear hown6 hb6 hg6 hP6)
        | (refine step_mts rfl (.tmp 10) (.tmp 12) rfl (w.heap.size + 1) v4 _ rfl (ownm_below HO4.out (below_one _ _)) _ [(k, n, v)] 1 rfl (mts_cell (Row.new _ _ _)) (by simp only [List.length_nil, List.length_append, List.length_cons, Nat.zero_add]; omega) (Nat.le_trans HM4.out.lt (by simp)) ?_
           intro v6 w6 hown6 hb6 hg6
           rw [List.nil_append, HMS.out] at hown6
           have HB6 : Hid (Below w.heap.size w w6) := Lib.hid ((HB4.out.alloc HB4.out.size _).trans (hb6.mono (by omega)))
           have HM6 := Lib.hid ((HM4.out.alloc _).below hb6 (by omega))
           have e0 := HM6.out.cell 0
           have e1 := HM6.out.cell 1
           have e2 := HM6.out.cell 2
           obtain ⟨P6, c6, hv6, _, hP6, _⟩ := ownm_slice hown6
           subst hv6
           have HP6 := Lib.hid hP6
           clear hown6 hb6 hg6 hP6)
        | (go_at_call 33; refine (CM.out _ _ _ HP6.out (HA.out.below HB6.out)).mono ?_; rintro e w7 ⟨rfl, hb7⟩
           have HB7 := Lib.hid (HB6.out.trans (hb7.mono HB6.out.size))
           have HM7 := Lib.hid (HM6.out.below hb7 HM6.out.lt)
           have f0 : w7.cell? ⟨w.heap.size, 0, none⟩ = some (.int .i64 k) := HM7.out.cell 0
           have f1 : w7.cell? ⟨w.heap.size, 1, none⟩ = some (.string n) := HM7.out.cell 1
           have f2 : w7.cell? ⟨w.heap.size, 2, none⟩ = some (.string v) := HM7.out.cell 2
           clear hb7))
    all_goals
      go_wp2_with (first
        | (go_at_call 28; refine (mlives_true _).mono ?_; rintro e w9 ⟨rfl, hb9⟩; have HB9 := Lib.hid (HB8.out.trans (hb9.mono HB8.out.size)); clear hb9)
        | (go_at_call 33; refine (C1.out _ (HV.out.below HB7.out) (HA.out.below HB7.out)).mono ?_; rintro e w8 ⟨rfl, hb8⟩
           have HB8 := Lib.hid (HB7.out.trans (hb8.mono HB7.out.size))
           have HM8 := Lib.hid (HM7.out.below hb8 HM7.out.lt)
           have g0 : w8.cell? ⟨w.heap.size, 0, none⟩ = some (.int .i64 k) := HM8.out.cell 0
           have g1 : w8.cell? ⟨w.heap.size, 1, none⟩ = some (.string n) := HM8.out.cell 1
           have g2 : w8.cell? ⟨w.heap.size, 2, none⟩ = some (.string v) := HM8.out.cell 2
           clear hb8)
        | (go_at_call 29; refine (CF.out _ (HA.out.below HB8.out)).mono ?_; rintro e w8 ⟨rfl, hb8⟩; have HB8 := Lib.hid (HB8.out.trans (hb8.mono HB8.out.size)); clear hb8))
      go_ret
      exact ⟨rfl, HB9.out⟩
theorem matcherMore_walk (w : World) (V : Option Addr) (ms : List Mt) (d : Nat) (hV : Mts w V ms) (hmf : MFits ms) (hm : ms.length * 40 ≤ 140737488351232) (hmd : ms.length ≤ d) (m : Mt) (hmm : MFit m) (A : Option Addr) (l : List Lbl) (c : Nat) (hA : Lbls w A l) (hf : LFits l) (hr : l.length * 32 ≤ 140737488351232) (hlc : l.length ≤ c) :
    Calls Try.prog 15 #[.slice V ms.length d, .agg #[.int .i64 m.1, .string m.2.1, .string m.2.2], .slice A l.length c] w fun e w' => e = .returned (.bool true) ∧ Below w.heap.size w w' :=
  more_walk w V ms d hV hm m.1 m.2.1 m.2.2 A l c hA (by omega)
end Go.Proofs.Ytjljfilflajogaa
