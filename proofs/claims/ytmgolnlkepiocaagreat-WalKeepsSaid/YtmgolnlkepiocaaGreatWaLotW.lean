/- In one text, written by lotify.py: WaOpenD, WaAgain, WaLogD, WaHave. -/
import Derived.Test.YtmgolnlkepiocaaGreatWaLotV
import Derived.Test.YtmgolnlkepiocaaGreatWaBytes
import Derived.Test.YtmgolnlkepiocaaGreatWaLotU
namespace Go.Proofs.YtmgolnlkepiocaaGreat
open Go.RowKit Go.Maps Dk
set_option linter.unusedVariables false

def logC (X : Nat) (s : ByteArray) (n p : Int) : Array Value := #[.pointer (some ⟨X, 0, none⟩), .string s, .int .i64 n, .int .i64 p]
/-- A log is told, or an error, and the disk is behind the changes. -/
def OpenTold (S : Nat → Prop) (w : World) (X : Nat) (s : ByteArray) (r : Dsk × Int) (rs : List RecV) (p : Nat) (e : Ending) (w' : World) : Prop :=
  (r.2 ≠ 0 ∧ e = .returned (.tuple #[.pointer none, .slice none 0 0, .int .i64 r.2]) ∧ After S w X r.1 w') ∨
  (r.2 = 0 ∧ ∃ L v ps T, e = .returned (.tuple #[.pointer (some ⟨L, 0, none⟩), v, .int .i64 0]) ∧ Row w' L 94 (logC X s rs.length p) ∧ ps.map Prod.fst = rs ∧ DiskAt T w' X r.1 ∧ Kept S w w' ∧ (∀ k, T k → (S k ∨ w.heap.size ≤ k) ∧ k < w'.heap.size) ∧ ¬ T L ∧ w.heap.size ≤ L ∧ Keeps T w' w.heap.size v ps ∧ (∀ x ∈ ps, Above w.heap.size x) ∧ v.ownBlock ≠ some L ∧ ∀ x ∈ ps, Apart L x)
theorem str_tmp {s : ByteArray} (h : strL s ≠ tmpN) : (s.toList == [116, 109, 112]) = false := by
  rw [ByteArray.toList_eq]
  exact beq_eq_false_iff_ne.2 h
theorem runF_ok {d D : Dsk} {f : Dsk → Dsk × Int} {r : List (Dsk → Dsk × Int)} (h : f d = (D, 0)) : runF d (f :: r) = runF D r := by rw [runF, h]; rfl
theorem runF_no {d D : Dsk} {f : Dsk → Dsk × Int} {r : List (Dsk → Dsk × Int)} {E : Int} (h : f d = (D, E)) (hE : E ≠ 0) : runF d (f :: r) = (D, E) := by rw [runF, h, if_neg hE]
section
variable {S : Nat → Prop} {w : World} {X : Nat} {d : Dsk} {N : Nat}
theorem open_tmp (s : ByteArray) (he : strL s = tmpN) : Calls Tryz.prog 18 #[.pointer (some ⟨X, 0, none⟩), .string s] w fun e w' => e = .returned (.tuple #[.pointer none, .slice none 0 0, .int .i64 8]) ∧ w = w' := by
  have i0 : (s.toList == [116, 109, 112]) = true := by rw [ByteArray.toList_eq]; exact beq_iff_eq.2 he
  clear he
  go_enter Tryz.func18, Tryz.ntmps18
  go_wp2
  go_ret3
  exact ⟨rfl, rfl⟩
set_option maxRecDepth 20000 in
set_option maxHeartbeats 1000000 in
theorem open_err (h : DiskAt S w X d) (hS : ∀ k, S k → k < w.heap.size) (hO : Ok N d) (hN : N ≤ 900) (s : ByteArray) (hs : s.size ≤ 281474976710656) (hne : strL s ≠ tmpN) {rs : List RecV} {p : Nat} (hwh : WH (readD d (strL s)).1 0 rs p) (hbl : (readD d (strL s)).1.length ≤ 1000000000) (h0 : (readD d (strL s)).2 ≠ 0) (h9 : (readD d (strL s)).2 ≠ 9) :
    Calls Tryz.prog 18 #[.pointer (some ⟨X, 0, none⟩), .string s] w fun e w' => e = .returned (.tuple #[.pointer none, .slice none 0 0, .int .i64 (readD d (strL s)).2]) ∧ Below w.heap.size w w' := by
  have HR := Lib.hid (Dk.read_prog h hO.fine s hs)
  have HD := Lib.hid h
  have HOK := Lib.hid hO
  have HSS := Lib.hid hS
  have HWH := Lib.hid hwh
  have i0 := str_tmp hne
  have HBL := Lib.hid hbl
  have i1 : ((readD d (strL s)).2 == 9) = false := beq_eq_false_iff_ne.2 h9
  have i2 : ((readD d (strL s)).2 == 0) = false := beq_eq_false_iff_ne.2 h0
  have i3 : ((readD d (strL s)).2 != 0) = true := bne_iff_ne.2 h0
  clear h hO hS hwh hne h0 h9 hbl
  generalize readD d (strL s) = r at *
  obtain ⟨b, E⟩ := r
  simp only at HR HWH HBL i1 i2 i3
  go_enter Tryz.func18, Tryz.ntmps18
  go_wp2_with (first
    | (go_at_call 32; refine HR.out.mono ?_; rintro e w1 ⟨v1, rfl, ho1, hb1⟩
       obtain ⟨Q, q, hvq, hQ, hQa, hqc, _⟩ := own_cap ho1
       have HQ1 := Lib.hid hQ
       have HQA := Lib.hid hQa
       have HQC := Lib.hid hqc
       have HB1 := Lib.hid hb1
       subst hvq
       skip
       clear ho1 hQ hqc hb1 hQa)
    | (go_at_call 41; refine (whole_prog HWH.out Q q _ HQ1.out HQC.out HBL.out).mono ?_; rintro e w2 ⟨v2, ps, rfl, hps, ho2, ha2, hb2⟩
       have HPS := Lib.hid hps
       have HO2 := Lib.hid ho2
       have HA2 := Lib.hid ha2
       have HB2 := Lib.hid (below_then HB1.out hb2)
       have HB2' := Lib.hid hb2
       obtain ⟨P2, d2, hv2, _, _⟩ := ownr_slice ho2
       have hpl : ps.length = rs.length := by rw [← hps, List.length_map]
       rw [hpl] at hv2
       subst hv2
       clear hps ho2 ha2 hb2 hpl)
  )
  go_ret3
  exact ⟨rfl, HB2.out⟩
set_option maxRecDepth 20000 in
set_option maxHeartbeats 1000000 in
theorem open_whole (h : DiskAt S w X d) (hS : ∀ k, S k → k < w.heap.size) (hO : Ok N d) (hN : N ≤ 900) (s : ByteArray) (hs : s.size ≤ 281474976710656) (hne : strL s ≠ tmpN) {rs : List RecV} {p : Nat} (hwh : WH (readD d (strL s)).1 0 rs p) (hbl : (readD d (strL s)).1.length ≤ 1000000000) (h0 : (readD d (strL s)).2 = 0) (hp : p = (readD d (strL s)).1.length) :
    Calls Tryz.prog 18 #[.pointer (some ⟨X, 0, none⟩), .string s] w (OpenTold S w X s (d, 0) rs p) := by
  have HR := Lib.hid (Dk.read_prog h hO.fine s hs)
  have HD := Lib.hid h
  have HOK := Lib.hid hO
  have HSS := Lib.hid hS
  have HWH := Lib.hid hwh
  have i0 := str_tmp hne
  have HBL := Lib.hid hbl
  have i1 : decide ((p : Int) < ((readD d (strL s)).1.length : Int)) = false := by simp; omega
  have i2 : ¬ (p : Int) < ((readD d (strL s)).1.length : Int) := by omega
  have i3 : ¬ p < (readD d (strL s)).1.length := by omega
  clear h hO hS hwh hne hbl hp
  generalize readD d (strL s) = r at *
  obtain ⟨b, E⟩ := r
  simp only at HR HWH HBL i1 i2 i3 h0
  subst h0
  go_enter Tryz.func18, Tryz.ntmps18
  go_wp2_with (first
    | (go_at_call 32; refine HR.out.mono ?_; rintro e w1 ⟨v1, rfl, ho1, hb1⟩
       obtain ⟨Q, q, hvq, hQ, hQa, hqc, _⟩ := own_cap ho1
       have HQ1 := Lib.hid hQ
       have HQA := Lib.hid hQa
       have HQC := Lib.hid hqc
       have HB1 := Lib.hid hb1
       subst hvq
       skip
       clear ho1 hQ hqc hb1 hQa)
    | (go_at_call 41; refine (whole_prog HWH.out Q q _ HQ1.out HQC.out HBL.out).mono ?_; rintro e w2 ⟨v2, ps, rfl, hps, ho2, ha2, hb2⟩
       have HPS := Lib.hid hps
       have HO2 := Lib.hid ho2
       have HA2 := Lib.hid ha2
       have HB2 := Lib.hid (below_then HB1.out hb2)
       have HB2' := Lib.hid hb2
       obtain ⟨P2, d2, hv2, _, _⟩ := ownr_slice ho2
       have hpl : ps.length = rs.length := by rw [← hps, List.length_map]
       rw [hpl] at hv2
       subst hv2
       clear hps ho2 ha2 hb2 hpl)
  )
  go_loopw [53] (fun i wr => wr = w2 ∧ i = .int .i64 0) (fun _ _ => 0)
  case atStart => exact ⟨rfl, rfl⟩
  case round =>
    obtain ⟨rfl, rfl⟩ := hrel
    go_wp2_with fail
    go_ret3
    refine .inr ⟨rfl, wr.heap.size, _, ps, S, rfl, Row.new wr 94 (logC X s rs.length p), HPS.out, (HD.out.below (HB2.out.alloc HB2.out.size _)), Kept.below (HB2.out.alloc HB2.out.size _), fun k hk => ⟨.inl hk, by have := HSS.out k hk; have := HB2.out.size; simp; omega⟩, fun hk => by have := HSS.out _ hk; have := HB2.out.size; omega, HB2.out.size, (keeps_of (ownr_lower HO2.out HB1.out.size) (fun x hx => (HA2.out x hx).lower HB1.out.size) HSS.out).below (below_one _ _), fun x hx => (HA2.out x hx).lower HB1.out.size, ?_, fun x hx => (HO2.out.each x hx).apart_new (Nat.le_refl _)⟩
    intro e
    have h1 := (World.ownsRow.lt HO2.out.row _ e).2
    omega
set_option maxRecDepth 20000 in
set_option maxHeartbeats 2000000 in
theorem open_begin (h : DiskAt S w X d) (hS : ∀ k, S k → k < w.heap.size) (hO : Ok N d) (hN : N ≤ 900) (s : ByteArray) (hs : s.size ≤ 281474976710656) (hne : strL s ≠ tmpN) {rs : List RecV} {p : Nat} (hwh : WH (readD d (strL s)).1 0 rs p) (hbl : (readD d (strL s)).1.length ≤ 1000000000) (h9 : (readD d (strL s)).2 = 9) :
    Calls Tryz.prog 18 #[.pointer (some ⟨X, 0, none⟩), .string s] w (OpenTold S w X s (runF d ((beginC (strL s)).map fun c d => chg d c)) rs p) := by
  have HR := Lib.hid (Dk.read_prog h hO.fine s hs)
  have HD := Lib.hid h
  have HOK := Lib.hid hO
  have HSS := Lib.hid hS
  have HWH := Lib.hid hwh
  have i0 := str_tmp hne
  have HBL := Lib.hid hbl
  have HSZ := Lib.hid hs
  clear h hO hS hwh hne hbl
  generalize readD d (strL s) = r at *
  obtain ⟨b, E⟩ := r
  simp only at HR HWH HBL h9
  subst h9
  go_enter Tryz.func18, Tryz.ntmps18
  go_wp2_with (first
    | (go_at_call 32; refine HR.out.mono ?_; rintro e w1 ⟨v1, rfl, ho1, hb1⟩
       obtain ⟨Q, q, hvq, hQ, hQa, hqc, _⟩ := own_cap ho1
       have HQ1 := Lib.hid hQ
       have HQA := Lib.hid hQa
       have HQC := Lib.hid hqc
       have HB1 := Lib.hid hb1
       subst hvq
       skip
       clear ho1 hQ hqc hb1 hQa)
    | (go_at_call 41; refine (whole_prog HWH.out Q q _ HQ1.out HQC.out HBL.out).mono ?_; rintro e w2 ⟨v2, ps, rfl, hps, ho2, ha2, hb2⟩
       have HPS := Lib.hid hps
       have HO2 := Lib.hid ho2
       have HA2 := Lib.hid ha2
       have HB2 := Lib.hid (below_then HB1.out hb2)
       have HB2' := Lib.hid hb2
       obtain ⟨P2, d2, hv2, _, _⟩ := ownr_slice ho2
       have hpl : ps.length = rs.length := by rw [← hps, List.length_map]
       rw [hpl] at hv2
       subst hv2
       clear hps ho2 ha2 hb2 hpl)
    | (go_at_call 42; refine (begin_prog X s _).mono ?_; rintro e w3 ⟨rfl, hr1, hr2, hr3, hb3⟩
       have HB3 := Lib.hid (below_then HB2.out hb3)
       have HB23 := Lib.hid hb3
       have hns : ∀ k, w2.heap.size ≤ k → ¬ S k := fun k hk hs => (by have := HSS.out k hs; have := HB2.out.size; omega)
       have HG1 := Lib.hid (fun W (hW : Kept S w3 W) => row_kept hr1 hW (hns _ (Nat.le_refl _)))
       have HG2 := Lib.hid (fun W (hW : Kept S w3 W) => row_kept hr2 hW (hns _ (by omega)))
       have HGF := Lib.hid (fun W (hW : Kept S w3 W) => row_kept hr3 hW (hns _ (by omega)))
       clear hr1 hr2 hr3 hb3 hns))
  have HB0 := Lib.hid (HB3.out.size)
  go_loopw [53] (fun i wr => ∃ (k : Nat) (dk : Dsk), k ≤ 2 ∧ i = .int .i64 (k : Int) ∧ runF d ((beginC (strL s)).map fun c d => chg d c) = runF dk (((beginC (strL s)).map fun c d => chg d c).drop k) ∧ After S w3 X dk wr ∧ Ok (N + k) dk) (fun i _ => 2 - (intOf i).toNat)
  case atStart => exact ⟨0, d, Nat.zero_le _, rfl, rfl, ⟨(HD.out.below HB3.out).mono fun k hk => .inl hk, Kept.refl _ _⟩, HOK.out⟩
  case round =>
    obtain ⟨k, dk, hk, rfl, hrun, HA, HOk⟩ := hrel
    have HGR := Lib.hid (HGF.out _ HA.2)
    rcases Nat.lt_or_ge k 2 with hlt | hge
    · obtain rfl | rfl : k = 0 ∨ k = 1 := by omega
      · have HC := Lib.hid (create_begin s HSZ.out (HG1.out _ HA.2) (HG2.out _ HA.2) HA.1 HOk.fine (HOk.few (by omega)))
        have HRUN := Lib.hid hrun
        have HAK := Lib.hid HA
        have HOK2 := Lib.hid (show Ok (N + 1) (chg dk (1, strL s, [], [])).1 from ok_change HOk _ _ _ _ (by simp))
        have c0 : wr.cell? ⟨w2.heap.size + 2, 0, none⟩ = some (.func (.func 72) #[] #[.pointer (some ⟨w2.heap.size, 0, none⟩), .pointer (some ⟨w2.heap.size + 1, 0, none⟩)]) := (HGR.out.cell 0).trans rfl
        clear hrun HA HOk
        obtain ⟨D, E, hDE⟩ : ∃ D E, chg dk (1, strL s, [], []) = (D, E) := ⟨_, _, rfl⟩
        have HDE := Lib.hid hDE
        simp only [hDE] at HC HOK2
        clear hDE
        by_cases hE : E = 0
        · subst hE
          go_wp2_with (go_at_call 72; refine HC.out.mono ?_; rintro e w5 ⟨rfl, ha5⟩; have HA5 := Lib.hid (after_step HAK.out ha5); clear ha5)
          go_roundw
          case rel => exact ⟨1, D, by omega, by go_num, by rw [HRUN.out]; exact runF_ok HDE.out, HA5.out, HOK2.out⟩
          case measure => simp [intOf]
        · have i5 : (E != 0) = true := bne_iff_ne.2 hE
          have i6 : (E == 0) = false := beq_eq_false_iff_ne.2 hE
          have HE := Lib.hid hE
          clear hE
          go_wp2_with (go_at_call 72; refine HC.out.mono ?_; rintro e w5 ⟨rfl, ha5⟩; have HA5 := Lib.hid (after_step HAK.out ha5); clear ha5)
          go_ret3
          have hr : runF d ((beginC (strL s)).map fun c d => chg d c) = (D, E) := by rw [HRUN.out]; exact runF_no HDE.out HE.out
          refine .inl ⟨by rw [hr]; exact HE.out, by rw [hr]; rfl, ?_⟩
          rw [hr]
          exact after_back HB3.out HA5.out
      · have HC := Lib.hid (show Calls Tryz.prog 74 #[.pointer (some ⟨X, 0, none⟩)] wr fun e w' => e = .returned (.int .i64 (chg dk (6, [], [], [])).2) ∧ After (fun k => S k ∨ w3.heap.size ≤ k) wr X (chg dk (6, [], [], [])).1 w' from syncdir_prog HA.1 HOk.fine (HOk.few (by omega)) [] [] [])
        have HRUN := Lib.hid hrun
        have HAK := Lib.hid HA
        have HOK2 := Lib.hid (show Ok (N + 2) (chg dk (6, [], [], [])).1 from ok_change HOk _ _ _ _ (by simp))
        have c0 : wr.cell? ⟨w2.heap.size + 2, 1, none⟩ = some (.func (.func 74) #[.pointer (some ⟨X, 0, none⟩)] #[]) := (HGR.out.cell 1).trans rfl
        clear hrun HA HOk
        obtain ⟨D, E, hDE⟩ : ∃ D E, chg dk (6, [], [], []) = (D, E) := ⟨_, _, rfl⟩
        have HDE := Lib.hid hDE
        simp only [hDE] at HC HOK2
        clear hDE
        by_cases hE : E = 0
        · subst hE
          go_wp2_with (go_at_call 74; refine HC.out.mono ?_; rintro e w5 ⟨rfl, ha5⟩; have HA5 := Lib.hid (after_step HAK.out ha5); clear ha5)
          go_roundw
          case rel => exact ⟨2, D, by omega, by go_num, by rw [HRUN.out]; exact runF_ok HDE.out, HA5.out, HOK2.out⟩
          case measure => simp [intOf]
        · have i5 : (E != 0) = true := bne_iff_ne.2 hE
          have i6 : (E == 0) = false := beq_eq_false_iff_ne.2 hE
          have HE := Lib.hid hE
          clear hE
          go_wp2_with (go_at_call 74; refine HC.out.mono ?_; rintro e w5 ⟨rfl, ha5⟩; have HA5 := Lib.hid (after_step HAK.out ha5); clear ha5)
          go_ret3
          have hr : runF d ((beginC (strL s)).map fun c d => chg d c) = (D, E) := by rw [HRUN.out]; exact runF_no HDE.out HE.out
          refine .inl ⟨by rw [hr]; exact HE.out, by rw [hr]; rfl, ?_⟩
          rw [hr]
          exact after_back HB3.out HA5.out
    · obtain rfl : k = 2 := by omega
      have HAK := Lib.hid HA
      have hr : runF d ((beginC (strL s)).map fun c d => chg d c) = (dk, 0) := by rw [hrun]; rfl
      have HRR := Lib.hid hr
      clear hrun HA HOk hr
      go_wp2_with fail
      go_ret3
      rw [HRR.out]
      refine .inr ⟨rfl, wr.heap.size, _, ps, (fun k => (S k ∨ w3.heap.size ≤ k) ∧ k < wr.heap.size), rfl, ?_, HPS.out, (HAK.out.1.within).below (below_one _ _), ?_, ?_, ?_, ?_, ?_, ?_, ?_, ?_⟩
      · exact Row.new wr 94 (logC X s rs.length p)
      · exact (Kept.below HB3.out).trans (HAK.out.2.alloc _) fun i hi => .inl hi
      · intro k hk
        exact ⟨hk.1.imp id fun hge => Nat.le_trans HB0.out hge, by have := hk.2; simp; omega⟩
      · exact fun hk => by have := hk.2; omega
      · exact Nat.le_trans HB0.out HAK.out.2.size
      · have k1 : Keeps S w3 w.heap.size _ ps := keeps_of (ownr_below (ownr_lower HO2.out HB1.out.size) HB23.out) (fun x hx => (HA2.out x hx).lower HB1.out.size) HSS.out
        have k2 := k1.new (T := fun k => (S k ∨ w3.heap.size ≤ k) ∧ k < wr.heap.size) fun k hk => hk.1
        exact (k2.mono fun k hk => hk) |> fun k3 => ((k1.kept HAK.out.2).below (below_one _ _)).own |> fun h => ⟨h, k2.far, k2.each⟩
      · exact fun x hx => (HA2.out x hx).lower HB1.out.size
      · intro e
        have h1 := (World.ownsRow.lt HO2.out.row _ e).2
        have h2 := HB23.out.size
        have h3 := HAK.out.2.size
        omega
      · have k1 : Keeps S w3 w.heap.size _ ps := keeps_of (ownr_below (ownr_lower HO2.out HB1.out.size) HB23.out) (fun x hx => (HA2.out x hx).lower HB1.out.size) HSS.out
        exact fun x hx => ((k1.kept HAK.out.2).own.each x hx).apart_new (Nat.le_refl _)
set_option maxRecDepth 20000 in
set_option maxHeartbeats 4000000 in
theorem open_mend (h : DiskAt S w X d) (hS : ∀ k, S k → k < w.heap.size) (hO : Ok N d) (hN : N ≤ 900) (s : ByteArray) (hs : s.size ≤ 281474976710656) (hne : strL s ≠ tmpN) {rs : List RecV} {p : Nat} (hwh : WH (readD d (strL s)).1 0 rs p) (hbl : (readD d (strL s)).1.length ≤ 1000000000) (h0 : (readD d (strL s)).2 = 0) (hp : p < (readD d (strL s)).1.length) :
    Calls Tryz.prog 18 #[.pointer (some ⟨X, 0, none⟩), .string s] w (OpenTold S w X s (runF d (sweepD :: (mendC (strL s) ((readD d (strL s)).1.take p)).map fun c d => chg d c)) rs p) := by
  have HR := Lib.hid (Dk.read_prog h hO.fine s hs)
  have HD := Lib.hid h
  have HOK := Lib.hid hO
  have HSS := Lib.hid hS
  have HWH := Lib.hid hwh
  have i0 := str_tmp hne
  have HBL := Lib.hid hbl
  have HSZ := Lib.hid hs
  have i1 : decide ((p : Int) < ((readD d (strL s)).1.length : Int)) = true := by simp; omega
  have i2 : (p : Int) < ((readD d (strL s)).1.length : Int) := by omega
  have i3 : p < (readD d (strL s)).1.length := hp
  clear h hO hS hwh hne hbl hp
  generalize readD d (strL s) = r at *
  obtain ⟨b, E⟩ := r
  simp only at HR HWH HBL i1 i2 i3 h0 ⊢
  subst h0
  have HTL := Lib.hid (show (b.take p).length = p by rw [List.length_take]; omega)
  have HPL := Lib.hid (show (b.take p).length ≤ 281474976710656 by rw [List.length_take]; have := HBL.out; omega)
  have HPB := Lib.hid i3
  go_enter Tryz.func18, Tryz.ntmps18
  go_wp2_with (first
    | (go_at_call 32; refine HR.out.mono ?_; rintro e w1 ⟨v1, rfl, ho1, hb1⟩
       obtain ⟨Q, q, hvq, hQ, hQa, hqc, _⟩ := own_cap ho1
       have HQ1 := Lib.hid hQ
       have HQA := Lib.hid hQa
       have HQC := Lib.hid hqc
       have HB1 := Lib.hid hb1
       subst hvq
       obtain ⟨qg, qo, rfl, _, _⟩ := hQ.at_ (by have := HPB.out; omega); have hpq : p ≤ q := (by omega); have hpq2 : (p : Int) ≤ (q : Int) := (by omega)
       clear ho1 hQ hqc hb1 hQa)
    | (go_at_call 41; refine (whole_prog HWH.out (some ⟨qg, qo, none⟩) q _ HQ1.out HQC.out HBL.out).mono ?_; rintro e w2 ⟨v2, ps, rfl, hps, ho2, ha2, hb2⟩
       have HPS := Lib.hid hps
       have HO2 := Lib.hid ho2
       have HA2 := Lib.hid ha2
       have HB2 := Lib.hid (below_then HB1.out hb2)
       have HB2' := Lib.hid hb2
       obtain ⟨P2, d2, hv2, _, _⟩ := ownr_slice ho2
       have hpl : ps.length = rs.length := by rw [← hps, List.length_map]
       rw [hpl] at hv2
       subst hv2
       clear hps ho2 ha2 hb2 hpl)
    | (go_at_call 43; refine (mend_prog X s (some ⟨qg, qo, none⟩) p q _).mono ?_; rintro e w3 ⟨rfl, hr1, hr2, hr3, hr4, hb3⟩
       have HB3 := Lib.hid (below_then HB2.out hb3)
       have HB23 := Lib.hid hb3
       have hns : ∀ k, w2.heap.size ≤ k → ¬ S k := fun k hk hs => (by have := HSS.out k hs; have := HB2.out.size; omega)
       have HG1 := Lib.hid (fun W (hW : Kept S w3 W) => row_kept hr1 hW (hns _ (Nat.le_refl _)))
       have HG2 := Lib.hid (fun W (hW : Kept S w3 W) => row_kept hr2 hW (hns _ (by omega)))
       have HG3 := Lib.hid (fun W (hW : Kept S w3 W) => show Row W (w2.heap.size + 2) 48 #[.slice (some ⟨qg, qo, none⟩) (b.take p).length q] from (by rw [HTL.out]; exact row_kept hr3 hW (hns _ (by omega))))
       have HGF := Lib.hid (fun W (hW : Kept S w3 W) => row_kept hr4 hW (hns _ (by omega)))
       have HQW := Lib.hid (fun W (hW : Kept S w3 W) => bys_stay (bys_take ((HQ1.out.below HB2'.out).below hb3) p) hW fun ad e _ hs => (by have := HSS.out _ hs; have := HQA.out ad e; omega))
       clear hr1 hr2 hr3 hr4 hb3 hns))
  have HB0 := Lib.hid (HB3.out.size)
  go_loopw [53] (fun i wr => ∃ (k : Nat) (dk : Dsk), k ≤ 6 ∧ i = .int .i64 (k : Int) ∧ runF d (sweepD :: (mendC (strL s) (b.take p)).map fun c d => chg d c) = runF dk ((sweepD :: (mendC (strL s) (b.take p)).map fun c d => chg d c).drop k) ∧ After S w3 X dk wr ∧ Ok (N + k) dk) (fun i _ => 6 - (intOf i).toNat)
  case atStart => exact ⟨0, d, Nat.zero_le _, rfl, rfl, ⟨(HD.out.below HB3.out).mono fun k hk => .inl hk, Kept.refl _ _⟩, HOK.out⟩
  case round =>
    obtain ⟨k, dk, hk, rfl, hrun, HA, HOk⟩ := hrel
    have HGR := Lib.hid (HGF.out _ HA.2)
    rcases Nat.lt_or_ge k 6 with hlt | hge
    · obtain rfl | rfl | rfl | rfl | rfl | rfl : k = 0 ∨ k = 1 ∨ k = 2 ∨ k = 3 ∨ k = 4 ∨ k = 5 := by omega
      · have HC := Lib.hid (sweep_step (HG1.out _ HA.2) HA.1 HOk.fine (HOk.few (by omega)))
        have HRUN := Lib.hid hrun
        have HAK := Lib.hid HA
        have HOK2 := Lib.hid (show Ok (N + 1) (sweepD dk).1 from ok_change HOk 4 tmpN [] [] (by decide))
        have c0 : wr.cell? ⟨w2.heap.size + 3, 0, none⟩ = some (.func (.func 75) #[] #[.pointer (some ⟨w2.heap.size, 0, none⟩)]) := (HGR.out.cell 0).trans rfl
        clear hrun HA HOk
        obtain ⟨D, E, hDE⟩ : ∃ D E, sweepD dk = (D, E) := ⟨_, _, rfl⟩
        have HDE := Lib.hid hDE
        simp only [hDE] at HC HOK2
        clear hDE
        by_cases hE : E = 0
        · subst hE
          go_wp2_with (go_at_call 75; refine HC.out.mono ?_; rintro e w5 ⟨rfl, ha5⟩; have HA5 := Lib.hid (after_step HAK.out ha5); clear ha5)
          go_roundw
          case rel => exact ⟨1, D, by omega, by go_num, by rw [HRUN.out]; exact runF_ok HDE.out, HA5.out, HOK2.out⟩
          case measure => simp [intOf]
        · have i5 : (E != 0) = true := bne_iff_ne.2 hE
          have i6 : (E == 0) = false := beq_eq_false_iff_ne.2 hE
          have HE := Lib.hid hE
          clear hE
          go_wp2_with (go_at_call 75; refine HC.out.mono ?_; rintro e w5 ⟨rfl, ha5⟩; have HA5 := Lib.hid (after_step HAK.out ha5); clear ha5)
          go_ret3
          have hr : runF d (sweepD :: (mendC (strL s) (b.take p)).map fun c d => chg d c) = (D, E) := by rw [HRUN.out]; exact runF_no HDE.out HE.out
          refine .inl ⟨by rw [hr]; exact HE.out, by rw [hr]; rfl, ?_⟩
          rw [hr]
          exact after_back HB3.out HA5.out
      · have HC := Lib.hid (create_step (HG1.out _ HA.2) HA.1 HOk.fine (HOk.few (by omega)))
        have HRUN := Lib.hid hrun
        have HAK := Lib.hid HA
        have HOK2 := Lib.hid (show Ok (N + 2) (chg dk (1, tmpN, [], [])).1 from ok_change HOk _ _ _ _ (by simp))
        have c0 : wr.cell? ⟨w2.heap.size + 3, 1, none⟩ = some (.func (.func 77) #[] #[.pointer (some ⟨w2.heap.size, 0, none⟩)]) := (HGR.out.cell 1).trans rfl
        clear hrun HA HOk
        obtain ⟨D, E, hDE⟩ : ∃ D E, chg dk (1, tmpN, [], []) = (D, E) := ⟨_, _, rfl⟩
        have HDE := Lib.hid hDE
        simp only [hDE] at HC HOK2
        clear hDE
        by_cases hE : E = 0
        · subst hE
          go_wp2_with (go_at_call 77; refine HC.out.mono ?_; rintro e w5 ⟨rfl, ha5⟩; have HA5 := Lib.hid (after_step HAK.out ha5); clear ha5)
          go_roundw
          case rel => exact ⟨2, D, by omega, by go_num, by rw [HRUN.out]; exact runF_ok HDE.out, HA5.out, HOK2.out⟩
          case measure => simp [intOf]
        · have i5 : (E != 0) = true := bne_iff_ne.2 hE
          have i6 : (E == 0) = false := beq_eq_false_iff_ne.2 hE
          have HE := Lib.hid hE
          clear hE
          go_wp2_with (go_at_call 77; refine HC.out.mono ?_; rintro e w5 ⟨rfl, ha5⟩; have HA5 := Lib.hid (after_step HAK.out ha5); clear ha5)
          go_ret3
          have hr : runF d (sweepD :: (mendC (strL s) (b.take p)).map fun c d => chg d c) = (D, E) := by rw [HRUN.out]; exact runF_no HDE.out HE.out
          refine .inl ⟨by rw [hr]; exact HE.out, by rw [hr]; rfl, ?_⟩
          rw [hr]
          exact after_back HB3.out HA5.out
      · have HC := Lib.hid (append_step (some ⟨qg, qo, none⟩) (b.take p) q HPL.out (HG1.out _ HA.2) (HG3.out _ HA.2) (HQW.out _ HA.2) HA.1 HOk.fine (HOk.few (by omega)))
        have HRUN := Lib.hid hrun
        have HAK := Lib.hid HA
        have HOK2 := Lib.hid (show Ok (N + 3) (chg dk (2, tmpN, [], b.take p)).1 from ok_change HOk _ _ _ _ (by simp))
        have c0 : wr.cell? ⟨w2.heap.size + 3, 2, none⟩ = some (.func (.func 78) #[] #[.pointer (some ⟨w2.heap.size, 0, none⟩), .pointer (some ⟨w2.heap.size + 2, 0, none⟩)]) := (HGR.out.cell 2).trans rfl
        clear hrun HA HOk
        obtain ⟨D, E, hDE⟩ : ∃ D E, chg dk (2, tmpN, [], b.take p) = (D, E) := ⟨_, _, rfl⟩
        have HDE := Lib.hid hDE
        simp only [hDE] at HC HOK2
        clear hDE
        by_cases hE : E = 0
        · subst hE
          go_wp2_with (go_at_call 78; refine HC.out.mono ?_; rintro e w5 ⟨rfl, ha5⟩; have HA5 := Lib.hid (after_step HAK.out ha5); clear ha5)
          go_roundw
          case rel => exact ⟨3, D, by omega, by go_num, by rw [HRUN.out]; exact runF_ok HDE.out, HA5.out, HOK2.out⟩
          case measure => simp [intOf]
        · have i5 : (E != 0) = true := bne_iff_ne.2 hE
          have i6 : (E == 0) = false := beq_eq_false_iff_ne.2 hE
          have HE := Lib.hid hE
          clear hE
          go_wp2_with (go_at_call 78; refine HC.out.mono ?_; rintro e w5 ⟨rfl, ha5⟩; have HA5 := Lib.hid (after_step HAK.out ha5); clear ha5)
          go_ret3
          have hr : runF d (sweepD :: (mendC (strL s) (b.take p)).map fun c d => chg d c) = (D, E) := by rw [HRUN.out]; exact runF_no HDE.out HE.out
          refine .inl ⟨by rw [hr]; exact HE.out, by rw [hr]; rfl, ?_⟩
          rw [hr]
          exact after_back HB3.out HA5.out
      · have HC := Lib.hid (sync_step (HG1.out _ HA.2) HA.1 HOk.fine (HOk.few (by omega)))
        have HRUN := Lib.hid hrun
        have HAK := Lib.hid HA
        have HOK2 := Lib.hid (show Ok (N + 4) (chg dk (5, tmpN, [], [])).1 from ok_change HOk _ _ _ _ (by simp))
        have c0 : wr.cell? ⟨w2.heap.size + 3, 3, none⟩ = some (.func (.func 79) #[] #[.pointer (some ⟨w2.heap.size, 0, none⟩)]) := (HGR.out.cell 3).trans rfl
        clear hrun HA HOk
        obtain ⟨D, E, hDE⟩ : ∃ D E, chg dk (5, tmpN, [], []) = (D, E) := ⟨_, _, rfl⟩
        have HDE := Lib.hid hDE
        simp only [hDE] at HC HOK2
        clear hDE
        by_cases hE : E = 0
        · subst hE
          go_wp2_with (go_at_call 79; refine HC.out.mono ?_; rintro e w5 ⟨rfl, ha5⟩; have HA5 := Lib.hid (after_step HAK.out ha5); clear ha5)
          go_roundw
          case rel => exact ⟨4, D, by omega, by go_num, by rw [HRUN.out]; exact runF_ok HDE.out, HA5.out, HOK2.out⟩
          case measure => simp [intOf]
        · have i5 : (E != 0) = true := bne_iff_ne.2 hE
          have i6 : (E == 0) = false := beq_eq_false_iff_ne.2 hE
          have HE := Lib.hid hE
          clear hE
          go_wp2_with (go_at_call 79; refine HC.out.mono ?_; rintro e w5 ⟨rfl, ha5⟩; have HA5 := Lib.hid (after_step HAK.out ha5); clear ha5)
          go_ret3
          have hr : runF d (sweepD :: (mendC (strL s) (b.take p)).map fun c d => chg d c) = (D, E) := by rw [HRUN.out]; exact runF_no HDE.out HE.out
          refine .inl ⟨by rw [hr]; exact HE.out, by rw [hr]; rfl, ?_⟩
          rw [hr]
          exact after_back HB3.out HA5.out
      · have HC := Lib.hid (rename_step s HSZ.out (HG1.out _ HA.2) (HG2.out _ HA.2) HA.1 HOk.fine (HOk.few (by omega)))
        have HRUN := Lib.hid hrun
        have HAK := Lib.hid HA
        have HOK2 := Lib.hid (show Ok (N + 5) (chg dk (3, tmpN, strL s, [])).1 from ok_change HOk _ _ _ _ (by simp))
        have c0 : wr.cell? ⟨w2.heap.size + 3, 4, none⟩ = some (.func (.func 80) #[] #[.pointer (some ⟨w2.heap.size, 0, none⟩), .pointer (some ⟨w2.heap.size + 1, 0, none⟩)]) := (HGR.out.cell 4).trans rfl
        clear hrun HA HOk
        obtain ⟨D, E, hDE⟩ : ∃ D E, chg dk (3, tmpN, strL s, []) = (D, E) := ⟨_, _, rfl⟩
        have HDE := Lib.hid hDE
        simp only [hDE] at HC HOK2
        clear hDE
        by_cases hE : E = 0
        · subst hE
          go_wp2_with (go_at_call 80; refine HC.out.mono ?_; rintro e w5 ⟨rfl, ha5⟩; have HA5 := Lib.hid (after_step HAK.out ha5); clear ha5)
          go_roundw
          case rel => exact ⟨5, D, by omega, by go_num, by rw [HRUN.out]; exact runF_ok HDE.out, HA5.out, HOK2.out⟩
          case measure => simp [intOf]
        · have i5 : (E != 0) = true := bne_iff_ne.2 hE
          have i6 : (E == 0) = false := beq_eq_false_iff_ne.2 hE
          have HE := Lib.hid hE
          clear hE
          go_wp2_with (go_at_call 80; refine HC.out.mono ?_; rintro e w5 ⟨rfl, ha5⟩; have HA5 := Lib.hid (after_step HAK.out ha5); clear ha5)
          go_ret3
          have hr : runF d (sweepD :: (mendC (strL s) (b.take p)).map fun c d => chg d c) = (D, E) := by rw [HRUN.out]; exact runF_no HDE.out HE.out
          refine .inl ⟨by rw [hr]; exact HE.out, by rw [hr]; rfl, ?_⟩
          rw [hr]
          exact after_back HB3.out HA5.out
      · have HC := Lib.hid (show Calls Tryz.prog 74 #[.pointer (some ⟨X, 0, none⟩)] wr fun e w' => e = .returned (.int .i64 (chg dk (6, [], [], [])).2) ∧ After (fun k => S k ∨ w3.heap.size ≤ k) wr X (chg dk (6, [], [], [])).1 w' from syncdir_prog HA.1 HOk.fine (HOk.few (by omega)) [] [] [])
        have HRUN := Lib.hid hrun
        have HAK := Lib.hid HA
        have HOK2 := Lib.hid (show Ok (N + 6) (chg dk (6, [], [], [])).1 from ok_change HOk _ _ _ _ (by simp))
        have c0 : wr.cell? ⟨w2.heap.size + 3, 5, none⟩ = some (.func (.func 74) #[.pointer (some ⟨X, 0, none⟩)] #[]) := (HGR.out.cell 5).trans rfl
        clear hrun HA HOk
        obtain ⟨D, E, hDE⟩ : ∃ D E, chg dk (6, [], [], []) = (D, E) := ⟨_, _, rfl⟩
        have HDE := Lib.hid hDE
        simp only [hDE] at HC HOK2
        clear hDE
        by_cases hE : E = 0
        · subst hE
          go_wp2_with (go_at_call 74; refine HC.out.mono ?_; rintro e w5 ⟨rfl, ha5⟩; have HA5 := Lib.hid (after_step HAK.out ha5); clear ha5)
          go_roundw
          case rel => exact ⟨6, D, by omega, by go_num, by rw [HRUN.out]; exact runF_ok HDE.out, HA5.out, HOK2.out⟩
          case measure => simp [intOf]
        · have i5 : (E != 0) = true := bne_iff_ne.2 hE
          have i6 : (E == 0) = false := beq_eq_false_iff_ne.2 hE
          have HE := Lib.hid hE
          clear hE
          go_wp2_with (go_at_call 74; refine HC.out.mono ?_; rintro e w5 ⟨rfl, ha5⟩; have HA5 := Lib.hid (after_step HAK.out ha5); clear ha5)
          go_ret3
          have hr : runF d (sweepD :: (mendC (strL s) (b.take p)).map fun c d => chg d c) = (D, E) := by rw [HRUN.out]; exact runF_no HDE.out HE.out
          refine .inl ⟨by rw [hr]; exact HE.out, by rw [hr]; rfl, ?_⟩
          rw [hr]
          exact after_back HB3.out HA5.out
    · obtain rfl : k = 6 := by omega
      have HAK := Lib.hid HA
      have hr : runF d (sweepD :: (mendC (strL s) (b.take p)).map fun c d => chg d c) = (dk, 0) := by rw [hrun]; rfl
      have HRR := Lib.hid hr
      clear hrun HA HOk hr
      go_wp2_with fail
      go_ret3
      rw [HRR.out]
      refine .inr ⟨rfl, wr.heap.size, _, ps, (fun k => (S k ∨ w3.heap.size ≤ k) ∧ k < wr.heap.size), rfl, ?_, HPS.out, (HAK.out.1.within).below (below_one _ _), ?_, ?_, ?_, ?_, ?_, ?_, ?_, ?_⟩
      · exact Row.new wr 94 (logC X s rs.length p)
      · exact (Kept.below HB3.out).trans (HAK.out.2.alloc _) fun i hi => .inl hi
      · intro k hk
        exact ⟨hk.1.imp id fun hge => Nat.le_trans HB0.out hge, by have := hk.2; simp; omega⟩
      · exact fun hk => by have := hk.2; omega
      · exact Nat.le_trans HB0.out HAK.out.2.size
      · have k1 : Keeps S w3 w.heap.size _ ps := keeps_of (ownr_below (ownr_lower HO2.out HB1.out.size) HB23.out) (fun x hx => (HA2.out x hx).lower HB1.out.size) HSS.out
        have k2 := k1.new (T := fun k => (S k ∨ w3.heap.size ≤ k) ∧ k < wr.heap.size) fun k hk => hk.1
        exact (k2.mono fun k hk => hk) |> fun k3 => ((k1.kept HAK.out.2).below (below_one _ _)).own |> fun h => ⟨h, k2.far, k2.each⟩
      · exact fun x hx => (HA2.out x hx).lower HB1.out.size
      · intro e
        have h1 := (World.ownsRow.lt HO2.out.row _ e).2
        have h2 := HB23.out.size
        have h3 := HAK.out.2.size
        omega
      · have k1 : Keeps S w3 w.heap.size _ ps := keeps_of (ownr_below (ownr_lower HO2.out HB1.out.size) HB23.out) (fun x hx => (HA2.out x hx).lower HB1.out.size) HSS.out
        exact fun x hx => ((k1.kept HAK.out.2).own.each x hx).apart_new (Nat.le_refl _)
end
theorem open_prog {S : Nat → Prop} {w : World} {X : Nat} {d : Dsk} {N : Nat} (h : DiskAt S w X d) (hS : ∀ k, S k → k < w.heap.size) (hO : Ok N d) (hN : N ≤ 900) (s : ByteArray) (hs : s.size ≤ 281474976710656) {rs : List RecV} {p : Nat} (hwh : WH (readD d (strL s)).1 0 rs p) (hbl : (readD d (strL s)).1.length ≤ 1000000000) :
    Calls Tryz.prog 18 #[.pointer (some ⟨X, 0, none⟩), .string s] w (OpenTold S w X s (openD d (strL s) p) rs p) := by
  unfold openD
  by_cases hne : strL s = tmpN
  · rw [if_pos hne]
    exact (open_tmp s hne).mono fun e w' hh => .inl ⟨by show (8 : Int) ≠ 0; decide, hh.1, by rw [← hh.2]; exact after_same h (Below.refl _ _)⟩
  · rw [if_neg hne]
    by_cases h9 : (readD d (strL s)).2 = 9
    · rw [if_pos h9, runC_F]
      exact open_begin h hS hO hN s hs hne hwh hbl h9
    · rw [if_neg h9]
      by_cases h0 : (readD d (strL s)).2 = 0
      · rw [if_neg (by rw [h0]; decide)]
        obtain ⟨_, hp, _⟩ := wh_cov hwh (Nat.zero_le _)
        by_cases hlt : p < (readD d (strL s)).1.length
        · rw [if_pos hlt, mendD_F]
          exact open_mend h hS hO hN s hs hne hwh hbl h0 hlt
        · rw [if_neg hlt]
          exact open_whole h hS hO hN s hs hne hwh hbl h0 (by omega)
      · rw [if_pos h0]
        exact (open_err h hS hO hN s hs hne hwh hbl h0 h9).mono fun e w' hh => .inl ⟨h0, hh.1, after_same h hh.2⟩
end Go.Proofs.YtmgolnlkepiocaaGreat

namespace Go.Proofs.YtmgolnlkepiocaaGreat
open Go.RowKit Go.Maps Dk
set_option linter.unusedVariables false

/-- A disk and a log's struct beside it. -/
structure LogOn (B : Nat) (T : Nat → Prop) (w : World) (X L : Nat) (d : Dsk) (n p : Nat) : Prop where
  disk : DiskAt T w X d
  own : ∀ k, T k → B ≤ k ∧ k < w.heap.size
  row : Row w L 94 (logC X logS n p)
  off : ¬ T L
  new : B ≤ L
theorem wh_nil : WH [] 0 [] 0 := .stop 0 [] 0 4 (.few (by decide)) (by decide)
theorem new_read : readD (newD 4194304) (strL logS) = ([], 9) := rfl
def AgainTold (w : World) (e : Ending) (w' : World) : Prop := ∃ X L T d, e = .returned (.tuple #[.pointer (some ⟨X, 0, none⟩), .pointer (some ⟨L, 0, none⟩), .bool true]) ∧ LogOn w.heap.size T w' X L d 0 0 ∧ LogAt d [] 0 ∧ PowerOn d ∧ Ok 6 d ∧ Below w.heap.size w w'
set_option maxRecDepth 20000 in
theorem again_prog (w : World) : Calls Tryz.prog 13 #[] w (AgainTold w) := by
  have HN := Lib.hid (new_ok 4194304 (by decide) w)
  go_enter Tryz.func13, Tryz.ntmps13
  go_wp2_with (first
    | (go_at_call 5; refine HN.out.mono ?_; rintro e w1 ⟨rfl, hd, hb⟩
       have HD := Lib.hid hd.within
       have HB := Lib.hid hb
       clear hd hb)
    | (go_at_call 18; refine (open_prog HD.out (fun k hk => hk.2) (ok_new 4194304 (by decide)) (by decide) logS (by decide) (by rw [new_read]; exact wh_nil) (by rw [new_read]; decide)).mono ?_
       rintro e w2 hO
       rcases hO with ⟨h0, _⟩ | ⟨h0, L, v, ps, T, rfl, hrow, hps, hdk, hK, hT, hTL, hL, _⟩
       · exact absurd new_opened.1 h0
       have HR := Lib.hid hrow
       have HK := Lib.hid hK
       have HDK := Lib.hid hdk
       have HT := Lib.hid hT
       have HTL := Lib.hid hTL
       have HL := Lib.hid hL
       clear h0 hrow hps hdk hK hT hTL hL))
  go_ret3
  refine ⟨_, L, T, _, rfl, ⟨HDK.out, fun k hk => ⟨(HT.out k hk).1.elim (fun h => h.1) (fun h => Nat.le_trans HB.out.size h), (HT.out k hk).2⟩, HR.out, HTL.out, Nat.le_trans HB.out.size HL.out⟩, new_opened.2.2, new_opened.2.1, ok_open (ok_new 4194304 (by decide)) _ _, ?_⟩
  exact HB.out.trans (HK.out.to_below (fun k hk => hk.1) HB.out.size)
end Go.Proofs.YtmgolnlkepiocaaGreat

namespace Go.Proofs.YtmgolnlkepiocaaGreat
open Go.RowKit Go.Maps Dk
set_option linter.unusedVariables false

/-- What Append does to a disk. -/
def appD (d : Dsk) (name : List UInt8) (R : RecV) : Dsk × Int := if recChk R ≠ 0 then (d, recChk R) else change d 2 name [] (frameL (recL R))
section
variable {S : Nat → Prop} {w : World} {X L : Nat} {d : Dsk} {N : Nat}
theorem log_cells {w : World} {g : Nat} {v0 v1 v2 v3 : Value} (h : Row w g 94 #[v0, v1, v2, v3]) : w.cell? ⟨g, 0, none⟩ = some v0 ∧ w.cell? ⟨g, 1, none⟩ = some v1 ∧ w.cell? ⟨g, 2, none⟩ = some v2 ∧ w.cell? ⟨g, 3, none⟩ = some v3 := ⟨h.cell 0, h.cell 1, h.cell 2, h.cell 3⟩
theorem loglen_prog (s : ByteArray) (n p : Int) (hL : Row w L 94 (logC X s n p)) : Calls Tryz.prog 11 #[.pointer (some ⟨L, 0, none⟩)] w fun e w' => e = .returned (.int .i64 n) ∧ w = w' := by
  obtain ⟨c0, c1, c2, c3⟩ := log_cells hL
  clear hL
  go_enter Tryz.func11, Tryz.ntmps11
  go_wp2
  go_ret
  exact ⟨rfl, rfl⟩
theorem logsize_prog (s : ByteArray) (n p : Int) (hL : Row w L 94 (logC X s n p)) : Calls Tryz.prog 12 #[.pointer (some ⟨L, 0, none⟩)] w fun e w' => e = .returned (.int .i64 p) ∧ w = w' := by
  obtain ⟨c0, c1, c2, c3⟩ := log_cells hL
  clear hL
  go_enter Tryz.func12, Tryz.ntmps12
  go_wp2
  go_ret
  exact ⟨rfl, rfl⟩
theorem drewN_below (w : World) (n : Nat) : Below w.heap.size w (w.drewN n) := ⟨rfl, rfl, rfl, Nat.le_refl _, fun _ _ => rfl⟩
set_option maxRecDepth 20000 in
set_option maxHeartbeats 1000000 in
theorem logsync_prog (h : DiskAt S w X d) (hO : Ok N d) (hN : N ≤ 900) (s : ByteArray) (hs : s.size ≤ 281474976710656) (n p : Int) (hL : Row w L 94 (logC X s n p)) (hSL : ¬ S L) :
    Calls Tryz.prog 16 #[.pointer (some ⟨L, 0, none⟩)] w fun e w' => e = .returned (.int .i64 (change d 5 (strL s) [] []).2) ∧ After S w X (change d 5 (strL s) [] []).1 w' := by
  obtain ⟨c0, c1, c2, c3⟩ := log_cells hL
  have HC := Lib.hid (fun W (hW : Below w.heap.size w W) => sync_prog (h.below hW) hO.fine (hO.few (by omega)) s [] [] hs)
  have HL := Lib.hid (fun W (hW : Below w.heap.size w W) => hL.below hW hL.lt)
  have HSL := Lib.hid hSL
  clear h hO hL hSL
  generalize change d 5 (strL s) [] [] = r at *
  obtain ⟨D, E⟩ := r
  simp only at HC ⊢
  go_enter Tryz.func16, Tryz.ntmps16
  go_upto_region 3 with fail
  go_region_held3 (fun w' => w'.cell? ⟨L, 0, none⟩ = some (.pointer (some ⟨X, 0, none⟩)) ∧ w'.cell? ⟨L, 1, none⟩ = some (.string s))
    (first | exact ⟨c0, c1⟩ | exact ⟨y0, y1⟩ | go_keep)
    (first | (go_at_call 35; (refine (HC.out _ (by repeat (first | exact Below.refl _ _ | exact drewN_below _ _ | refine Below.drew ?_))).mono ?_; rintro e w5 ⟨rfl, ha⟩; have hl5 := row_kept (HL.out _ (by repeat (first | exact Below.refl _ _ | exact drewN_below _ _ | refine Below.drew ?_))) ha.2 HSL.out; have y0 := (log_cells hl5).1; have y1 := (log_cells hl5).2.1; have HA := Lib.hid ha; clear ha hl5)))
  all_goals
    go_wp2
    go_ret
    exact ⟨rfl, after_back ((Below.refl w.heap.size w).drew) HA.out⟩
set_option maxRecDepth 20000 in
set_option maxHeartbeats 1000000 in
theorem logapp_bad (cs : Array Value) (R : RecV) (m : RecM) (hR : RecIn w R m) (hf : RecFit R) (hc : recChk R ≠ 0) :
    Calls Tryz.prog 14 #[.pointer (some ⟨L, 0, none⟩), .agg (recC R m).toArray] w fun e w' => e = .returned (.int .i64 (recChk R)) ∧ Below w.heap.size w w' := by
  have HB0 := Lib.hid (below_one w (.cells (recC R m).toArray 47))
  have HK := Lib.hid (wbytes_no R m _ (hR.below HB0.out) hf hc)
  obtain ⟨E, hE⟩ : ∃ E, recChk R = E := ⟨_, rfl⟩
  rw [hE] at HK hc ⊢
  have i0 : (E != 0) = true := bne_iff_ne.2 hc
  have i1 : (E == 0) = false := beq_eq_false_iff_ne.2 hc
  obtain ⟨k, la, ro, ids, lo, hi⟩ := R
  obtain ⟨A, ca, B, cb, C, cc⟩ := m
  simp only [recC] at *
  obtain ⟨x0, x1, x2, x3, x4, x5⟩ := rec_cells (Row.new w 47 #[.int .i64 k, .slice A la.length ca, .slice B ro.length cb, .slice C ids.length cc, .int .i64 lo, .int .i64 hi]) rfl
  clear hR hf hE hc
  generalize la.length = na at *
  generalize ro.length = nr at *
  generalize ids.length = ni at *
  go_enter Tryz.func14, Tryz.ntmps14
  go_wp2_with fail
  refine HK.out.mono ?_
  rintro e w1 ⟨rfl, hb1⟩
  have HB1 := Lib.hid (below_then HB0.out hb1)
  clear hb1
  go_wp2
  go_ret
  exact ⟨rfl, HB1.out⟩
theorem put4_row {w : World} {g : Nat} {t : TypeId} {u0 u1 u2 u3 : Value} (h : Row w g t #[u0, u1, u2, u3]) (v2 v3 : Value) :
    Row ((w.setCell ⟨g, 2, none⟩ v2).setCell ⟨g, 3, none⟩ v3) g t #[u0, u1, v2, v3] := by
  have := (h.setAt 2 v2).setAt 3 v3
  simpa only [List.setIfInBounds_toArray, List.set_cons_zero, List.set_cons_succ] using this
set_option maxRecDepth 20000 in
set_option maxHeartbeats 1000000 in
theorem logapp_ok (h : DiskAt S w X d) (hS : ∀ k, S k → k < w.heap.size) (hO : Ok N d) (hN : N ≤ 900) (s : ByteArray) (hs : s.size ≤ 281474976710656) (n p : Nat) (hn : n ≤ 1000000000) (hp : p ≤ 1000000000) (hL : Row w L 94 (logC X s n p)) (hSL : ¬ S L)
    (R : RecV) (m : RecM) (hR : RecIn w R m) (hc : recChk R = 0) {D : Dsk} {E : Int} (hr : change d 2 (strL s) [] (frameL (recL R)) = (D, E)) :
    Calls Tryz.prog 14 #[.pointer (some ⟨L, 0, none⟩), .agg (recC R m).toArray] w fun e w' => e = .returned (.int .i64 E) ∧
      ∃ T, DiskAt T w' X D ∧ Kept (fun k => S k ∨ k = L) w w' ∧ (∀ k, T k → (S k ∨ w.heap.size ≤ k) ∧ k < w'.heap.size) ∧ ¬ T L ∧ Row w' L 94 (logC X s (if E = 0 then n + 1 else n : Nat) (if E = 0 then p + ((recL R).length + 6) else p : Nat)) := by
  have HB0 := Lib.hid (below_one w (.cells (recC R m).toArray 47))
  have HK := Lib.hid (wbytes_yes R m _ (hR.below HB0.out) hc)
  have HRL := Lib.hid (recL_len hc)
  have HL := Lib.hid (fun W (hW : Below w.heap.size w W) => hL.below hW hL.lt)
  have HLT := Lib.hid hL.lt
  have HAP := Lib.hid (fun W (hW : Below w.heap.size w W) P c (hP : Bys W P (frameL (recL R))) => append_prog (h.below hW) hO.fine (hO.few (by omega)) s [] P (frameL (recL R)) c hs hP (by rw [frameL_length]; have := recL_len hc; omega))
  rw [hr] at HAP
  have HFL := Lib.hid (frameL_length (recL R))
  have HSL := Lib.hid hSL
  have HSS := Lib.hid hS
  have hwn : IntKind.i64.wrap ((n : Int) + 1) = (n : Int) + 1 := IntWalk.i64_in _ (by omega)
  have hwp : IntKind.i64.wrap ((p : Int) + ((frameL (recL R)).length : Int)) = (p : Int) + ((frameL (recL R)).length : Int) := IntWalk.i64_in _ (by have h1 := HFL.out; have h2 := HRL.out; omega)
  obtain ⟨k, la, ro, ids, lo, hi⟩ := R
  obtain ⟨A, ca, B, cb, C, cc⟩ := m
  simp only [recC] at *
  obtain ⟨x0, x1, x2, x3, x4, x5⟩ := rec_cells (Row.new w 47 #[.int .i64 k, .slice A la.length ca, .slice B ro.length cb, .slice C ids.length cc, .int .i64 lo, .int .i64 hi]) rfl
  clear h hS hO hN hs hL hSL hR hc hr hn hp
  generalize recL ⟨k, la, ro, ids, lo, hi⟩ = rl at *
  obtain ⟨fl, hfl⟩ : ∃ fl, frameL rl = fl := ⟨_, rfl⟩
  rw [hfl] at HAP HFL hwp
  have HFE := Lib.hid hfl
  clear hfl
  generalize la.length = na at *
  generalize ro.length = nr at *
  generalize ids.length = ni at *
  go_enter Tryz.func14, Tryz.ntmps14
  go_upto_region 7 with (first
    | (go_at_call 21; refine HK.out.mono ?_; rintro e w1 ⟨v1, rfl, ho1, hb1⟩
       obtain ⟨Q, q, hvq, hQ, _, _, _⟩ := own_cap ho1
       have HQ := Lib.hid hQ
       have HB1 := Lib.hid (below_then HB0.out hb1)
       subst hvq
       clear ho1 hQ hb1)
    | (go_at_call 34; refine (put_prog none [] 0 Q rl q _ (Bys.empty _ _) HQ.out (by simp) (by have := HRL.out; omega)).mono ?_; rintro e w2 ⟨v2, rfl, ho2, hb2⟩
       rw [List.nil_append, HFE.out] at ho2
       obtain ⟨P, c, hvp, hP, _, _, _⟩ := own_cap ho2
       have HP := Lib.hid hP
       have HB2 := Lib.hid (below_then HB1.out hb2)
       subst hvp
       clear ho2 hP hb2))
  have hl2 := HL.out _ HB2.out
  obtain ⟨c0, c1, c2, c3⟩ := log_cells hl2
  go_region_held3 (fun w' => w'.cell? ⟨L, 0, none⟩ = some (.pointer (some ⟨X, 0, none⟩)) ∧ w'.cell? ⟨L, 1, none⟩ = some (.string s))
    (first | exact ⟨c0, c1⟩ | exact ⟨y0, y1⟩ | go_keep)
    (first | (go_at_call 27; (refine (HAP.out w2.drew HB2.out.drew _ _ HP.out).mono ?_; rintro e w5 ⟨rfl, ha⟩; have hl5 := row_kept (HL.out _ HB2.out.drew) ha.2 HSL.out; obtain ⟨y0, y1, y2, y3⟩ := log_cells hl5; have f2 := hl5.frozen 2; have f3 := hl5.frozen 3; have HL5 := Lib.hid hl5; have HA := Lib.hid ha; clear ha hl5)))
  all_goals
    have HT := Lib.hid (show ∀ k, ((S k ∨ w2.heap.size ≤ k) ∧ k < w5.heap.size) → (S k ∨ w.heap.size ≤ k) ∧ k < w5.heap.size from fun k hk => ⟨hk.1.imp id fun h => Nat.le_trans HB2.out.size h, hk.2⟩)
    have HTL := Lib.hid (show ¬ ((S L ∨ w2.heap.size ≤ L) ∧ L < w5.heap.size) from fun hk => hk.1.elim HSL.out fun h => by have h1 := HLT.out; have h2 := HB2.out.size; omega)
    have HK := Lib.hid (show Kept S w w5 from (Kept.below HB2.out.drew).trans HA.out.2 fun i hi => .inl hi)
    by_cases hE : E = 0
    · subst hE
      go_wp2
      go_ret
      have hrow := put4_row HL5.out (.int .i64 ((n : Int) + 1)) (.int .i64 ((p : Int) + (fl.length : Int)))
      have hk2 : Kept (fun k => S k ∨ k = L) w ((w5.setCell ⟨L, 2, none⟩ (.int .i64 ((n : Int) + 1))).setCell ⟨L, 3, none⟩ (.int .i64 ((p : Int) + (fl.length : Int)))) := ((HK.out.mono fun k hk => .inl hk).set (p := ⟨L, 2, none⟩) (.inl (.inr rfl)) _).set (p := ⟨L, 3, none⟩) (.inl (.inr rfl)) _
      have hk5 : Kept (fun k => k = L) w5 ((w5.setCell ⟨L, 2, none⟩ (.int .i64 ((n : Int) + 1))).setCell ⟨L, 3, none⟩ (.int .i64 ((p : Int) + (fl.length : Int)))) := ((Kept.refl (fun k => k = L) w5).set (p := ⟨L, 2, none⟩) (.inl rfl) _).set (p := ⟨L, 3, none⟩) (.inl rfl) _
      refine ⟨rfl, _, HA.out.1.within.kept hk5 fun k hk e => HTL.out (e ▸ hk), hk2, fun k hk => ⟨(HT.out k hk).1, Nat.lt_of_lt_of_le hk.2 hk5.size⟩, HTL.out, ?_⟩
      have e1 : (p : Int) + ((rl.length : Int) + 6) = (p : Int) + (fl.length : Int) := by rw [HFL.out]; push_cast; rfl
      rw [e1]
      exact hrow
    · have i1 : (E != 0) = true := bne_iff_ne.2 hE
      have i2 : (E == 0) = false := beq_eq_false_iff_ne.2 hE
      go_wp2
      go_ret
      exact ⟨rfl, _, HA.out.1.within, HK.out.mono fun k hk => .inl hk, HT.out, HTL.out, HL5.out⟩
end
end Go.Proofs.YtmgolnlkepiocaaGreat

namespace Go.Proofs.YtmgolnlkepiocaaGreat
open Go.RowKit Go.Maps Dk
set_option linter.unusedVariables false

theorem LogOn.lt {B : Nat} {T : Nat → Prop} {w : World} {X L : Nat} {d : Dsk} {n p : Nat} (h : LogOn B T w X L d n p) : ∀ k, (T k ∨ k = L) → k < w.heap.size := fun k hk => hk.elim (fun h1 => (h.own k h1).2) (fun e => e ▸ h.row.lt)
theorem LogOn.ge {B : Nat} {T : Nat → Prop} {w : World} {X L : Nat} {d : Dsk} {n p : Nat} (h : LogOn B T w X L d n p) : ∀ k, (T k ∨ k = L) → B ≤ k := fun k hk => hk.elim (fun h1 => (h.own k h1).1) (fun e => e ▸ h.new)
theorem LogOn.below {B : Nat} {T : Nat → Prop} {w w' : World} {X L : Nat} {d : Dsk} {n p : Nat} (h : LogOn B T w X L d n p) (hb : Below w.heap.size w w') : LogOn B T w' X L d n p :=
  ⟨h.disk.below hb, fun k hk => ⟨(h.own k hk).1, Nat.lt_of_lt_of_le (h.own k hk).2 hb.size⟩, h.row.below hb h.row.lt, h.off, h.new⟩
theorem LogOn.kept {B : Nat} {T V : Nat → Prop} {w w' : World} {X L : Nat} {d : Dsk} {n p : Nat} (h : LogOn B T w X L d n p) (hK : Kept V w w') (hV : ∀ k, (T k ∨ k = L) → ¬ V k) : LogOn B T w' X L d n p :=
  ⟨h.disk.kept hK fun k hk => hV k (.inl hk), fun k hk => ⟨(h.own k hk).1, Nat.lt_of_lt_of_le (h.own k hk).2 hK.size⟩, row_kept h.row hK (hV L (.inr rfl)), h.off, h.new⟩
theorem Keeps.go {S T : Nat → Prop} {w w' : World} {base : Nat} {v : Value} {ps : List Pl} (h : Keeps S w base v ps) (hK : Kept S w w') (hT : ∀ k, T k → S k ∨ w.heap.size ≤ k) : Keeps T w' base v ps := ⟨(h.kept hK).own, (h.new hT).far, (h.new hT).each⟩
theorem LogOn.after {B : Nat} {T : Nat → Prop} {w w' : World} {X L : Nat} {d d' : Dsk} {n p : Nat} (h : LogOn B T w X L d n p) (ha : After T w X d' w') (hB : B ≤ w.heap.size) : LogOn B (more T w w') w' X L d' n p :=
  ⟨ha.1.within, fun k hk => ⟨hk.1.elim (fun h2 => (h.own k h2).1) (fun h2 => by omega), hk.2⟩, row_kept h.row ha.2 h.off, fun hk => hk.1.elim h.off fun hge => by have := h.row.lt; omega, h.new⟩
theorem Keeps.after {T : Nat → Prop} {w w' : World} {X L : Nat} {d' : Dsk} {base : Nat} {v : Value} {ps : List Pl} (h : Keeps (fun k => T k ∨ k = L) w base v ps) (ha : After T w X d' w') : Keeps (fun k => more T w w' k ∨ k = L) w' base v ps :=
  h.go (ha.2.mono fun k hk => .inl hk) fun k hk => hk.elim (fun h1 => h1.1.imp (fun h => .inl h) id) fun e => .inl (.inr e)
/-- One more record behind a row that lies apart from U. -/
theorem app_keeps {w0 : World} {ops : Array Oper} {rest : List Oper} {o : Oper} {a : Act} {Q : Exit → Act → World → Prop} (hgd : o.guard = none) (s y : Operand)
    (ho : o.op = .call { callee := .builtin .append, args := #[s, y], argTypes := #[56, 56] })
    (U : Nat → Prop) (hU : ∀ k, U k → k < w0.heap.size) (base : Nat) (v : Value) (ps : List Pl) (hs : a.eval s = v) (hown : Keeps U w0 base v ps) (R : RecV) (m : RecM) (hR : RecIn w0 R m) (hap : ∀ k, v.ownBlock = some k → Apart k (R, m)) (hfar : FarP U (R, m)) (c : Nat)
    (hy : a.eval y = .slice (some ⟨w0.heap.size, 0, none⟩) 1 c) (hn : ps.length ≤ 1000000000000) (hbase : base ≤ w0.heap.size)
    (h : ∀ v' w', Keeps U w' base v' (ps ++ [(R, m)]) → Below base w0 w' → Kept (fun k => v.ownBlock = some k) w0 w' → wpList Tryz.prog ops Q rest (a.put o.dst v') w') :
    wpList Tryz.prog ops Q (o :: rest) a (w0.alloc (.cells (recC R m).toArray 47)) := by
  refine app_rec hgd s y ho base v ps hs hown.own R m hR hap c hy hn hbase ?_
  intro v' w' h1 h2 h3 h4
  refine h v' w' ⟨h1, fun k hk hu => ?_, fun x hx => ?_⟩ h2 ⟨h2.os, h2.tape, h2.output, h2.size, fun k hk hne => h3 k hk hne⟩
  · rcases h4 with e | e
    · exact hown.far k (e ▸ hk) hu
    · rw [e] at hk
      injection hk with hk
      have := hU k hu
      omega
  · rcases List.mem_append.1 hx with hx | hx
    · exact hown.each x hx
    · obtain rfl := List.mem_singleton.1 hx
      exact hfar
/-- A record that came in is apart from all that is new. -/
theorem in_far {w : World} {U : Nat → Prop} {R : RecV} {m : RecM} (h : RecIn w R m) (hU : ∀ k, U k → w.heap.size ≤ k) : FarP U (R, m) := fun k hk => h.apart_new (hU k hk)
theorem in_apart {w w' : World} {base e size n : Nat} {v : Value} {xs : List Value} {R : RecV} {m : RecM} (h : RecIn w R m) (hv : w'.ownsRow base e size v n xs) (hb : w.heap.size ≤ base) : ∀ k, v.ownBlock = some k → Apart k (R, m) :=
  fun k hk => h.apart_new (Nat.le_trans hb (World.ownsRow.lt hv k hk).1)
def AppTold (B : Nat) (T : Nat → Prop) (w : World) (X L : Nat) (d : Dsk) (n p : Nat) (R : RecV) (e : Ending) (w' : World) : Prop := e = .returned (.int .i64 (appD d logN R).2) ∧
  ∃ T', LogOn B T' w' X L (appD d logN R).1 (if (appD d logN R).2 = 0 then n + 1 else n) (if (appD d logN R).2 = 0 then p + ((recL R).length + 6) else p) ∧ Kept (fun k => T k ∨ k = L) w w' ∧ (∀ k, T' k → T k ∨ w.heap.size ≤ k)
theorem logapp_prog {B : Nat} {T : Nat → Prop} {w : World} {X L : Nat} {d : Dsk} {n p N : Nat} (h : LogOn B T w X L d n p) (hO : Ok N d) (hN : N ≤ 900) (hn : n ≤ 1000000000) (hp : p ≤ 1000000000) (hB : B ≤ w.heap.size) (R : RecV) (m : RecM) (hR : RecIn w R m) (hf : RecFit R) :
    Calls Tryz.prog 14 #[.pointer (some ⟨L, 0, none⟩), .agg (recC R m).toArray] w (AppTold B T w X L d n p R) := by
  by_cases hc : recChk R = 0
  · obtain ⟨D, E, hr⟩ : ∃ D E, change d 2 logN [] (frameL (recL R)) = (D, E) := ⟨_, _, rfl⟩
    have ha : appD d logN R = (D, E) := by unfold appD; rw [if_neg (by rw [hc]; decide), hr]
    refine (logapp_ok h.disk (fun k hk => (h.own k hk).2) hO hN logS (by decide) n p hn hp h.row h.off R m hR hc hr).mono ?_
    rintro e w' ⟨rfl, T', h1, h2, h3, h4, h5⟩
    refine ⟨by rw [ha], T', ?_, h2, fun k hk => (h3 k hk).1⟩
    rw [ha]
    refine ⟨h1, fun k hk => ⟨(h3 k hk).1.elim (fun ht => (h.own k ht).1) (fun hge => by omega), (h3 k hk).2⟩, ?_, h4, h.new⟩
    simp only
    exact h5
  · have ha : appD d logN R = (d, recChk R) := by unfold appD; rw [if_pos hc]
    refine (logapp_bad #[] R m hR hf hc).mono ?_
    rintro e w' ⟨rfl, hb⟩
    refine ⟨by rw [ha], T, ?_, Kept.below hb, fun k hk => .inl hk⟩
    rw [ha, if_neg hc, if_neg hc]
    exact h.below hb
end Go.Proofs.YtmgolnlkepiocaaGreat
