/- A head's grow: rows laid behind their series, all or none. -/
import Derived.Test.YtpcjnagdanmdpaaGreatHdLotD
namespace Go.Proofs.YtpcjnagdanmdpaaGreat
open Go.RowKit Go.Maps
open Ch
set_option linter.unusedVariables false
set_option linter.unusedSimpArgs false
set_option maxRecDepth 100000
section
variable {S T : Nat → Prop} {w w' w1 w2 : World} {X : Nat} {p : Plc} {h h' : List Ser} {c c' : Int}
theorem push_prog (hi : HeadAt S w X h) (hk : HeadOk h) (x : Wrow) (h0 : 0 ≤ x.1) :
    Calls Tryz.prog 56 #[.pointer (some ⟨X, 0, none⟩), rowV x] w fun e w' => e = .returned (.int .i64 (rowE h.length h (cntS h) x)) ∧ After S w X (if rowE h.length h (cntS h) x = 0 then putH h x else h) w' := by
  have HSM := Lib.hid (fun w' (hb : Below w.heap.size w w') => after_same hi hb)
  obtain ⟨p, hin, hS⟩ := hi
  obtain ⟨i, hx⟩ : ∃ i : Nat, x.1 = (i : Int) := ⟨x.1.toNat, by omega⟩
  have hg : h.getD x.1.toNat ([], []) = h.getD i ser0 := by rw [hx]; rfl
  unfold rowE
  rw [hg]
  by_cases c1 : (h.length : Int) ≤ x.1
  · rw [if_pos c1]
    refine (push_none hin x (.inr c1)).mono ?_
    rintro e w' ⟨rfl, hb⟩
    exact ⟨rfl, HSM.out _ hb⟩
  rw [if_neg c1]
  have hl : i < h.length := by omega
  by_cases c2 : 65536 ≤ cntS h
  · rw [if_pos c2]
    refine (push_big hin x i hx hl (by omega)).mono ?_
    rintro e w' ⟨rfl, hb⟩
    exact ⟨rfl, HSM.out _ hb⟩
  rw [if_neg c2]
  by_cases c3 : x.2.1 ≤ lastT (h.getD i ser0)
  · rw [if_pos c3]
    refine (push_late hin hk x i hx hl (by omega) c3).mono ?_
    rintro e w' ⟨rfl, hb⟩
    exact ⟨rfl, HSM.out _ hb⟩
  · rw [if_neg c3]
    refine (push_ok hin hS hk x i hx hl (by omega) c3).mono ?_
    rintro e w' ⟨rfl, ha⟩
    exact ⟨rfl, by rw [if_pos rfl]; exact ha⟩
/-- What stands behind the first j rows, where none of them is refused. -/
structure GrowAt (h : List Ser) (rows : List Wrow) (j : Nat) : Prop where
  ok : HeadOk (putsH h (rows.take j))
  cnt : cntS (putsH h (rows.take j)) = cntS h + j
  left : rowsH h.length h (cntS h) rows = rowsH h.length (putsH h (rows.take j)) (cntS h + j) (rows.drop j)
  ids : ∀ x ∈ rows.take j, 0 ≤ x.1 ∧ x.1 < (h.length : Int)
theorem grow_at0 (hk : HeadOk h) (rows : List Wrow) : GrowAt h rows 0 := ⟨hk, rfl, rfl, fun x hx => by simp at hx⟩
theorem row_drop {rows : List Wrow} {j : Nat} (hj : j < rows.length) : rows.drop j = rows.getD j wrow0 :: rows.drop (j + 1) ∧ rows.take (j + 1) = rows.take j ++ [rows.getD j wrow0] ∧ rows.getD j wrow0 ∈ rows := by
  rw [List.getD_eq_getElem?_getD, List.getElem?_eq_getElem hj]
  exact ⟨List.drop_eq_getElem_cons hj, by rw [List.take_add_one, List.getElem?_eq_getElem hj]; rfl, List.getElem_mem hj⟩
theorem grow_step {rows : List Wrow} {j : Nat} (hg : GrowAt h rows j) (hj : j < rows.length) (hx : wrowErr (rows.getD j wrow0) = 0) (he : rowE h.length (putsH h (rows.take j)) (cntS h + j) (rows.getD j wrow0) = 0) :
    GrowAt h rows (j + 1) ∧ putsH h (rows.take (j + 1)) = putH (putsH h (rows.take j)) (rows.getD j wrow0) := by
  obtain ⟨d1, d2, _⟩ := row_drop hj
  have hlen := putsH_len (rows.take j) h
  have e1 : putsH h (rows.take (j + 1)) = putH (putsH h (rows.take j)) (rows.getD j wrow0) := by rw [d2, putsH_snoc]
  have he' : rowE (putsH h (rows.take j)).length (putsH h (rows.take j)) (cntS (putsH h (rows.take j))) (rows.getD j wrow0) = 0 := by rw [hlen, hg.cnt]; exact he
  obtain ⟨k1, k2, k3⟩ := putH_ok hg.ok hx he'
  refine ⟨⟨by rw [e1]; exact k1, by rw [e1, k3, hg.cnt]; omega, ?_, fun x hm => ?_⟩, e1⟩
  · rw [hg.left, d1]
    conv => lhs; unfold rowsH
    rw [if_pos he, e1]
    rfl
  · rw [d2] at hm
    rcases List.mem_append.1 hm with hm | hm
    · exact hg.ids x hm
    · rw [List.mem_singleton.1 hm]
      refine ⟨(wrowErr_zero.1 hx).1, ?_⟩
      unfold rowE at he
      split at he
      · cases he
      · omega
theorem grow_stop {rows : List Wrow} {j : Nat} (hg : GrowAt h rows j) (hj : j < rows.length) (he : rowE h.length (putsH h (rows.take j)) (cntS h + j) (rows.getD j wrow0) ≠ 0) :
    (rowsH h.length h (cntS h) rows).2 = rowE h.length (putsH h (rows.take j)) (cntS h + j) (rows.getD j wrow0) := by
  rw [hg.left, (row_drop hj).1]
  unfold rowsH
  rw [if_neg he]
theorem grow_end {rows : List Wrow} (hg : GrowAt h rows rows.length) : rowsH h.length h (cntS h) rows = (putsH h rows, 0) := by
  rw [hg.left, List.drop_length, List.take_length]
  rfl
theorem wrows_front {A : Option Addr} {l : List Wrow} (h : Wrows w A l) (k : Nat) : Wrows w A (l.take k) := by
  rcases Nat.eq_zero_or_pos (l.take k).length with h0 | h0
  · rw [List.length_eq_zero_iff.1 h0]; exact Wrows.nil _ _
  · rcases h with h | ⟨b, o, rfl, hb, hc⟩
    · have hlen := flat_len wrowE 3 wrowE_len l
      rw [h] at hlen
      rw [List.length_take] at h0
      simp at hlen
      omega
    · refine .inr ⟨b, o, rfl, hb, fun j u hj => hc j u ?_⟩
      have : l.flatMap wrowE = (l.take k).flatMap wrowE ++ (l.drop k).flatMap wrowE := by rw [← List.flatMap_append, List.take_append_drop]
      rw [this, List.getElem?_append_left (List.getElem?_eq_some_iff.1 hj).1]
      exact hj
/-- The boxes of a grow's variables. -/
structure GrowBox (w : World) (B X : Nat) (A : Option Addr) (n ca : Nat) (E D : Int) : Prop where
  b0 : Row w B 25 #[.pointer (some ⟨X, 0, none⟩)]
  b1 : Row w (B + 1) 30 #[.slice A n ca]
  b2 : Row w (B + 1 + 1) 28 #[.int .i64 E]
  b3 : Row w (B + 1 + 1 + 1) 3 #[.int .i64 D]
theorem growBox_new (w : World) (X : Nat) (A : Option Addr) (n ca : Nat) : GrowBox ((((w.alloc (.cells #[.pointer (some ⟨X, 0, none⟩)] 25)).alloc (.cells #[.slice A n ca] 30)).alloc (.cells #[.int .i64 0] 28)).alloc (.cells #[.int .i64 0] 3)) w.heap.size X A n ca 0 0 := by
  have at_ : ∀ (w : World) (o : Obj), (w.alloc o).heap.size = w.heap.size + 1 := fun w o => by simp
  refine ⟨(((Row.new w _ _).alloc _).alloc _).alloc _, ?_, ?_, ?_⟩
  · have := Row.new (w.alloc (.cells #[.pointer (some ⟨X, 0, none⟩)] 25)) 30 #[.slice A n ca]
    rw [at_] at this
    exact (this.alloc _).alloc _
  · have := Row.new ((w.alloc (.cells #[.pointer (some ⟨X, 0, none⟩)] 25)).alloc (.cells #[.slice A n ca] 30)) 28 #[.int .i64 0]
    rw [at_, at_] at this
    exact this.alloc _
  · have := Row.new (((w.alloc (.cells #[.pointer (some ⟨X, 0, none⟩)] 25)).alloc (.cells #[.slice A n ca] 30)).alloc (.cells #[.int .i64 0] 28)) 3 #[.int .i64 0]
    rw [at_, at_, at_] at this
    exact this
theorem GrowBox.kept {B : Nat} {A : Option Addr} {n ca : Nat} {E D : Int} (hb : GrowBox w B X A n ca E D) (hk : Kept T w w') (hT : ∀ k, B ≤ k → k < B + 4 → ¬ T k) : GrowBox w' B X A n ca E D :=
  ⟨row_move hb.b0 (hk.block _ hb.b0.lt (hT _ (by omega) (by omega))), row_move hb.b1 (hk.block _ hb.b1.lt (hT _ (by omega) (by omega))), row_move hb.b2 (hk.block _ hb.b2.lt (hT _ (by omega) (by omega))), row_move hb.b3 (hk.block _ hb.b3.lt (hT _ (by omega) (by omega)))⟩
theorem GrowBox.err {B : Nat} {A : Option Addr} {n ca : Nat} {E E' D : Int} (hb : GrowBox w B X A n ca E D) : GrowBox (w.setCell ⟨B + 1 + 1, 0, none⟩ (.int .i64 E')) B X A n ca E' D :=
  ⟨hb.b0.setFar (p := ⟨B + 1 + 1, 0, none⟩) (by show B ≠ B + 1 + 1; omega) _, hb.b1.setFar (p := ⟨B + 1 + 1, 0, none⟩) (by show B + 1 ≠ B + 1 + 1; omega) _, hb.b2.setAt 0 _, hb.b3.setFar (p := ⟨B + 1 + 1, 0, none⟩) (by show B + 1 + 1 + 1 ≠ B + 1 + 1; omega) _⟩
theorem GrowBox.done {B : Nat} {A : Option Addr} {n ca : Nat} {E D D' : Int} (hb : GrowBox w B X A n ca E D) : GrowBox (w.setCell ⟨B + 1 + 1 + 1, 0, none⟩ (.int .i64 D')) B X A n ca E D' :=
  ⟨hb.b0.setFar (p := ⟨B + 1 + 1 + 1, 0, none⟩) (by show B ≠ B + 1 + 1 + 1; omega) _, hb.b1.setFar (p := ⟨B + 1 + 1 + 1, 0, none⟩) (by show B + 1 ≠ B + 1 + 1 + 1; omega) _, hb.b2.setFar (p := ⟨B + 1 + 1 + 1, 0, none⟩) (by show B + 1 + 1 ≠ B + 1 + 1 + 1; omega) _, hb.b3.setAt 0 _⟩
theorem GrowBox.cells {B : Nat} {A : Option Addr} {n ca : Nat} {E D : Int} (hb : GrowBox w B X A n ca E D) : w.cell? ⟨B, 0, none⟩ = some (.pointer (some ⟨X, 0, none⟩)) ∧ w.cell? ⟨B + 1, 0, none⟩ = some (.slice A n ca) ∧ w.cell? ⟨B + 1 + 1, 0, none⟩ = some (.int .i64 E) ∧ w.cell? ⟨B + 1 + 1 + 1, 0, none⟩ = some (.int .i64 D) ∧ w.frozen? ⟨B + 1 + 1, 0, none⟩ = false ∧ w.frozen? ⟨B + 1 + 1 + 1, 0, none⟩ = false :=
  ⟨hb.b0.cell 0, hb.b1.cell 0, hb.b2.cell 0, hb.b3.cell 0, hb.b2.frozen 0, hb.b3.frozen 0⟩
set_option maxHeartbeats 2000000 in
theorem hdgrow_prog (hi : HeadAt S w X h) (hk : HeadOk h) {rows : List Wrow} {A : Option Addr} {ca : Nat} (hA : Wrows w A rows) (hAS : rows ≠ [] → ∀ ad, A = some ad → ¬ S ad.block) (hx : ∀ x ∈ rows, wrowErr x = 0) (hn : rows.length ≤ 100000) (hca : rows.length ≤ ca) :
    Calls Tryz.prog 24 #[.pointer (some ⟨X, 0, none⟩), .slice A rows.length ca] w fun e w' =>
      e = .returned (.int .i64 (rowsH h.length h (cntS h) rows).2) ∧ After S w X (if (rowsH h.length h (cntS h) rows).2 = 0 then (rowsH h.length h (cntS h) rows).1 else h) w' := by
  have hmf : ∀ (fn : Fn) (first cap : Array Value) (w : World), (Instr.makeFunc fn first cap).run Tryz.prog w = .ok (.func fn first cap) w := fun _ _ _ _ => rfl
  obtain ⟨B, hB⟩ : ∃ B, w.heap.size = B := ⟨_, rfl⟩
  obtain ⟨T, hT⟩ : ∃ T : Nat → Prop, T = fun k => (S k ∧ k < B) ∨ B + 4 ≤ k := ⟨_, rfl⟩
  have hb4 : Below w.heap.size w ((((w.alloc (.cells #[.pointer (some ⟨X, 0, none⟩)] 25)).alloc (.cells #[.slice A rows.length ca] 30)).alloc (.cells #[.int .i64 0] 28)).alloc (.cells #[.int .i64 0] 3)) :=
    ((((Below.refl w.heap.size w).alloc (Nat.le_refl _) _).alloc (by simp) _).alloc (by simp; omega) _).alloc (by simp; omega) _
  have hsz : ((((w.alloc (.cells #[.pointer (some ⟨X, 0, none⟩)] 25)).alloc (.cells #[.slice A rows.length ca] 30)).alloc (.cells #[.int .i64 0] 28)).alloc (.cells #[.int .i64 0] 3)).heap.size = B + 4 := by simp; omega
  have hbox := growBox_new w X A rows.length ca
  have hhd : HeadAt T _ X h := (hi.within.below hb4).mono fun k hk => by rw [hT]; exact .inl ⟨hk.1, by rw [← hB]; exact hk.2⟩
  have hkp : Kept T w ((((w.alloc (.cells #[.pointer (some ⟨X, 0, none⟩)] 25)).alloc (.cells #[.slice A rows.length ca] 30)).alloc (.cells #[.int .i64 0] 28)).alloc (.cells #[.int .i64 0] 3)) := Kept.below hb4
  have HT0 := Lib.hid (show ∀ k, B ≤ k → k < B + 4 → ¬ T k from fun k h1 h2 h3 => by
    rw [hT] at h3
    rcases h3 with h3 | h3 <;> omega)
  have HT1 := Lib.hid (show ∀ k, B + 4 ≤ k → T k from fun k h1 => by rw [hT]; exact .inr h1)
  have HTA := Lib.hid (show rows ≠ [] → ∀ ad, A = some ad → ad.block < B → ¬ T ad.block from fun hne ad e h1 h3 => by
    rw [hT] at h3
    rcases h3 with h3 | h3
    · exact hAS hne ad e h3.1
    · omega)
  have HFIN := Lib.hid (show ∀ (w' : World) (h' : List Ser), HeadAt T w' X h' → Kept (fun k => T k ∨ B ≤ k) w w' → After S w X h' w' from fun w' h' a1 a2 => by
    refine ⟨a1.mono fun k hk => ?_, a2.os, a2.tape, a2.output, a2.size, fun k h1 h2 => a2.block k h1 ?_⟩
    · rw [hT] at hk
      rcases hk with hk | hk
      · exact .inl hk.1
      · exact .inr (by omega)
    · rintro (h3 | h3)
      · rw [hT] at h3
        rcases h3 with h3 | h3
        · exact h2 h3.1
        · omega
      · omega)
  have h256 := hk.few
  have HG0 := Lib.hid (grow_at0 hk rows)
  have HA := Lib.hid hA
  have HX := Lib.hid hx
  rw [hB] at hbox
  obtain ⟨RR, hRR⟩ : ∃ RR, (if (rowsH h.length h (cntS h) rows).2 = 0 then (rowsH h.length h (cntS h) rows).1 else h) = RR := ⟨_, rfl⟩
  obtain ⟨EE, hEE⟩ : ∃ EE, (rowsH h.length h (cntS h) rows).2 = EE := ⟨_, rfl⟩
  rw [hRR, hEE]
  have HRR := Lib.hid hRR
  have HEE := Lib.hid hEE
  clear hRR hEE
  obtain ⟨n, hnn⟩ : ∃ n, rows.length = n := ⟨_, rfl⟩
  have HN := Lib.hid hnn
  rw [hnn] at hn hca hbox hhd hkp hsz ⊢
  have HBOX := Lib.hid hbox
  have HHD := Lib.hid hhd
  have HKP := Lib.hid hkp
  have HSZ := Lib.hid (Nat.le_of_eq hsz.symm)
  have HB := Lib.hid hB
  clear hi hA hAS hx hnn hT hb4 hsz hbox hhd hkp hk
  go_enter_defers Tryz.func24, Tryz.ntmps24
  go_wp2_with fail
  go_loopw [11] (fun a wr => ∃ j : Nat, j ≤ n ∧ a = .int .i64 (j : Int) ∧ GrowBox wr B X A n ca 0 (j : Int) ∧ HeadAt T wr X (putsH h (rows.take j)) ∧ GrowAt h rows j ∧ Kept T w wr ∧ B + 4 ≤ wr.heap.size) (fun a _ => n - (intOf a).toNat)
  case atStart => exact ⟨0, Nat.zero_le _, rfl, HBOX.out, HHD.out, HG0.out, HKP.out, HSZ.out⟩
  case round =>
    obtain ⟨j, hj, rfl, hbx, hhd, hga, hkp, hsz⟩ := hrel
    by_cases hlt : j < n
    · have i1 : decide ((j : Int) < (n : Int)) = true := decide_eq_true (by omega)
      have i2 : (j : Int) < (n : Int) := by omega
      have hjr : j < rows.length := by rw [HN.out]; exact hlt
      obtain ⟨b, o, hAe, hb, hcell⟩ := HA.out.all (by omega)
      obtain ⟨r0, r1, r2⟩ := hcell j hjr
      have hbB : b < B := by rw [← HB.out]; exact hb
      have hnT := HTA.out (fun e => by rw [e] at hjr; simp at hjr) _ hAe hbB
      have hbl := hkp.block b hb hnT
      subst hAe
      have mv : ∀ i, wr.cell? ⟨b, i, none⟩ = w.cell? ⟨b, i, none⟩ := fun i => World.cell?_of_block (w := w) hbl
      rw [← mv] at r0 r1 r2
      have hmem := (row_drop hjr).2.2
      have hxe := HX.out _ hmem
      have h0 := (wrowErr_zero.1 hxe).1
      have hb1 := below_one wr (.cells #[.int .i64 (rows.getD j wrow0).1, .int .i64 (rows.getD j wrow0).2.1, .int .i64 (rows.getD j wrow0).2.2] 70)
      have HPU := Lib.hid (push_prog (hhd.below hb1) hga.ok (rows.getD j wrow0) h0)
      rw [putsH_len, hga.cnt] at HPU
      have hbx1 := hbx.kept (Kept.below (S := T) hb1) HT0.out
      have hkp1 : Kept T w (wr.alloc (.cells #[.int .i64 (rows.getD j wrow0).1, .int .i64 (rows.getD j wrow0).2.1, .int .i64 (rows.getD j wrow0).2.2] 70)) := hkp.alloc _
      have HSTEP := Lib.hid (fun he => grow_step hga hjr hxe he)
      have HSTOP := Lib.hid (fun he => grow_stop hga hjr he)
      obtain ⟨E, hE⟩ : ∃ E, rowE h.length (putsH h (rows.take j)) (cntS h + j) (rows.getD j wrow0) = E := ⟨_, rfl⟩
      rw [hE] at HPU HSTEP HSTOP
      unfold rowV at HPU
      obtain ⟨st, hst⟩ : ∃ st, putsH h (rows.take j) = st := ⟨_, rfl⟩
      rw [hst] at HPU
      have HGA := Lib.hid hga
      have HKP1 := Lib.hid hkp1
      have HBX1 := Lib.hid hbx1
      have HSZ1 := Lib.hid hsz
      have HLT := Lib.hid hlt
      have HST := Lib.hid hst
      have HMV := Lib.hid (show Wrows w (some ⟨b, o, none⟩) rows from HA.out)
      have HBT := Lib.hid (show b < B ∧ ¬ T b from ⟨hbB, hnT⟩)
      have c1 := hbx1.cells
      obtain ⟨c10, c11, c12, c13, _, _⟩ := c1
      obtain ⟨y, hy⟩ : ∃ y, rows.getD j wrow0 = y := ⟨_, rfl⟩
      rw [hy] at r0 r1 r2 HPU HKP1 HBX1 c10 c11 c12 c13
      have HY := Lib.hid hy
      obtain ⟨rid, t, v⟩ := y
      simp only at r0 r1 r2 HPU HKP1 HBX1 c10 c11 c12 c13
      have g0 := (Row.new wr 70 #[.int .i64 rid, .int .i64 t, .int .i64 v]).cell 0
      have g1 := (Row.new wr 70 #[.int .i64 rid, .int .i64 t, .int .i64 v]).cell 1
      have g2 := (Row.new wr 70 #[.int .i64 rid, .int .i64 t, .int .i64 v]).cell 2
      clear hbx hhd hga hkp hsz hcell hmem hxe h0 hb1 hbx1 hkp1 hst hy hnT hbl mv hE HBOX HHD HKP HSZ HG0
      go_wp2_with (go_at_call 56; refine HPU.out.mono ?_; rintro e w5 ⟨rfl, ha⟩; have hbx5 := HBX1.out.kept ha.2 HT0.out; obtain ⟨_, _, c52, _, f52, _⟩ := hbx5.cells; have hbx6 := hbx5.err (E' := E); obtain ⟨c60, c61, c62, c63, f62, f63⟩ := hbx6.cells; have HBX6 := Lib.hid hbx6; have HAF := Lib.hid ha; clear ha hbx5 hbx6)
      · have hE0 : E ≠ 0 := by
          first
            | assumption
            | (have hz : (E != 0) = true := by assumption
               exact bne_iff_ne.1 hz)
        obtain ⟨ha1, ha2⟩ := HAF.out
        rw [if_neg hE0] at ha1
        have hsz1 : B + 4 ≤ (wr.alloc (.cells #[.int .i64 rid, .int .i64 t, .int .i64 v] 70)).heap.size := Nat.le_trans HSZ1.out (by simp)
        have hbx7 := HBX6.out.err (E' := E)
        have kst : Kept (fun k => B ≤ k ∧ k < B + 4) w5 ((w5.setCell ⟨B + 1 + 1, 0, none⟩ (.int .i64 E)).setCell ⟨B + 1 + 1, 0, none⟩ (.int .i64 E)) := ((Kept.refl _ w5).set (p := ⟨B + 1 + 1, 0, none⟩) (.inl (by show B ≤ B + 1 + 1 ∧ B + 1 + 1 < B + 4; omega)) _).set (p := ⟨B + 1 + 1, 0, none⟩) (.inl (by show B ≤ B + 1 + 1 ∧ B + 1 + 1 < B + 4; omega)) _
        have hd7 : HeadAt T ((w5.setCell ⟨B + 1 + 1, 0, none⟩ (.int .i64 E)).setCell ⟨B + 1 + 1, 0, none⟩ (.int .i64 E)) X st := (ha1.mono fun k hk => hk.elim id fun h => HT1.out k (by omega)).kept kst fun k h1 h2 => HT0.out k h2.1 h2.2 h1
        have kp5 : Kept T w w5 := HKP1.out.trans ha2 fun i hi => .inl hi
        have kp7 : Kept (fun k => T k ∨ B ≤ k) w ((w5.setCell ⟨B + 1 + 1, 0, none⟩ (.int .i64 E)).setCell ⟨B + 1 + 1, 0, none⟩ (.int .i64 E)) := (kp5.mono fun k hk => .inl hk).trans kst fun i hi => .inl (.inr hi.1)
        have hwr : Wrows ((w5.setCell ⟨B + 1 + 1, 0, none⟩ (.int .i64 E)).setCell ⟨B + 1 + 1, 0, none⟩ (.int .i64 E)) (some ⟨b, o, none⟩) (rows.take j) := by
          refine at_move (wrows_front HMV.out j) kp7.size (.inr fun ad e => ?_)
          injection e with e
          subst e
          refine kp7.block b (by rw [HB.out]; exact HBT.out.1) ?_
          rintro (h1 | h1)
          · exact HBT.out.2 h1
          · have := HBT.out.1; omega
        obtain ⟨p7, hi7, hf7⟩ := hd7
        have hlt7 := HLT.out
        have hjl : (rows.take j).length = j := by rw [List.length_take, HN.out]; omega
        rw [← HST.out, putsH_len] at hf7
        rw [← HST.out] at hi7
        have hok := HGA.out.ok
        have hcn := HGA.out.cnt
        refine leaves_cons (f := 54) (args := #[.pointer (some ⟨B + 1 + 1, 0, none⟩), .pointer (some ⟨B, 0, none⟩), .pointer (some ⟨B + 1, 0, none⟩), .pointer (some ⟨B + 1 + 1 + 1, 0, none⟩)]) (by simp) (by simp [go_sem]) ?_
        refine (undo_prog (c' := (cntS h : Int)) (ca := ca) .returning hE0 hbx7.b0 hbx7.b1 hbx7.b2 (by rw [hjl]; exact hbx7.b3) hi7 hf7 HGA.out.ids hwr HBT.out.2 (by rw [hjl]; omega) hca hn (by rw [hjl, hcn]; omega) (by omega) (by have := hok.all; omega) h256 (fun i => by
          rcases Nat.lt_or_ge i (putsH h (rows.take j)).length with h1 | h1
          · have := (hdlens hok h1).1; omega
          · rw [List.getD_eq_getElem?_getD, List.getElem?_eq_none h1]; simp [ser0])).mono ?_
        rintro e u' w8 ⟨rfl, rfl, p', k1, k2, k3⟩
        have hbx8 := hbx7.kept k3 HT0.out
        have q2 : w8.cell? ⟨B + 1 + 1, 0, none⟩ = some (.int .i64 E) := hbx8.cells.2.2.1
        have HAFT := Lib.hid (show After S w X h w8 from HFIN.out _ _ ⟨p', k1, k2⟩ (kp7.trans k3 fun i hi => .inl (.inl hi)))
        have HER := Lib.hid (HSTOP.out hE0)
        have HE0 := Lib.hid hE0
        clear hbx7 kst kp5 kp7 hwr hi7 hf7 hok hcn ha1 ha2 hbx8 k1 k2 k3
        simp [Leaves, settle, results, Tryz.results24, go_sem, q2]
        rw [← HRR.out, ← HEE.out, HER.out, if_neg HE0.out]
        exact ⟨rfl, HAFT.out⟩
      · have hE0 : E = 0 := by
          first
            | assumption
            | (have hz : (E != 0) = false := by assumption
               simpa using hz)
        subst hE0
        obtain ⟨ha1, ha2⟩ := HAF.out
        rw [if_pos rfl] at ha1
        have hsz1 : B + 4 ≤ (wr.alloc (.cells #[.int .i64 rid, .int .i64 t, .int .i64 v] 70)).heap.size := Nat.le_trans HSZ1.out (by simp)
        have hj2 := HLT.out
        have ej : ((j + 1 : Nat) : Int) = (j : Int) + 1 := by omega
        have kst : Kept (fun k => B ≤ k ∧ k < B + 4) w5 ((w5.setCell ⟨B + 1 + 1, 0, none⟩ (.int .i64 0)).setCell ⟨B + 1 + 1 + 1, 0, none⟩ (.int .i64 ((j : Int) + 1))) := ((Kept.refl _ w5).set (p := ⟨B + 1 + 1, 0, none⟩) (.inl (by show B ≤ B + 1 + 1 ∧ B + 1 + 1 < B + 4; omega)) _).set (p := ⟨B + 1 + 1 + 1, 0, none⟩) (.inl (by show B ≤ B + 1 + 1 + 1 ∧ B + 1 + 1 + 1 < B + 4; omega)) _
        have hd7 := (ha1.mono (T := T) fun k hk => hk.elim id fun h => HT1.out k (by omega)).kept kst fun k h1 h2 => HT0.out k h2.1 h2.2 h1
        have kp5 : Kept T w w5 := HKP1.out.trans ha2 fun i hi => .inl hi
        have kp7 := (kp5.set (p := ⟨B + 1 + 1, 0, none⟩) (.inr (by rw [HB.out]; show B ≤ B + 1 + 1; omega)) (.int .i64 0)).set (p := ⟨B + 1 + 1 + 1, 0, none⟩) (.inr (by rw [HB.out]; show B ≤ B + 1 + 1 + 1; omega)) (.int .i64 ((j : Int) + 1))
        obtain ⟨hs1, hs2⟩ := HSTEP.out rfl
        refine ⟨⟨j + 1, hj2, by rw [ej], by rw [ej]; exact HBX6.out.done, ?_, hs1, kp7, ?_⟩, ?_⟩
        · rw [hs2, HST.out, HY.out]
          exact hd7
        · exact Nat.le_trans hsz1 (Nat.le_trans ha2.size kst.size)
        · simp [intOf]; omega
    · obtain rfl : j = n := by omega
      have i1 : decide ((j : Int) < (j : Int)) = false := decide_eq_false (by omega)
      have i2 : ¬ (j : Int) < (j : Int) := by omega
      obtain ⟨_, _, c2, _, f2, _⟩ := hbx.cells
      have hbx6 := hbx.err (E' := 0)
      have kst : Kept (fun k => B ≤ k ∧ k < B + 4) wr (wr.setCell ⟨B + 1 + 1, 0, none⟩ (.int .i64 0)) := (Kept.refl _ wr).set (p := ⟨B + 1 + 1, 0, none⟩) (.inl (by show B ≤ B + 1 + 1 ∧ B + 1 + 1 < B + 4; omega)) _
      have hd7 := hhd.kept kst fun k h1 h2 => HT0.out k h2.1 h2.2 h1
      have kp7 : Kept (fun k => T k ∨ B ≤ k) w (wr.setCell ⟨B + 1 + 1, 0, none⟩ (.int .i64 0)) := (hkp.mono fun k hk => .inl hk).trans kst fun i hi => .inl (.inr hi.1)
      have hjn : j = rows.length := HN.out.symm
      rw [hjn] at hga
      have hend := grow_end hga
      have HAFT := Lib.hid (show After S w X RR (wr.setCell ⟨B + 1 + 1, 0, none⟩ (.int .i64 0)) from by
        rw [← HRR.out, hend, if_pos rfl]
        rw [hjn, List.take_length] at hd7
        exact HFIN.out _ _ hd7 kp7)
      have HE0 := Lib.hid (show EE = 0 by rw [← HEE.out, hend])
      have HBX6 := Lib.hid hbx6
      clear hbx hhd hga hkp hsz hbx6 kst hd7 kp7 hend hjn HBOX HHD HKP HSZ HG0
      go_wp2_with fail
      refine leaves_cons (f := 54) (args := #[.pointer (some ⟨B + 1 + 1, 0, none⟩), .pointer (some ⟨B, 0, none⟩), .pointer (some ⟨B + 1, 0, none⟩), .pointer (some ⟨B + 1 + 1 + 1, 0, none⟩)]) (by simp) (by simp [go_sem]) ?_
      refine (undo_idle .returning HBX6.out.b2).mono ?_
      rintro e u' w8 ⟨rfl, rfl, rfl⟩
      have q2 := HBX6.out.cells.2.2.1
      simp [Leaves, settle, results, Tryz.results24, go_sem, q2]
      rw [HE0.out]
      exact ⟨rfl, HAFT.out⟩
end
end Go.Proofs.YtpcjnagdanmdpaaGreat
