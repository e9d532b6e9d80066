/- The chunk of samples, as the program lays it down. -/
import Derived.Test.YtheaebkegncdlaaChWrite
import Derived.Test.YtheaebkegncdlaaChCheck
namespace Go.Proofs.Ytheaebkegncdlaa
open Go.RowKit
set_option linter.unusedVariables false

/-- The bits behind the number of samples and the first k ones. -/
def rowB (l : List Smp) (k : Nat) : List UInt8 × Nat := putNs ([], 0) (l.length :: body l k)
theorem rowB_zero (l : List Smp) : rowB l 0 = (numL [] 0 l.length, 0 + (7 + digs l.length)) := rfl
theorem rowB_next (l : List Smp) (k : Nat) : rowB l (k + 1) = (numL (numL (rowB l k).1 (rowB l k).2 (tnum l k)) ((rowB l k).2 + (7 + digs (tnum l k))) (vnum l k), (rowB l k).2 + (7 + digs (tnum l k)) + (7 + digs (vnum l k))) := by
  have e : l.length :: body l (k + 1) = ((l.length :: body l k) ++ [tnum l k]) ++ [vnum l k] := by
    show l.length :: (body l k ++ [tnum l k, vnum l k]) = _
    simp
  unfold rowB
  rw [e, putNs_snoc, putNs_snoc]
theorem rowB_few {l : List Smp} (h : chk l = 0) {k : Nat} (hk : k ≤ l.length) : (rowB l k).2 ≤ 20000 := by
  obtain ⟨_, h1, h2⟩ := chk_zero.1 h
  unfold rowB
  rw [putNs_end]
  have := endN_few (l.length :: body l k) 0 (fun u hu => by
    rcases List.mem_cons.1 hu with rfl | hu
    · omega
    · exact body_lt h2 k hk u hu)
  rw [List.length_cons, body_len] at this
  show endN 0 _ ≤ _
  omega
theorem rowB_all (l : List Smp) : (rowB l l.length).1 = encL l := rfl
theorem preT_next (l : List Smp) (k : Nat) : preT l (k + 1) = tOf l k := rfl
theorem preV_next (l : List Smp) (k : Nat) : preV l (k + 1) = vOf l k := rfl
theorem preD_next (l : List Smp) (k : Nat) : preD l (k + 1) = dist l k := rfl

theorem plain_prog (k : Nat) (w : World) (hk : k ≤ 1000) : Calls Try.prog 42 #[.int .i64 (k : Int)] w fun e w' => e = .returned (.bool (decide (k < 2))) ∧ w = w' := by
  by_cases h : k < 2
  · have i1 : decide ((k : Int) < 2) = true := by simp; omega
    rw [decide_eq_true h]
    go_enter Try.func42, Try.ntmps42
    go_wp2
    go_ret
    exact ⟨rfl, rfl⟩
  · have i1 : decide ((k : Int) < 2) = false := by simp; omega
    rw [decide_eq_false h]
    go_enter Try.func42, Try.ntmps42
    go_wp2
    go_ret
    exact ⟨rfl, rfl⟩

set_option maxRecDepth 20000 in
set_option maxHeartbeats 2000000 in
theorem lay_prog5 {w : World} {X base : Nat} {l : List Smp} {A : Option Addr} {c : Nat} (h : Wr w X base [] 0) (hX : base ≤ X) (hXl : X < w.heap.size) (hl : chk l = 0) (hA : ∀ W, Below base w W → Smps W A l) :
    Calls Try.prog 27 #[.slice A l.length c, .func (.func 28) #[.pointer (some ⟨X, 0, none⟩)] #[]] w fun e w' => e = .returned (.tuple #[]) ∧ Wr w' X base (rowB l l.length).1 (rowB l l.length).2 ∧ Below base w w' := by
  obtain ⟨l0, l1, hg⟩ := chk_zero.1 hl
  have HF := Lib.hid (fun k (hk : k ≤ l.length) => rowB_few hl hk)
  have HG := Lib.hid hg
  have HA := Lib.hid hA
  clear hA hg hl
  go_enter Try.func27, Try.ntmps27
  go_wp2_with fail
  refine (num_prog h hX (by omega) (by omega)).mono ?_
  rintro e w1 ⟨rfl, hw1, hb1, ho1⟩
  rw [show (numL [] 0 l.length) = (rowB l 0).1 from rfl, show 0 + (7 + digs l.length) = (rowB l 0).2 from rfl] at hw1
  have HW1 := Lib.hid hw1
  have hbs := hb1.size
  have hF1 : Row (w1.alloc (.cells #[.int .i64 0, .int .i64 0] 44)) w1.heap.size 44 #[.int .i64 0, .int .i64 0] := Row.new w1 _ _
  have hW1 := hw1.below (below_one w1 (.cells #[.int .i64 0, .int .i64 0] 44))
  have hB1 := hb1.alloc (by omega) (.cells #[.int .i64 0, .int .i64 0] 44)
  generalize hF : w1.heap.size = F at *
  clear hw1 ho1 h
  go_wp2_with fail
  clear HW1
  go_loopw [5, 17] (fun bf i wr => ∃ k : Nat, k ≤ l.length ∧ i = .int .i64 (k : Int) ∧ bf = .int .i64 (preD l k) ∧ Row wr F 44 #[.int .i64 (preT l k), .int .i64 (preV l k)] ∧ Wr wr X base (rowB l k).1 (rowB l k).2 ∧ Below base w wr) (fun _ i _ => l.length - (intOf i).toNat)
  case atStart => exact ⟨0, Nat.zero_le _, rfl, rfl, hF1, hW1, hB1⟩
  case round =>
    clear hF1 hW1 hB1
    obtain ⟨k, hk, rfl, rfl, hFr, hWr, hBr⟩ := hrel
    have hsz := hBr.size
    by_cases hlt : k < l.length
    · obtain ⟨b, o, rfl, hb, g0, g1⟩ := (HA.out wr hBr).at_ hlt
      have i2 : (k : Int) < (l.length : Int) := by omega
      have b1 := good_at HG.out hlt
      have b2 := good_pre HG.out hk
      have b3 := good_dist HG.out hlt
      have b4 := good_preD HG.out hk
      have t1 := tnum_lt HG.out hlt
      have v1 := vnum_lt HG.out hlt
      have hFl := hFr.lt
      have HN := Lib.hid (HF.out k hk)
      have HT := Lib.hid (show preT l (k + 1) = tOf l k from rfl)
      have HV := Lib.hid (show preV l (k + 1) = vOf l k from rfl)
      have HD := Lib.hid (show preD l (k + 1) = dist l k from rfl)
      have HDT := Lib.hid (show tOf l k - preT l k = dist l k from rfl)
      have HTN := Lib.hid (show if k < 2 then dist l k = (tnum l k : Int) else tnum l k = zig (dist l k - preD l k) by
        unfold tnum
        split
        · omega
        · rfl)
      have HVN := Lib.hid (show vnum l k = zig (vOf l k - preV l k) from rfl)
      have HNX := Lib.hid (rowB_next l k)
      generalize tOf l k = T at *
      generalize vOf l k = V at *
      generalize preT l k = PT at *
      generalize preV l k = PV at *
      generalize hDV : V - PV = DV at HVN
      have HDV := Lib.hid hDV
      have b5 : -2305843009213693952 ≤ DV ∧ DV ≤ 2305843009213693952 := by omega
      clear hDV
      generalize preD l k = PD at *
      generalize dist l k = D at *
      generalize tnum l k = tn at *
      generalize vnum l k = vn at *
      generalize hRR : rowB l (k + 1) = R1 at *
      have HRR := Lib.hid hRR
      clear hRR
      generalize rowB l k = R0 at *
      have hR1 : Row (wr.alloc (.cells #[.int .i64 T, .int .i64 V] 44)) wr.heap.size 44 #[.int .i64 T, .int .i64 V] := Row.new wr _ _
      have hF1 : Row (wr.alloc (.cells #[.int .i64 T, .int .i64 V] 44)) F 44 #[.int .i64 PT, .int .i64 PV] := hFr.alloc _
      have hW1 := hWr.below (below_one wr (.cells #[.int .i64 T, .int .i64 V] 44))
      have hB1 := hBr.alloc (by omega) (.cells #[.int .i64 T, .int .i64 V] 44)
      have f0 : (wr.alloc (.cells #[.int .i64 T, .int .i64 V] 44)).cell? ⟨F, 0, none⟩ = some (.int .i64 PT) := hF1.cell 0
      have f1 : (wr.alloc (.cells #[.int .i64 T, .int .i64 V] 44)).cell? ⟨F, 1, none⟩ = some (.int .i64 PV) := hF1.cell 1
      have Hfin := Lib.hid (show ∀ (w2 : World), Below base w w2 → Others (wr.alloc (.cells #[.int .i64 T, .int .i64 V] 44)) w2 X → Wr w2 X base (numL R0.1 R0.2 tn) (R0.2 + (7 + digs tn)) →
          Row w2 F 44 #[.int .i64 PT, .int .i64 PV] ∧ Row w2 wr.heap.size 44 #[.int .i64 T, .int .i64 V] ∧
          ∀ (w3 : World), Below base w2 w3 → Others w2 w3 X → Wr w3 X base (numL (numL R0.1 R0.2 tn) (R0.2 + (7 + digs tn)) vn) (R0.2 + (7 + digs tn) + (7 + digs vn)) →
            Row w3 F 44 #[.int .i64 PT, .int .i64 PV] ∧ Row w3 wr.heap.size 44 #[.int .i64 T, .int .i64 V] ∧
            Row ((w3.setCell ⟨F, 0, none⟩ (.int .i64 T)).setCell ⟨F, 1, none⟩ (.int .i64 V)) F 44 #[.int .i64 (preT l (k + 1)), .int .i64 (preV l (k + 1))] ∧
            Wr ((w3.setCell ⟨F, 0, none⟩ (.int .i64 T)).setCell ⟨F, 1, none⟩ (.int .i64 V)) X base R1.1 R1.2 ∧ Below base w ((w3.setCell ⟨F, 0, none⟩ (.int .i64 T)).setCell ⟨F, 1, none⟩ (.int .i64 V)) by
        intro w2 k1 k2 k3
        have hFX : F ≠ X := by omega
        have hSX : wr.heap.size ≠ X := by omega
        have r1 := k2 _ _ _ hF1 (by decide) hFX
        have r2 := k2 _ _ _ hR1 (by decide) hSX
        refine ⟨r1, r2, fun w3 m1 m2 m3 => ?_⟩
        have r3 := m2 _ _ _ r1 (by decide) hFX
        have r4 := m2 _ _ _ r2 (by decide) hSX
        refine ⟨r3, r4, ?_, ?_, ((k1.trans m1).setCell (p := ⟨F, 0, none⟩) (by show base ≤ F; omega) _).setCell (p := ⟨F, 1, none⟩) (by show base ≤ F; omega) _⟩
        · rw [HT.out, HV.out]
          exact (r3.setAt 0 _).setAt 1 _
        · rw [HNX.out]
          exact (m3.setFar r3 (by decide) hFX 0 _).setFar (r3.setAt 0 _) (by decide) hFX 1 _)
      clear hFr hWr
      by_cases hk2 : k < 2
      · rw [if_pos hk2] at HTN
        have hdec : decide (k < 2) = true := decide_eq_true hk2
        have hTD : T - PT = (tn : Int) := by rw [HDT.out]; exact HTN.out
        have hVD : V - PV = DV := HDV.out
        have HZ := Lib.hid (fun W => by have := zig_prog DV W (by omega) (by omega); rw [← HVN.out] at this; exact this)
        have HD2 := Lib.hid (show D = (tn : Int) from HTN.out)
        go_wp2_with fail
        refine (plain_prog k _ (by omega)).mono ?_
        rintro e w2 ⟨rfl, rfl⟩
        rw [hdec]
        go_wp2_with fail
        refine (num_prog hW1 hX (by have := HN.out; omega) t1).mono ?_
        rintro e w2 ⟨rfl, hw2, hb2, ho2⟩
        obtain ⟨r1, r2, r3⟩ := Hfin.out w2 (hB1.trans hb2) ho2 hw2
        have f1' : w2.cell? ⟨F, 1, none⟩ = some (.int .i64 PV) := r1.cell 1
        have s1' : w2.cell? ⟨wr.heap.size, 1, none⟩ = some (.int .i64 V) := r2.cell 1
        have Hr3 := Lib.hid r3
        clear r1 r2 r3 ho2 f0 f1
        go_wp2_with fail
        refine (HZ.out _).mono ?_
        rintro e w2' ⟨rfl, rfl⟩
        go_wp2_with fail
        refine (num_prog hw2 hX (by have := HN.out; have := digs_64 t1; omega) v1).mono ?_
        rintro e w3 ⟨rfl, hw3, hb3, ho3⟩
        obtain ⟨r1, r2, r3, r4, r5⟩ := Hr3.out w3 hb3 ho3 hw3
        have f0 : w3.cell? ⟨F, 0, none⟩ = some (.int .i64 PT) := r1.cell 0
        have f1 : w3.cell? ⟨F, 1, none⟩ = some (.int .i64 PV) := r1.cell 1
        have z0 := r1.frozen 0
        have z1 := r1.frozen 1
        have s0 : w3.cell? ⟨wr.heap.size, 0, none⟩ = some (.int .i64 T) := r2.cell 0
        have s1 : w3.cell? ⟨wr.heap.size, 1, none⟩ = some (.int .i64 V) := r2.cell 1
        have H3 := Lib.hid r3
        have H4 := Lib.hid r4
        have H5 := Lib.hid r5
        clear r1 r2 r3 r4 r5 hw2 hw3 ho3 f1' s1'
        go_wp2_with fail
        go_roundw
        case rel => exact ⟨k + 1, by omega, by go_num, by rw [HD.out, HD2.out], H3.out, by rw [HRR.out]; exact H4.out, H5.out⟩
        case measure => simp [intOf]; omega
      · rw [if_neg hk2] at HTN
        have hdec : decide (k < 2) = false := decide_eq_false hk2
        have hTD : T - PT = D := HDT.out
        have hVD : V - PV = DV := HDV.out
        have HZ := Lib.hid (fun W => by have := zig_prog DV W (by omega) (by omega); rw [← HVN.out] at this; exact this)
        have HZT := Lib.hid (fun W => by have := zig_prog (D - PD) W (by omega) (by omega); rw [← HTN.out] at this; exact this)
        go_wp2_with fail
        refine (plain_prog k _ (by omega)).mono ?_
        rintro e w2 ⟨rfl, rfl⟩
        rw [hdec]
        go_wp2_with fail
        refine (HZT.out _).mono ?_
        rintro e w2 ⟨rfl, rfl⟩
        go_wp2_with fail
        refine (num_prog hW1 hX (by have := HN.out; omega) t1).mono ?_
        rintro e w2 ⟨rfl, hw2, hb2, ho2⟩
        obtain ⟨r1, r2, r3⟩ := Hfin.out w2 (hB1.trans hb2) ho2 hw2
        have f1' : w2.cell? ⟨F, 1, none⟩ = some (.int .i64 PV) := r1.cell 1
        have s1' : w2.cell? ⟨wr.heap.size, 1, none⟩ = some (.int .i64 V) := r2.cell 1
        have Hr3 := Lib.hid r3
        clear r1 r2 r3 ho2 f0 f1
        go_wp2_with fail
        refine (HZ.out _).mono ?_
        rintro e w2' ⟨rfl, rfl⟩
        go_wp2_with fail
        refine (num_prog hw2 hX (by have := HN.out; have := digs_64 t1; omega) v1).mono ?_
        rintro e w3 ⟨rfl, hw3, hb3, ho3⟩
        obtain ⟨r1, r2, r3, r4, r5⟩ := Hr3.out w3 hb3 ho3 hw3
        have f0 : w3.cell? ⟨F, 0, none⟩ = some (.int .i64 PT) := r1.cell 0
        have f1 : w3.cell? ⟨F, 1, none⟩ = some (.int .i64 PV) := r1.cell 1
        have z0 := r1.frozen 0
        have z1 := r1.frozen 1
        have s0 : w3.cell? ⟨wr.heap.size, 0, none⟩ = some (.int .i64 T) := r2.cell 0
        have s1 : w3.cell? ⟨wr.heap.size, 1, none⟩ = some (.int .i64 V) := r2.cell 1
        have H3 := Lib.hid r3
        have H4 := Lib.hid r4
        have H5 := Lib.hid r5
        clear r1 r2 r3 r4 r5 hw2 hw3 ho3 f1' s1'
        go_wp2_with fail
        go_roundw
        case rel => exact ⟨k + 1, by omega, by go_num, by rw [HD.out], H3.out, by rw [HRR.out]; exact H4.out, H5.out⟩
        case measure => simp [intOf]; omega
    · obtain rfl : k = l.length := by omega
      go_wp2_with fail
      go_end0
      exact ⟨rfl, hWr, hBr⟩

/-- The program's Encode: the chunk, or the error. -/
theorem encode_prog (A : Option Addr) (l : List Smp) (c : Nat) (w : World) (hA : Smps w A l) (hlen : l.length ≤ 100000000000000) :
    Calls Try.prog 13 #[.slice A l.length c] w fun e w' => ∃ v, e = .returned (.tuple #[v, .int .i64 (chk l)]) ∧ Own w' w.heap.size v (if chk l = 0 then encL l else []) ∧ Below w.heap.size w w' := by
  have HC := Lib.hid (fun W (hW : Below w.heap.size w W) => chk_prog A l c W (hA.below hW) hlen)
  by_cases h0 : chk l = 0
  · rw [if_pos h0, h0]
    have HC0 := Lib.hid (fun W hW => by have := HC.out W hW; rw [h0] at this; exact this)
    have hmf : ∀ (fn : Fn) (first cap : Array Value) (w : World), (Instr.makeFunc fn first cap).run Try.prog w = .ok (.func fn first cap) w := fun _ _ _ _ => rfl
    have HF := Lib.hid (rowB_few h0 (Nat.le_refl _))
    have H0 := Lib.hid h0
    clear h0
    go_enter Try.func13, Try.ntmps13
    go_wp2_with fail
    refine (HC0.out _ (Below.refl _ _)).mono ?_
    rintro e w1 ⟨rfl, hb1⟩
    have hs1 := hb1.size
    have hb2 := hb1.alloc hs1 (.cells #[.slice none 0 0, .slice none 0 0, .int .i64 0] 60)
    have hX : Row (w1.alloc (.cells #[.slice none 0 0, .slice none 0 0, .int .i64 0] 60)) w1.heap.size 60 #[.slice none 0 0, .slice none 0 0, .int .i64 0] := Row.new w1 _ _
    have hXl := hX.lt
    go_wp2_with fail
    refine (lay_prog5 (base := w.heap.size) (wr_new hX) hs1 hXl H0.out (fun W hW => hA.below (hb2.trans hW))).mono ?_
    rintro e w3 ⟨rfl, hw3, hb3⟩
    go_wp2_with fail
    refine (bytes_prog hw3 hs1 (by have := HF.out; omega)).mono ?_
    rintro e w4 ⟨v, rfl, hv, hb4⟩
    have HV := Lib.hid hv
    obtain ⟨Pv, cv, hvv, _, _⟩ := own_slice' hv
    rw [rowB_all] at HV hvv
    generalize (encL l).length = ln at hvv
    clear hv
    subst hvv
    go_wp2_with fail
    go_ret2
    exact ⟨_, rfl, HV.out, (hb2.trans hb3).trans hb4⟩
  · rw [if_neg h0]
    have hne : (chk l != 0) = true := by rw [bne_iff_ne]; exact h0
    generalize chk l = e at *
    go_enter Try.func13, Try.ntmps13
    go_wp2_with fail
    refine (HC.out _ (Below.refl _ _)).mono ?_
    rintro e w1 ⟨rfl, hb1⟩
    go_wp2_with fail
    go_ret2
    exact ⟨_, rfl, own_nil _ _, hb1⟩
end Go.Proofs.Ytheaebkegncdlaa
