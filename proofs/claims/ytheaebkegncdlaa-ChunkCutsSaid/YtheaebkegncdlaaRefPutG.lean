/- A bit behind bits, as the document's own answer lays it down: in a row of bytes of the call's own, which may grow. -/
import Derived.Test.YtheaebkegncdlaaOwn
import Derived.Test.YtheaebkegncdlaaBitPutG
namespace Go.Proofs.Ytheaebkegncdlaa
open Go.RowKit
set_option linter.unusedVariables false

theorem mk_more (F : Nat → Nat) (N m : Nat) (h : N ≤ 8 * m) (hF : ∀ i, F i < 2) : mk m (cutF F N) ++ [0] = mk (m + 1) (cutF F N) := by
  apply bits_ext (by simp [length_mk])
  intro i hi
  rw [List.length_append, length_mk, List.length_singleton] at hi
  rw [bitN_mk (cutF_lt hF N) _ _ (by omega)]
  by_cases hl : i < 8 * m
  · have e : bitN (mk m (cutF F N) ++ [0]) i = bitN (mk m (cutF F N)) i := by
      unfold bitN
      rw [getD_in _ _ (by simp [length_mk]; omega), List.getElem_append_left (by rw [length_mk]; omega), getD_in _ _ (by rw [length_mk]; omega)]
    rw [e, bitN_mk (cutF_lt hF N) _ _ hl]
  · have e : bitN (mk m (cutF F N) ++ [0]) i = 0 := by
      unfold bitN
      rw [getD_in _ _ (by simp [length_mk]; omega), List.getElem_append_right (by rw [length_mk]; omega)]
      simp [length_mk, show i / 8 = m from by omega]
    rw [e]
    unfold cutF
    rw [if_neg (by omega)]
theorem set_zero {F : Nat → Nat} (hF : ∀ i, F i < 2) (m N : Nat) (hN : N < 8 * m) (h0 : F N = 0) : mk m (cutF F N) = mk m (cutF F (N + 1)) := by
  congr 1
  funext i
  unfold cutF
  by_cases h : i < N
  · rw [if_pos h, if_pos (by omega)]
  · by_cases e : i = N
    · subst e
      rw [if_neg h, if_pos (by omega), h0]
    · rw [if_neg h, if_neg (by omega)]

theorem pow_u8 (k : Nat) (hk : k < 7) : ((2 ^ k : Nat) : Int) * 2 % 256 = ((2 ^ (k + 1) : Nat) : Int) := by
  have : k = 0 ∨ k = 1 ∨ k = 2 ∨ k = 3 ∨ k = 4 ∨ k = 5 ∨ k = 6 := by omega
  rcases this with rfl | rfl | rfl | rfl | rfl | rfl | rfl <;> decide +kernel

/-- 'put' where the last byte has room. -/
theorem refput_room (F : Nat → Nat) (hF : ∀ i, F i < 2) (g cap N m base : Nat) (w : World) (hm : m = N / 8 + 1) (hN : N ≤ 1125899906842600) (h8 : ¬ N % 8 = 0) (hbase : base ≤ g)
    (hown : Own w base (.slice (some ⟨g, 0, none⟩) m cap) (mk m (cutF F N))) :
    Calls Try.prog 58 #[.slice (some ⟨g, 0, none⟩) m cap, .int .i64 N, .int .u64 (F N)] w fun e w' => ∃ v, e = .returned v ∧ Own w' base v (mk m (cutF F (N + 1))) ∧ Below base w w' := by
  have hq : ((N : Int) % 8 == 0) = false := by rw [beq_eq_false_iff_ne]; omega
  have hown' : Own w base (.slice (some ⟨g, 0, none⟩) (mk m (cutF F N)).length cap) (mk m (cutF F N)) := by rw [length_mk]; exact hown
  obtain ⟨g', cap', hv, _, hglt, hcap, _, hcl⟩ := own_form hown (by rw [length_mk]; omega)
  rw [length_mk] at hcap hcl hv
  injection hv with hv1 _ hv3
  injection hv1 with hv1
  injection hv1 with hv1 _ _
  subst hv1
  subst hv3
  have hfz := own_frozen hown (N / 8)
  have hci := hcl (N / 8) (by omega)
  obtain ⟨hz, hset⟩ := set_step hF m N (by omega)
  have Hset := Lib.hid hset
  have Hz := Lib.hid hz
  have Hown := Lib.hid hown'
  have hFN := hF N
  have hx := byte_toNat ((mk m (cutF F N)).getD (N / 8) 0)
  have HZ := Lib.hid (fun h => set_zero hF m N (by omega) h)
  have hmlt : N / 8 < m := by omega
  clear hset hz hcl hown hown' hF hm
  generalize hl : mk m (cutF F N) = l at *
  have hll : l.length = m := by rw [← hl]; exact length_mk _ _
  have Hll := Lib.hid hll
  clear hl hll
  generalize hxx : l.getD (N / 8) 0 = x at *
  have Hxx := Lib.hid hxx
  clear hxx
  generalize F N = d at *
  go_enter Try.func58, Try.ntmps58
  go_wp2
  go_loop [7, 8] (fun a i => ∃ k : Nat, k ≤ 7 - N % 8 ∧ i = .int .i64 k ∧ a = .int .u8 (2 ^ k : Nat)) (fun _ i => 8 - (intOf i).toNat)
  case atStart => exact ⟨0, Nat.zero_le _, rfl, rfl⟩
  case round =>
    obtain ⟨k, hk, rfl, rfl⟩ := hrel
    by_cases hlt : k < 7 - N % 8
    · have HP := Lib.hid (pow_u8 k (by omega))
      generalize 2 ^ k = p at *
      go_wp2
      exact ⟨⟨k + 1, by omega, by go_num, by rw [HP.out]⟩, by simp [intOf]; omega⟩
    · have e : k = 7 - N % 8 := by omega
      have HO := Lib.hid (orByte_facts x (N % 8) d (by omega) hFN (by rw [← Hxx.out]; exact Hz.out))
      by_cases h1 : d = 1
      · have HV := Lib.hid (show ((x.toNat : Int) + ((2 ^ k : Nat) : Int)) % 256 = ((orByte x (N % 8) d).toNat : Int) by
          have h2 := HO.out.2.1
          have hb := byte_toNat (orByte x (N % 8) d)
          rw [h1, Nat.one_mul, ← e] at h2
          rw [h1] at hb ⊢
          omega)
        have hq1 : ((d : Int) == 1) = true := by rw [h1]; rfl
        clear e
        generalize 2 ^ k = p at *
        clear h1
        go_wp2
        go_ret
        refine ⟨.slice (some ⟨g, 0, none⟩) m cap, rfl, ?_, (Below.refl _ _).setCell (p := ⟨g, N / 8, none⟩) hbase _⟩
        have h3 := own_set Hown.out (i := N / 8) (by rw [Hll.out]; omega) (orByte x (N % 8) d)
        rw [List.length_set, Hll.out] at h3
        have h4 := Hset.out
        rw [h4] at h3
        rw [HV.out]
        exact h3
      · have h0 : d = 0 := by omega
        have hq1 : ((d : Int) == 1) = false := by rw [h0]; rfl
        have HZZ := Lib.hid (HZ.out h0)
        clear e h0 h1
        generalize 2 ^ k = p at *
        go_wp2
        go_ret
        refine ⟨.slice (some ⟨g, 0, none⟩) m cap, rfl, ?_, (Below.refl _ _)⟩
        rw [← HZZ.out]
        have h3 := Hown.out
        rw [Hll.out] at h3
        exact h3

theorem bys_0 {w : World} {g : Nat} (h : Row w g 5 #[.int .u8 0]) : Bys w (some ⟨g, 0, none⟩) [0] := Row.bys (l := [0]) h

set_option maxHeartbeats 1000000 in
/-- 'put' where a byte more is wanted. -/
theorem refput_grow (F : Nat → Nat) (hF : ∀ i, F i < 2) (v : Value) (N m base : Nat) (w : World) (hm : m = N / 8 + 1) (hN : N ≤ 1125899906842600) (h8 : N % 8 = 0) (hbw : base ≤ w.heap.size)
    (hown0 : Own w base v (mk (N / 8) (cutF F N))) :
    Calls Try.prog 58 #[v, .int .i64 N, .int .u64 (F N)] w fun e w' => ∃ v', e = .returned v' ∧ Own w' base v' (mk m (cutF F (N + 1))) ∧ Below base w w' := by
  have hq : ((N : Int) % 8 == 0) = true := by rw [beq_iff_eq]; omega
  obtain ⟨i0, hi, hz0, hz1, hz2⟩ := info_parts u8_info
  have HF := Lib.hid hF
  have Hm := Lib.hid hm
  have Hlen : (mk (N / 8) (cutF F N)).length = N / 8 := length_mk _ _
  have hl1 : (mk (N / 8) (cutF F N)).length ≤ 140737488355327 := by rw [Hlen]; omega
  have H8 := Lib.hid h8
  clear hF hm Hlen h8
  have hd2 := HF.out N
  generalize hd : F N = d at *
  have Hd := Lib.hid hd
  clear hd
  go_enter Try.func58, Try.ntmps58
  go_wp2_with (at_builtin; refine wpList_app _ rfl (.tmp 12) (.tmp 13) 24 rfl base i0 Try.underlying24 hi hz0 hz1 hz2 v (mk (N / 8) (cutF F N)) rfl (own_alloc hown0 _) _ [0] 1 rfl (bys_0 (Row.new _ _ _)) (by simp only [List.length_singleton]; omega) (Nat.le_trans hbw (by simp)) ?_; intro v1 w1 hown1 hg1 hat1)
  have hF := HF.out
  have hm := Hm.out
  have h8 := H8.out
  rw [mk_more F N (N / 8) (by omega) hF, ← hm] at hown1
  have hbel1 : Below base w w1 := Below.grown ((Below.refl base w).alloc hbw _) hg1 (Nat.le_trans hbw (by simp)) (fun k hk => (World.ownsRow.lt hown0 _ hk).1)
  obtain ⟨g, cap, hv1, hbase, hgl1, _, _, _⟩ := own_form hown1 (by rw [length_mk]; omega)
  rw [length_mk] at hv1
  subst hv1
  have hown := hown1
  clear hown1 hg1 hat1 hown0 hl1 HF Hm hz0 hz1 hz2 hi
  have hown' : Own w1 base (.slice (some ⟨g, 0, none⟩) (mk m (cutF F N)).length cap) (mk m (cutF F N)) := by rw [length_mk]; exact hown
  obtain ⟨g', cap', hv, _, hglt, hcap, _, hcl⟩ := own_form hown (by rw [length_mk]; omega)
  rw [length_mk] at hcap hcl hv
  injection hv with hv1 _ hv3
  injection hv1 with hv1
  injection hv1 with hv1 _ _
  subst hv1
  subst hv3
  have hfz := own_frozen hown (N / 8)
  have hci := hcl (N / 8) (by omega)
  obtain ⟨hz, hset⟩ := set_step hF m N (by omega)
  have HZ := Lib.hid (fun h => set_zero hF m N (by omega) h)
  rw [Hd.out] at HZ hset
  have Hset := Lib.hid hset
  have Hz := Lib.hid hz
  have Hown := Lib.hid hown'
  have hFN := hd2
  have hx := byte_toNat ((mk m (cutF F N)).getD (N / 8) 0)
  have hmlt : N / 8 < m := by omega
  clear hset hz hcl hown hown' hF hm h8
  generalize hl : mk m (cutF F N) = l at *
  have hll : l.length = m := by rw [← hl]; exact length_mk _ _
  have Hll := Lib.hid hll
  clear hl hll
  generalize hxx : l.getD (N / 8) 0 = x at *
  have Hxx := Lib.hid hxx
  clear hxx
  go_loop [7, 8] (fun a i => ∃ k : Nat, k ≤ 7 - N % 8 ∧ i = .int .i64 k ∧ a = .int .u8 (2 ^ k : Nat)) (fun _ i => 8 - (intOf i).toNat)
  case atStart => exact ⟨0, Nat.zero_le _, rfl, rfl⟩
  case round =>
    obtain ⟨k, hk, rfl, rfl⟩ := hrel
    by_cases hlt : k < 7 - N % 8
    · have HP := Lib.hid (pow_u8 k (by omega))
      generalize 2 ^ k = p at *
      go_wp2
      exact ⟨⟨k + 1, by omega, by go_num, by rw [HP.out]⟩, by simp [intOf]; omega⟩
    · have e : k = 7 - N % 8 := by omega
      have HO := Lib.hid (orByte_facts x (N % 8) d (by omega) hFN (by rw [← Hxx.out]; exact Hz.out))
      by_cases h1 : d = 1
      · have HV := Lib.hid (show ((x.toNat : Int) + ((2 ^ k : Nat) : Int)) % 256 = ((orByte x (N % 8) d).toNat : Int) by
          have h2 := HO.out.2.1
          have hb := byte_toNat (orByte x (N % 8) d)
          rw [h1, Nat.one_mul, ← e] at h2
          rw [h1] at hb ⊢
          omega)
        have hq1 : ((d : Int) == 1) = true := by rw [h1]; rfl
        clear e
        generalize 2 ^ k = p at *
        clear h1
        go_wp2
        go_ret
        refine ⟨.slice (some ⟨g, 0, none⟩) m cap, rfl, ?_, hbel1.setCell (p := ⟨g, N / 8, none⟩) hbase _⟩
        have h3 := own_set Hown.out (i := N / 8) (by rw [Hll.out]; omega) (orByte x (N % 8) d)
        rw [List.length_set, Hll.out] at h3
        have h4 := Hset.out
        rw [h4] at h3
        rw [HV.out]
        exact h3
      · have h0 : d = 0 := by omega
        have hq1 : ((d : Int) == 1) = false := by rw [h0]; rfl
        have HZZ := Lib.hid (HZ.out h0)
        clear e h0 h1
        generalize 2 ^ k = p at *
        go_wp2
        go_ret
        refine ⟨.slice (some ⟨g, 0, none⟩) m cap, rfl, ?_, hbel1⟩
        rw [← HZZ.out]
        have h3 := Hown.out
        rw [Hll.out] at h3
        exact h3

/-- 'put': a bit more behind N bits. -/
theorem refput (F : Nat → Nat) (hF : ∀ i, F i < 2) (v : Value) (N base : Nat) (w : World) (hN : N ≤ 1125899906842600) (hbw : base ≤ w.heap.size) (hown : Own w base v (mk ((N + 7) / 8) (cutF F N))) :
    Calls Try.prog 58 #[v, .int .i64 N, .int .u64 (F N)] w fun e w' => ∃ v', e = .returned v' ∧ Own w' base v' (mk ((N + 1 + 7) / 8) (cutF F (N + 1))) ∧ Below base w w' := by
  rw [show (N + 1 + 7) / 8 = N / 8 + 1 from by omega]
  by_cases h8 : N % 8 = 0
  · rw [show (N + 7) / 8 = N / 8 from by omega] at hown
    exact refput_grow F hF v N (N / 8 + 1) base w rfl hN h8 hbw hown
  · rw [show (N + 7) / 8 = N / 8 + 1 from by omega] at hown
    obtain ⟨g, cap, hv, hb, _⟩ := own_form hown (by rw [length_mk]; omega)
    rw [length_mk] at hv
    subst hv
    exact refput_room F hF g cap N (N / 8 + 1) base w rfl hN h8 hb hown
/-- A row of the call's own, as a slice that reads as its bytes. -/
theorem own_slice {w : World} {base : Nat} {v : Value} {x : List UInt8} (h : Own w base v x) : ∃ B d, v = .slice B x.length d ∧ Bys w B x := by
  rcases Nat.eq_zero_or_pos x.length with h0 | h0
  · obtain rfl := List.eq_nil_of_length_eq_zero h0
    rcases h.2 with ⟨rfl, _⟩ | ⟨g, cap, cur, rfl, _⟩
    · exact ⟨none, 0, rfl, Bys.empty _ _⟩
    · exact ⟨some ⟨g, 0, none⟩, cap, rfl, Bys.empty _ _⟩
  · obtain ⟨g, cap, rfl, _⟩ := own_form h h0
    exact ⟨_, _, rfl, own_bys h⟩
end Go.Proofs.Ytheaebkegncdlaa
