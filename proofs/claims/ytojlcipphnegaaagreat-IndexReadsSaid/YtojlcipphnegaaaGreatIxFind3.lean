/- Find: what matchers find together in an index, or why they may not be asked. -/
import Derived.Test.YtojlcipphnegaaaGreatIxFind2
namespace Go.Proofs.YtojlcipphnegaaaGreat
open Go.RowKit Go.Maps
set_option linter.unusedVariables false
set_option maxRecDepth 100000

theorem merr_mem : ∀ {ms : List Mt}, merr ms = 0 → ∀ m ∈ ms, mchk m = 0 := by
  intro ms
  induction ms with
  | nil => intro _ m hm; cases hm
  | cons x ms ih =>
    intro h m hm
    unfold merr at h
    by_cases hx : mchk x = 0
    · rw [if_pos hx] at h
      rcases List.mem_cons.1 hm with rfl | hm
      · exact hx
      · exact ih h m hm
    · rw [if_neg hx] at h
      exact absurd h hx
theorem mchk_sizes {k : Int} {n v : ByteArray} (h : mchk (k, n, v) = 0) : n.size ≤ maxLen ∧ v.size ≤ maxLen := by
  cases hk : kindB k with
  | false => rw [mchk_kind hk] at h; cases h
  | true =>
    cases hn : nameB (strL n) with
    | false => rw [mchk_name hk hn] at h; cases h
    | true =>
      have hv : ¬ 64 < v.size := fun hb => by rw [mchk_big hk hn hb] at h; cases h
      have := (nameB_size hn).2
      exact ⟨by simp only [maxLen]; omega, by simp only [maxLen]; omega⟩
theorem chkall_some {ms : List Mt} (h : mchkAll ms = 0) : 0 < ms.length ∧ ms.length ≤ 8 ∧ ∀ i, i < ms.length → (mnOf ms i).size ≤ maxLen ∧ (mvOf ms i).size ≤ maxLen := by
  obtain ⟨h8, h1, h2⟩ := chkall_zero.1 h
  refine ⟨?_, h8, fun i hi => ?_⟩
  · cases ms with
    | nil => cases h2
    | cons x r => simp
  · have hm : (kdOf ms i, mnOf ms i, mvOf ms i) ∈ ms := by
      rw [mt_of, List.getD_eq_getElem?_getD, List.getElem?_eq_getElem hi]
      exact List.getElem_mem hi
    exact mchk_sizes (merr_mem h1 _ hm)
theorem take_mt {ms : List Mt} {j : Nat} (h : j < ms.length) : ms.take (j + 1) = ms.take j ++ [(kdOf ms j, mnOf ms j, mvOf ms j)] := by
  rw [List.take_succ_eq_append_getElem h, mt_of, List.getD_eq_getElem?_getD, List.getElem?_eq_getElem h]
  rfl
/-- What Find tells. -/
def FindTold (w : World) (ss : List (List Lbl)) (ms : List Mt) (e : Ending) (w' : World) : Prop :=
  ∃ v, e = .returned (.tuple #[v, .int .i64 (mchkAll ms)]) ∧ OwnZ w' w.heap.size v (if mchkAll ms = 0 then findL ss ms else []) ∧ Below w.heap.size w w'
theorem find_told {w w' : World} {ss : List (List Lbl)} {ms : List Mt} {v : Value} (hz : mchkAll ms = 0) (ho : OwnZ w' w.heap.size v (findL ss ms)) (hb : Below w.heap.size w w') : FindTold w ss ms (.returned (.tuple #[v, .int .i64 0])) w' := by
  unfold FindTold
  rw [hz]
  exact ⟨v, rfl, ho, hb⟩
set_option maxHeartbeats 4000000 in
theorem find_prog (X : Nat) (ss : List (List Lbl)) (base : Nat) (A : Option Addr) (ms : List Mt) (c : Nat) (w : World) (hI : IdxAt w base X ss) (hr : ixChk ss = 0) (hA : Mts w A ms) (hm : ms.length ≤ 100000000000000) (hc : ms.length ≤ c) :
    Calls Tryz.prog 17 #[.pointer (some ⟨X, 0, none⟩), .slice A ms.length c] w (FindTold w ss ms) := by
  obtain ⟨h256, _, hrr⟩ := ixChk_right hr
  have HC := Lib.hid (chkall_prog A ms c w hA hm)
  by_cases hz : mchkAll ms = 0
  · rw [hz] at HC
    obtain ⟨hpos, h8, hsz⟩ := chkall_some hz
    have HZ := Lib.hid hz
    have HM := Lib.hid (fun (x : World) (h : Below w.heap.size w x) => hA.below h)
    have HI := Lib.hid (fun (x : World) (h : Below w.heap.size w x) => hI.below h)
    have HFI := Lib.hid (fun (x : World) (h : Below w.heap.size w x) j (hj : j < ms.length) => fitted_prog X ss base (kdOf ms j) (mnOf ms j) (mvOf ms j) x (hI.below h) hr (hsz j hj).1 (hsz j hj).2)
    have HTK := Lib.hid (fun j (hj : j < ms.length) => take_mt hj)
    have HBO := Lib.hid (fun (a : List Mt) (m : Mt) => both_find h256 a m)
    have HRI := Lib.hid (fun (a : List Mt) => find_right h256 a)
    have HFL := Lib.hid (fun (a : List Mt) => (show (findL ss a).length ≤ 256 from Nat.le_trans (findK_len ss a ss.length) h256))
    have HTL := Lib.hid (List.take_length (l := ms))
    obtain ⟨b, o, rfl, hb, n0, n1, n2⟩ := hA.at_ hpos
    have HCELL := Lib.hid (fun j (hj : j < ms.length) => (show w.cell? ⟨b, o + j * 3, none⟩ = some (.int .i64 (kdOf ms j)) ∧ w.cell? ⟨b, o + j * 3 + 1, none⟩ = some (.string (mnOf ms j)) ∧ w.cell? ⟨b, o + j * 3 + 2, none⟩ = some (.string (mvOf ms j)) from by
      obtain ⟨b', o', e, _, k0, k1, k2⟩ := hA.at_ hj
      injection e with e
      injection e with e1 e2 _
      subst e1 e2
      exact ⟨k0, k1, k2⟩))
    clear hA hI hz hrr hsz n0 n1 n2
    obtain ⟨nm, hnm⟩ : ∃ nm, ms.length = nm + 1 := ⟨ms.length - 1, by omega⟩
    have HCB := Lib.hid (fun (x : World) (h : Below w.heap.size w x) j (hj : j < ms.length) => (show x.cell? ⟨b, o + j * 3, none⟩ = some (.int .i64 (kdOf ms j)) ∧ x.cell? ⟨b, o + j * 3 + 1, none⟩ = some (.string (mnOf ms j)) ∧ x.cell? ⟨b, o + j * 3 + 2, none⟩ = some (.string (mvOf ms j)) from ⟨(h.cell hb).trans (HCELL.out j hj).1, (h.cell hb).trans (HCELL.out j hj).2.1, (h.cell hb).trans (HCELL.out j hj).2.2⟩))
    rw [hnm] at HC hc ⊢
    have i0 : (0 : Int) < (nm : Int) + 1 := by omega
    have i1 : (1 : Int) ≤ (nm : Int) + 1 := by omega
    have i2 : (1 : Int) ≤ (c : Int) := by omega
    clear HCELL hm
    go_enter Tryz.func17, Tryz.ntmps17
    go_upto_region 6 with (first | (go_at_call 38; refine HC.out.mono ?_; rintro e w2 ⟨rfl, hb2⟩; have HB2 := Lib.hid hb2; clear hb2))
    obtain ⟨p0, p1, p2⟩ := HCB.out _ HB2.out 0 (by omega)
    rw [Nat.zero_mul, Nat.add_zero] at p0 p1 p2
    have HF0 := Lib.hid (HFI.out _ HB2.out 0 (by omega))
    have HT0 := Lib.hid (HTK.out 0 (by omega))
    rw [List.take_zero, List.nil_append] at HT0
    generalize kdOf ms 0 = k0 at *
    generalize mnOf ms 0 = t0 at *
    generalize mvOf ms 0 = v0 at *
    go_upto_region 7 with (first | (go_at_call 39; refine HF0.out.mono ?_; rintro e w3 ⟨v3, rfl, ho3, hb3⟩; have HO3 := Lib.hid (ownz_lower ho3 HB2.out.size); have HB3 := Lib.hid (HB2.out.trans (hb3.mono HB2.out.size)); clear ho3 hb3))
    rw [← HT0.out] at HO3
    clear p0 p1 p2 HF0 HT0 HC
    by_cases hc1 : c = 1
    · obtain rfl : nm = 0 := by omega
      subst hc1
      rw [show (ms.take (0 + 1)) = ms from by rw [List.take_of_length_le (by omega)]] at HO3
      go_wp2_with fail
      go_loopw [7, 25] (fun u i wr => i = .int .i64 0 ∧ u = v3 ∧ wr = w3) (fun _ i _ => 1 - (intOf i).toNat)
      case atStart => exact ⟨rfl, rfl, rfl⟩
      case round =>
        obtain ⟨rfl, rfl, rfl⟩ := hrel
        go_wp2_with fail
        go_ret2
        exact find_told HZ.out HO3.out HB3.out
    · go_wp2_with fail
      go_loopw [7, 25] (fun u i wr => ∃ j : Nat, j ≤ nm ∧ i = .int .i64 (j : Int) ∧ OwnZ wr w.heap.size u (findL ss (ms.take (j + 1))) ∧ Below w.heap.size w wr) (fun _ i _ => nm - (intOf i).toNat)
      case atStart => exact ⟨0, Nat.zero_le _, rfl, HO3.out, HB3.out⟩
      case round =>
        obtain ⟨j, hj, rfl, hO, hB⟩ := hrel
        have HO := Lib.hid hO
        have HB := Lib.hid hB
        by_cases hlt : j < nm
        · have i3 : (j : Int) < (nm : Int) := by omega
          obtain ⟨p0, p1, p2⟩ := HCB.out _ hB (j + 1) (by omega)
          rw [show o + (j + 1) * 3 = o + 3 + j * 3 from by omega] at p0 p1 p2
          have hB4 := hB.alloc hB.size (.cells #[.int .i64 (kdOf ms (j + 1)), .string (mnOf ms (j + 1)), .string (mvOf ms (j + 1))] 54)
          have HF := Lib.hid (HFI.out _ hB4 (j + 1) (by omega))
          have HB4 := Lib.hid hB4
          have HT := Lib.hid (HTK.out (j + 1) (by omega))
          have hR4 := Row.new wr 54 #[.int .i64 (kdOf ms (j + 1)), .string (mnOf ms (j + 1)), .string (mvOf ms (j + 1))]
          have q0 := hR4.cell 0
          have q1 := hR4.cell 1
          have q2 := hR4.cell 2
          have HOA := Lib.hid (ownz_below hO (below_one wr (.cells #[.int .i64 (kdOf ms (j + 1)), .string (mnOf ms (j + 1)), .string (mvOf ms (j + 1))] 54)))
          clear hO hB hB4 hR4
          generalize kdOf ms (j + 1) = k1 at *
          generalize mnOf ms (j + 1) = t1 at *
          generalize mvOf ms (j + 1) = v1 at *
          obtain ⟨P7, c7, hv7, hc7, _, _⟩ := ownz_slice HO.out
          subst hv7
          have HRA := Lib.hid (HRI.out (ms.take (j + 1)))
          have HLA := Lib.hid (HFL.out (ms.take (j + 1)))
          have HRM := Lib.hid (HRI.out [(k1, t1, v1)])
          have HLM := Lib.hid (HFL.out [(k1, t1, v1)])
          have HBB := Lib.hid (HBO.out (ms.take (j + 1)) (k1, t1, v1))
          rw [← HT.out] at HBB
          generalize findL ss (ms.take (j + 1)) = fa at *
          generalize findL ss [(k1, t1, v1)] = fm at *
          go_wp2_with (first
            | (go_at_call 39; refine HF.out.mono ?_; rintro e w5 ⟨v5, rfl, ho5, hb5⟩; obtain ⟨P5, c5, hv5, hc5, _, _⟩ := ownz_slice ho5; subst hv5; have HO5 := Lib.hid ho5; have HB5 := Lib.hid hb5; have HOA5 := Lib.hid (ownz_below HOA.out hb5); clear ho5 hb5)
            | (go_at_call 40; refine (both_all P7 P5 fa fm c7 c5 w5 (zi_of HOA5.out) (zi_of HO5.out) (by have := HLA.out; omega) (by have := HLM.out; omega) hc7 hc5).mono ?_; rintro e w6 ⟨v6, rfl, ho6, hb6⟩; have HO6 := Lib.hid ho6; have HB6 := Lib.hid hb6; clear ho6 hb6))
          have e2 : refE fa fm = 0 := by unfold refE; rw [if_pos HRA.out]; exact HRM.out
          have e3 : boV fa fm = bothL fa fm := if_pos e2
          have hO6 := HO6.out
          rw [e3, HBB.out] at hO6
          have hz5 : w.heap.size ≤ w5.heap.size := Nat.le_trans HB4.out.size HB5.out.size
          have HO9 := Lib.hid (ownz_lower hO6 hz5)
          have HB9 := Lib.hid ((HB4.out.trans (HB5.out.mono HB4.out.size)).trans (HB6.out.mono hz5))
          clear e2 e3 hO6
          go_roundw
          case rel => exact ⟨j + 1, hlt, by go_num, HO9.out, HB9.out⟩
          case measure => simp [intOf]; omega
        · obtain rfl : j = nm := by omega
          rw [show (ms.take (j + 1)) = ms from by rw [List.take_of_length_le (by omega)]] at HO
          go_wp2_with fail
          go_ret2
          exact find_told HZ.out HO.out HB.out
  · have j1 : (mchkAll ms != 0) = true := bne_iff_ne.2 hz
    have j2 : (mchkAll ms == 0) = false := beq_eq_false_iff_ne.2 hz
    unfold FindTold
    rw [if_neg hz]
    obtain ⟨E, hE⟩ : ∃ E, mchkAll ms = E := ⟨_, rfl⟩
    rw [hE] at HC j1 j2 ⊢
    clear hz hE hA hI
    go_enter Tryz.func17, Tryz.ntmps17
    go_wp2_with (first | (go_at_call 38; refine HC.out.mono ?_; rintro e w2 ⟨rfl, hb2⟩; have HB2 := Lib.hid hb2; clear hb2))
    go_ret2
    exact ⟨_, rfl, ownz_nil _ _, HB2.out⟩
end Go.Proofs.YtojlcipphnegaaaGreat
