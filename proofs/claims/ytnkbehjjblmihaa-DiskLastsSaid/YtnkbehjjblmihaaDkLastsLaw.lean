/- The law DiskLasts: its walk. -/
import Derived.Test.YtnkbehjjblmihaaDkBegins
namespace Go.Proofs.Ytnkbehjjblmihaa
open Go.RowKit Go.Maps
set_option linter.unusedVariables false

theorem read_small {d : Dsk} (h : Fine d) (name : List UInt8) : (readD d name).1.length ≤ 4194304 := by
  have hr := h.room.2
  unfold readD
  split
  · simp
  · split
    · simp
    · rename_i n _
      split
      · simp
      · have := h.small n
        show (d.files.getD n fil0).b.length ≤ _
        omega
def bMore : List UInt8 := [109, 111, 114, 101]
theorem more_bys (w : World) : Bys (w.alloc (.cells #[.int .u8 109, .int .u8 111, .int .u8 114, .int .u8 101] 5 (4, 5))) (some ⟨w.heap.size, 0, none⟩) bMore := by
  have hh : (w.alloc (.cells #[.int .u8 109, .int .u8 111, .int .u8 114, .int .u8 101] 5 (4, 5))).heap[w.heap.size]? = some (.cells (bcells bMore) 5 (4, 5)) := heap_alloc_new w _
  refine .inr ⟨w.heap.size, 0, rfl, by simp, fun i hi => ?_⟩
  rw [Nat.zero_add, cell_of_row _ _ i _ _ _ hh]
  exact bcells_get bMore i hi
theorem take_pre (B t : List UInt8) (m : Nat) (h : B.length ≤ m) : ((B ++ t).take m).take B.length = B ∧ B.length ≤ ((B ++ t).take m).length := by
  constructor
  · rw [List.take_take, Nat.min_eq_left h, List.take_left]
  · rw [List.length_take, List.length_append]
    omega
theorem take_same (x : List UInt8) (m : Nat) : x.take (x.take m).length = x.take m ∧ (x.take m).length ≤ x.length := by
  constructor
  · rw [List.length_take]
    by_cases h : m ≤ x.length
    · rw [Nat.min_eq_left h]
    · rw [Nat.min_eq_right (by omega), List.take_length, List.take_of_length_le (by omega)]
  · rw [List.length_take]
    omega

theorem bys_kept {S : Nat → Prop} {w w' : World} {P : Option Addr} {x : List UInt8} (h : Bys w P x) (hK : Kept S w w') (hS : ∀ ad, P = some ad → ad.block < w.heap.size → ¬ S ad.block) : Bys w' P x := by
  rcases h with rfl | ⟨b, o, rfl, hlt, hc⟩
  · exact .inl rfl
  · exact bys_move (.inr ⟨b, o, rfl, hlt, hc⟩) hK.size (.inr fun ad e => by
      injection e with e
      subst e
      exact hK.block b hlt (hS _ rfl hlt))
set_option maxRecDepth 40000 in
set_option maxHeartbeats 1000000 in
theorem diskLasts_walk (w : World) (room : Int) (hroom : -9223372036854775808 ≤ room ∧ room ≤ 9223372036854775807) (V1 : Option Addr) (l : List ActV) (c1 : Nat) (hV1 : Acts w V1 l) (hl : l.length ≤ 140737488351232) (hlc : l.length ≤ c1)
    (s : ByteArray) (hs : s.data.toList.length ≤ reachBytes) (dirs : Int) (hd : -9223372036854775808 ≤ dirs ∧ dirs ≤ 9223372036854775807) (V : Option Addr) (ks : List Int) (kc : Nat) (hks : Ints w V ks) (hkb : ∀ i, i < ks.length → -9223372036854775808 ≤ ks.getD i 0 ∧ ks.getD i 0 ≤ 9223372036854775807) (hkl : ks.length ≤ 17592186044416) :
    Calls Try.prog 5 #[.int .i64 room, .slice V1 l.length c1, .string s, .int .i64 dirs, .slice V ks.length kc] w fun e w' => e = .returned (.bool true) ∧ Below w.heap.size w w' := by
  have hsz : s.size ≤ 281474976710656 := by
    have : s.data.toList.length = s.size := Array.length_toList
    rw [reach_is] at hs
    omega
  by_cases hr : room < 1 ∨ 4194304 < room
  · have HN := Lib.hid (begun_no room hr V1 l c1 w hl)
    clear hr hV1 hks hkb
    go_enter Try.func5, Try.ntmps5
    go_wp2_with fail
    refine HN.out.mono ?_
    rintro e w1 ⟨rfl, hb⟩
    have HB := Lib.hid hb
    have HL := Lib.hid (lives_true w1)
    clear hb
    go_wp2_with fail
    refine HL.out.mono ?_
    rintro e w2 ⟨rfl, hb2⟩
    have HB2 := Lib.hid hb2
    clear hb2
    go_wp2
    go_ret
    exact ⟨rfl, below_then HB.out HB2.out⟩
  · obtain ⟨rm, rfl⟩ : ∃ rm : Nat, room = (rm : Int) := ⟨room.toNat, by omega⟩
    have HN := Lib.hid (begun_ok rm (by omega) V1 l c1 w hV1 hl hlc)
    have hkc2 := fun (x : World) => Go.Lib.run_convert_bytes_const (P := Try.prog) x 35 5 #[.int .u8 109, .int .u8 111, .int .u8 114, .int .u8 101] 4 4 Try.underlying35 Try.underlying5
    have hkF : ks = [] ∨ ∀ ad, V = some ad → ¬ From w.heap.size ad.block := by
      rcases hks with h0 | ⟨b, o, hV, hlt, _⟩
      · exact .inl h0
      · refine .inr fun ad e => ?_
        rw [hV] at e
        injection e with e
        subst e
        exact Nat.not_le.2 hlt
    have HKS := Lib.hid hks
    have HKF := Lib.hid hkF
    have HKB := Lib.hid hkb
    clear hr hV1 hroom hs hks hkF hkb
    go_enter Try.func5, Try.ntmps5
    go_wp2_with fail
    refine HN.out.mono ?_
    rintro e w1 ⟨X, d, rfl, hD, hO, hb⟩
    have HF := Lib.hid (fuse_prog hD (-1))
    have HB1 := Lib.hid hb
    have HO1 := Lib.hid (ok_fuse hO (-1) (by decide))
    clear hD hO hb
    go_wp2_with fail
    refine HF.out.mono ?_
    rintro e w2 ⟨rfl, ha⟩
    obtain ⟨hD2, hb2⟩ := After.flat (B := w.heap.size) ha HB1.out.size
    generalize fuseD d (-1) = d0 at *
    have HS := Lib.hid (sync_prog hD2 HO1.out.fine (HO1.out.few (by decide)) s [] [] hsz)
    have HO2 := Lib.hid (ok_change HO1.out 5 (strL s) [] [] (by decide))
    have HB2 := Lib.hid (HB1.out.trans hb2)
    have hlast := fun h5 h6 => lasts HO1.out.fine.sure (strL s) h5 h6
    have HLA := Lib.hid hlast
    clear ha hD2 hb2 hlast
    generalize hr5 : change d0 5 (strL s) [] [] = r5 at *
    obtain ⟨D1, e5⟩ := r5
    simp only at HS HO2 HLA
    go_wp2_with fail
    refine HS.out.mono ?_
    rintro e w3 ⟨rfl, ha⟩
    obtain ⟨hD3, hb3⟩ := After.flat (B := w.heap.size) ha HB2.out.size
    have HB3 := Lib.hid (HB2.out.trans hb3)
    by_cases he5 : e5 = 0
    · have HS3 := Lib.hid (syncdir_prog hD3 HO2.out.fine (HO2.out.few (by decide)) [] [] [])
      have HO3 := Lib.hid (ok_change HO2.out 6 [] [] [] (by decide))
      clear ha hD3 hb3
      generalize hr6 : change D1 6 [] [] [] = r6 at *
      obtain ⟨D2, e6⟩ := r6
      simp only at HS3 HO3 HLA
      subst he5
      go_wp2_with fail
      refine HS3.out.mono ?_
      rintro e w4 ⟨rfl, ha⟩
      obtain ⟨hD4, hb4⟩ := After.flat (B := w.heap.size) ha HB3.out.size
      have HB4 := Lib.hid (HB3.out.trans hb4)
      by_cases he6 : e6 = 0
      · subst he6
        obtain ⟨B, hB0, hB1⟩ := HLA.out (by first | rfl | trivial) (by first | rfl | trivial)
        have hD4w := hD4.within
        have hS4 : ∀ k, (From w.heap.size k ∧ k < w4.heap.size) → w.heap.size ≤ k ∧ k < w4.heap.size := fun k h => h
        generalize hS4d : (fun k => From w.heap.size k ∧ k < w4.heap.size) = S4 at *
        have HS4 := Lib.hid (show ∀ k, S4 k → w.heap.size ≤ k ∧ k < w4.heap.size by rw [← hS4d]; exact fun k h => h)
        have hRD := read_prog hD4w HO3.out.fine s hsz
        have hBs := read_small HO3.out.fine (strL s)
        rw [hB0] at hRD hBs
        have HRD := Lib.hid hRD
        have HD4 := Lib.hid hD4w
        have HLB := Lib.hid hB1
        clear ha hD4 hb4 hRD hB0 hB1 HLA hD4w hS4 hS4d
        go_wp2_with fail
        refine HRD.out.mono ?_
        rintro e w5 ⟨v, rfl, ho, hb5⟩
        obtain ⟨P1, k1, hv1, hp1, hg1, hk1, _⟩ := own_cap ho
        subst hv1
        have HP1 := Lib.hid hp1
        have HG1 := Lib.hid hg1
        have HB5 := Lib.hid (HB4.out.trans (hb5.mono HB4.out.size))
        have hD5 := HD4.out.below hb5
        have HBX := Lib.hid (below_one w5 (.cells #[.int .u8 109, .int .u8 111, .int .u8 114, .int .u8 101] 5 (4, 5)))
        have HA := Lib.hid (append_prog (hD5.below HBX.out) HO3.out.fine (HO3.out.few (by decide)) s [] (some ⟨w5.heap.size, 0, none⟩) bMore 4 hsz (more_bys w5) (by decide))
        have HO4 := Lib.hid (ok_change HO3.out 2 (strL s) [] bMore (by decide))
        have hs5 := hb5.size
        have HLB2 := Lib.hid (HLB.out bMore)
        clear ho hp1 hb5 hD5 hg1 HLB
        generalize hr2 : change D2 2 (strL s) [] bMore = r2 at *
        obtain ⟨D3, e2⟩ := r2
        simp only at HA HO4 HLB2
        generalize hBl : B.length = bl at *
        have HBL := Lib.hid hBl
        have hk1' := hk1
        clear hBl hr2 hr5 hr6
        go_wp2_with fail
        refine HA.out.mono ?_
        rintro e w6 ⟨rfl, ha⟩
        have hBX := HBX.out
        have hsx := hBX.size
        have hP1x := HP1.out.below hBX
        generalize w5.alloc (.cells #[.int .u8 109, .int .u8 111, .int .u8 114, .int .u8 101] 5 (4, 5)) = wx at *
        have hb6 : Below w.heap.size wx w6 := ha.2.to_below (fun k hk => (HS4.out k hk).1) (by have h1 := HB5.out.size; omega)
        have HB6 := Lib.hid ((HB5.out.trans (hBX.mono HB5.out.size)).trans hb6)
        have HP6 := Lib.hid (bys_kept hP1x ha.2 fun ad e _ hk => by have h1 := HG1.out ad e; have h2 := (HS4.out _ hk).2; omega)
        have HP1LT : ∀ ad, P1 = some ad → B ≠ [] → ad.block < w5.heap.size := by
          intro ad e hne
          rcases HP1.out with h0 | ⟨b, o, e2, hlt, _⟩
          · exact absurd h0 hne
          · rw [e2] at e
            injection e with e
            subst e
            exact hlt
        have HLT := Lib.hid HP1LT
        have hs6 := ha.2.size
        by_cases he2 : e2 = 0
        · subst he2
          obtain ⟨t, hW0, hW1⟩ := HLB2.out (by first | rfl | trivial)
          have hD6w := ha.1.within
          generalize hS6d : (fun k => (S4 k ∨ wx.heap.size ≤ k) ∧ k < w6.heap.size) = S6 at *
          have HS6 := Lib.hid (show ∀ k, S6 k → (S4 k ∨ wx.heap.size ≤ k) ∧ k < w6.heap.size by rw [← hS6d]; exact fun k h => h)
          have hRD := read_prog hD6w HO4.out.fine s hsz
          have hWs := read_small HO4.out.fine (strL s)
          rw [hW0] at hRD hWs
          have HRD2 := Lib.hid hRD
          have HD6 := Lib.hid hD6w
          have HWW := Lib.hid hW1
          have HWS := Lib.hid hWs
          clear ha hD6w hb6 hRD hW0 hW1 HLB2 hS6d hP1x HP1LT hBX hWs
          go_wp2_with fail
          refine HRD2.out.mono ?_
          rintro e w7 ⟨v, rfl, ho, hb7⟩
          obtain ⟨P2, k2, hv2, hp2, hg2, hk2, _⟩ := own_cap ho
          subst hv2
          have HB7 := Lib.hid (HB6.out.trans (hb7.mono HB6.out.size))
          have hs7 := hb7.size
          have HCR := Lib.hid (crash_at (HD6.out.below hb7) HO4.out (by decide) dirs hd.1 hd.2 V ks kc (HKS.out.below HB7.out) (HKF.out.imp id fun h ad e hk => by
            rcases (HS6.out _ hk).1 with h2 | h2
            · exact h ad e (HS4.out _ h2).1
            · exact h ad e (by have := HB5.out.size; show w.heap.size ≤ ad.block; omega)) (by omega) HKB.out)
          have HP7 := Lib.hid (HP6.out.below hb7)
          have HP2 := Lib.hid hp2
          have HG2 := Lib.hid hg2
          have HOC := Lib.hid (ok_crash HO4.out dirs ks)
          have hk2' := hk2
          clear ho hp2 hb7 hg2
          generalize hWl : (B ++ t).length = wl at *
          have HWL := Lib.hid hWl
          clear hWl
          go_wp2_with fail
          refine HCR.out.mono ?_
          rintro e w8 ⟨rfl, ha⟩
          have hb8 : Below w.heap.size w7 w8 := ha.2.to_below (fun k hk => by
            rcases (HS6.out _ hk).1 with h2 | h2
            · exact (HS4.out _ h2).1
            · have := HB5.out.size; omega) HB7.out.size
          have HB8 := Lib.hid (HB7.out.trans hb8)
          have HP8 := Lib.hid (show Bys w8 P1 B by
            by_cases hne : B = []
            · exact .inl hne
            · refine bys_kept HP7.out ha.2 fun ad e _ hk => ?_
              have h1 := HG1.out ad e
              have h2 := HLT.out ad e hne
              rcases (HS6.out _ hk).1 with h3 | h3
              · have := (HS4.out _ h3).2; omega
              · omega)
          have HQ8 := Lib.hid (bys_kept HP2.out ha.2 fun ad e _ hk => by have h1 := HG2.out ad e; have h2 := (HS6.out _ hk).2; omega)
          obtain ⟨m, hm, hI⟩ := HWW.out dirs ks
          have hRD3 := read_prog ha.1 HOC.out.fine s hsz
          rw [hI] at hRD3
          have HRD3 := Lib.hid hRD3
          obtain ⟨t1, t2⟩ := take_pre B t m (by rw [HBL.out]; exact hm)
          obtain ⟨t3, t4⟩ := take_same (B ++ t) m
          have HT1 := Lib.hid t1
          have HT2 := Lib.hid t2
          have HT3 := Lib.hid t3
          have HT4 := Lib.hid t4
          clear ha hb8 hRD3 hI t1 t2 t3 t4 hm
          generalize (B ++ t).take m = z at *
          go_wp2_with fail
          refine HRD3.out.mono ?_
          rintro e w9 ⟨v, rfl, ho, hb9⟩
          obtain ⟨P3, k3, hv3, hp3, _, hk3, _⟩ := own_cap ho
          subst hv3
          have HB9 := Lib.hid (HB8.out.trans (hb9.mono HB8.out.size))
          have hzs : z.length ≤ 4194304 := by have h1 := HT4.out; rw [HWL.out] at h1; have h2 := HWS.out; omega
          have hBG1 := begins_prog hp3 (HP8.out.below hb9) hk3 (by omega) HT2.out HT1.out (c' := k1)
          rw [HBL.out] at hBG1
          have HBG1 := Lib.hid hBG1
          have HQ9 := Lib.hid (HQ8.out.below hb9)
          have HP39 := Lib.hid hp3
          clear ho hp3 hb9 hBG1
          generalize hzl : z.length = zl at *
          have HZL := Lib.hid hzl
          clear hzl
          go_wp2_with fail
          refine HBG1.out.mono ?_
          rintro e w10 ⟨rfl, hb10⟩
          have hBG2 := begins_prog (HQ9.out.below hb10) (HP39.out.below hb10) (c := k2) (c' := k3) (by rw [HWL.out]; exact hk2') (by have := HWS.out; rw [HWL.out]; omega) (by rw [HZL.out]; exact HT4.out) (by rw [HZL.out]; exact HT3.out)
          rw [HWL.out, HZL.out] at hBG2
          have HBG2 := Lib.hid hBG2
          have HB10 := Lib.hid (HB9.out.trans (hb10.mono HB9.out.size))
          clear hb10 hBG2
          go_wp2_with fail
          refine HBG2.out.mono ?_
          rintro e w11 ⟨rfl, hb11⟩
          have HL := Lib.hid (lives_true w11)
          have HB11 := Lib.hid (HB10.out.trans (hb11.mono HB10.out.size))
          clear hb11
          go_wp2_with fail
          refine HL.out.mono ?_
          rintro e w12 ⟨rfl, hb12⟩
          have HB12 := Lib.hid (HB11.out.trans (hb12.mono HB11.out.size))
          clear hb12
          go_wp2
          go_ret
          exact ⟨rfl, HB12.out⟩
        · have q2 : (e2 != 0) = true := by rw [bne_iff_ne]; exact he2
          have HL := Lib.hid (lives_true w6)
          clear ha hb6 hBX hP1x HP1LT
          go_wp2_with fail
          refine HL.out.mono ?_
          rintro e w9 ⟨rfl, hb9⟩
          have HB9 := Lib.hid (HB6.out.trans (hb9.mono HB6.out.size))
          clear hb9
          go_wp2
          go_ret
          exact ⟨rfl, HB9.out⟩
      · have q6 : (e6 != 0) = true := by rw [bne_iff_ne]; exact he6
        have HL := Lib.hid (lives_true w4)
        clear ha hD4 hb4
        go_wp2_with fail
        refine HL.out.mono ?_
        rintro e w9 ⟨rfl, hb9⟩
        have HB9 := Lib.hid (HB4.out.trans (hb9.mono HB4.out.size))
        clear hb9
        go_wp2
        go_ret
        exact ⟨rfl, HB9.out⟩
    · have q5 : (e5 != 0) = true := by rw [bne_iff_ne]; exact he5
      have HL := Lib.hid (lives_true w3)
      clear ha hD3 hb3
      go_wp2_with fail
      refine HL.out.mono ?_
      rintro e w9 ⟨rfl, hb9⟩
      have HB9 := Lib.hid (HB3.out.trans (hb9.mono HB3.out.size))
      clear hb9
      go_wp2
      go_ret
      exact ⟨rfl, HB9.out⟩
end Go.Proofs.Ytnkbehjjblmihaa
