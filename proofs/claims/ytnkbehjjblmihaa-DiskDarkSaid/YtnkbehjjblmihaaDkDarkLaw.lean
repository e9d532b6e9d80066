/- The law DiskDark: its walk. -/
import Derived.Test.YtnkbehjjblmihaaDkBegun
namespace Go.Proofs.Ytnkbehjjblmihaa
open Go.RowKit Go.Maps
set_option linter.unusedVariables false

theorem dark_act {d : Dsk} (hd : d.dark = true) (a : ActV) (h : 1 ≤ a.kind ∧ a.kind ≤ 7) : actD d a = d ∧ actE d a ≠ 0 ∧ actB d a = [] := by
  unfold actD actE actB
  by_cases h6 : a.kind ≤ 6
  · rw [if_pos ⟨h.1, h6⟩, if_pos ⟨h.1, h6⟩, if_neg (by omega)]
    obtain ⟨h1, h2⟩ := dark_change hd a.kind (strL a.name) (strL a.to) a.b
    exact ⟨h2, h1, rfl⟩
  · have h7 : a.kind = 7 := by omega
    rw [if_neg (by omega), if_neg (by omega), if_neg (by omega), if_neg (by omega), if_pos h7, if_pos h7]
    obtain ⟨h1, h2⟩ := dark_read hd (strL a.name)
    exact ⟨rfl, h1, h2⟩
/-- The last part: behind a crash the power is there. -/
theorem count_small {N : Nat} {d : Dsk} (h : Ok N d) : d.count ≤ N := h.count

set_option maxRecDepth 20000 in
set_option maxHeartbeats 1000000 in
theorem diskDark_walk (w : World) (room : Int) (hroom : -9223372036854775808 ≤ room ∧ room ≤ 9223372036854775807) (V1 : Option Addr) (l : List ActV) (c1 : Nat) (hV1 : Acts w V1 l) (hl : l.length ≤ 140737488351232) (hlc : l.length ≤ c1)
    (V2 : Option Addr) (m : List ActV) (c2 : Nat) (hV2 : Acts w V2 m) (hm : m.length ≤ 140737488351232) (hmc : m.length ≤ c2) :
    Calls Try.prog 9 #[.int .i64 room, .slice V1 l.length c1, .slice V2 m.length c2] w fun e w' => e = .returned (.bool true) ∧ Below w.heap.size w w' := by
  by_cases hr : room < 1 ∨ 4194304 < room
  · have HN := Lib.hid (begun_no room hr V1 l c1 w hl)
    clear hr hV1 hV2
    go_enter Try.func9, Try.ntmps9
    go_wp2_with fail
    refine HN.out.mono ?_
    rintro e w1 ⟨rfl, hb⟩
    have HB := Lib.hid hb
    have HL := Lib.hid (lives_true w1)
    clear hb
    go_wp2_with fail
    refine HL.out.mono ?_
    rintro e w2 ⟨rfl, hb2⟩
    have HB2 := Lib.hid hb2
    clear hb2
    go_wp2
    go_ret
    exact ⟨rfl, below_then HB.out HB2.out⟩
  · obtain ⟨rm, rfl⟩ : ∃ rm : Nat, room = (rm : Int) := ⟨room.toNat, by omega⟩
    have HN := Lib.hid (begun_ok rm (by omega) V1 l c1 w hV1 hl hlc)
    have HV2 := Lib.hid hV2
    clear hr hV1 hV2 hroom
    go_enter Try.func9, Try.ntmps9
    go_wp2_with fail
    refine HN.out.mono ?_
    rintro e w1 ⟨X, d, rfl, hD, hO, hb⟩
    have HF := Lib.hid (fuse_prog hD 0)
    have HB1 := Lib.hid hb
    have hO2 := ok_fuse hO 0 (by decide)
    have HO2 := Lib.hid hO2
    clear hD hO hb hO2
    go_wp2_with fail
    refine HF.out.mono ?_
    rintro e w2 ⟨rfl, ha⟩
    obtain ⟨hD2, hb2⟩ := After.flat (B := w.heap.size) ha HB1.out.size
    have HS := syncdir_prog hD2 HO2.out.fine (HO2.out.few (by decide)) [] [] []
    have hO3 := ok_change HO2.out 6 [] [] [] (by decide)
    rw [fuse_out] at HS hO3
    have HS' := Lib.hid HS
    have HO3 := Lib.hid hO3
    have HB2 := Lib.hid (HB1.out.trans hb2)
    have HDK := Lib.hid (show ({ fuseD d 0 with dark := true } : Dsk).dark = true from rfl)
    clear ha hD2 hb2 HS hO3
    simp only at HO3
    generalize ({ fuseD d 0 with dark := true } : Dsk) = dd at *
    go_wp2_with fail
    refine HS'.out.mono ?_
    rintro e w3 ⟨rfl, ha⟩
    obtain ⟨hD3, hb3⟩ := After.flat (B := w.heap.size) ha HB2.out.size
    have HD3 := Lib.hid hD3
    have HB3 := Lib.hid (HB2.out.trans hb3)
    have HDN := Lib.hid (fun (x : World) (h : DiskAt (From w.heap.size) x X dd) => done_prog h)
    have hcnt := HO3.out.count
    clear ha hD3 hb3
    go_wp2_with fail
    refine (HDN.out _ HD3.out).mono ?_
    rintro e w4 ⟨rfl, rfl⟩
    go_wp2_with fail
    go_loopw [9] (fun i wr => ∃ k : Nat, k ≤ m.length ∧ k ≤ 15 ∧ i = .int .i64 (k : Int) ∧ DiskAt (From w.heap.size) wr X dd ∧ Below w.heap.size w wr) (fun i _ => 15 - (intOf i).toNat)
    case atStart => exact ⟨0, Nat.zero_le _, by omega, rfl, HD3.out, HB3.out⟩
    case round =>
      obtain ⟨k, hk, hk15, rfl, hD, hb⟩ := hrel
      have HB := Lib.hid hb
      have HD := Lib.hid hD
      by_cases hgo : k < m.length ∧ k < 15
      · obtain ⟨hlt, h15⟩ := hgo
        obtain ⟨b, o, rfl, ha0, ha, hcell⟩ := acts_at HV2.out hb hlt
        have HDO := Lib.hid (do_prog hD HO3.out (by decide) _ ha (From_far ha0))
        have hsz := hb.size
        have HT := Lib.hid (fun e w' (h : Told (From w.heap.size) wr X dd (m.getD k default) e w') => h.flat hsz)
        have HDA := Lib.hid (dark_act HDK.out (m.getD k default))
        generalize m.getD k default = aa at *
        have HKA := Lib.hid (show aa.kind = aa.kind from rfl)
        obtain ⟨kind, name, to, A, bb, bc, n, V2, ks, kc⟩ := aa
        simp only [actC] at hcell HDO
        have e0 := hcell 0 _ rfl
        have e1 := hcell 1 _ rfl
        have e2 := hcell 2 _ rfl
        have e3 := hcell 3 _ rfl
        have e4 := hcell 4 _ rfl
        have e5 := hcell 5 _ rfl
        rw [Nat.add_zero] at e0
        have hkb := ha.kind
        clear hcell ha ha0 hD hb
        by_cases hk17 : 1 ≤ kind ∧ kind ≤ 7
        · obtain ⟨d1, d2, d3⟩ := HDA.out hk17
          have q1 : decide ((1 : Int) ≤ kind) = true := decide_eq_true hk17.1
          have q2 : decide (kind ≤ (7 : Int)) = true := decide_eq_true hk17.2
          have q3 : (actE dd ⟨kind, name, to, A, bb, bc, n, V2, ks, kc⟩ == 0) = false := by rw [beq_eq_false_iff_ne]; exact d2
          rw [d1, d3] at HT
          generalize actE dd ⟨kind, name, to, A, bb, bc, n, V2, ks, kc⟩ = ee at *
          clear HDA hk17 d1 d2 d3
          go_wp2_with fail
          refine HDO.out.mono ?_
          intro e w5 ht
          obtain ⟨v, rfl, ho, hD5, hb5⟩ := HT.out e w5 ht
          obtain ⟨Bv, cv, hv, _, _⟩ := own_slice' ho
          simp only [List.length_nil] at hv
          subst hv
          have HD5 := Lib.hid hD5
          have HB5 := Lib.hid (HB.out.trans hb5)
          clear ht ho hD5 hb5
          go_wp2
          go_roundw
          case rel => exact ⟨k + 1, by omega, by omega, by go_num, HD5.out, HB5.out⟩
          case measure => simp [intOf]; omega
        · by_cases h1 : 1 ≤ kind
          · have q1 : decide ((1 : Int) ≤ kind) = true := decide_eq_true h1
            have q2 : decide (kind ≤ (7 : Int)) = false := decide_eq_false (by omega)
            clear HDA hk17 hkb h1
            go_wp2_with fail
            go_roundw
            case rel => exact ⟨k + 1, by omega, by omega, by go_num, HD.out, HB.out⟩
            case measure => simp [intOf]; omega
          · have q1 : decide ((1 : Int) ≤ kind) = false := decide_eq_false h1
            clear HDA hk17 hkb h1
            go_wp2_with fail
            go_roundw
            case rel => exact ⟨k + 1, by omega, by omega, by go_num, HD.out, HB.out⟩
            case measure => simp [intOf]; omega
      · have HDNk := Lib.hid (HDN.out _ hD)
        have HLK := Lib.hid (list_prog hD HO3.out.fine)
        rw [dark_list HDK.out] at HLK
        have hsw := hb.size
        have HCR := Lib.hid (fun (x : World) (q : DiskAt (From w.heap.size) x X dd) => crash_at q HO3.out (by decide) 0 (by decide) (by decide) none [] 0 (.inl rfl) (.inl rfl) (by decide) (fun i hi => by simp at hi))
        obtain ⟨g1, g2⟩ := crash_sync dd 0 [] [] [] []
        have hOc := ok_crash HO3.out 0 []
        have HSY := Lib.hid (fun (x : World) (q : DiskAt (From w.heap.size) x X (crashD dd 0 [])) => syncdir_prog q hOc.fine (hOc.few (by decide)) [] [] [])
        generalize change (crashD dd 0 []) 6 [] [] [] = r at *
        obtain ⟨r1, r2⟩ := r
        simp only at g1 g2
        have hfin : ∀ (h : k = m.length ∨ (k < m.length ∧ k = 15)), True := fun _ => trivial
        have hcase : k = m.length ∨ (k < m.length ∧ k = 15) := by omega
        clear hD hb hgo hOc hfin
        rcases hcase with hkm | ⟨hkm, h15⟩
        · have q0 : decide ((k : Int) < (m.length : Int)) = false := decide_eq_false (by omega)
          go_wp2_with fail
          refine HDNk.out.mono ?_
          rintro e w5 ⟨rfl, rfl⟩
          go_wp2_with fail
          refine HLK.out.mono ?_
          rintro e w6 ⟨v, rfl, ho, hb6⟩
          obtain ⟨Bv, cv, hv, _⟩ := texts_at ho
          simp only [List.length_nil] at hv
          subst hv
          have HD6 := Lib.hid (HD.out.below hb6)
          have HB6 := Lib.hid (HB.out.trans (hb6.mono hsw))
          clear ho hb6
          go_wp2_with fail
          refine (HCR.out _ HD6.out).mono ?_
          rintro e w7 ⟨rfl, ha⟩
          obtain ⟨hD7, hb7⟩ := After.flat (B := w.heap.size) ha HB6.out.size
          have HD7 := Lib.hid hD7
          have HB7 := Lib.hid (HB6.out.trans hb7)
          clear ha hD7 hb7
          go_wp2_with fail
          refine (HSY.out _ HD7.out).mono ?_
          rintro e w8 ⟨rfl, ha⟩
          obtain ⟨hD8, hb8⟩ := After.flat (B := w.heap.size) ha HB7.out.size
          have HN8 := Lib.hid (done_prog hD8)
          have HB8 := Lib.hid (HB7.out.trans hb8)
          have HL8 := Lib.hid (lives_true w8)
          clear ha hD8 hb8
          rw [g1, g2] at *
          have q9 : ((((dd.count + 1 : Nat)) : Int) == (dd.count : Int) + 1) = true := by simp
          go_wp2_with fail
          refine HN8.out.mono ?_
          rintro e w9 ⟨rfl, rfl⟩
          go_wp2_with fail
          refine HL8.out.mono ?_
          rintro e w10 ⟨rfl, hb10⟩
          have HB10 := Lib.hid (HB8.out.trans (hb10.mono HB8.out.size))
          clear hb10
          go_wp2
          go_ret
          exact ⟨rfl, HB10.out⟩
        · have q0 : decide ((k : Int) < (m.length : Int)) = true := decide_eq_true (by omega)
          subst h15
          go_wp2_with fail
          refine HDNk.out.mono ?_
          rintro e w5 ⟨rfl, rfl⟩
          go_wp2_with fail
          refine HLK.out.mono ?_
          rintro e w6 ⟨v, rfl, ho, hb6⟩
          obtain ⟨Bv, cv, hv, _⟩ := texts_at ho
          simp only [List.length_nil] at hv
          subst hv
          have HD6 := Lib.hid (HD.out.below hb6)
          have HB6 := Lib.hid (HB.out.trans (hb6.mono hsw))
          clear ho hb6
          go_wp2_with fail
          refine (HCR.out _ HD6.out).mono ?_
          rintro e w7 ⟨rfl, ha⟩
          obtain ⟨hD7, hb7⟩ := After.flat (B := w.heap.size) ha HB6.out.size
          have HD7 := Lib.hid hD7
          have HB7 := Lib.hid (HB6.out.trans hb7)
          clear ha hD7 hb7
          go_wp2_with fail
          refine (HSY.out _ HD7.out).mono ?_
          rintro e w8 ⟨rfl, ha⟩
          obtain ⟨hD8, hb8⟩ := After.flat (B := w.heap.size) ha HB7.out.size
          have HN8 := Lib.hid (done_prog hD8)
          have HB8 := Lib.hid (HB7.out.trans hb8)
          have HL8 := Lib.hid (lives_true w8)
          clear ha hD8 hb8
          rw [g1, g2] at *
          have q9 : ((((dd.count + 1 : Nat)) : Int) == (dd.count : Int) + 1) = true := by simp
          go_wp2_with fail
          refine HN8.out.mono ?_
          rintro e w9 ⟨rfl, rfl⟩
          go_wp2_with fail
          refine HL8.out.mono ?_
          rintro e w10 ⟨rfl, hb10⟩
          have HB10 := Lib.hid (HB8.out.trans (hb10.mono HB8.out.size))
          clear hb10
          go_wp2
          go_ret
          exact ⟨rfl, HB10.out⟩
end Go.Proofs.Ytnkbehjjblmihaa
