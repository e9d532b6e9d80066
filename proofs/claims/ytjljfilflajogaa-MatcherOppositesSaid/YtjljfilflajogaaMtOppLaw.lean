/- MatcherOpposites' walk. -/
import Derived.Test.YtjljfilflajogaaMtChkAll
import Derived.Deep.Cut
namespace Go.Proofs.Ytjljfilflajogaa
open Go.RowKit
set_option linter.unusedVariables false
theorem lbls_len {l : List Lbl} (h : l.length * 32 ≤ 140737488351232) : l.length ≤ 100000000000000 := by omega
set_option maxHeartbeats 4000000 in
theorem opp_eq (w : World) (n v : ByteArray) (A : Option Addr) (l : List Lbl) (c : Nat) (hA : Lbls w A l) (hl : l.length ≤ 100000000000000) (hop : mchk (2, n, v) = mchk (1, n, v)) (hof : mchk (1, n, v) = 0 → mfits (2, n, v) l = !mfits (1, n, v) l) :
    Calls Try.prog 13 #[.string n, .string v, .bool false, .slice A l.length c] w fun e w' => e = .returned (.bool true) ∧ Below w.heap.size w w' := by
  have CA := Lib.hid (fun W => mchk_prog 1 n v W)
  have CB := Lib.hid (fun W => mchk_prog 2 n v W)
  have FA := Lib.hid (fun W (h : Lbls W A l) => mfits_prog 1 n v A l c W h hl)
  have FB := Lib.hid (fun W (h : Lbls W A l) => mfits_prog 2 n v A l c W h hl)
  have hb0 : Below w.heap.size w ((w.alloc (.cells #[.int .i64 1, .string n, .string v] 39)).alloc (.cells #[.int .i64 2, .string n, .string v] 39)).drew := (below_then (below_one w _) (below_one _ _)).drew
  have HB0 := Lib.hid hb0
  have HRa0 : Hid (Row ((w.alloc (.cells #[.int .i64 1, .string n, .string v] 39)).alloc (.cells #[.int .i64 2, .string n, .string v] 39)).drew w.heap.size 39 #[.int .i64 1, .string n, .string v]) := Lib.hid ((Row.new w _ _).alloc _)
  have HRb0 : Hid (Row ((w.alloc (.cells #[.int .i64 1, .string n, .string v] 39)).alloc (.cells #[.int .i64 2, .string n, .string v] 39)).drew (w.heap.size + 1) 39 #[.int .i64 2, .string n, .string v]) := Lib.hid (row_at w _ _ _)
  have a00 := HRa0.out.cell 0
  have a01 := HRa0.out.cell 1
  have a02 := HRa0.out.cell 2
  have b00 := HRb0.out.cell 0
  have b01 := HRb0.out.cell 1
  have b02 := HRb0.out.cell 2
  have HA := Lib.hid hA
  clear hA hb0
  rw [hop] at CB
  by_cases h0 : mchk (1, n, v) = 0
  · have ho := hof h0
    rw [h0] at CA CB
    rw [ho] at FB
    generalize mfits (1, n, v) l = x at FA FB
    clear hop hof h0 ho
    cases x
    all_goals
      go_enter Try.func13, Try.ntmps13
      go_upto_region 5 with fail
      go_region_held3 (fun w' => (w'.cell? ⟨w.heap.size, 0, none⟩ = some (.int .i64 1) ∧ w'.cell? ⟨w.heap.size, 1, none⟩ = some (.string n) ∧ w'.cell? ⟨w.heap.size, 2, none⟩ = some (.string v)) ∧ (w'.cell? ⟨w.heap.size + 1, 0, none⟩ = some (.int .i64 2) ∧ w'.cell? ⟨w.heap.size + 1, 1, none⟩ = some (.string n) ∧ w'.cell? ⟨w.heap.size + 1, 2, none⟩ = some (.string v))) (go_keep)
        (first
          | (go_at_call 24; (with_reducible refine (CA.out _).mono ?_); rintro e w1 ⟨rfl, hb1⟩
             have HB1 := Lib.hid (HB0.out.trans (hb1.mono HB0.out.size))
             have HRa1 := Lib.hid (HRa0.out.below hb1 HRa0.out.lt)
             have HRb1 := Lib.hid (HRb0.out.below hb1 HRb0.out.lt)
             have a10 : w1.cell? ⟨w.heap.size, 0, none⟩ = some (.int .i64 1) := HRa1.out.cell 0
             have a11 : w1.cell? ⟨w.heap.size, 1, none⟩ = some (.string n) := HRa1.out.cell 1
             have a12 : w1.cell? ⟨w.heap.size, 2, none⟩ = some (.string v) := HRa1.out.cell 2
             have b10 : w1.cell? ⟨w.heap.size + 1, 0, none⟩ = some (.int .i64 2) := HRb1.out.cell 0
             have b11 : w1.cell? ⟨w.heap.size + 1, 1, none⟩ = some (.string n) := HRb1.out.cell 1
             have b12 : w1.cell? ⟨w.heap.size + 1, 2, none⟩ = some (.string v) := HRb1.out.cell 2
             clear hb1)
          | (go_at_call 24; (with_reducible refine (CB.out _).mono ?_); rintro e w2 ⟨rfl, hb2⟩
             have HB2 := Lib.hid (HB1.out.trans (hb2.mono HB1.out.size))
             have HRa2 := Lib.hid (HRa1.out.below hb2 HRa1.out.lt)
             have HRb2 := Lib.hid (HRb1.out.below hb2 HRb1.out.lt)
             have a20 : w2.cell? ⟨w.heap.size, 0, none⟩ = some (.int .i64 1) := HRa2.out.cell 0
             have a21 : w2.cell? ⟨w.heap.size, 1, none⟩ = some (.string n) := HRa2.out.cell 1
             have a22 : w2.cell? ⟨w.heap.size, 2, none⟩ = some (.string v) := HRa2.out.cell 2
             have b20 : w2.cell? ⟨w.heap.size + 1, 0, none⟩ = some (.int .i64 2) := HRb2.out.cell 0
             have b21 : w2.cell? ⟨w.heap.size + 1, 1, none⟩ = some (.string n) := HRb2.out.cell 1
             have b22 : w2.cell? ⟨w.heap.size + 1, 2, none⟩ = some (.string v) := HRb2.out.cell 2
             clear hb2))
      all_goals
        go_upto_region 9 with (first
          | (go_at_call 24; (with_reducible refine (CA.out _).mono ?_); rintro e w3 ⟨rfl, hb3⟩
             have HB3 := Lib.hid (HB2.out.trans (hb3.mono HB2.out.size))
             have HRa3 := Lib.hid (HRa2.out.below hb3 HRa2.out.lt)
             have HRb3 := Lib.hid (HRb2.out.below hb3 HRb2.out.lt)
             have a30 : w3.cell? ⟨w.heap.size, 0, none⟩ = some (.int .i64 1) := HRa3.out.cell 0
             have a31 : w3.cell? ⟨w.heap.size, 1, none⟩ = some (.string n) := HRa3.out.cell 1
             have a32 : w3.cell? ⟨w.heap.size, 2, none⟩ = some (.string v) := HRa3.out.cell 2
             have b30 : w3.cell? ⟨w.heap.size + 1, 0, none⟩ = some (.int .i64 2) := HRb3.out.cell 0
             have b31 : w3.cell? ⟨w.heap.size + 1, 1, none⟩ = some (.string n) := HRb3.out.cell 1
             have b32 : w3.cell? ⟨w.heap.size + 1, 2, none⟩ = some (.string v) := HRb3.out.cell 2
             clear hb3))
        have HB4 : Hid (Below w.heap.size w w3.drew) := Lib.hid HB3.out.drew
        have HRa4 : Hid (Row w3.drew w.heap.size 39 #[.int .i64 1, .string n, .string v]) := Lib.hid HRa3.out
        have HRb4 : Hid (Row w3.drew (w.heap.size + 1) 39 #[.int .i64 2, .string n, .string v]) := Lib.hid HRb3.out
        have c00 := HRa4.out.cell 0
        have c01 := HRa4.out.cell 1
        have c02 := HRa4.out.cell 2
        have d00 := HRb4.out.cell 0
        have d01 := HRb4.out.cell 1
        have d02 := HRb4.out.cell 2
        go_region_held3 (fun w' => (w'.cell? ⟨w.heap.size, 0, none⟩ = some (.int .i64 1) ∧ w'.cell? ⟨w.heap.size, 1, none⟩ = some (.string n) ∧ w'.cell? ⟨w.heap.size, 2, none⟩ = some (.string v)) ∧ (w'.cell? ⟨w.heap.size + 1, 0, none⟩ = some (.int .i64 2) ∧ w'.cell? ⟨w.heap.size + 1, 1, none⟩ = some (.string n) ∧ w'.cell? ⟨w.heap.size + 1, 2, none⟩ = some (.string v))) (go_keep)
          (first
            | (go_at_call 28; (with_reducible refine (mlives_true _).mono ?_); rintro e w7 ⟨rfl, hb7⟩
               have HB7 := Lib.hid (HB6.out.trans (hb7.mono HB6.out.size))
               have HRa7 := Lib.hid (HRa6.out.below hb7 HRa6.out.lt)
               have HRb7 := Lib.hid (HRb6.out.below hb7 HRb6.out.lt)
               have a70 : w7.cell? ⟨w.heap.size, 0, none⟩ = some (.int .i64 1) := HRa7.out.cell 0
               have a71 : w7.cell? ⟨w.heap.size, 1, none⟩ = some (.string n) := HRa7.out.cell 1
               have a72 : w7.cell? ⟨w.heap.size, 2, none⟩ = some (.string v) := HRa7.out.cell 2
               have b70 : w7.cell? ⟨w.heap.size + 1, 0, none⟩ = some (.int .i64 2) := HRb7.out.cell 0
               have b71 : w7.cell? ⟨w.heap.size + 1, 1, none⟩ = some (.string n) := HRb7.out.cell 1
               have b72 : w7.cell? ⟨w.heap.size + 1, 2, none⟩ = some (.string v) := HRb7.out.cell 2
               clear hb7)
            | (go_at_call 29; (with_reducible refine (FA.out _ (HA.out.below HB4.out)).mono ?_); rintro e w5 ⟨rfl, hb5⟩
               have HB5 := Lib.hid (HB4.out.trans (hb5.mono HB4.out.size))
               have HRa5 := Lib.hid (HRa4.out.below hb5 HRa4.out.lt)
               have HRb5 := Lib.hid (HRb4.out.below hb5 HRb4.out.lt)
               have a50 : w5.cell? ⟨w.heap.size, 0, none⟩ = some (.int .i64 1) := HRa5.out.cell 0
               have a51 : w5.cell? ⟨w.heap.size, 1, none⟩ = some (.string n) := HRa5.out.cell 1
               have a52 : w5.cell? ⟨w.heap.size, 2, none⟩ = some (.string v) := HRa5.out.cell 2
               have b50 : w5.cell? ⟨w.heap.size + 1, 0, none⟩ = some (.int .i64 2) := HRb5.out.cell 0
               have b51 : w5.cell? ⟨w.heap.size + 1, 1, none⟩ = some (.string n) := HRb5.out.cell 1
               have b52 : w5.cell? ⟨w.heap.size + 1, 2, none⟩ = some (.string v) := HRb5.out.cell 2
               clear hb5)
            | (go_at_call 29; (with_reducible refine (FB.out _ (HA.out.below HB5.out)).mono ?_); rintro e w6 ⟨rfl, hb6⟩
               have HB6 := Lib.hid (HB5.out.trans (hb6.mono HB5.out.size))
               have HRa6 := Lib.hid (HRa5.out.below hb6 HRa5.out.lt)
               have HRb6 := Lib.hid (HRb5.out.below hb6 HRb5.out.lt)
               have a60 : w6.cell? ⟨w.heap.size, 0, none⟩ = some (.int .i64 1) := HRa6.out.cell 0
               have a61 : w6.cell? ⟨w.heap.size, 1, none⟩ = some (.string n) := HRa6.out.cell 1
               have a62 : w6.cell? ⟨w.heap.size, 2, none⟩ = some (.string v) := HRa6.out.cell 2
               have b60 : w6.cell? ⟨w.heap.size + 1, 0, none⟩ = some (.int .i64 2) := HRb6.out.cell 0
               have b61 : w6.cell? ⟨w.heap.size + 1, 1, none⟩ = some (.string n) := HRb6.out.cell 1
               have b62 : w6.cell? ⟨w.heap.size + 1, 2, none⟩ = some (.string v) := HRb6.out.cell 2
               clear hb6))
        all_goals
          go_wp2_with fail
          go_ret
          exact ⟨rfl, HB7.out⟩
  · have f1 : mfits (1, n, v) l = false := fits_no h0
    have f2 : mfits (2, n, v) l = false := fits_no (by rw [hop]; exact h0)
    rw [f1] at FA
    rw [f2] at FB
    generalize mchk (1, n, v) = ck at CA CB h0
    have z0 : (ck == 0) = false := beq_eq_false_iff_ne.2 h0
    have z1 : (ck != 0) = true := by rw [bne, z0]; rfl
    have z2 : (ck != ck) = false := by simp
    clear hop hof h0 f1 f2
    go_enter Try.func13, Try.ntmps13
    go_upto_region 5 with fail
    go_region_held3 (fun w' => (w'.cell? ⟨w.heap.size, 0, none⟩ = some (.int .i64 1) ∧ w'.cell? ⟨w.heap.size, 1, none⟩ = some (.string n) ∧ w'.cell? ⟨w.heap.size, 2, none⟩ = some (.string v)) ∧ (w'.cell? ⟨w.heap.size + 1, 0, none⟩ = some (.int .i64 2) ∧ w'.cell? ⟨w.heap.size + 1, 1, none⟩ = some (.string n) ∧ w'.cell? ⟨w.heap.size + 1, 2, none⟩ = some (.string v))) (go_keep)
      (first
        | (go_at_call 24; (with_reducible refine (CA.out _).mono ?_); rintro e w1 ⟨rfl, hb1⟩
           have HB1 := Lib.hid (HB0.out.trans (hb1.mono HB0.out.size))
           have HRa1 := Lib.hid (HRa0.out.below hb1 HRa0.out.lt)
           have HRb1 := Lib.hid (HRb0.out.below hb1 HRb0.out.lt)
           have a10 : w1.cell? ⟨w.heap.size, 0, none⟩ = some (.int .i64 1) := HRa1.out.cell 0
           have a11 : w1.cell? ⟨w.heap.size, 1, none⟩ = some (.string n) := HRa1.out.cell 1
           have a12 : w1.cell? ⟨w.heap.size, 2, none⟩ = some (.string v) := HRa1.out.cell 2
           have b10 : w1.cell? ⟨w.heap.size + 1, 0, none⟩ = some (.int .i64 2) := HRb1.out.cell 0
           have b11 : w1.cell? ⟨w.heap.size + 1, 1, none⟩ = some (.string n) := HRb1.out.cell 1
           have b12 : w1.cell? ⟨w.heap.size + 1, 2, none⟩ = some (.string v) := HRb1.out.cell 2
           clear hb1)
        | (go_at_call 24; (with_reducible refine (CB.out _).mono ?_); rintro e w2 ⟨rfl, hb2⟩
           have HB2 := Lib.hid (HB1.out.trans (hb2.mono HB1.out.size))
           have HRa2 := Lib.hid (HRa1.out.below hb2 HRa1.out.lt)
           have HRb2 := Lib.hid (HRb1.out.below hb2 HRb1.out.lt)
           have a20 : w2.cell? ⟨w.heap.size, 0, none⟩ = some (.int .i64 1) := HRa2.out.cell 0
           have a21 : w2.cell? ⟨w.heap.size, 1, none⟩ = some (.string n) := HRa2.out.cell 1
           have a22 : w2.cell? ⟨w.heap.size, 2, none⟩ = some (.string v) := HRa2.out.cell 2
           have b20 : w2.cell? ⟨w.heap.size + 1, 0, none⟩ = some (.int .i64 2) := HRb2.out.cell 0
           have b21 : w2.cell? ⟨w.heap.size + 1, 1, none⟩ = some (.string n) := HRb2.out.cell 1
           have b22 : w2.cell? ⟨w.heap.size + 1, 2, none⟩ = some (.string v) := HRb2.out.cell 2
           clear hb2))
    all_goals
      go_wp2_with (first
        | (go_at_call 28; (with_reducible refine (mlives_true _).mono ?_); rintro e w6 ⟨rfl, hb6⟩
           have HB6 := Lib.hid (HB5.out.trans (hb6.mono HB5.out.size))
           have HRa6 := Lib.hid (HRa5.out.below hb6 HRa5.out.lt)
           have HRb6 := Lib.hid (HRb5.out.below hb6 HRb5.out.lt)
           have a60 : w6.cell? ⟨w.heap.size, 0, none⟩ = some (.int .i64 1) := HRa6.out.cell 0
           have a61 : w6.cell? ⟨w.heap.size, 1, none⟩ = some (.string n) := HRa6.out.cell 1
           have a62 : w6.cell? ⟨w.heap.size, 2, none⟩ = some (.string v) := HRa6.out.cell 2
           have b60 : w6.cell? ⟨w.heap.size + 1, 0, none⟩ = some (.int .i64 2) := HRb6.out.cell 0
           have b61 : w6.cell? ⟨w.heap.size + 1, 1, none⟩ = some (.string n) := HRb6.out.cell 1
           have b62 : w6.cell? ⟨w.heap.size + 1, 2, none⟩ = some (.string v) := HRb6.out.cell 2
           clear hb6)
        | (go_at_call 29; (with_reducible refine (FA.out _ (HA.out.below HB3.out)).mono ?_); rintro e w4 ⟨rfl, hb4⟩
           have HB4 := Lib.hid (HB3.out.trans (hb4.mono HB3.out.size))
           have HRa4 := Lib.hid (HRa3.out.below hb4 HRa3.out.lt)
           have HRb4 := Lib.hid (HRb3.out.below hb4 HRb3.out.lt)
           have a40 : w4.cell? ⟨w.heap.size, 0, none⟩ = some (.int .i64 1) := HRa4.out.cell 0
           have a41 : w4.cell? ⟨w.heap.size, 1, none⟩ = some (.string n) := HRa4.out.cell 1
           have a42 : w4.cell? ⟨w.heap.size, 2, none⟩ = some (.string v) := HRa4.out.cell 2
           have b40 : w4.cell? ⟨w.heap.size + 1, 0, none⟩ = some (.int .i64 2) := HRb4.out.cell 0
           have b41 : w4.cell? ⟨w.heap.size + 1, 1, none⟩ = some (.string n) := HRb4.out.cell 1
           have b42 : w4.cell? ⟨w.heap.size + 1, 2, none⟩ = some (.string v) := HRb4.out.cell 2
           clear hb4)
        | (go_at_call 29; (with_reducible refine (FB.out _ (HA.out.below HB4.out)).mono ?_); rintro e w5 ⟨rfl, hb5⟩
           have HB5 := Lib.hid (HB4.out.trans (hb5.mono HB4.out.size))
           have HRa5 := Lib.hid (HRa4.out.below hb5 HRa4.out.lt)
           have HRb5 := Lib.hid (HRb4.out.below hb5 HRb4.out.lt)
           have a50 : w5.cell? ⟨w.heap.size, 0, none⟩ = some (.int .i64 1) := HRa5.out.cell 0
           have a51 : w5.cell? ⟨w.heap.size, 1, none⟩ = some (.string n) := HRa5.out.cell 1
           have a52 : w5.cell? ⟨w.heap.size, 2, none⟩ = some (.string v) := HRa5.out.cell 2
           have b50 : w5.cell? ⟨w.heap.size + 1, 0, none⟩ = some (.int .i64 2) := HRb5.out.cell 0
           have b51 : w5.cell? ⟨w.heap.size + 1, 1, none⟩ = some (.string n) := HRb5.out.cell 1
           have b52 : w5.cell? ⟨w.heap.size + 1, 2, none⟩ = some (.string v) := HRb5.out.cell 2
           clear hb5)
        | (go_at_call 24; (with_reducible refine (CA.out _).mono ?_); rintro e w3 ⟨rfl, hb3⟩
           have HB3 := Lib.hid (HB2.out.trans (hb3.mono HB2.out.size))
           have HRa3 := Lib.hid (HRa2.out.below hb3 HRa2.out.lt)
           have HRb3 := Lib.hid (HRb2.out.below hb3 HRb2.out.lt)
           have a30 : w3.cell? ⟨w.heap.size, 0, none⟩ = some (.int .i64 1) := HRa3.out.cell 0
           have a31 : w3.cell? ⟨w.heap.size, 1, none⟩ = some (.string n) := HRa3.out.cell 1
           have a32 : w3.cell? ⟨w.heap.size, 2, none⟩ = some (.string v) := HRa3.out.cell 2
           have b30 : w3.cell? ⟨w.heap.size + 1, 0, none⟩ = some (.int .i64 2) := HRb3.out.cell 0
           have b31 : w3.cell? ⟨w.heap.size + 1, 1, none⟩ = some (.string n) := HRb3.out.cell 1
           have b32 : w3.cell? ⟨w.heap.size + 1, 2, none⟩ = some (.string v) := HRb3.out.cell 2
           clear hb3))
      go_ret
      exact ⟨rfl, HB6.out⟩
set_option maxHeartbeats 4000000 in
theorem opp_re (w : World) (n v : ByteArray) (A : Option Addr) (l : List Lbl) (c : Nat) (hA : Lbls w A l) (hl : l.length ≤ 100000000000000) (hop : mchk (4, n, v) = mchk (3, n, v)) (hof : mchk (3, n, v) = 0 → mfits (4, n, v) l = !mfits (3, n, v) l) :
    Calls Try.prog 13 #[.string n, .string v, .bool true, .slice A l.length c] w fun e w' => e = .returned (.bool true) ∧ Below w.heap.size w w' := by
  have CA := Lib.hid (fun W => mchk_prog 3 n v W)
  have CB := Lib.hid (fun W => mchk_prog 4 n v W)
  have FA := Lib.hid (fun W (h : Lbls W A l) => mfits_prog 3 n v A l c W h hl)
  have FB := Lib.hid (fun W (h : Lbls W A l) => mfits_prog 4 n v A l c W h hl)
  have hb0 : Below w.heap.size w ((w.alloc (.cells #[.int .i64 3, .string n, .string v] 39)).alloc (.cells #[.int .i64 4, .string n, .string v] 39)).drew := (below_then (below_one w _) (below_one _ _)).drew
  have HB0 := Lib.hid hb0
  have HRa0 : Hid (Row ((w.alloc (.cells #[.int .i64 3, .string n, .string v] 39)).alloc (.cells #[.int .i64 4, .string n, .string v] 39)).drew w.heap.size 39 #[.int .i64 3, .string n, .string v]) := Lib.hid ((Row.new w _ _).alloc _)
  have HRb0 : Hid (Row ((w.alloc (.cells #[.int .i64 3, .string n, .string v] 39)).alloc (.cells #[.int .i64 4, .string n, .string v] 39)).drew (w.heap.size + 1) 39 #[.int .i64 4, .string n, .string v]) := Lib.hid (row_at w _ _ _)
  have a00 := HRa0.out.cell 0
  have a01 := HRa0.out.cell 1
  have a02 := HRa0.out.cell 2
  have b00 := HRb0.out.cell 0
  have b01 := HRb0.out.cell 1
  have b02 := HRb0.out.cell 2
  have HA := Lib.hid hA
  clear hA hb0
  rw [hop] at CB
  by_cases h0 : mchk (3, n, v) = 0
  · have ho := hof h0
    rw [h0] at CA CB
    rw [ho] at FB
    generalize mfits (3, n, v) l = x at FA FB
    clear hop hof h0 ho
    cases x
    all_goals
      go_enter Try.func13, Try.ntmps13
      go_upto_region 5 with fail
      go_region_held3 (fun w' => (w'.cell? ⟨w.heap.size, 0, none⟩ = some (.int .i64 3) ∧ w'.cell? ⟨w.heap.size, 1, none⟩ = some (.string n) ∧ w'.cell? ⟨w.heap.size, 2, none⟩ = some (.string v)) ∧ (w'.cell? ⟨w.heap.size + 1, 0, none⟩ = some (.int .i64 4) ∧ w'.cell? ⟨w.heap.size + 1, 1, none⟩ = some (.string n) ∧ w'.cell? ⟨w.heap.size + 1, 2, none⟩ = some (.string v))) (go_keep)
        (first
          | (go_at_call 24; (with_reducible refine (CA.out _).mono ?_); rintro e w1 ⟨rfl, hb1⟩
             have HB1 := Lib.hid (HB0.out.trans (hb1.mono HB0.out.size))
             have HRa1 := Lib.hid (HRa0.out.below hb1 HRa0.out.lt)
             have HRb1 := Lib.hid (HRb0.out.below hb1 HRb0.out.lt)
             have a10 : w1.cell? ⟨w.heap.size, 0, none⟩ = some (.int .i64 3) := HRa1.out.cell 0
             have a11 : w1.cell? ⟨w.heap.size, 1, none⟩ = some (.string n) := HRa1.out.cell 1
             have a12 : w1.cell? ⟨w.heap.size, 2, none⟩ = some (.string v) := HRa1.out.cell 2
             have b10 : w1.cell? ⟨w.heap.size + 1, 0, none⟩ = some (.int .i64 4) := HRb1.out.cell 0
             have b11 : w1.cell? ⟨w.heap.size + 1, 1, none⟩ = some (.string n) := HRb1.out.cell 1
             have b12 : w1.cell? ⟨w.heap.size + 1, 2, none⟩ = some (.string v) := HRb1.out.cell 2
             clear hb1)
          | (go_at_call 24; (with_reducible refine (CB.out _).mono ?_); rintro e w2 ⟨rfl, hb2⟩
             have HB2 := Lib.hid (HB1.out.trans (hb2.mono HB1.out.size))
             have HRa2 := Lib.hid (HRa1.out.below hb2 HRa1.out.lt)
             have HRb2 := Lib.hid (HRb1.out.below hb2 HRb1.out.lt)
             have a20 : w2.cell? ⟨w.heap.size, 0, none⟩ = some (.int .i64 3) := HRa2.out.cell 0
             have a21 : w2.cell? ⟨w.heap.size, 1, none⟩ = some (.string n) := HRa2.out.cell 1
             have a22 : w2.cell? ⟨w.heap.size, 2, none⟩ = some (.string v) := HRa2.out.cell 2
             have b20 : w2.cell? ⟨w.heap.size + 1, 0, none⟩ = some (.int .i64 4) := HRb2.out.cell 0
             have b21 : w2.cell? ⟨w.heap.size + 1, 1, none⟩ = some (.string n) := HRb2.out.cell 1
             have b22 : w2.cell? ⟨w.heap.size + 1, 2, none⟩ = some (.string v) := HRb2.out.cell 2
             clear hb2))
      all_goals
        go_upto_region 9 with (first
          | (go_at_call 24; (with_reducible refine (CA.out _).mono ?_); rintro e w3 ⟨rfl, hb3⟩
             have HB3 := Lib.hid (HB2.out.trans (hb3.mono HB2.out.size))
             have HRa3 := Lib.hid (HRa2.out.below hb3 HRa2.out.lt)
             have HRb3 := Lib.hid (HRb2.out.below hb3 HRb2.out.lt)
             have a30 : w3.cell? ⟨w.heap.size, 0, none⟩ = some (.int .i64 3) := HRa3.out.cell 0
             have a31 : w3.cell? ⟨w.heap.size, 1, none⟩ = some (.string n) := HRa3.out.cell 1
             have a32 : w3.cell? ⟨w.heap.size, 2, none⟩ = some (.string v) := HRa3.out.cell 2
             have b30 : w3.cell? ⟨w.heap.size + 1, 0, none⟩ = some (.int .i64 4) := HRb3.out.cell 0
             have b31 : w3.cell? ⟨w.heap.size + 1, 1, none⟩ = some (.string n) := HRb3.out.cell 1
             have b32 : w3.cell? ⟨w.heap.size + 1, 2, none⟩ = some (.string v) := HRb3.out.cell 2
             clear hb3))
        have HB4 : Hid (Below w.heap.size w w3.drew) := Lib.hid HB3.out.drew
        have HRa4 : Hid (Row w3.drew w.heap.size 39 #[.int .i64 3, .string n, .string v]) := Lib.hid HRa3.out
        have HRb4 : Hid (Row w3.drew (w.heap.size + 1) 39 #[.int .i64 4, .string n, .string v]) := Lib.hid HRb3.out
        have c00 := HRa4.out.cell 0
        have c01 := HRa4.out.cell 1
        have c02 := HRa4.out.cell 2
        have d00 := HRb4.out.cell 0
        have d01 := HRb4.out.cell 1
        have d02 := HRb4.out.cell 2
        go_region_held3 (fun w' => (w'.cell? ⟨w.heap.size, 0, none⟩ = some (.int .i64 3) ∧ w'.cell? ⟨w.heap.size, 1, none⟩ = some (.string n) ∧ w'.cell? ⟨w.heap.size, 2, none⟩ = some (.string v)) ∧ (w'.cell? ⟨w.heap.size + 1, 0, none⟩ = some (.int .i64 4) ∧ w'.cell? ⟨w.heap.size + 1, 1, none⟩ = some (.string n) ∧ w'.cell? ⟨w.heap.size + 1, 2, none⟩ = some (.string v))) (go_keep)
          (first
            | (go_at_call 28; (with_reducible refine (mlives_true _).mono ?_); rintro e w7 ⟨rfl, hb7⟩
               have HB7 := Lib.hid (HB6.out.trans (hb7.mono HB6.out.size))
               have HRa7 := Lib.hid (HRa6.out.below hb7 HRa6.out.lt)
               have HRb7 := Lib.hid (HRb6.out.below hb7 HRb6.out.lt)
               have a70 : w7.cell? ⟨w.heap.size, 0, none⟩ = some (.int .i64 3) := HRa7.out.cell 0
               have a71 : w7.cell? ⟨w.heap.size, 1, none⟩ = some (.string n) := HRa7.out.cell 1
               have a72 : w7.cell? ⟨w.heap.size, 2, none⟩ = some (.string v) := HRa7.out.cell 2
               have b70 : w7.cell? ⟨w.heap.size + 1, 0, none⟩ = some (.int .i64 4) := HRb7.out.cell 0
               have b71 : w7.cell? ⟨w.heap.size + 1, 1, none⟩ = some (.string n) := HRb7.out.cell 1
               have b72 : w7.cell? ⟨w.heap.size + 1, 2, none⟩ = some (.string v) := HRb7.out.cell 2
               clear hb7)
            | (go_at_call 29; (with_reducible refine (FA.out _ (HA.out.below HB4.out)).mono ?_); rintro e w5 ⟨rfl, hb5⟩
               have HB5 := Lib.hid (HB4.out.trans (hb5.mono HB4.out.size))
               have HRa5 := Lib.hid (HRa4.out.below hb5 HRa4.out.lt)
               have HRb5 := Lib.hid (HRb4.out.below hb5 HRb4.out.lt)
               have a50 : w5.cell? ⟨w.heap.size, 0, none⟩ = some (.int .i64 3) := HRa5.out.cell 0
               have a51 : w5.cell? ⟨w.heap.size, 1, none⟩ = some (.string n) := HRa5.out.cell 1
               have a52 : w5.cell? ⟨w.heap.size, 2, none⟩ = some (.string v) := HRa5.out.cell 2
               have b50 : w5.cell? ⟨w.heap.size + 1, 0, none⟩ = some (.int .i64 4) := HRb5.out.cell 0
               have b51 : w5.cell? ⟨w.heap.size + 1, 1, none⟩ = some (.string n) := HRb5.out.cell 1
               have b52 : w5.cell? ⟨w.heap.size + 1, 2, none⟩ = some (.string v) := HRb5.out.cell 2
               clear hb5)
            | (go_at_call 29; (with_reducible refine (FB.out _ (HA.out.below HB5.out)).mono ?_); rintro e w6 ⟨rfl, hb6⟩
               have HB6 := Lib.hid (HB5.out.trans (hb6.mono HB5.out.size))
               have HRa6 := Lib.hid (HRa5.out.below hb6 HRa5.out.lt)
               have HRb6 := Lib.hid (HRb5.out.below hb6 HRb5.out.lt)
               have a60 : w6.cell? ⟨w.heap.size, 0, none⟩ = some (.int .i64 3) := HRa6.out.cell 0
               have a61 : w6.cell? ⟨w.heap.size, 1, none⟩ = some (.string n) := HRa6.out.cell 1
               have a62 : w6.cell? ⟨w.heap.size, 2, none⟩ = some (.string v) := HRa6.out.cell 2
               have b60 : w6.cell? ⟨w.heap.size + 1, 0, none⟩ = some (.int .i64 4) := HRb6.out.cell 0
               have b61 : w6.cell? ⟨w.heap.size + 1, 1, none⟩ = some (.string n) := HRb6.out.cell 1
               have b62 : w6.cell? ⟨w.heap.size + 1, 2, none⟩ = some (.string v) := HRb6.out.cell 2
               clear hb6))
        all_goals
          go_wp2_with fail
          go_ret
          exact ⟨rfl, HB7.out⟩
  · have f1 : mfits (3, n, v) l = false := fits_no h0
    have f2 : mfits (4, n, v) l = false := fits_no (by rw [hop]; exact h0)
    rw [f1] at FA
    rw [f2] at FB
    generalize mchk (3, n, v) = ck at CA CB h0
    have z0 : (ck == 0) = false := beq_eq_false_iff_ne.2 h0
    have z1 : (ck != 0) = true := by rw [bne, z0]; rfl
    have z2 : (ck != ck) = false := by simp
    clear hop hof h0 f1 f2
    go_enter Try.func13, Try.ntmps13
    go_upto_region 5 with fail
    go_region_held3 (fun w' => (w'.cell? ⟨w.heap.size, 0, none⟩ = some (.int .i64 3) ∧ w'.cell? ⟨w.heap.size, 1, none⟩ = some (.string n) ∧ w'.cell? ⟨w.heap.size, 2, none⟩ = some (.string v)) ∧ (w'.cell? ⟨w.heap.size + 1, 0, none⟩ = some (.int .i64 4) ∧ w'.cell? ⟨w.heap.size + 1, 1, none⟩ = some (.string n) ∧ w'.cell? ⟨w.heap.size + 1, 2, none⟩ = some (.string v))) (go_keep)
      (first
        | (go_at_call 24; (with_reducible refine (CA.out _).mono ?_); rintro e w1 ⟨rfl, hb1⟩
           have HB1 := Lib.hid (HB0.out.trans (hb1.mono HB0.out.size))
           have HRa1 := Lib.hid (HRa0.out.below hb1 HRa0.out.lt)
           have HRb1 := Lib.hid (HRb0.out.below hb1 HRb0.out.lt)
           have a10 : w1.cell? ⟨w.heap.size, 0, none⟩ = some (.int .i64 3) := HRa1.out.cell 0
           have a11 : w1.cell? ⟨w.heap.size, 1, none⟩ = some (.string n) := HRa1.out.cell 1
           have a12 : w1.cell? ⟨w.heap.size, 2, none⟩ = some (.string v) := HRa1.out.cell 2
           have b10 : w1.cell? ⟨w.heap.size + 1, 0, none⟩ = some (.int .i64 4) := HRb1.out.cell 0
           have b11 : w1.cell? ⟨w.heap.size + 1, 1, none⟩ = some (.string n) := HRb1.out.cell 1
           have b12 : w1.cell? ⟨w.heap.size + 1, 2, none⟩ = some (.string v) := HRb1.out.cell 2
           clear hb1)
        | (go_at_call 24; (with_reducible refine (CB.out _).mono ?_); rintro e w2 ⟨rfl, hb2⟩
           have HB2 := Lib.hid (HB1.out.trans (hb2.mono HB1.out.size))
           have HRa2 := Lib.hid (HRa1.out.below hb2 HRa1.out.lt)
           have HRb2 := Lib.hid (HRb1.out.below hb2 HRb1.out.lt)
           have a20 : w2.cell? ⟨w.heap.size, 0, none⟩ = some (.int .i64 3) := HRa2.out.cell 0
           have a21 : w2.cell? ⟨w.heap.size, 1, none⟩ = some (.string n) := HRa2.out.cell 1
           have a22 : w2.cell? ⟨w.heap.size, 2, none⟩ = some (.string v) := HRa2.out.cell 2
           have b20 : w2.cell? ⟨w.heap.size + 1, 0, none⟩ = some (.int .i64 4) := HRb2.out.cell 0
           have b21 : w2.cell? ⟨w.heap.size + 1, 1, none⟩ = some (.string n) := HRb2.out.cell 1
           have b22 : w2.cell? ⟨w.heap.size + 1, 2, none⟩ = some (.string v) := HRb2.out.cell 2
           clear hb2))
    all_goals
      go_wp2_with (first
        | (go_at_call 28; (with_reducible refine (mlives_true _).mono ?_); rintro e w6 ⟨rfl, hb6⟩
           have HB6 := Lib.hid (HB5.out.trans (hb6.mono HB5.out.size))
           have HRa6 := Lib.hid (HRa5.out.below hb6 HRa5.out.lt)
           have HRb6 := Lib.hid (HRb5.out.below hb6 HRb5.out.lt)
           have a60 : w6.cell? ⟨w.heap.size, 0, none⟩ = some (.int .i64 3) := HRa6.out.cell 0
           have a61 : w6.cell? ⟨w.heap.size, 1, none⟩ = some (.string n) := HRa6.out.cell 1
           have a62 : w6.cell? ⟨w.heap.size, 2, none⟩ = some (.string v) := HRa6.out.cell 2
           have b60 : w6.cell? ⟨w.heap.size + 1, 0, none⟩ = some (.int .i64 4) := HRb6.out.cell 0
           have b61 : w6.cell? ⟨w.heap.size + 1, 1, none⟩ = some (.string n) := HRb6.out.cell 1
           have b62 : w6.cell? ⟨w.heap.size + 1, 2, none⟩ = some (.string v) := HRb6.out.cell 2
           clear hb6)
        | (go_at_call 29; (with_reducible refine (FA.out _ (HA.out.below HB3.out)).mono ?_); rintro e w4 ⟨rfl, hb4⟩
           have HB4 := Lib.hid (HB3.out.trans (hb4.mono HB3.out.size))
           have HRa4 := Lib.hid (HRa3.out.below hb4 HRa3.out.lt)
           have HRb4 := Lib.hid (HRb3.out.below hb4 HRb3.out.lt)
           have a40 : w4.cell? ⟨w.heap.size, 0, none⟩ = some (.int .i64 3) := HRa4.out.cell 0
           have a41 : w4.cell? ⟨w.heap.size, 1, none⟩ = some (.string n) := HRa4.out.cell 1
           have a42 : w4.cell? ⟨w.heap.size, 2, none⟩ = some (.string v) := HRa4.out.cell 2
           have b40 : w4.cell? ⟨w.heap.size + 1, 0, none⟩ = some (.int .i64 4) := HRb4.out.cell 0
           have b41 : w4.cell? ⟨w.heap.size + 1, 1, none⟩ = some (.string n) := HRb4.out.cell 1
           have b42 : w4.cell? ⟨w.heap.size + 1, 2, none⟩ = some (.string v) := HRb4.out.cell 2
           clear hb4)
        | (go_at_call 29; (with_reducible refine (FB.out _ (HA.out.below HB4.out)).mono ?_); rintro e w5 ⟨rfl, hb5⟩
           have HB5 := Lib.hid (HB4.out.trans (hb5.mono HB4.out.size))
           have HRa5 := Lib.hid (HRa4.out.below hb5 HRa4.out.lt)
           have HRb5 := Lib.hid (HRb4.out.below hb5 HRb4.out.lt)
           have a50 : w5.cell? ⟨w.heap.size, 0, none⟩ = some (.int .i64 3) := HRa5.out.cell 0
           have a51 : w5.cell? ⟨w.heap.size, 1, none⟩ = some (.string n) := HRa5.out.cell 1
           have a52 : w5.cell? ⟨w.heap.size, 2, none⟩ = some (.string v) := HRa5.out.cell 2
           have b50 : w5.cell? ⟨w.heap.size + 1, 0, none⟩ = some (.int .i64 4) := HRb5.out.cell 0
           have b51 : w5.cell? ⟨w.heap.size + 1, 1, none⟩ = some (.string n) := HRb5.out.cell 1
           have b52 : w5.cell? ⟨w.heap.size + 1, 2, none⟩ = some (.string v) := HRb5.out.cell 2
           clear hb5)
        | (go_at_call 24; (with_reducible refine (CA.out _).mono ?_); rintro e w3 ⟨rfl, hb3⟩
           have HB3 := Lib.hid (HB2.out.trans (hb3.mono HB2.out.size))
           have HRa3 := Lib.hid (HRa2.out.below hb3 HRa2.out.lt)
           have HRb3 := Lib.hid (HRb2.out.below hb3 HRb2.out.lt)
           have a30 : w3.cell? ⟨w.heap.size, 0, none⟩ = some (.int .i64 3) := HRa3.out.cell 0
           have a31 : w3.cell? ⟨w.heap.size, 1, none⟩ = some (.string n) := HRa3.out.cell 1
           have a32 : w3.cell? ⟨w.heap.size, 2, none⟩ = some (.string v) := HRa3.out.cell 2
           have b30 : w3.cell? ⟨w.heap.size + 1, 0, none⟩ = some (.int .i64 4) := HRb3.out.cell 0
           have b31 : w3.cell? ⟨w.heap.size + 1, 1, none⟩ = some (.string n) := HRb3.out.cell 1
           have b32 : w3.cell? ⟨w.heap.size + 1, 2, none⟩ = some (.string v) := HRb3.out.cell 2
           clear hb3))
      go_ret
      exact ⟨rfl, HB6.out⟩
theorem matcherOpposites_walk (w : World) (n : ByteArray) (hn : n.size ≤ 140737488351232) (v : ByteArray) (hv : v.size ≤ 140737488351232) (p : Bool) (A : Option Addr) (l : List Lbl) (c : Nat) (hA : Lbls w A l) (hf : LFits l) (hr : l.length * 32 ≤ 140737488351232) (hlc : l.length ≤ c) :
    Calls Try.prog 13 #[.string n, .string v, .bool p, .slice A l.length c] w fun e w' => e = .returned (.bool true) ∧ Below w.heap.size w w' := by
  cases p
  · exact opp_eq w n v A l c hA (lbls_len hr) (opp_chk n v false).symm (opp_fits n v false l)
  · exact opp_re w n v A l c hA (lbls_len hr) (opp_chk n v true).symm (opp_fits n v true l)
end Go.Proofs.Ytjljfilflajogaa
