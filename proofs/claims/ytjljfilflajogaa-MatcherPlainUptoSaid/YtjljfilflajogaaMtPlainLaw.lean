/- MatcherPlain's walk, for values that are not too long for a row of the call's own. -/
import Derived.Test.YtjljfilflajogaaMtChkAll
import Derived.Test.YtjljfilflajogaaReQuote
import Derived.Deep.Cut
namespace Go.Proofs.Ytjljfilflajogaa
open Go.RowKit
set_option linter.unusedVariables false
set_option maxHeartbeats 4000000 in
theorem matcherPlain_walk (w : World) (n : ByteArray) (hn : n.size ≤ 1048576) (v : ByteArray) (hv : v.size ≤ 1048576) (A : Option Addr) (l : List Lbl) (c : Nat) (hA : Lbls w A l) (hf : LFits l) (hr : l.length * 32 ≤ 140737488351232) (hlc : l.length ≤ c) :
    Calls Try.prog 14 #[.string n, .string v, .slice A l.length c] w fun e w' => e = .returned (.bool true) ∧ Below w.heap.size w w' := by
  obtain ⟨q, hq⟩ : ∃ q : ByteArray, txt (quoteL (strL v)) = q := ⟨_, rfl⟩
  have hql : strL q = quoteL (strL v) := by rw [← hq, strL_txt]
  have HQ := Lib.hid (quote_prog v (w.alloc (.cells #[.int .i64 1, .string n, .string v] 39)) (by omega))
  rw [hq] at HQ
  have CA := Lib.hid (fun W => mchk_prog 1 n v W)
  have CB := Lib.hid (fun W => mchk_prog 3 n q W)
  have FA := Lib.hid (fun W (h : Lbls W A l) => mfits_prog 1 n v A l c W h (by omega))
  have FB := Lib.hid (fun W (h : Lbls W A l) => mfits_prog 3 n q A l c W h (by omega))
  have HA := Lib.hid hA
  clear hA
  by_cases h1 : mchk (1, n, v) = 0
  · by_cases h3 : mchk (3, n, q) = 0
    · have hf := plain_fits hql h1 h3 l
      rw [h1] at CA
      rw [h3] at CB
      rw [hf] at FB
      generalize mfits (1, n, v) l = x at FA FB
      clear hq hql h1 h3 hf
      cases x
      all_goals
        go_enter Try.func14, Try.ntmps14
        go_upto_region 3 with (first
          | (go_at_call 21; refine HQ.out.mono ?_; rintro e w1 ⟨rfl, hb1⟩
             have hbx : Below w.heap.size w w1 := below_then (below_one w _) hb1
             have hra : Row w1 w.heap.size 39 #[.int .i64 1, .string n, .string v] := (Row.new w _ _).below hb1 (by simp)
             have HB0 : Hid (Below w.heap.size w (w1.alloc (.cells #[.int .i64 3, .string n, .string q] 39))) := Lib.hid (hbx.alloc hbx.size _)
             have HRa0 : Hid (Row (w1.alloc (.cells #[.int .i64 3, .string n, .string q] 39)) w.heap.size 39 #[.int .i64 1, .string n, .string v]) := Lib.hid (hra.alloc _)
             have HRb0 : Hid (Row (w1.alloc (.cells #[.int .i64 3, .string n, .string q] 39)) w1.heap.size 39 #[.int .i64 3, .string n, .string q]) := Lib.hid (Row.new w1 _ _)
             clear hb1 hbx hra))
        generalize w1.alloc (.cells #[.int .i64 3, .string n, .string q] 39) = w2 at *
        obtain ⟨g, hg⟩ : ∃ g, w1.heap.size = g := ⟨_, rfl⟩
        rw [hg] at HRb0 ⊢
        have a00 := HRa0.out.cell 0
        have a01 := HRa0.out.cell 1
        have a02 := HRa0.out.cell 2
        have b00 := HRb0.out.cell 0
        have b01 := HRb0.out.cell 1
        have b02 := HRb0.out.cell 2
        clear hg
        go_upto_region 5 with (first
          | (go_at_call 24; (with_reducible refine (CA.out _).mono ?_); rintro e w1 ⟨rfl, hb1⟩
             have HB1 := Lib.hid (HB0.out.trans (hb1.mono HB0.out.size))
             have HRa1 := Lib.hid (HRa0.out.below hb1 HRa0.out.lt)
             have HRb1 := Lib.hid (HRb0.out.below hb1 HRb0.out.lt)
             have a10 : w1.cell? ⟨w.heap.size, 0, none⟩ = some (.int .i64 1) := HRa1.out.cell 0
             have a11 : w1.cell? ⟨w.heap.size, 1, none⟩ = some (.string n) := HRa1.out.cell 1
             have a12 : w1.cell? ⟨w.heap.size, 2, none⟩ = some (.string v) := HRa1.out.cell 2
             have b10 : w1.cell? ⟨g, 0, none⟩ = some (.int .i64 3) := HRb1.out.cell 0
             have b11 : w1.cell? ⟨g, 1, none⟩ = some (.string n) := HRb1.out.cell 1
             have b12 : w1.cell? ⟨g, 2, none⟩ = some (.string q) := HRb1.out.cell 2
             clear hb1)
          | (go_at_call 24; (with_reducible refine (CB.out _).mono ?_); rintro e w3 ⟨rfl, hb3⟩
             have HB3 := Lib.hid (HB1.out.trans (hb3.mono HB1.out.size))
             have HRa3 := Lib.hid (HRa1.out.below hb3 HRa1.out.lt)
             have HRb3 := Lib.hid (HRb1.out.below hb3 HRb1.out.lt)
             have a30 : w3.cell? ⟨w.heap.size, 0, none⟩ = some (.int .i64 1) := HRa3.out.cell 0
             have a31 : w3.cell? ⟨w.heap.size, 1, none⟩ = some (.string n) := HRa3.out.cell 1
             have a32 : w3.cell? ⟨w.heap.size, 2, none⟩ = some (.string v) := HRa3.out.cell 2
             have b30 : w3.cell? ⟨g, 0, none⟩ = some (.int .i64 3) := HRb3.out.cell 0
             have b31 : w3.cell? ⟨g, 1, none⟩ = some (.string n) := HRb3.out.cell 1
             have b32 : w3.cell? ⟨g, 2, none⟩ = some (.string q) := HRb3.out.cell 2
             clear hb3))
        have HB4 : Hid (Below w.heap.size w w3.drew) := Lib.hid HB3.out.drew
        have HRa4 : Hid (Row w3.drew w.heap.size 39 #[.int .i64 1, .string n, .string v]) := Lib.hid HRa3.out
        have HRb4 : Hid (Row w3.drew g 39 #[.int .i64 3, .string n, .string q]) := Lib.hid HRb3.out
        have c00 := HRa4.out.cell 0
        have c01 := HRa4.out.cell 1
        have c02 := HRa4.out.cell 2
        have d00 := HRb4.out.cell 0
        have d01 := HRb4.out.cell 1
        have d02 := HRb4.out.cell 2
        go_region_held3 (fun w' => (w'.cell? ⟨w.heap.size, 0, none⟩ = some (.int .i64 1) ∧ w'.cell? ⟨w.heap.size, 1, none⟩ = some (.string n) ∧ w'.cell? ⟨w.heap.size, 2, none⟩ = some (.string v)) ∧ (w'.cell? ⟨g, 0, none⟩ = some (.int .i64 3) ∧ w'.cell? ⟨g, 1, none⟩ = some (.string n) ∧ w'.cell? ⟨g, 2, none⟩ = some (.string q))) (go_keep)
          (first
            | (go_at_call 28; (with_reducible refine (mlives_true _).mono ?_); rintro e w7 ⟨rfl, hb7⟩
               have HB7 := Lib.hid (HB6.out.trans (hb7.mono HB6.out.size))
               have HRa7 := Lib.hid (HRa6.out.below hb7 HRa6.out.lt)
               have HRb7 := Lib.hid (HRb6.out.below hb7 HRb6.out.lt)
               have a70 : w7.cell? ⟨w.heap.size, 0, none⟩ = some (.int .i64 1) := HRa7.out.cell 0
               have a71 : w7.cell? ⟨w.heap.size, 1, none⟩ = some (.string n) := HRa7.out.cell 1
               have a72 : w7.cell? ⟨w.heap.size, 2, none⟩ = some (.string v) := HRa7.out.cell 2
               have b70 : w7.cell? ⟨g, 0, none⟩ = some (.int .i64 3) := HRb7.out.cell 0
               have b71 : w7.cell? ⟨g, 1, none⟩ = some (.string n) := HRb7.out.cell 1
               have b72 : w7.cell? ⟨g, 2, none⟩ = some (.string q) := HRb7.out.cell 2
               clear hb7)
            | (go_at_call 29; (with_reducible refine (FA.out _ (HA.out.below HB4.out)).mono ?_); rintro e w5 ⟨rfl, hb5⟩
               have HB5 := Lib.hid (HB4.out.trans (hb5.mono HB4.out.size))
               have HRa5 := Lib.hid (HRa4.out.below hb5 HRa4.out.lt)
               have HRb5 := Lib.hid (HRb4.out.below hb5 HRb4.out.lt)
               have a50 : w5.cell? ⟨w.heap.size, 0, none⟩ = some (.int .i64 1) := HRa5.out.cell 0
               have a51 : w5.cell? ⟨w.heap.size, 1, none⟩ = some (.string n) := HRa5.out.cell 1
               have a52 : w5.cell? ⟨w.heap.size, 2, none⟩ = some (.string v) := HRa5.out.cell 2
               have b50 : w5.cell? ⟨g, 0, none⟩ = some (.int .i64 3) := HRb5.out.cell 0
               have b51 : w5.cell? ⟨g, 1, none⟩ = some (.string n) := HRb5.out.cell 1
               have b52 : w5.cell? ⟨g, 2, none⟩ = some (.string q) := HRb5.out.cell 2
               clear hb5)
            | (go_at_call 29; (with_reducible refine (FB.out _ (HA.out.below HB5.out)).mono ?_); rintro e w6 ⟨rfl, hb6⟩
               have HB6 := Lib.hid (HB5.out.trans (hb6.mono HB5.out.size))
               have HRa6 := Lib.hid (HRa5.out.below hb6 HRa5.out.lt)
               have HRb6 := Lib.hid (HRb5.out.below hb6 HRb5.out.lt)
               have a60 : w6.cell? ⟨w.heap.size, 0, none⟩ = some (.int .i64 1) := HRa6.out.cell 0
               have a61 : w6.cell? ⟨w.heap.size, 1, none⟩ = some (.string n) := HRa6.out.cell 1
               have a62 : w6.cell? ⟨w.heap.size, 2, none⟩ = some (.string v) := HRa6.out.cell 2
               have b60 : w6.cell? ⟨g, 0, none⟩ = some (.int .i64 3) := HRb6.out.cell 0
               have b61 : w6.cell? ⟨g, 1, none⟩ = some (.string n) := HRb6.out.cell 1
               have b62 : w6.cell? ⟨g, 2, none⟩ = some (.string q) := HRb6.out.cell 2
               clear hb6))
        all_goals
          go_wp2_with fail
          go_ret
          exact ⟨rfl, HB7.out⟩
    · rw [h1] at CA
      generalize mchk (3, n, q) = ck at CB h3
      have z0 : (ck == 0) = false := beq_eq_false_iff_ne.2 h3
      have z1 : (ck != 0) = true := by rw [bne, z0]; rfl
      clear hq hql h1 h3
      go_enter Try.func14, Try.ntmps14
      go_upto_region 3 with (first
        | (go_at_call 21; refine HQ.out.mono ?_; rintro e w1 ⟨rfl, hb1⟩
           have hbx : Below w.heap.size w w1 := below_then (below_one w _) hb1
           have hra : Row w1 w.heap.size 39 #[.int .i64 1, .string n, .string v] := (Row.new w _ _).below hb1 (by simp)
           have HB0 : Hid (Below w.heap.size w (w1.alloc (.cells #[.int .i64 3, .string n, .string q] 39))) := Lib.hid (hbx.alloc hbx.size _)
           have HRa0 : Hid (Row (w1.alloc (.cells #[.int .i64 3, .string n, .string q] 39)) w.heap.size 39 #[.int .i64 1, .string n, .string v]) := Lib.hid (hra.alloc _)
           have HRb0 : Hid (Row (w1.alloc (.cells #[.int .i64 3, .string n, .string q] 39)) w1.heap.size 39 #[.int .i64 3, .string n, .string q]) := Lib.hid (Row.new w1 _ _)
           clear hb1 hbx hra))
      generalize w1.alloc (.cells #[.int .i64 3, .string n, .string q] 39) = w2 at *
      obtain ⟨g, hg⟩ : ∃ g, w1.heap.size = g := ⟨_, rfl⟩
      rw [hg] at HRb0 ⊢
      have a00 := HRa0.out.cell 0
      have a01 := HRa0.out.cell 1
      have a02 := HRa0.out.cell 2
      have b00 := HRb0.out.cell 0
      have b01 := HRb0.out.cell 1
      have b02 := HRb0.out.cell 2
      clear hg
      go_wp2_with (first
        | (go_at_call 28; (with_reducible refine (mlives_true _).mono ?_); rintro e w4 ⟨rfl, hb4⟩
           have HB4 := Lib.hid (HB3.out.trans (hb4.mono HB3.out.size))
           have HRa4 := Lib.hid (HRa3.out.below hb4 HRa3.out.lt)
           have HRb4 := Lib.hid (HRb3.out.below hb4 HRb3.out.lt)
           have a40 : w4.cell? ⟨w.heap.size, 0, none⟩ = some (.int .i64 1) := HRa4.out.cell 0
           have a41 : w4.cell? ⟨w.heap.size, 1, none⟩ = some (.string n) := HRa4.out.cell 1
           have a42 : w4.cell? ⟨w.heap.size, 2, none⟩ = some (.string v) := HRa4.out.cell 2
           have b40 : w4.cell? ⟨g, 0, none⟩ = some (.int .i64 3) := HRb4.out.cell 0
           have b41 : w4.cell? ⟨g, 1, none⟩ = some (.string n) := HRb4.out.cell 1
           have b42 : w4.cell? ⟨g, 2, none⟩ = some (.string q) := HRb4.out.cell 2
           clear hb4)
        | (go_at_call 24; (with_reducible refine (CA.out _).mono ?_); rintro e w1 ⟨rfl, hb1⟩
           have HB1 := Lib.hid (HB0.out.trans (hb1.mono HB0.out.size))
           have HRa1 := Lib.hid (HRa0.out.below hb1 HRa0.out.lt)
           have HRb1 := Lib.hid (HRb0.out.below hb1 HRb0.out.lt)
           have a10 : w1.cell? ⟨w.heap.size, 0, none⟩ = some (.int .i64 1) := HRa1.out.cell 0
           have a11 : w1.cell? ⟨w.heap.size, 1, none⟩ = some (.string n) := HRa1.out.cell 1
           have a12 : w1.cell? ⟨w.heap.size, 2, none⟩ = some (.string v) := HRa1.out.cell 2
           have b10 : w1.cell? ⟨g, 0, none⟩ = some (.int .i64 3) := HRb1.out.cell 0
           have b11 : w1.cell? ⟨g, 1, none⟩ = some (.string n) := HRb1.out.cell 1
           have b12 : w1.cell? ⟨g, 2, none⟩ = some (.string q) := HRb1.out.cell 2
           clear hb1)
        | (go_at_call 24; (with_reducible refine (CB.out _).mono ?_); rintro e w3 ⟨rfl, hb3⟩
           have HB3 := Lib.hid (HB1.out.trans (hb3.mono HB1.out.size))
           have HRa3 := Lib.hid (HRa1.out.below hb3 HRa1.out.lt)
           have HRb3 := Lib.hid (HRb1.out.below hb3 HRb1.out.lt)
           have a30 : w3.cell? ⟨w.heap.size, 0, none⟩ = some (.int .i64 1) := HRa3.out.cell 0
           have a31 : w3.cell? ⟨w.heap.size, 1, none⟩ = some (.string n) := HRa3.out.cell 1
           have a32 : w3.cell? ⟨w.heap.size, 2, none⟩ = some (.string v) := HRa3.out.cell 2
           have b30 : w3.cell? ⟨g, 0, none⟩ = some (.int .i64 3) := HRb3.out.cell 0
           have b31 : w3.cell? ⟨g, 1, none⟩ = some (.string n) := HRb3.out.cell 1
           have b32 : w3.cell? ⟨g, 2, none⟩ = some (.string q) := HRb3.out.cell 2
           clear hb3))
      go_ret
      exact ⟨rfl, HB4.out⟩
  · generalize mchk (1, n, v) = ck at CA h1
    have z0 : (ck == 0) = false := beq_eq_false_iff_ne.2 h1
    have z1 : (ck != 0) = true := by rw [bne, z0]; rfl
    clear hq hql h1
    go_enter Try.func14, Try.ntmps14
    go_upto_region 3 with (first
      | (go_at_call 21; refine HQ.out.mono ?_; rintro e w1 ⟨rfl, hb1⟩
         have hbx : Below w.heap.size w w1 := below_then (below_one w _) hb1
         have hra : Row w1 w.heap.size 39 #[.int .i64 1, .string n, .string v] := (Row.new w _ _).below hb1 (by simp)
         have HB0 : Hid (Below w.heap.size w (w1.alloc (.cells #[.int .i64 3, .string n, .string q] 39))) := Lib.hid (hbx.alloc hbx.size _)
         have HRa0 : Hid (Row (w1.alloc (.cells #[.int .i64 3, .string n, .string q] 39)) w.heap.size 39 #[.int .i64 1, .string n, .string v]) := Lib.hid (hra.alloc _)
         have HRb0 : Hid (Row (w1.alloc (.cells #[.int .i64 3, .string n, .string q] 39)) w1.heap.size 39 #[.int .i64 3, .string n, .string q]) := Lib.hid (Row.new w1 _ _)
         clear hb1 hbx hra))
    generalize w1.alloc (.cells #[.int .i64 3, .string n, .string q] 39) = w2 at *
    obtain ⟨g, hg⟩ : ∃ g, w1.heap.size = g := ⟨_, rfl⟩
    rw [hg] at HRb0 ⊢
    have a00 := HRa0.out.cell 0
    have a01 := HRa0.out.cell 1
    have a02 := HRa0.out.cell 2
    have b00 := HRb0.out.cell 0
    have b01 := HRb0.out.cell 1
    have b02 := HRb0.out.cell 2
    clear hg
    go_wp2_with (first
      | (go_at_call 28; (with_reducible refine (mlives_true _).mono ?_); rintro e w3 ⟨rfl, hb3⟩
         have HB3 := Lib.hid (HB1.out.trans (hb3.mono HB1.out.size))
         have HRa3 := Lib.hid (HRa1.out.below hb3 HRa1.out.lt)
         have HRb3 := Lib.hid (HRb1.out.below hb3 HRb1.out.lt)
         have a30 : w3.cell? ⟨w.heap.size, 0, none⟩ = some (.int .i64 1) := HRa3.out.cell 0
         have a31 : w3.cell? ⟨w.heap.size, 1, none⟩ = some (.string n) := HRa3.out.cell 1
         have a32 : w3.cell? ⟨w.heap.size, 2, none⟩ = some (.string v) := HRa3.out.cell 2
         have b30 : w3.cell? ⟨g, 0, none⟩ = some (.int .i64 3) := HRb3.out.cell 0
         have b31 : w3.cell? ⟨g, 1, none⟩ = some (.string n) := HRb3.out.cell 1
         have b32 : w3.cell? ⟨g, 2, none⟩ = some (.string q) := HRb3.out.cell 2
         clear hb3)
      | (go_at_call 24; (with_reducible refine (CA.out _).mono ?_); rintro e w1 ⟨rfl, hb1⟩
         have HB1 := Lib.hid (HB0.out.trans (hb1.mono HB0.out.size))
         have HRa1 := Lib.hid (HRa0.out.below hb1 HRa0.out.lt)
         have HRb1 := Lib.hid (HRb0.out.below hb1 HRb0.out.lt)
         have a10 : w1.cell? ⟨w.heap.size, 0, none⟩ = some (.int .i64 1) := HRa1.out.cell 0
         have a11 : w1.cell? ⟨w.heap.size, 1, none⟩ = some (.string n) := HRa1.out.cell 1
         have a12 : w1.cell? ⟨w.heap.size, 2, none⟩ = some (.string v) := HRa1.out.cell 2
         have b10 : w1.cell? ⟨g, 0, none⟩ = some (.int .i64 3) := HRb1.out.cell 0
         have b11 : w1.cell? ⟨g, 1, none⟩ = some (.string n) := HRb1.out.cell 1
         have b12 : w1.cell? ⟨g, 2, none⟩ = some (.string q) := HRb1.out.cell 2
         clear hb1))
    go_ret
    exact ⟨rfl, HB3.out⟩
end Go.Proofs.Ytjljfilflajogaa
