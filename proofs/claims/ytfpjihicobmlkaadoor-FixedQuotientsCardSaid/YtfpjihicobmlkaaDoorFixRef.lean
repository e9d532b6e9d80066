/- Layer 3: Mul, Div, Mod and Scale of the document's own answer. -/
import Derived.Test.YtfpjihicobmlkaaDoorFixMul
import Derived.Test.YtfpjihicobmlkaaDoorFixProd
namespace Go.Proofs.YtfpjihicobmlkaaDoor
open Go.RowKit
set_option linter.unusedVariables false

theorem size_ref (n : Int) (h : -1152921504606846976 ≤ n ∧ n ≤ 1152921504606846976) (w : World) :
    Calls Tryd.prog 34 #[.int .i64 n] w fun e w' => e = .returned (.int .i64 (n.natAbs : Int)) ∧ w = w' := by
  have hm : max n (-n) = (n.natAbs : Int) := by omega
  have hm2 : (if n < -n then -n else n) = (n.natAbs : Int) := by split <;> omega
  go_enter Tryd.func34, Tryd.ntmps34
  go_wp2
  go_ret
  exact ⟨by first | rfl | (congr 2), rfl⟩

theorem tell_ok {b : Bool} {s : Nat} (h : s ≤ 1152921504606846976) : tellV b s = (if b then -(s : Int) else (s : Int)) ∧ tellE s = 0 := by
  unfold tellV tellE
  simp only [if_pos h]
  exact ⟨trivial, trivial⟩
theorem tell_over {b : Bool} {s : Nat} (h : ¬ s ≤ 1152921504606846976) : tellV b s = 0 ∧ tellE s = 11 := by
  unfold tellV tellE
  simp only [if_neg h]
  exact ⟨trivial, trivial⟩

theorem signed_ref (g c b : Nat) (l : List Nat) (minus : Bool) (w : World) (hw : Row w g 3 (icells l)) (hl : l.length = 9) (hd : ∀ j, l.getD j 0 < 1048576) (hb : 0 < b) (hbb : b ≤ 1152921504606846976) :
    Calls Tryd.prog 32 #[.slice (some ⟨g, 0, none⟩) 9 c, .int .i64 (b : Int), .bool minus] w fun e w' => e = .returned (.tuple #[.int .i64 (tellV minus (val l / b)), .int .i64 (tellE (val l / b))]) ∧ w = w' := by
  have HB := by_ref g c b l w hw hl hd hb hbb
  clear hw hd
  generalize val l = N at *
  by_cases h : N / b ≤ 1152921504606846976
  · have HB' : Calls Tryd.prog 46 #[.slice (some ⟨g, 0, none⟩) 9 c, .int .i64 (b : Int)] w fun e w' => e = .returned (.tuple #[.int .i64 ((N / b : Nat) : Int), .bool true]) ∧ w = w' :=
      HB.mono fun e w' ⟨q, ok, h1, h2, h3, h4⟩ => by
        rw [decide_eq_true h] at h2
        subst h2
        exact ⟨by rw [h1, h3 rfl], h4⟩
    obtain ⟨e1, e2⟩ := tell_ok (b := minus) h
    rw [e1, e2]
    clear HB e1 e2
    generalize N / b = q at *
    cases minus
    · go_enter Tryd.func32, Tryd.ntmps32
      go_wp2_with fail
      refine HB'.mono ?_
      rintro e w1 ⟨rfl, rfl⟩
      go_wp2
      go_ret2
      exact ⟨rfl, rfl⟩
    · go_enter Tryd.func32, Tryd.ntmps32
      go_wp2_with fail
      refine HB'.mono ?_
      rintro e w1 ⟨rfl, rfl⟩
      go_wp2
      go_ret2
      exact ⟨rfl, rfl⟩
  · have HB' : Calls Tryd.prog 46 #[.slice (some ⟨g, 0, none⟩) 9 c, .int .i64 (b : Int)] w fun e w' => ∃ q : Int, e = .returned (.tuple #[.int .i64 q, .bool false]) ∧ w = w' :=
      HB.mono fun e w' ⟨q, ok, h1, h2, h3, h4⟩ => by
        rw [decide_eq_false h] at h2
        subst h2
        exact ⟨q, h1, h4⟩
    obtain ⟨e1, e2⟩ := tell_over (b := minus) h
    rw [e1, e2]
    clear HB e1 e2 h
    go_enter Tryd.func32, Tryd.ntmps32
    go_wp2_with fail
    refine HB'.mono ?_
    rintro e w1 ⟨q, rfl, rfl⟩
    go_wp2
    go_ret2
    exact ⟨rfl, rfl⟩

theorem mul_ref (a b : Int) (w : World) :
    Calls Tryd.prog 20 #[.int .i64 a, .int .i64 b] w fun e w' => e = .returned (.tuple #[.int .i64 (mulV a b), .int .i64 (mulE a b)]) ∧ Below w.heap.size w w' := by
  have HA := fits_ref a w
  have HB := fits_ref b w
  cases ha : fitsB a
  · obtain ⟨h1, h2⟩ := mul_bad (a := a) (b := b) (by simp [ha])
    rw [h1, h2]
    rw [ha] at HA
    clear h1 h2 ha
    go_enter Tryd.func20, Tryd.ntmps20
    go_wp2_with fail
    refine HA.mono ?_
    rintro e w1 ⟨rfl, rfl⟩
    go_wp2
    go_ret2
    exact ⟨rfl, Below.refl _ _⟩
  · cases hb : fitsB b
    · obtain ⟨h1, h2⟩ := mul_bad (a := a) (b := b) (by simp [hb])
      rw [h1, h2]
      rw [ha] at HA
      rw [hb] at HB
      clear h1 h2 ha hb
      go_enter Tryd.func20, Tryd.ntmps20
      go_wp2_with fail
      refine HA.mono ?_
      rintro e w1 ⟨rfl, rfl⟩
      go_wp2_with fail
      refine HB.mono ?_
      rintro e w1 ⟨rfl, rfl⟩
      go_wp2
      go_ret2
      exact ⟨rfl, Below.refl _ _⟩
    · obtain ⟨h1, h2⟩ := mul_ok ha hb
      rw [h1, h2]
      have k1 := fits_of ha
      have k2 := fits_of hb
      have HP := product_ref a.natAbs b.natAbs (by omega) (by omega) w
      rw [ha] at HA
      rw [hb] at HB
      have hS : quoS a b 1000000 = !(decide (a < 0) == decide (b < 0)) := by unfold quoS; simp [bne]
      rw [hS]
      unfold quoN
      rw [show (1000000 : Int).natAbs = 1000000 from rfl]
      clear h1 h2 ha hb hS
      go_enter Tryd.func20, Tryd.ntmps20
      go_wp2_with fail
      refine HA.mono ?_
      rintro e w1 ⟨rfl, rfl⟩
      go_wp2_with fail
      refine HB.mono ?_
      rintro e w1 ⟨rfl, rfl⟩
      go_wp2_with fail
      refine (size_ref a k1 w).mono ?_
      rintro e w1 ⟨rfl, rfl⟩
      go_wp2_with fail
      refine (size_ref b k2 w).mono ?_
      rintro e w1 ⟨rfl, rfl⟩
      go_wp2_with fail
      refine HP.mono ?_
      rintro e w1 ⟨l, g, rfl, hr, hl, hd, hv, hbl⟩
      have HS := fun m => signed_ref g 9 1000000 l m w1 hr hl hd (by omega) (by omega)
      rw [hv] at HS
      clear hv hd hr hl
      go_wp2_with fail
      refine (HS _).mono ?_
      rintro e w1 ⟨rfl, rfl⟩
      go_wp2
      go_ret2
      exact ⟨rfl, hbl⟩

theorem div_ref (a b : Int) (w : World) :
    Calls Tryd.prog 22 #[.int .i64 a, .int .i64 b] w fun e w' => e = .returned (.tuple #[.int .i64 (divV a b), .int .i64 (divE a b)]) ∧ Below w.heap.size w w' := by
  have HA := fits_ref a w
  have HB := fits_ref b w
  cases ha : fitsB a
  · obtain ⟨h1, h2, _, _⟩ := div_bad (a := a) (b := b) (by simp [ha])
    rw [h1, h2]
    rw [ha] at HA
    clear h1 h2 ha
    go_enter Tryd.func22, Tryd.ntmps22
    go_wp2_with fail
    refine HA.mono ?_
    rintro e w1 ⟨rfl, rfl⟩
    go_wp2
    go_ret2
    exact ⟨rfl, Below.refl _ _⟩
  · cases hb : fitsB b
    · obtain ⟨h1, h2, _, _⟩ := div_bad (a := a) (b := b) (by simp [hb])
      rw [h1, h2]
      rw [ha] at HA
      rw [hb] at HB
      clear h1 h2 ha hb
      go_enter Tryd.func22, Tryd.ntmps22
      go_wp2_with fail
      refine HA.mono ?_
      rintro e w1 ⟨rfl, rfl⟩
      go_wp2_with fail
      refine HB.mono ?_
      rintro e w1 ⟨rfl, rfl⟩
      go_wp2
      go_ret2
      exact ⟨rfl, Below.refl _ _⟩
    · by_cases h0 : b = 0
      · have q : (b == 0) = true := by simp [h0]
        have h3 : divV a b = 0 ∧ divE a b = 12 := by subst h0; exact ⟨(div_nought ha).1, (div_nought ha).2.1⟩
        rw [h3.1, h3.2]
        rw [ha] at HA
        rw [hb] at HB
        clear ha hb h3 h0
        go_enter Tryd.func22, Tryd.ntmps22
        go_wp2_with fail
        refine HA.mono ?_
        rintro e w1 ⟨rfl, rfl⟩
        go_wp2_with fail
        refine HB.mono ?_
        rintro e w1 ⟨rfl, rfl⟩
        go_wp2
        go_ret2
        exact ⟨rfl, Below.refl _ _⟩
      · have q : (b == 0) = false := by simp [h0]
        obtain ⟨h1, h2, _, _⟩ := div_ok ha hb h0
        rw [h1, h2]
        have k1 := fits_of ha
        have k2 := fits_of hb
        have HP := product_ref a.natAbs 1000000 (by omega) (by omega) w
        rw [ha] at HA
        rw [hb] at HB
        have hS : quoS a 1000000 b = !(decide (a < 0) == decide (b < 0)) := by unfold quoS; simp [bne]
        rw [hS]
        unfold quoN
        rw [show (1000000 : Int).natAbs = 1000000 from rfl]
        clear h1 h2 ha hb hS
        go_enter Tryd.func22, Tryd.ntmps22
        go_wp2_with fail
        refine HA.mono ?_
        rintro e w1 ⟨rfl, rfl⟩
        go_wp2_with fail
        refine HB.mono ?_
        rintro e w1 ⟨rfl, rfl⟩
        go_wp2_with fail
        refine (size_ref a k1 w).mono ?_
        rintro e w1 ⟨rfl, rfl⟩
        go_wp2_with fail
        refine HP.mono ?_
        rintro e w1 ⟨l, g, rfl, hr, hl, hd, hv, hbl⟩
        have HS := fun m => signed_ref g 9 b.natAbs l m w1 hr hl hd (by omega) (by omega)
        rw [hv] at HS
        clear hv hd hr hl
        go_wp2_with fail
        refine (size_ref b k2 w1).mono ?_
        rintro e w1 ⟨rfl, rfl⟩
        go_wp2_with fail
        refine (HS _).mono ?_
        rintro e w1 ⟨rfl, rfl⟩
        go_wp2
        go_ret2
        exact ⟨rfl, hbl⟩

theorem mod_ref (a b : Int) (w : World) :
    Calls Tryd.prog 24 #[.int .i64 a, .int .i64 b] w fun e w' => e = .returned (.tuple #[.int .i64 (modV a b), .int .i64 (modE a b)]) ∧ w = w' := by
  have HA := fits_ref a w
  have HB := fits_ref b w
  cases ha : fitsB a
  · obtain ⟨_, _, h1, h2⟩ := div_bad (a := a) (b := b) (by simp [ha])
    rw [h1, h2]
    rw [ha] at HA
    clear h1 h2 ha
    go_enter Tryd.func24, Tryd.ntmps24
    go_wp2_with fail
    refine HA.mono ?_
    rintro e w1 ⟨rfl, rfl⟩
    go_wp2
    go_ret2
    exact ⟨rfl, rfl⟩
  · cases hb : fitsB b
    · obtain ⟨_, _, h1, h2⟩ := div_bad (a := a) (b := b) (by simp [hb])
      rw [h1, h2]
      rw [ha] at HA
      rw [hb] at HB
      clear h1 h2 ha hb
      go_enter Tryd.func24, Tryd.ntmps24
      go_wp2_with fail
      refine HA.mono ?_
      rintro e w1 ⟨rfl, rfl⟩
      go_wp2_with fail
      refine HB.mono ?_
      rintro e w1 ⟨rfl, rfl⟩
      go_wp2
      go_ret2
      exact ⟨rfl, rfl⟩
    · by_cases h0 : b = 0
      · have q : (b == 0) = true := by simp [h0]
        have h3 : modV a b = 0 ∧ modE a b = 12 := by subst h0; exact ⟨(div_nought ha).2.2.1, (div_nought ha).2.2.2⟩
        rw [h3.1, h3.2]
        rw [ha] at HA
        rw [hb] at HB
        clear ha hb h3 h0
        go_enter Tryd.func24, Tryd.ntmps24
        go_wp2_with fail
        refine HA.mono ?_
        rintro e w1 ⟨rfl, rfl⟩
        go_wp2_with fail
        refine HB.mono ?_
        rintro e w1 ⟨rfl, rfl⟩
        go_wp2
        go_ret2
        exact ⟨rfl, rfl⟩
      · have q : (b == 0) = false := by simp [h0]
        obtain ⟨_, _, h1, h2⟩ := div_ok ha hb h0
        rw [h1, h2]
        have k1 := fits_of ha
        have k2 := fits_of hb
        rw [ha] at HA
        rw [hb] at HB
        have e1 : a.tdiv b * b + a.tmod b = a := by rw [Int.mul_comm]; exact Int.mul_tdiv_add_tmod a b
        have e2 : (a.tdiv b).natAbs ≤ a.natAbs := Int.natAbs_tdiv_le_natAbs a b
        have e3 : (a.tmod b).natAbs ≤ a.natAbs := by
          rw [Int.natAbs_tmod]
          exact Nat.mod_le _ _
        have r1 : wrap64 (a.tdiv b) = a.tdiv b := by unfold wrap64; omega
        have r2 : a.tdiv b * b = a - a.tmod b := by omega
        have HM := Lib.hid e1
        have R1 := Lib.hid r1
        have R2 := Lib.hid r2
        clear h1 h2 ha hb e1 r1 r2
        go_enter Tryd.func24, Tryd.ntmps24
        go_wp2_with fail
        refine HA.mono ?_
        rintro e w1 ⟨rfl, rfl⟩
        go_wp2_with fail
        refine HB.mono ?_
        rintro e w1 ⟨rfl, rfl⟩
        go_wp2_with fail
        go_ret2
        refine ⟨ret_ints ?_, rfl⟩
        (first | rw [R1.out, R2.out] | rw [R2.out])
        clear R1 R2 HM e2
        generalize a.tmod b = m at *
        unfold wrap64
        omega

theorem scale_ref (a t b : Int) (w : World) :
    Calls Tryd.prog 26 #[.int .i64 a, .int .i64 t, .int .i64 b] w fun e w' => e = .returned (.tuple #[.int .i64 (scaleV a t b), .int .i64 (scaleE a t b)]) ∧ Below w.heap.size w w' := by
  have HA := fits_ref a w
  have HT := fits_ref t w
  cases ha : fitsB a
  · obtain ⟨h1, h2⟩ := scale_bad (a := a) (t := t) (b := b) (by simp [goodB, ha])
    rw [h1, h2]
    rw [ha] at HA
    clear h1 h2 ha
    go_enter Tryd.func26, Tryd.ntmps26
    go_wp2_with fail
    refine HA.mono ?_
    rintro e w1 ⟨rfl, rfl⟩
    go_wp2
    go_ret2
    exact ⟨rfl, Below.refl _ _⟩
  · cases ht : fitsB t
    · obtain ⟨h1, h2⟩ := scale_bad (a := a) (t := t) (b := b) (by simp [goodB, ht])
      rw [h1, h2]
      rw [ha] at HA
      rw [ht] at HT
      clear h1 h2 ha ht
      go_enter Tryd.func26, Tryd.ntmps26
      go_wp2_with fail
      refine HA.mono ?_
      rintro e w1 ⟨rfl, rfl⟩
      go_wp2_with fail
      refine HT.mono ?_
      rintro e w1 ⟨rfl, rfl⟩
      go_wp2
      go_ret2
      exact ⟨rfl, Below.refl _ _⟩
    · by_cases h1b : 1 ≤ b
      · by_cases h2b : b ≤ 1152921504606846976
        · have hb : fitsB b = true := fits_mk (by omega) h2b
          obtain ⟨h1, h2⟩ := scale_ok (a := a) (t := t) (b := b) (by simp [goodB, ha, ht, hb, h1b])
          rw [h1, h2]
          have k1 := fits_of ha
          have k2 := fits_of ht
          have HP := product_ref a.natAbs t.natAbs (by omega) (by omega) w
          rw [ha] at HA
          rw [ht] at HT
          obtain ⟨n, rfl⟩ : ∃ n : Nat, b = (n : Int) := ⟨b.toNat, by omega⟩
          have hS : quoS a t (n : Int) = !(decide (a < 0) == decide (t < 0)) := by
            unfold quoS
            rw [show decide ((n : Int) < 0) = false from decide_eq_false (by omega)]
            simp [bne]
          rw [hS]
          unfold quoN
          rw [Int.natAbs_natCast]
          clear h1 h2 ha ht hb hS
          go_enter Tryd.func26, Tryd.ntmps26
          go_wp2_with fail
          refine HA.mono ?_
          rintro e w1 ⟨rfl, rfl⟩
          go_wp2_with fail
          refine HT.mono ?_
          rintro e w1 ⟨rfl, rfl⟩
          go_wp2_with fail
          refine (size_ref a k1 w).mono ?_
          rintro e w1 ⟨rfl, rfl⟩
          go_wp2_with fail
          refine (size_ref t k2 w).mono ?_
          rintro e w1 ⟨rfl, rfl⟩
          go_wp2_with fail
          refine HP.mono ?_
          rintro e w1 ⟨l, g, rfl, hr, hl, hd, hv, hbl⟩
          have HS := fun m => signed_ref g 9 n l m w1 hr hl hd (by omega) (by omega)
          rw [hv] at HS
          clear hv hd hr hl
          go_wp2_with fail
          refine (HS _).mono ?_
          rintro e w1 ⟨rfl, rfl⟩
          go_wp2
          go_ret2
          exact ⟨rfl, hbl⟩
        · obtain ⟨h1, h2⟩ := scale_bad (a := a) (t := t) (b := b) (by have : fitsB b = false := fits_no (by omega); simp [goodB, this])
          rw [h1, h2]
          rw [ha] at HA
          rw [ht] at HT
          clear h1 h2 ha ht
          go_enter Tryd.func26, Tryd.ntmps26
          go_wp2_with fail
          refine HA.mono ?_
          rintro e w1 ⟨rfl, rfl⟩
          go_wp2_with fail
          refine HT.mono ?_
          rintro e w1 ⟨rfl, rfl⟩
          go_wp2
          go_ret2
          exact ⟨rfl, Below.refl _ _⟩
      · obtain ⟨h1, h2⟩ := scale_bad (a := a) (t := t) (b := b) (by simp [goodB, h1b])
        rw [h1, h2]
        rw [ha] at HA
        rw [ht] at HT
        clear h1 h2 ha ht
        go_enter Tryd.func26, Tryd.ntmps26
        go_wp2_with fail
        refine HA.mono ?_
        rintro e w1 ⟨rfl, rfl⟩
        go_wp2_with fail
        refine HT.mono ?_
        rintro e w1 ⟨rfl, rfl⟩
        go_wp2
        go_ret2
        exact ⟨rfl, Below.refl _ _⟩
end Go.Proofs.YtfpjihicobmlkaaDoor
