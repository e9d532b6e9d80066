/- What is put is got: a walk of the law. -/
import Derived.Test.YtoaeaffgpdohmaaFrKept
import Derived.Test.YtoaeaffgpdohmaaFrText
import Derived.Test.YtoaeaffgpdohmaaFrPut
import Derived.Test.YtoaeaffgpdohmaaFrGet
import Derived.Test.YtoaeaffgpdohmaaFrameMath4
namespace Go.Proofs.Ytoaeaffgpdohmaa
open Go.RowKit
set_option linter.unusedVariables false

theorem same_here (x : ByteArray) : (x.toList == x.toList) = true := by simp
set_option maxRecDepth 4000 in
set_option maxHeartbeats 4000000 in
theorem back_go (A : Option Addr) (b : List UInt8) (c n : Nat) (s : ByteArray) (V : Option Addr) (x : List UInt8) (cx : Nat) (M : Option Addr) (more : List UInt8) (cm : Nat) (w : World) (p0 q0 r0 all : List UInt8)
    (hA : Bys w A b) (hV : Bys w V x) (hM : Bys w M more) (hn : n ≤ 9223372036854775807) (hs : s.size ≤ 65535) (hx : x.length ≤ 65535) (hb : b.length ≤ 1048576) (hm : more.length ≤ 1048576)
    (hp : b ++ uintL n = p0) (hq : p0 ++ textL s = q0) (hr : q0 ++ frameL x = r0) (hall : r0 ++ more = all) :
    Calls Try.prog 8 #[.slice A b.length c, .int .i64 n, .string s, .slice V x.length cx, .slice M more.length cm] w fun e w' => e = .returned (.bool true) ∧ Below w.heap.size w w' := by
  have u9 := uintL_9 (n := n) (by omega)
  have s9 := uintL_9 (n := s.size) (by omega)
  have lp : p0.length = b.length + (uintL n).length := by rw [← hp, List.length_append]
  have lq : q0.length = p0.length + (textL s).length := by rw [← hq, List.length_append]
  have lt : (textL s).length = (uintL s.size).length + s.size := by rw [textL, List.length_append, strL_length]
  have lr : r0.length = q0.length + (x.length + 6) := by rw [← hr, List.length_append, frameL_length]
  have la : all.length = r0.length + more.length := by rw [← hall, List.length_append]
  have GU1 : GU all b.length n p0.length 0 := by
    have := gu_of b (textL s ++ frameL x ++ more) n (by omega)
    rw [← lp] at this
    have e : b ++ uintL n ++ (textL s ++ frameL x ++ more) = all := by rw [← hall, ← hr, ← hq, ← hp]; simp
    rwa [e] at this
  have GU2 : GU all p0.length s.size (p0.length + (uintL s.size).length) 0 := by
    have := gu_of p0 (strL s ++ frameL x ++ more) s.size (by omega)
    have e : p0 ++ uintL s.size ++ (strL s ++ frameL x ++ more) = all := by rw [← hall, ← hr, ← hq]; simp [textL]
    rwa [e] at this
  have GT2 : GT all s.size (p0.length + (uintL s.size).length) 0 s q0.length 0 := by
    have := GT.ok (l := all) s.size (p0.length + (uintL s.size).length) hs (by omega) (by omega)
    have e : (all.drop (p0.length + (uintL s.size).length)).take s.size = strL s := by
      have e1 : all = (p0 ++ uintL s.size) ++ (strL s ++ (frameL x ++ more)) := by rw [← hall, ← hr, ← hq]; simp [textL]
      rw [e1, show p0.length + (uintL s.size).length = (p0 ++ uintL s.size).length from by simp, List.drop_left, List.take_append_of_le_length (by rw [strL_length]; omega), List.take_of_length_le (by rw [strL_length]; omega)]
    rw [e, txt_strL, show p0.length + (uintL s.size).length + s.size = q0.length from by omega] at this
    exact this
  have FG3 : FG all q0.length x r0.length 0 := by
    have := fg_of q0 x more hx
    rw [hr, hall, show q0.length + x.length + 6 = r0.length from by omega] at this
    exact this
  have bp : p0.length ≤ 1048600 := by omega
  have bq : q0.length ≤ 1200000 := by omega
  have br : r0.length ≤ 1400000 := by omega
  have ba : all.length ≤ 2800000 := by omega
  have ap : b.length ≤ all.length := by omega
  have aq : p0.length ≤ all.length := by omega
  have ar : q0.length ≤ all.length := by omega
  have hp0 : 0 < p0.length + (uintL s.size).length := by have := uintL_pos s.size; omega
  have q1 : decide ((n : Int) < 0) = false := by simp
  have q2 : decide ((65535 : Int) < (s.size : Int)) = false := by simp; omega
  have q3 : decide ((65535 : Int) < (x.length : Int)) = false := by simp; omega
  have H1 := Lib.hid hp
  have H2 := Lib.hid hq
  have H3 := Lib.hid hr
  have H4 := Lib.hid hall
  clear lp lq lt lr la hp hq hr hall u9 s9
  go_enter Try.func8, Try.ntmps8
  go_wp2_with fail
  refine (putuint_prog A b c n w hA (by omega) hn).mono ?_
  rw [H1.out]
  rintro e w1 ⟨v1, rfl, hown1, hb1⟩
  obtain ⟨B1, d1, rfl, hB1, _⟩ := own_slice' hown1
  clear hown1
  go_wp2_with fail
  refine (puttext_prog B1 p0 d1 s w1 hB1 (by omega) hs).mono ?_
  rw [H2.out]
  rintro e w2 ⟨v2, rfl, hown2, hb2⟩
  obtain ⟨B2, d2, rfl, hB2, _⟩ := own_slice' hown2
  have hb12 := below_then hb1 hb2
  clear hown2
  go_wp2_with fail
  refine (put_prog B2 q0 d2 V x cx w2 hB2 (hV.below hb12) (by omega) hx).mono ?_
  rw [H3.out]
  rintro e w3 ⟨v3, rfl, hown3, hb3⟩
  obtain ⟨B3, d3, rfl, hB3, _⟩ := own_slice' hown3
  have hb13 := below_then hb12 hb3
  have hM3 := hM.below hb13
  clear hown3
  go_wp2_with (first
    | (at_builtin; refine app_u8 rfl (.tmp 65) (.tmp 66) rfl w3.heap.size _ [] rfl (own_empty (Row.new w3 _ _) (Nat.le_refl _)) B3 r0 d3 rfl (hB3.alloc _) (by simp only [List.length_nil]; omega) (by simp) ?_; intro v4 w4 hown4 hb4' hg4; rw [List.nil_append] at hown4; have hb4 : Below w3.heap.size w3 w4 := ((Below.refl _ _).alloc (Nat.le_refl _) _).trans hb4'; have hM4 := hM3.below hb4; clear hg4 hb4')
    | (at_builtin; refine app_u8 rfl (.tmp 67) (.tmp 68) rfl w3.heap.size _ r0 rfl hown4 M more cm rfl hM4 (by omega) hb4.size ?_; intro v5 w5 hown5 hb5' hg5; rw [H4.out] at hown5; have hb35 : Below w3.heap.size w3 w5 := hb4.trans hb5'; obtain ⟨B5, d5, hv5, hB5, _, hd5, _⟩ := own_cap hown5; subst hv5; have hbw5 : Below w.heap.size w w5 := below_then hb13 hb35; clear hg5 hb5' hown5 hown4 hb4 hM4))
  refine (getuint_prog B5 all d5 b.length n p0.length 0 w5 hB5 hd5 (by omega) ap GU1).mono ?_
  rintro e w6 ⟨rfl, hb6⟩
  have hbw6 := below_then hbw5 hb6
  have hB6 := hB5.below hb6
  go_wp2_with fail
  refine (gettext_prog B5 all d5 p0.length s.size (p0.length + (uintL s.size).length) 0 s q0.length 0 w6 hB6 hd5 (by omega) (by omega) (fun _ => hp0) (getuint_prog B5 all d5 p0.length s.size _ 0 w6 hB6 hd5 (by omega) aq GU2) GT2).mono ?_
  rintro e w7 ⟨rfl, hb7⟩
  have hbw7 := below_then hbw6 hb7
  have hB7 := hB6.below hb7
  go_wp2_with fail
  refine (get_prog B5 all d5 q0.length x r0.length 0 w7 hB7 hd5 (by omega) ar FG3).mono ?_
  rintro e w8 ⟨v8, rfl, hown8, hb8⟩
  obtain ⟨B8, d8, rfl, hB8, _⟩ := own_slice' hown8
  have hbw8 := below_then hbw7 hb8
  have c1 := conv_bys w8 B8 x d8 hB8
  have c2 := conv_bys w8 V x cx (hV.below hbw8)
  have q5 := same_here s
  have q6 := same_here (txt x)
  clear hown8 hB8 GU1 GU2 GT2 FG3
  go_wp2_with fail
  refine (lives_true w8).mono ?_
  rintro e w9 ⟨rfl, hb9⟩
  go_wp2
  go_ret
  exact ⟨rfl, below_then hbw8 hb9⟩
theorem back_skip (A : Option Addr) (b c : Nat) (n : Int) (s : ByteArray) (V : Option Addr) (x cx : Nat) (M : Option Addr) (m cm : Nat) (w : World) (hs : s.size ≤ 281474976710656) (hx : x ≤ 281474976710656) (h : n < 0 ∨ 65535 < s.size ∨ 65535 < x) :
    Calls Try.prog 8 #[.slice A b c, .int .i64 n, .string s, .slice V x cx, .slice M m cm] w fun e w' => e = .returned (.bool true) ∧ Below w.heap.size w w' := by
  have hc : decide (n < 0) = true ∨ (decide (n < 0) = false ∧ decide ((65535 : Int) < (s.size : Int)) = true) ∨ (decide (n < 0) = false ∧ decide ((65535 : Int) < (s.size : Int)) = false ∧ decide ((65535 : Int) < (x : Int)) = true) := by
    simp only [decide_eq_true_eq, decide_eq_false_iff_not]
    omega
  clear h
  rcases hc with h1 | ⟨h1, h2⟩ | ⟨h1, h2, h3⟩
  all_goals
    go_enter Try.func8, Try.ntmps8
    go_wp2_with fail
    refine (lives_true w).mono ?_
    rintro e w9 ⟨rfl, hb9⟩
    go_wp2
    go_ret
    exact ⟨rfl, hb9⟩

theorem frameBack_walk (w : World) (A : Option Addr) (b : List UInt8) (c : Nat) (hA : Bys w A b) (hb : b.length ≤ 1048576) (hlc : b.length ≤ c)
    (n : Int) (bn : -9223372036854775808 ≤ n ∧ n ≤ 9223372036854775807) (s : ByteArray) (hs : s.size ≤ 1048576)
    (V : Option Addr) (x : List UInt8) (cx : Nat) (hV : Bys w V x) (hx : x.length ≤ 1048576) (hxc : x.length ≤ cx)
    (M : Option Addr) (more : List UInt8) (cm : Nat) (hM : Bys w M more) (hm : more.length ≤ 1048576) (hmc : more.length ≤ cm) :
    Calls Try.prog 8 #[.slice A b.length c, .int .i64 n, .string s, .slice V x.length cx, .slice M more.length cm] w fun e w' => e = .returned (.bool true) ∧ Below w.heap.size w w' := by
  by_cases h : n < 0 ∨ 65535 < s.size ∨ 65535 < x.length
  · exact back_skip A b.length c n s V x.length cx M more.length cm w (by omega) (by omega) h
  · obtain ⟨k, rfl⟩ := Int.eq_ofNat_of_zero_le (a := n) (by omega)
    exact back_go A b c k s V x cx M more cm w _ _ _ _ hA hV hM (by omega) (by omega) (by omega) hb hm rfl rfl rfl rfl
end Go.Proofs.Ytoaeaffgpdohmaa
