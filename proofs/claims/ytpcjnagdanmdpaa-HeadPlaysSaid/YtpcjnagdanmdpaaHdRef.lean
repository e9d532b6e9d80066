/- The document's own answers about a list of series: Last, Id, Without, Between. -/
import Derived.Test.YtpcjnagdanmdpaaHdSame
import Derived.Test.YtpcjnagdanmdpaaHdDel
namespace Go.Proofs.Ytpcjnagdanmdpaa
open Go.RowKit Go.Maps
open Ch
set_option linter.unusedVariables false
set_option linter.unusedSimpArgs false
set_option maxRecDepth 100000
theorem reflast_prog (x : SPl) (w : World) (hx : SerIn w x) (hl : x.1.2.length ≤ 1000000) :
    Calls Try.prog 28 #[.agg #[lsV x, ssV x]] w fun e w' => e = .returned (.int .i64 (lastT x.1)) ∧ Below w.heap.size w w' := by
  obtain ⟨⟨ls, l⟩, ⟨P1, c1, P2, c2⟩⟩ := x
  have hS := hx.samples
  dsimp only at hS hl
  unfold lastT lsV ssV
  dsimp only
  generalize ls.length = L1
  have hb1 := below_one w (.cells #[.slice P1 L1 c1, .slice P2 l.length c2] 60)
  have HR : Row (w.alloc (.cells #[.slice P1 L1 c1, .slice P2 l.length c2] 60)) w.heap.size 60 #[.slice P1 L1 c1, .slice P2 l.length c2] := Row.new w _ _
  have s1 := HR.cell 1
  clear hx HR
  by_cases h0 : l.length = 0
  · rw [if_pos h0]
    rw [h0] at s1 ⊢
    clear hS
    go_enter Try.func28, Try.ntmps28
    go_wp2_with fail
    go_ret
    exact ⟨rfl, below_one _ _⟩
  · rw [if_neg h0]
    obtain ⟨b, o, rfl, hb, hc⟩ := hS.all (by omega)
    obtain ⟨g0, _⟩ := hc (l.length - 1) (by omega)
    replace g0 := (hb1.cell (p := ⟨b, o + (l.length - 1) * 2, none⟩) hb).trans g0
    have q1 : ((l.length : Int) == 0) = false := by rw [beq_eq_false_iff_ne]; omega
    have hw1 : IntKind.i64.wrap ((l.length : Int) - 1) = ((l.length - 1 : Nat) : Int) := by
      rw [show ((l.length : Int) - 1) = ((l.length - 1 : Nat) : Int) by omega]
      exact IntWalk.i64_in _ (by omega)
    have q2 : ((l.length - 1 : Nat) : Int) < (l.length : Int) := by omega
    have q3 : l.length - 1 < l.length := by omega
    generalize hn : l.length = n at *
    generalize tOf l (n - 1) = T at *
    clear hS hc
    go_enter Try.func28, Try.ntmps28
    go_wp2_with fail
    go_ret
    exact ⟨rfl, below_one _ _⟩
theorem idF_step {l : List Lbl} {h : List Ser} {k : Nat} (hk : k < h.length) : idF l (h.drop k) k = if (h.getD k ser0).1 = l then (k : Int) else idF l (h.drop (k + 1)) (k + 1) := by
  have e : h.getD k ser0 = h[k] := by simp [List.getD_eq_getElem?_getD, hk]
  rw [e, List.drop_eq_getElem_cons hk]
  rfl
set_option maxHeartbeats 1000000 in
theorem refid_prog (A : Option Addr) (S : List Ser) (c : Nat) (P : Option Addr) (l : List Lbl) (d : Nat) (w : World) (hA : Sers w A S) (hP : Lbls w P l) (hf : ∀ s ∈ S, s.1.length ≤ 100000000000000) (hl : l.length ≤ 100000000000000) (hn : S.length ≤ 1000000) :
    Calls Try.prog 26 #[.slice A S.length c, .slice P l.length d] w fun e w' => e = .returned (.int .i64 (idH S l)) ∧ Below w.heap.size w w' := by
  have HA := Lib.hid hA
  have HP := Lib.hid hP
  have HF := Lib.hid hf
  have HL := Lib.hid hl
  obtain ⟨n, hn2⟩ : ∃ n, S.length = n := ⟨_, rfl⟩
  have HN := Lib.hid hn2
  rw [hn2] at hn ⊢
  clear hA hP hf hl hn2
  go_enter Try.func26, Try.ntmps26
  go_wp2_with fail
  go_loopw [5] (fun i wr => ∃ k : Nat, k ≤ n ∧ i = .int .i64 (k : Int) ∧ idF l (S.drop k) k = idH S l ∧ Below w.heap.size w wr) (fun i _ => n - (intOf i).toNat)
  case atStart => exact ⟨0, Nat.zero_le _, rfl, rfl, Below.refl _ _⟩
  case round =>
    obtain ⟨k, hk, rfl, he, hbr⟩ := hrel
    by_cases hlt : k < n
    · have i1 : decide ((k : Int) < (n : Int)) = true := decide_eq_true (by omega)
      have i2 : (k : Int) < (n : Int) := by omega
      have hkl : k < S.length := by rw [HN.out]; exact hlt
      obtain ⟨b, o, rfl, hb, hat⟩ := HA.out.all (by omega)
      obtain ⟨m, g0, g1, hin⟩ := hat k hkl
      replace g0 := (hbr.cell (p := ⟨b, o + k * 2, none⟩) hb).trans g0
      have hsl := HF.out _ (ser_at hkl)
      have HSR := Lib.hid (same_ref m.la P (S.getD k ser0).1 l m.lc d wr (hin.labels.below hbr) (HP.out.below hbr) hsl HL.out)
      have hst := idF_step (l := l) hkl
      have HK := Lib.hid (show k + 1 ≤ n from hlt)
      have HBR := Lib.hid hbr
      have HE := Lib.hid he
      clear hat g1 hin hsl hbr he
      generalize (S.getD k ser0).1 = ls at *
      by_cases h0 : ls = l
      · rw [if_pos h0] at hst
        have HST := Lib.hid hst
        rw [decide_eq_true h0] at HSR
        clear hst h0
        go_wp2_with (go_at_call 36; refine HSR.out.mono ?_; rintro e w3 ⟨rfl, hb3⟩; have HB3 := Lib.hid (below_then HBR.out hb3); clear hb3)
        go_ret
        exact ⟨ret_int (by rw [← HE.out, HST.out]), HB3.out⟩
      · rw [if_neg h0] at hst
        have HST := Lib.hid hst
        rw [decide_eq_false h0] at HSR
        clear hst h0
        go_wp2_with (go_at_call 36; refine HSR.out.mono ?_; rintro e w3 ⟨rfl, hb3⟩; have HB3 := Lib.hid (below_then HBR.out hb3); clear hb3)
        go_roundw
        case rel => exact ⟨k + 1, HK.out, by go_num, by rw [← HST.out]; exact HE.out, HB3.out⟩
        case measure => simp [intOf]; omega
    · have i1 : decide ((k : Int) < (n : Int)) = false := decide_eq_false (by omega)
      have i2 : ¬ (k : Int) < (n : Int) := by omega
      have hkn : S.drop k = [] := List.drop_eq_nil_of_le (by rw [HN.out]; omega)
      rw [hkn] at he
      have HE := Lib.hid (show (-1 : Int) = idH S l from he)
      have HBR := Lib.hid hbr
      clear he hbr hkn
      go_wp2_with fail
      go_ret
      exact ⟨ret_int HE.out, HBR.out⟩
theorem hkeep_step (lo hi : Int) {l : List Smp} {k : Nat} (h : k < l.length) : (l.take (k + 1)).filter (inB lo hi) = (l.take k).filter (inB lo hi) ++ (if inB lo hi (l.getD k (0, 0)) then [l.getD k (0, 0)] else []) := by
  rw [htake_smp h, List.filter_append, List.filter_cons]
  split <;> rfl
set_option maxHeartbeats 4000000 in
/-- The document's Between. -/
theorem hdbetween_ref (A : Option Addr) (l : List Smp) (c : Nat) (lo hi : Int) (w : World) (hA : Smps w A l) (hl : l.length ≤ 1000000) :
    Calls Try.prog 62 #[.slice A l.length c, .int .i64 lo, .int .i64 hi] w fun e w' => ∃ v, e = .returned v ∧ OwnS w' w.heap.size v (l.filter (inB lo hi)) ∧ Below w.heap.size w w' := by
  have HA := Lib.hid hA
  obtain ⟨n, hn⟩ : ∃ n, l.length = n := ⟨_, rfl⟩
  have HN := Lib.hid hn
  have HST := Lib.hid (fun k (hk : k < l.length) => hkeep_step lo hi hk)
  rw [hn] at hl HST ⊢
  clear hA hn
  go_enter Try.func62, Try.ntmps62
  go_wp2_with fail
  go_loopw [7, 8] (fun v i wr => ∃ k : Nat, k ≤ n ∧ i = .int .i64 (k : Int) ∧ OwnS wr w.heap.size v ((l.take k).filter (inB lo hi)) ∧ Below w.heap.size w wr) (fun _ i _ => n - (intOf i).toNat)
  case atStart => exact ⟨0, Nat.zero_le _, rfl, owns_nil _ _, Below.refl _ _⟩
  case round =>
    obtain ⟨k, hk, rfl, hO, hbr⟩ := hrel
    by_cases hlt : k < n
    · have i1 : decide ((k : Int) < (n : Int)) = true := decide_eq_true (by omega)
      have i2 : (k : Int) < (n : Int) := by omega
      obtain ⟨b, o, rfl, hb, hc⟩ := (HA.out.below hbr).all (by rw [HN.out]; omega)
      obtain ⟨g0, g1⟩ := hc k (by rw [HN.out]; exact hlt)
      have hst := HST.out k hlt
      have HK := Lib.hid (show k + 1 ≤ n from hlt)
      have HLL := Lib.hid (show ((l.take k).filter (inB lo hi)).length ≤ 1000000 by have := List.length_filter_le (inB lo hi) (l.take k); rw [List.length_take] at this; omega)
      have hkb : inB lo hi (l.getD k (0, 0)) = (decide (lo ≤ tOf l k) && decide (tOf l k ≤ hi)) := rfl
      have htv : l.getD k (0, 0) = (tOf l k, vOf l k) := rfl
      rw [hkb, htv] at hst
      generalize tOf l k = T at *
      generalize vOf l k = V at *
      have HO := Lib.hid hO
      have HB := Lib.hid hbr
      have hO1 := owns_below hO (below_one wr (.cells #[.int .i64 T, .int .i64 V] 63))
      have HO1 := Lib.hid hO1
      have HB1 := Lib.hid (hbr.alloc hbr.size (.cells #[.int .i64 T, .int .i64 V] 63))
      have HS1 := Lib.hid (smps_cell (Row.new wr 63 #[.int .i64 T, .int .i64 V]))
      clear hc hO hbr hO1 hkb htv
      by_cases h1 : lo ≤ T
      · have k1 : decide (lo ≤ T) = true := decide_eq_true h1
        have k1' : decide (T ≥ lo) = true := decide_eq_true h1
        by_cases h2 : T ≤ hi
        · have k2 : decide (T ≤ hi) = true := decide_eq_true h2
          rw [k1, k2, Bool.and_self, if_pos rfl] at hst
          have HST1 := Lib.hid hst
          clear hst
          go_wp2_with (at_builtin; refine app_smps rfl (.tmp 31) (.tmp 36) rfl w.heap.size _ ((l.take k).filter (inB lo hi)) rfl HO1.out (some ⟨wr.heap.size, 0, none⟩) [(T, V)] 1 rfl HS1.out (by have := HLL.out; simp only [List.length_singleton]; omega) HB1.out.size ?_; intro v7 w7 ho7 hb7 hg7; have HO7 := Lib.hid (show OwnS w7 w.heap.size v7 ((l.take (k + 1)).filter (inB lo hi)) by rw [HST1.out]; exact ho7); have HB7 := Lib.hid (HB1.out.trans hb7); clear ho7 hb7 hg7)
          go_roundw
          case rel => exact ⟨k + 1, HK.out, by go_num, HO7.out, HB7.out⟩
          case measure => simp [intOf]; omega
        · have k2 : decide (T ≤ hi) = false := decide_eq_false h2
          rw [k1, k2, Bool.and_false, if_neg (by simp), List.append_nil] at hst
          have HST1 := Lib.hid hst
          clear hst
          go_wp2_with fail
          go_roundw
          case rel => exact ⟨k + 1, HK.out, by go_num, by rw [HST1.out]; exact HO.out, HB.out⟩
          case measure => simp [intOf]; omega
      · have k1 : decide (lo ≤ T) = false := decide_eq_false h1
        have k1' : decide (T ≥ lo) = false := decide_eq_false h1
        rw [k1, Bool.false_and, if_neg (by simp), List.append_nil] at hst
        have HST1 := Lib.hid hst
        clear hst
        go_wp2_with fail
        go_roundw
        case rel => exact ⟨k + 1, HK.out, by go_num, by rw [HST1.out]; exact HO.out, HB.out⟩
        case measure => simp [intOf]; omega
    · have hkn : k = l.length := by rw [HN.out]; omega
      rw [hkn, List.take_length] at hO
      have i1 : decide ((k : Int) < (n : Int)) = false := decide_eq_false (by omega)
      have i2 : ¬ (k : Int) < (n : Int) := by omega
      have HO := Lib.hid hO
      have HB := Lib.hid hbr
      clear hO hbr hkn
      go_wp2_with fail
      go_ret
      exact ⟨_, rfl, HO.out, HB.out⟩
theorem hout_step (lo hi : Int) {l : List Smp} {k : Nat} (h : k < l.length) : (l.take (k + 1)).filter (outB lo hi) = (l.take k).filter (outB lo hi) ++ (if outB lo hi (l.getD k (0, 0)) then [l.getD k (0, 0)] else []) := by
  rw [htake_smp h, List.filter_append, List.filter_cons]
  split <;> rfl
set_option maxHeartbeats 4000000 in
/-- The document's Without. -/
theorem hdwithout_ref (A : Option Addr) (l : List Smp) (c : Nat) (lo hi : Int) (w : World) (hA : Smps w A l) (hl : l.length ≤ 1000000) :
    Calls Try.prog 29 #[.slice A l.length c, .int .i64 lo, .int .i64 hi] w fun e w' => ∃ v, e = .returned v ∧ OwnS w' w.heap.size v (l.filter (outB lo hi)) ∧ Below w.heap.size w w' := by
  have HA := Lib.hid hA
  obtain ⟨n, hn⟩ : ∃ n, l.length = n := ⟨_, rfl⟩
  have HN := Lib.hid hn
  have HST := Lib.hid (fun k (hk : k < l.length) => hout_step lo hi hk)
  rw [hn] at hl HST ⊢
  clear hA hn
  go_enter Try.func29, Try.ntmps29
  go_wp2_with fail
  go_loopw [7, 8] (fun v i wr => ∃ k : Nat, k ≤ n ∧ i = .int .i64 (k : Int) ∧ OwnS wr w.heap.size v ((l.take k).filter (outB lo hi)) ∧ Below w.heap.size w wr) (fun _ i _ => n - (intOf i).toNat)
  case atStart => exact ⟨0, Nat.zero_le _, rfl, owns_nil _ _, Below.refl _ _⟩
  case round =>
    obtain ⟨k, hk, rfl, hO, hbr⟩ := hrel
    by_cases hlt : k < n
    · have i1 : decide ((k : Int) < (n : Int)) = true := decide_eq_true (by omega)
      have i2 : (k : Int) < (n : Int) := by omega
      obtain ⟨b, o, rfl, hb, hc⟩ := (HA.out.below hbr).all (by rw [HN.out]; omega)
      obtain ⟨g0, g1⟩ := hc k (by rw [HN.out]; exact hlt)
      have hst := HST.out k hlt
      have HK := Lib.hid (show k + 1 ≤ n from hlt)
      have HLL := Lib.hid (show ((l.take k).filter (outB lo hi)).length ≤ 1000000 by have := List.length_filter_le (outB lo hi) (l.take k); rw [List.length_take] at this; omega)
      have hkb : outB lo hi (l.getD k (0, 0)) = (decide (tOf l k < lo) || decide (hi < tOf l k)) := rfl
      have htv : l.getD k (0, 0) = (tOf l k, vOf l k) := rfl
      rw [hkb, htv] at hst
      generalize tOf l k = T at *
      generalize vOf l k = V at *
      have HO := Lib.hid hO
      have HB := Lib.hid hbr
      have hO1 := owns_below hO (below_one wr (.cells #[.int .i64 T, .int .i64 V] 63))
      have HO1 := Lib.hid hO1
      have HB1 := Lib.hid (hbr.alloc hbr.size (.cells #[.int .i64 T, .int .i64 V] 63))
      have HS1 := Lib.hid (smps_cell (Row.new wr 63 #[.int .i64 T, .int .i64 V]))
      clear hc hO hbr hO1 hkb htv
      by_cases h1 : T < lo
      · have k1 : decide (T < lo) = true := decide_eq_true h1
        rw [k1, Bool.true_or, if_pos rfl] at hst
        have HST1 := Lib.hid hst
        clear hst
        go_wp2_with (at_builtin; refine app_smps rfl (.tmp 31) (.tmp 36) rfl w.heap.size _ ((l.take k).filter (outB lo hi)) rfl HO1.out (some ⟨wr.heap.size, 0, none⟩) [(T, V)] 1 rfl HS1.out (by have := HLL.out; simp only [List.length_singleton]; omega) HB1.out.size ?_; intro v7 w7 ho7 hb7 hg7; have HO7 := Lib.hid (show OwnS w7 w.heap.size v7 ((l.take (k + 1)).filter (outB lo hi)) by rw [HST1.out]; exact ho7); have HB7 := Lib.hid (HB1.out.trans hb7); clear ho7 hb7 hg7)
        go_roundw
        case rel => exact ⟨k + 1, HK.out, by go_num, HO7.out, HB7.out⟩
        case measure => simp [intOf]; omega
      · have k1 : decide (T < lo) = false := decide_eq_false h1
        by_cases h2 : hi < T
        · have k2 : decide (hi < T) = true := decide_eq_true h2
          rw [k1, k2, Bool.false_or, if_pos rfl] at hst
          have HST1 := Lib.hid hst
          clear hst
          go_wp2_with (at_builtin; refine app_smps rfl (.tmp 31) (.tmp 36) rfl w.heap.size _ ((l.take k).filter (outB lo hi)) rfl HO1.out (some ⟨wr.heap.size, 0, none⟩) [(T, V)] 1 rfl HS1.out (by have := HLL.out; simp only [List.length_singleton]; omega) HB1.out.size ?_; intro v7 w7 ho7 hb7 hg7; have HO7 := Lib.hid (show OwnS w7 w.heap.size v7 ((l.take (k + 1)).filter (outB lo hi)) by rw [HST1.out]; exact ho7); have HB7 := Lib.hid (HB1.out.trans hb7); clear ho7 hb7 hg7)
          go_roundw
          case rel => exact ⟨k + 1, HK.out, by go_num, HO7.out, HB7.out⟩
          case measure => simp [intOf]; omega
        · have k2 : decide (hi < T) = false := decide_eq_false h2
          rw [k1, k2, Bool.or_false, if_neg (by simp), List.append_nil] at hst
          have HST1 := Lib.hid hst
          clear hst
          go_wp2_with fail
          go_roundw
          case rel => exact ⟨k + 1, HK.out, by go_num, by rw [HST1.out]; exact HO.out, HB.out⟩
          case measure => simp [intOf]; omega
    · have hkn : k = l.length := by rw [HN.out]; omega
      rw [hkn, List.take_length] at hO
      have i1 : decide ((k : Int) < (n : Int)) = false := decide_eq_false (by omega)
      have i2 : ¬ (k : Int) < (n : Int) := by omega
      have HO := Lib.hid hO
      have HB := Lib.hid hbr
      clear hO hbr hkn
      go_wp2_with fail
      go_ret
      exact ⟨_, rfl, HO.out, HB.out⟩
end Go.Proofs.Ytpcjnagdanmdpaa
