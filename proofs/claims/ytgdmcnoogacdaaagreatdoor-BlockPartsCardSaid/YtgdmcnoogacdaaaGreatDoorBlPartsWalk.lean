/- The samples up to a time and those behind it are those of all times: BlockParts' walk. -/
import Derived.Test.YtgdmcnoogacdaaaGreatDoorBlLives
import Derived.BigFrame
namespace Go.Proofs.YtgdmcnoogacdaaaGreatDoor
open Go.RowKit Go.Maps
open Ch
set_option linter.unusedVariables false
set_option linter.unusedSimpArgs false
set_option maxRecDepth 100000
theorem good_sorted {l : List Smp} (h : Ch.Good l) : l.Pairwise fun a b => a.1 ≤ b.1 := by
  rw [List.pairwise_iff_getElem]
  intro i j hi hj hij
  have := good_mono h (Nat.le_of_lt hij) hj
  unfold tOf at this
  rw [List.getD_eq_getElem?_getD, List.getD_eq_getElem?_getD, List.getElem?_eq_getElem hi, List.getElem?_eq_getElem hj] at this
  exact this
theorem filter_parts {lo cut hi : Int} (h1 : lo ≤ cut) (h2 : cut < hi) : ∀ (l : List Smp), (l.Pairwise fun a b => a.1 ≤ b.1) → l.filter (keepB lo cut) ++ l.filter (keepB (cut + 1) hi) = l.filter (keepB lo hi) := by
  intro l
  induction l with
  | nil => intro _; rfl
  | cons x r ih =>
    intro h
    rw [List.pairwise_cons] at h
    by_cases hx : x.1 ≤ cut
    · have e1 : keepB (cut + 1) hi x = false := by
        unfold keepB
        rw [decide_eq_false (show ¬ cut + 1 ≤ x.1 by omega), Bool.false_and]
      have e2 : keepB lo cut x = keepB lo hi x := by
        unfold keepB
        rw [decide_eq_true hx, decide_eq_true (show x.1 ≤ hi by omega)]
      rw [List.filter_cons, List.filter_cons (p := keepB (cut + 1) hi), List.filter_cons (p := keepB lo hi), e1, e2, ← ih h.2]
      cases keepB lo hi x <;> simp
    · have k1 : (x :: r).filter (keepB lo cut) = [] := by
        rw [List.filter_eq_nil_iff]
        intro y hy
        have hxy : x.1 ≤ y.1 := by
          rcases List.mem_cons.1 hy with rfl | hy
          · omega
          · exact h.1 y hy
        unfold keepB
        rw [decide_eq_false (show ¬ y.1 ≤ cut by omega), Bool.and_false]
        simp
      rw [k1, List.nil_append]
      apply List.filter_congr
      intro y hy
      have hxy : x.1 ≤ y.1 := by
        rcases List.mem_cons.1 hy with rfl | hy
        · omega
        · exact h.1 y hy
      unfold keepB
      rw [decide_eq_true (show cut + 1 ≤ y.1 by omega), decide_eq_true (show lo ≤ y.1 by omega)]
/-- append of samples to an own row, at a built-in whose guard holds. -/
theorem app_smpsG {w : World} {ops : Array Oper} {rest : List Oper} {o : Oper} {a : Act} {Q : Exit → Act → World → Prop} (hw : Region.wanted o (yielded ops a.tmps) = true) (s y : Operand)
    (ho : o.op = .call { callee := .builtin .append, args := #[s, y], argTypes := #[49, 49] })
    (base : Nat) (v : Value) (x : List Smp) (hs : a.eval s = v) (hown : OwnS w base v x) (A : Option Addr) (l : List Smp) (c : Nat) (hy : a.eval y = .slice A l.length c) (hA : Smps w A l) (hn : (x.length + l.length) * 16 ≤ 140737488355328) (hbase : base ≤ w.heap.size)
    (h : ∀ v' w', OwnS w' base v' (x ++ l) → Below base w w' → w.grownBy w' v.ownBlock → wpList Tryz.prog ops Q rest (a.put o.dst v') w') : wpList Tryz.prog ops Q (o :: rest) a w := by
  obtain ⟨i0, hi, hz0, hz1, hz2⟩ := info_parts sample_info
  refine BigFrame.wpList_want hw fun K hK => wp_app_at s y 49 ho base 83 i0 _ 2 16 Tryz.underlying49 hi hz0 hz1 hz2 rfl (by omega) v x.length (x.flatMap smpE) hs hown A l.length c (l.flatMap smpE) hy (flat_len smpE 2 smpE_len l) hA (smp_one l)
    (by simp only [maxLen]; omega) hn hbase ?_
  intro v' w' h1 h2 h3
  refine hK _ _ (h v' w' ?_ h2 h3)
  unfold OwnS
  rw [List.flatMap_append, List.length_append]
  exact h1
set_option maxHeartbeats 8000000 in
theorem blockParts_walk (w : World) (hD : Door w) (A : Option Addr) (S : List Ser) (c : Nat) (hA : Sers w A S) (hf : ∀ s ∈ S, SerFit s) (hr : S.length * 48 ≤ 140737488351232) (hlc : S.length ≤ c)
    (id : Int) (b1 : -9223372036854775808 ≤ id ∧ id ≤ 9223372036854775807) (lo : Int) (b2 : -9223372036854775808 ≤ lo ∧ lo ≤ 9223372036854775807) (cut : Int) (b3 : -9223372036854775808 ≤ cut ∧ cut ≤ 9223372036854775807) (hi : Int) (b4 : -9223372036854775808 ≤ hi ∧ hi ≤ 9223372036854775807) :
    Calls Tryz.prog 8 #[.slice A S.length c, .int .i64 id, .int .i64 lo, .int .i64 cut, .int .i64 hi] w fun e w' => e = .returned (.bool true) ∧ Below w.heap.size w w' := by
  have HW := Lib.hid (write_prog A S c w hA hf hr hlc)
  have HX := Lib.hid (fun x hx => blLives_true x hx)
  have HD := Lib.hid hD
  have HO := Lib.hid (fun B d (x : World) (hb : Bys x B (blL S)) (hd : (blL S).length ≤ d) (hl : (blL S).length ≤ 140737488355328) (hx : Door x) (hz : blChk S = 0) => open_yes B (blL S) d hd hl x hb hx hz rfl)
  have HSL := Lib.hid (fun X b (x : World) (h : BlkAt x b X S) (hz : blChk S = 0) k hk lo hi => blselect_yes h hz k hk lo hi)
  have HAT := Lib.hid (fun (hz : blChk S = 0) k (hk : k < S.length) => bl_at hz hk)
  have HFL := Lib.hid (fun (hz : blChk S = 0) => And.intro (bl_len hz) (front_len hz))
  clear hA hf hD
  obtain ⟨n, hn⟩ : ∃ n, S.length = n := ⟨_, rfl⟩
  rw [hn] at HW HSL HAT hr hlc ⊢
  clear hn
  go_enter Tryz.func8, Tryz.ntmps8
  go_wp2_with fail
  refine HW.out.mono ?_
  rintro e w2 ⟨hb2, ⟨hz, rfl⟩ | ⟨hz, v2, rfl, ho2⟩⟩
  · have HB2 := Lib.hid hb2
    have q1 : (blChk S != 0) = true := bne_iff_ne.2 hz
    generalize blChk S = E at *
    clear hz hb2
    go_wp2_with fail
    refine (HX.out _ (HD.out.below HB2.out)).mono ?_
    rintro e w4 ⟨rfl, hb4⟩
    have HB4 := Lib.hid (below_then HB2.out hb4)
    clear hb4
    go_wp2
    go_ret
    exact ⟨rfl, HB4.out⟩
  · obtain ⟨P2, d2, hv2, hP2, _, hd2, _⟩ := own_cap ho2
    have HB2 := Lib.hid hb2
    have HZ := Lib.hid hz
    have HP2 := Lib.hid hP2
    have HD2 := Lib.hid hd2
    obtain ⟨L, hL⟩ : ∃ L, (blL S).length = L := ⟨_, rfl⟩
    have HL := Lib.hid hL
    rw [hL] at hv2
    subst hv2
    have hfin : ∀ x, Below w.heap.size w x → Calls Tryz.prog 16 #[] x fun e w' => e = .returned (.bool true) ∧ Below w.heap.size w w' := fun x hx => by
      refine (HX.out _ (HD.out.below hx)).mono ?_
      rintro e w4 ⟨rfl, hb4⟩
      exact ⟨rfl, below_then hx hb4⟩
    have HFIN := Lib.hid hfin
    clear hb2 ho2 hP2 hd2 hz hL hfin
    have q0 : ((n : Int) == 0) = decide (n = 0) := by
      by_cases h : n = 0
      · subst h; rfl
      · rw [decide_eq_false h, beq_eq_false_iff_ne]; omega
    by_cases h0 : n = 0
    · have e0 : decide (n = 0) = true := decide_eq_true h0
      rw [e0] at q0
      clear h0 e0
      go_wp2_with fail
      refine (HFIN.out _ HB2.out).mono ?_
      rintro e w4 ⟨rfl, hb4⟩
      have HB4 := Lib.hid hb4
      clear hb4
      go_wp2
      go_ret
      exact ⟨rfl, HB4.out⟩
    have e0 : decide (n = 0) = false := decide_eq_false h0
    rw [e0] at q0
    clear e0
    by_cases h1 : cut < lo
    · have d1 : decide (cut < lo) = true := decide_eq_true h1
      have d1' : decide (lo > cut) = true := decide_eq_true h1
      clear h0 h1
      go_wp2_with fail
      refine (HFIN.out _ HB2.out).mono ?_
      rintro e w4 ⟨rfl, hb4⟩
      have HB4 := Lib.hid hb4
      clear hb4
      go_wp2
      go_ret
      exact ⟨rfl, HB4.out⟩
    have d1 : decide (cut < lo) = false := decide_eq_false h1
    have d1' : decide (lo > cut) = false := decide_eq_false h1
    by_cases h2 : hi ≤ cut
    · have d2 : decide (hi ≤ cut) = true := decide_eq_true h2
      have d2' : decide (cut ≥ hi) = true := decide_eq_true h2
      clear h0 h1 h2
      go_wp2_with fail
      refine (HFIN.out _ HB2.out).mono ?_
      rintro e w4 ⟨rfl, hb4⟩
      have HB4 := Lib.hid hb4
      clear hb4
      go_wp2
      go_ret
      exact ⟨rfl, HB4.out⟩
    have d2 : decide (hi ≤ cut) = false := decide_eq_false h2
    have d2' : decide (cut ≥ hi) = false := decide_eq_false h2
    obtain ⟨hbl, hfl⟩ := HFL.out HZ.out
    have HOP := Lib.hid (HO.out _ _ _ HP2.out HD2.out (by omega) (HD.out.below HB2.out) HZ.out)
    rw [HL.out] at HOP
    obtain ⟨k, hk, hkn⟩ : ∃ k : Nat, wrap64 ((IntKind.u64.wrap id).tmod (n : Int)) = (k : Int) ∧ k < n := by
      have hu : 0 ≤ IntKind.u64.wrap id := by
        have : IntKind.u64.wrap id = id % 18446744073709551616 := by first | rfl | simp [IntKind.wrap]
        omega
      have h1 := Int.emod_lt_of_pos (IntKind.u64.wrap id) (show (0 : Int) < (n : Int) by omega)
      have h0 := Int.emod_nonneg (IntKind.u64.wrap id) (show (n : Int) ≠ 0 by omega)
      refine ⟨(IntKind.u64.wrap id % (n : Int)).toNat, ?_, by omega⟩
      rw [Int.tmod_eq_emod_of_nonneg hu]
      generalize IntKind.u64.wrap id % (n : Int) = m at *
      rw [IntWalk.wrap64_in m (by omega)]
      omega
    have HK := Lib.hid hk
    have HKN := Lib.hid hkn
    have hn0 : (n : Int) ≠ 0 := by omega
    have hn1 : ((n : Int) == 0) = false := q0
    have hc1 : IntKind.i64.wrap (cut + 1) = cut + 1 := IntWalk.i64_in _ (by omega)
    obtain ⟨hgood, hsz, _, _⟩ := HAT.out HZ.out k hkn
    have HFP := Lib.hid (filter_parts (lo := lo) (cut := cut) (hi := hi) (by omega) (by omega) _ (good_sorted hgood))
    have HLN := Lib.hid (fun p => Nat.le_trans (List.length_filter_le p (S.getD k ([], [])).2) hsz)
    have HS1 := Lib.hid (fun X b x h => HSL.out X b x h HZ.out k hkn lo cut)
    have HS2 := Lib.hid (fun X b x h => HSL.out X b x h HZ.out k hkn (cut + 1) hi)
    have HS3 := Lib.hid (fun X b x h => HSL.out X b x h HZ.out k hkn lo hi)
    have HL4 := Lib.hid (HLN.out (keepB lo cut))
    have HL5 := Lib.hid (HLN.out (keepB (cut + 1) hi))
    have HL6 := Lib.hid (HLN.out (keepB lo hi))
    clear HSL HLN HAT
    generalize (S.getD k ([], [])).2.filter (keepB lo cut) = p at *
    generalize (S.getD k ([], [])).2.filter (keepB (cut + 1) hi) = q at *
    generalize (S.getD k ([], [])).2.filter (keepB lo hi) = r at *
    clear hbl hfl hk hkn hgood hsz b1 h0 h1 h2
    go_wp2_with fail
    refine HOP.out.mono ?_
    rintro e w3 ⟨hb3, X, rfl, hX⟩
    have HB3 := Lib.hid (below_then HB2.out hb3)
    have HX3 := Lib.hid hX
    clear hb3 hX HOP
    go_wp2_with fail
    rw [HK.out]
    refine (HS1.out X _ _ HX3.out).mono ?_
    rintro e w4 ⟨v4, rfl, ho4, hb4⟩
    obtain ⟨P4, c4, hv4, _, hS4, _⟩ := owns_slice ho4
    have HB4 := Lib.hid (below_then HB3.out hb4)
    have HX4 := Lib.hid (HX3.out.below hb4)
    have HS4 := Lib.hid hS4
    clear ho4 hb4 hS4
    subst hv4
    go_wp2_with fail
    refine (HS2.out X _ _ HX4.out).mono ?_
    rintro e w5 ⟨v5, rfl, ho5, hb5⟩
    obtain ⟨P5, c5, hv5, _, hS5, _⟩ := owns_slice ho5
    have HB5 := Lib.hid (below_then HB4.out hb5)
    have HX5 := Lib.hid (HX4.out.below hb5)
    have HS45 := Lib.hid (HS4.out.below hb5)
    have HS5 := Lib.hid hS5
    clear ho5 hb5 hS5
    subst hv5
    go_wp2_with fail
    refine (HS3.out X _ _ HX5.out).mono ?_
    rintro e w6 ⟨v6, rfl, ho6, hb6⟩
    obtain ⟨P6, c6, hv6, _, hS6, _⟩ := owns_slice ho6
    have HB6 := Lib.hid (below_then HB5.out hb6)
    have HS46 := Lib.hid (HS45.out.below hb6)
    have HS56 := Lib.hid (HS5.out.below hb6)
    have HS6 := Lib.hid hS6
    clear ho6 hb6 hS6
    subst hv6
    have hE := below_one w6 (.cells #[] 83)
    have HE := Lib.hid (owns_empty (base := w6.heap.size) (Row.new w6 83 #[]) (Nat.le_refl _))
    have HP7 := Lib.hid (HS46.out.below hE)
    have HQ7 := Lib.hid (HS56.out.below hE)
    have HR7 := Lib.hid (HS6.out.below hE)
    have HBE := Lib.hid (hE)
    clear hE
    go_wp2_with (first
      | (at_builtin; first
        | (refine app_smpsG (by first | rfl | kernel_rfl) (.tmp 99) (.tmp 100) rfl w6.heap.size _ [] rfl HE.out P4 p c4 rfl HP7.out (by have := HL4.out; simp only [List.length_nil]; omega) (by simp) ?_; intro v7 w7 ho7 hb7 hg7; have hz7 := HBE.out.trans hb7; have HO7 := Lib.hid ho7; have HZ7 := Lib.hid hz7; have HQ8 := Lib.hid (HS56.out.below hz7); have HR8 := Lib.hid (HS6.out.below hz7); clear ho7 hb7 hg7 hz7)
        | (refine app_smpsG (by first | rfl | kernel_rfl) (.tmp 101) (.tmp 102) rfl w6.heap.size _ ([] ++ p) rfl HO7.out P5 q c5 rfl HQ8.out (by have := HL4.out; have := HL5.out; rw [List.nil_append]; omega) HZ7.out.size ?_; intro v8 w8 ho8 hb8 hg8; have hz8 := HZ7.out.trans hb8; rw [List.nil_append, HFP.out] at ho8; obtain ⟨P8, c8, hv8, _, hS8, _⟩ := owns_slice ho8; have HZ8 := Lib.hid hz8; have HS8 := Lib.hid hS8; have HR9 := Lib.hid (HS6.out.below hz8); clear ho8 hb8 hg8 hz8 hS8; subst hv8))
      | (go_at_call 22; refine (same_smps P8 P6 r c8 c6 _ HS8.out HR9.out (by have := HL6.out; omega)).mono ?_; rintro e w9 ⟨rfl, hb9⟩; have HB9 := Lib.hid (below_then (below_then HB6.out HZ8.out) hb9); clear hb9)
      | (go_at_call 16; refine (HFIN.out _ HB9.out).mono ?_; rintro e w10 ⟨rfl, hb10⟩; have HB10 := Lib.hid hb10; clear hb10))
    go_ret
    exact ⟨rfl, HB10.out⟩
end Go.Proofs.YtgdmcnoogacdaaaGreatDoor
