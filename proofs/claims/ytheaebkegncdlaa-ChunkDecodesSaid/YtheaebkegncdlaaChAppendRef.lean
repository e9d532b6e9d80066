/- Append, as the document's own answer tells it, and where a time stands; the program's bounds. -/
import Derived.Test.YtheaebkegncdlaaChRef4
import Derived.Test.YtheaebkegncdlaaChAppend
import Derived.Test.YtheaebkegncdlaaChSeek
import Derived.Deep.RegionHeld3
namespace Go.Proofs.Ytheaebkegncdlaa
open Go.RowKit Go.Maps
set_option linter.unusedVariables false

theorem dref_yes {w : World} {A : Option Addr} {b : List UInt8} {c : Nat} {l : List Smp} (hA : Bys w A b) (hl : b.length ≤ 140737488355328) (hc : chk l = 0) (he : encL l = b) :
    Calls Try.prog 20 #[.slice A b.length c] w fun e w' => ∃ v, e = .returned (.tuple #[v, .int .i64 0]) ∧ OwnS w' w.heap.size v l ∧ Below w.heap.size w w' := by
  refine (decode_ref_told hA hl).mono ?_
  rintro e w2 ⟨⟨v, m, rfl, hO, h1, h2⟩ | ⟨rfl, hno⟩, hb2⟩
  · have := enc_one h1 hc (h2.trans he.symm)
    subst this
    exact ⟨v, rfl, hO, hb2⟩
  · exact absurd he (hno l hc)
theorem dref_no {w : World} {A : Option Addr} {b : List UInt8} {c : Nat} (hA : Bys w A b) (hl : b.length ≤ 140737488355328) (hno : NoChunk b) :
    Calls Try.prog 20 #[.slice A b.length c] w fun e w' => e = .returned (.tuple #[.slice none 0 0, .int .i64 5]) ∧ Below w.heap.size w w' := by
  refine (decode_ref_told hA hl).mono ?_
  rintro e w2 ⟨⟨v, m, rfl, hO, h1, h2⟩ | ⟨rfl, _⟩, hb2⟩
  · exact absurd h2 (hno m h1)
  · exact ⟨rfl, hb2⟩

set_option maxHeartbeats 1000000 in
theorem seek_ref {w : World} {A : Option Addr} {l : List Smp} {c : Nat} (t : Int) (hS : Smps w A l) (hg : Good l) (hl : l.length ≤ 120) :
    Calls Try.prog 23 #[.slice A l.length c, .int .i64 t] w fun e w' => (∃ k : Nat, e = .returned (.int .i64 (k : Int)) ∧ IsPlace l t k) ∧ w = w' := by
  have Hall := Lib.hid (fun h => hS.all h)
  have HG := Lib.hid hg
  clear hS hg
  go_enter Try.func23, Try.ntmps23
  go_wp2_with fail
  go_loopw [5] (fun i wr => ∃ k : Nat, k ≤ l.length ∧ i = .int .i64 (k : Int) ∧ (∀ j, j < k → tOf l j < t) ∧ wr = w) (fun i _ => l.length - (intOf i).toNat)
  case atStart => exact ⟨0, Nat.zero_le _, rfl, fun j hj => by omega, rfl⟩
  case round =>
    obtain ⟨k, hk, rfl, h1, rfl⟩ := hrel
    have H1 := Lib.hid h1
    clear h1
    by_cases hlt : k < l.length
    · obtain ⟨b, o, rfl, hb, hc⟩ := Hall.out (by omega)
      have g0 := (hc k hlt).1
      have i2 : (k : Int) < (l.length : Int) := by omega
      clear hc
      by_cases hle : tOf l k < t
      · have d1 : decide (tOf l k < t) = true := decide_eq_true hle
        have HLE := Lib.hid hle
        clear hle
        generalize hT : tOf l k = T at *
        have HT := Lib.hid hT
        clear hT
        go_wp2_with fail
        go_roundw
        case rel =>
          refine ⟨k + 1, by omega, by go_num, fun j hj => ?_, by first | rfl | trivial⟩
          by_cases hjk : j < k
          · exact H1.out j hjk
          · obtain rfl : j = k := by omega
            rw [HT.out]; exact HLE.out
        case measure => simp [intOf]; omega
      · have d1 : decide (tOf l k < t) = false := decide_eq_false hle
        have HP : Hid (IsPlace l t k) := Lib.hid ⟨hk, H1.out, fun i h1 h2 => by have := good_mono HG.out h1 h2; omega⟩
        generalize tOf l k = T at *
        clear hle
        go_wp2_with fail
        go_ret
        exact ⟨⟨k, rfl, HP.out⟩, rfl⟩
    · obtain rfl : k = l.length := by omega
      have HP : Hid (IsPlace l t l.length) := Lib.hid ⟨Nat.le_refl _, H1.out, fun i h1 h2 => by omega⟩
      have i3 : ¬ ((l.length : Int) < (l.length : Int)) := by omega
      go_wp2_with fail
      go_ret
      exact ⟨⟨_, rfl, HP.out⟩, rfl⟩

theorem bounds_yes {w : World} {A : Option Addr} {b : List UInt8} {c : Nat} {l : List Smp} (hA : Bys w A b) (hl : b.length ≤ 140737488355328) (hc : chk l = 0) (he : encL l = b) :
    Calls Try.prog 21 #[.slice A b.length c] w fun e w' => e = .returned (.tuple #[.int .i64 (l.length : Int), .int .i64 (tOf l 0), .int .i64 (tOf l (l.length - 1)), .int .i64 0]) ∧ Below w.heap.size w w' := by
  obtain ⟨l0, l120, hg⟩ := chk_zero.1 hc
  have HD := Lib.hid (decode_yes (c := c) hA hl hc he)
  have i0 : (0 : Int) < (l.length : Int) := by omega
  have hj : (l.length : Int) - 1 = ((l.length - 1 : Nat) : Int) := by omega
  have hjl : ((l.length - 1 : Nat) : Int) < (l.length : Int) := by omega
  have HJ := Lib.hid (show l.length - 1 < l.length by omega)
  have HL := Lib.hid l0
  clear hA hc he hg
  go_enter Try.func21, Try.ntmps21
  go_wp2_with fail
  refine HD.out.mono ?_
  rintro e w1 ⟨v1, rfl, hO1, hb1⟩
  obtain ⟨P1, c1, hv1, _, hS1, _⟩ := owns_slice hO1
  subst hv1
  obtain ⟨bb, oo, rfl, hbb, hcc⟩ := hS1.all HL.out
  have g0 := (hcc 0 HL.out).1
  have g1 := (hcc (l.length - 1) HJ.out).1
  rw [Nat.zero_mul, Nat.add_zero] at g0
  have hbd := hb1.drew
  generalize hT0 : tOf l 0 = T0 at *
  generalize hT1 : tOf l (l.length - 1) = T1 at *
  have HT0 := Lib.hid hT0
  have HT1 := Lib.hid hT1
  clear hT0 hT1
  generalize hjj : l.length - 1 = j at *
  have wrj : IntKind.i64.wrap ((l.length : Int) - 1) = (j : Int) := by rw [hj]; exact IntWalk.i64_in _ (by omega)
  have wrjj : IntKind.i64.wrap (j : Int) = (j : Int) := IntWalk.i64_in _ (by omega)
  have HJJ := Lib.hid hjj
  clear hO1 hS1 hcc hb1 hjj HJ
  go_wp2_with fail
  go_region
  all_goals
    go_wp2_with fail
    refine bodyPost_ret (v := .tuple #[.int .i64 (l.length : Int), .int .i64 T0, .int .i64 T1, .int .i64 0]) (by simp [results, Try.results21, go_sem]) rfl ⟨by rw [HT0.out, HJJ.out, HT1.out], hbd⟩
theorem bounds_no {w : World} {A : Option Addr} {b : List UInt8} {c : Nat} (hA : Bys w A b) (hl : b.length ≤ 140737488355328) (hno : NoChunk b) :
    Calls Try.prog 21 #[.slice A b.length c] w fun e w' => e = .returned (.tuple #[.int .i64 0, .int .i64 0, .int .i64 0, .int .i64 5]) ∧ Below w.heap.size w w' := by
  have HD := Lib.hid (decode_no (c := c) hA hl hno)
  clear hA hno
  go_enter Try.func21, Try.ntmps21
  go_wp2_with fail
  refine HD.out.mono ?_
  rintro e w1 ⟨rfl, hb1⟩
  go_wp2_with fail
  refine bodyPost_ret (v := .tuple #[.int .i64 0, .int .i64 0, .int .i64 0, .int .i64 5]) (by simp [results, Try.results21, go_sem]) rfl ⟨rfl, hb1⟩

/-! ### Append -/
theorem errF_app {l : List Smp} (a b : Nat) : ∀ i, errF l (a + b) i = if errF l a i = 0 then errF l b (i + a) else errF l a i := by
  induction a with
  | zero => intro i; simp [errF]
  | succ a ih =>
    intro i
    rw [show a + 1 + b = (a + b) + 1 from by omega]
    show (if errAt l i = 0 then errF l (a + b) (i + 1) else errAt l i) = if (if errAt l i = 0 then errF l a (i + 1) else errAt l i) = 0 then errF l b (i + (a + 1)) else (if errAt l i = 0 then errF l a (i + 1) else errAt l i)
    by_cases h : errAt l i = 0
    · rw [if_pos h, if_pos h, ih (i + 1), show i + 1 + a = i + (a + 1) from by omega]
    · rw [if_neg h, if_neg h, if_neg h]
theorem chk_snoc {l : List Smp} {s : Smp} (hc : chk l = 0) (hf : l.length < 120) : chk (l ++ [s]) = if mayB s = false then 11 else if s.1 ≤ tOf l (l.length - 1) then 13 else 0 := by
  obtain ⟨l0, l1, hg⟩ := chk_zero.1 hc
  have hlen : (l ++ [s]).length = l.length + 1 := by simp
  unfold chk
  rw [if_neg (by omega), hlen, errF_app l.length 1 0]
  have h1 : errF (l ++ [s]) l.length 0 = 0 := by
    rw [errF_zero]
    intro j _ hj
    rw [errAt_zero, getD_snoc_old l s _ (by omega), tOf_old (by omega)]
    refine ⟨(hg j (by omega)).1, fun h0 => ?_⟩
    rw [tOf_old (by omega)]
    exact (hg j (by omega)).2 h0
  rw [if_pos h1, Nat.zero_add]
  show (if errAt (l ++ [s]) l.length = 0 then 0 else errAt (l ++ [s]) l.length) = _
  have h2 : errAt (l ++ [s]) l.length = if mayB s = false then 11 else if s.1 ≤ tOf l (l.length - 1) then 13 else 0 := by
    unfold errAt
    rw [getD_snoc_new, tOf_new, tOf_old (by omega)]
    by_cases hm : mayB s = false
    · rw [if_pos hm, if_pos hm]
    · rw [if_neg hm, if_neg hm]
      by_cases ht : s.1 ≤ tOf l (l.length - 1)
      · rw [if_pos ⟨l0, ht⟩, if_pos ht]
      · rw [if_neg (fun h => ht h.2), if_neg ht]
  have h3 : ∀ x : Int, (if x = 0 then 0 else x) = x := fun x => by
    by_cases hx : x = 0
    · rw [if_pos hx, hx]
    · rw [if_neg hx]
  rw [h3, h2]

theorem aref_no {w : World} {A : Option Addr} {b : List UInt8} {c : Nat} (t v : Int) (hA : Bys w A b) (hl : b.length ≤ 140737488355328) (hno : NoChunk b) :
    Calls Try.prog 25 #[.slice A b.length c, .agg #[.int .i64 t, .int .i64 v]] w fun e w' => e = .returned (.tuple #[.slice none 0 0, .int .i64 5]) ∧ Below w.heap.size w w' := by
  have hb0 := below_one w (.cells #[.int .i64 t, .int .i64 v] 44)
  have HD := Lib.hid (dref_no (c := c) (hA.below hb0) hl hno)
  clear hA hno
  go_enter Try.func25, Try.ntmps25
  go_wp2_with fail
  refine HD.out.mono ?_
  rintro e w1 ⟨rfl, hb1⟩
  go_wp2_with fail
  go_ret2
  exact ⟨rfl, hb0.trans (hb1.mono hb0.size)⟩
theorem aref_full {w : World} {A : Option Addr} {b : List UInt8} {c : Nat} {l : List Smp} (t v : Int) (hA : Bys w A b) (hl : b.length ≤ 140737488355328) (hc : chk l = 0) (he : encL l = b) (hf : l.length = 120) :
    Calls Try.prog 25 #[.slice A b.length c, .agg #[.int .i64 t, .int .i64 v]] w fun e w' => e = .returned (.tuple #[.slice none 0 0, .int .i64 7]) ∧ Below w.heap.size w w' := by
  have hb0 := below_one w (.cells #[.int .i64 t, .int .i64 v] 44)
  have HD := Lib.hid (dref_yes (c := c) (hA.below hb0) hl hc he)
  clear hA hc he
  go_enter Try.func25, Try.ntmps25
  go_wp2_with fail
  refine HD.out.mono ?_
  rintro e w1 ⟨v1, rfl, hO1, hb1⟩
  obtain ⟨P1, c1, hv1, _, hS1, _⟩ := owns_slice hO1
  rw [hf] at hv1
  subst hv1
  go_wp2_with fail
  go_ret2
  exact ⟨rfl, hb0.trans (hb1.mono hb0.size)⟩
/-- append of samples to an own row where a region draws its order. -/
theorem step_app_smps {w : World} {ops : Array Oper} {o : Oper} {a : Act} {K : Act → World → Prop} {Q : Exit → Act → World → Prop} {E : Prop} (hgd : o.guard = none) (s y : Operand)
    (ho : o.op = .call { callee := .builtin .append, args := #[s, y], argTypes := #[22, 22] })
    (base : Nat) (v : Value) (x : List Smp) (hs : a.eval s = v) (hown : OwnS w base v x) (A : Option Addr) (l : List Smp) (c : Nat) (hy : a.eval y = .slice A l.length c) (hA : Smps w A l) (hn : (x.length + l.length) * 16 ≤ 140737488355328) (hbase : base ≤ w.heap.size)
    (h : ∀ v' w', OwnS w' base v' (x ++ l) → Below base w w' → w.grownBy w' v.ownBlock → K (a.put o.dst v') w') : if Region.wanted o (yielded ops a.tmps) = true then Oper.wp Try.prog o a w K Q else E := by
  obtain ⟨i0, hi, hz0, hz1, hz2⟩ := info_parts sample_info
  refine step_app_at hgd s y 22 ho base 44 i0 _ 2 16 Try.underlying22 hi hz0 hz1 hz2 rfl (by omega) v x.length (x.flatMap smpE) hs hown A l.length c (l.flatMap smpE) hy (flat_len smpE 2 smpE_len l) hA (smp_one l)
    (by simp only [maxLen]; omega) hn hbase ?_
  intro v' w' h1 h2 h3
  refine h v' w' ?_ h2 h3
  unfold OwnS
  rw [List.flatMap_append, List.length_append]
  exact h1

set_option maxRecDepth 20000 in
set_option maxHeartbeats 2000000 in
theorem aref_yes {w : World} {A : Option Addr} {b : List UInt8} {c : Nat} {l : List Smp} (t v : Int) (hA : Bys w A b) (hl : b.length ≤ 140737488355328) (hc : chk l = 0) (he : encL l = b) (hf : ¬ l.length = 120) :
    Calls Try.prog 25 #[.slice A b.length c, .agg #[.int .i64 t, .int .i64 v]] w fun e w' => ∃ u, e = .returned (.tuple #[u, .int .i64 (chk (l ++ [(t, v)]))]) ∧ Sl w' u (if chk (l ++ [(t, v)]) = 0 then encL (l ++ [(t, v)]) else []) ∧ Below w.heap.size w w' := by
  have hl120 := (chk_zero.1 hc).2.1
  have l0 := (chk_zero.1 hc).1
  have hsn := chk_snoc (s := (t, v)) hc (by omega)
  have hb0 := below_one w (.cells #[.int .i64 t, .int .i64 v] 44)
  have hX : Row (w.alloc (.cells #[.int .i64 t, .int .i64 v] 44)) w.heap.size 44 #[.int .i64 t, .int .i64 v] := Row.new w _ _
  have HD := Lib.hid (dref_yes (c := c) (hA.below hb0) hl hc he)
  have i1 : decide ((120 : Int) ≤ (l.length : Int)) = false := by simp; omega
  have HM := Lib.hid (may_ref t v)
  have HB0 := Lib.hid hb0
  have HX := Lib.hid hX
  have HER := Lib.hid (fun V cc W hV => encode_ref V (l ++ [(t, v)]) cc W hV (by simp; omega))
  clear hA hc he hb0 hX
  cases hm : mayB (t, v)
  · rw [if_pos hm] at hsn
    rw [hsn, if_neg (by decide)]
    rw [hm] at HM
    clear hsn HER
    go_enter Try.func25, Try.ntmps25
    go_wp2_with fail
    refine HD.out.mono ?_
    rintro e w1 ⟨v1, rfl, hO1, hb1⟩
    obtain ⟨P1, c1, hv1, _, hS1, _⟩ := owns_slice hO1
    subst hv1
    have hX1 := HX.out.below hb1 HX.out.lt
    have x0 : w1.cell? ⟨w.heap.size, 0, none⟩ = some (.int .i64 t) := hX1.cell 0
    have x1 : w1.cell? ⟨w.heap.size, 1, none⟩ = some (.int .i64 v) := hX1.cell 1
    have HB1 := Lib.hid (HB0.out.trans (hb1.mono HB0.out.size))
    clear hO1 hb1 hX1 hS1
    go_wp2_with fail
    refine (HM.out _).mono ?_
    rintro e w2 ⟨rfl, hb2⟩
    go_wp2_with fail
    go_ret2
    exact ⟨_, rfl, ⟨none, 0, rfl, Bys.empty _ _⟩, HB1.out.trans (hb2.mono HB1.out.size)⟩
  rw [hm] at HM
  rw [if_neg (by rw [hm]; simp)] at hsn
  have hj : (l.length : Int) - 1 = ((l.length - 1 : Nat) : Int) := by omega
  have hjl : ((l.length - 1 : Nat) : Int) < (l.length : Int) := by omega
  have HJ := Lib.hid (show l.length - 1 < l.length by omega)
  by_cases ht : t ≤ tOf l (l.length - 1)
  · rw [if_pos ht] at hsn
    rw [hsn, if_neg (by decide)]
    clear hsn HER
    go_enter Try.func25, Try.ntmps25
    go_wp2_with fail
    refine HD.out.mono ?_
    rintro e w1 ⟨v1, rfl, hO1, hb1⟩
    obtain ⟨P1, c1, hv1, _, hS1, _⟩ := owns_slice hO1
    subst hv1
    obtain ⟨bb, oo, rfl, hbb, g0, _⟩ := hS1.at_ HJ.out
    have hX1 := HX.out.below hb1 HX.out.lt
    have x0 : w1.cell? ⟨w.heap.size, 0, none⟩ = some (.int .i64 t) := hX1.cell 0
    have x1 : w1.cell? ⟨w.heap.size, 1, none⟩ = some (.int .i64 v) := hX1.cell 1
    have HB1 := Lib.hid (HB0.out.trans (hb1.mono HB0.out.size))
    have d1 : decide (t ≤ tOf l (l.length - 1)) = true := decide_eq_true ht
    have HX1 := Lib.hid hX1
    generalize tOf l (l.length - 1) = T1 at *
    generalize l.length - 1 = j at *
    have wrj : IntKind.i64.wrap ((l.length : Int) - 1) = (j : Int) := by rw [hj]; exact IntWalk.i64_in _ (by omega)
    have wrjj : IntKind.i64.wrap (j : Int) = (j : Int) := IntWalk.i64_in _ (by omega)
    clear hO1 hb1 hX1 hS1 ht HJ
    go_wp2_with fail
    refine (HM.out _).mono ?_
    rintro e w2 ⟨rfl, hb2⟩
    have y0 : w2.cell? ⟨w.heap.size, 0, none⟩ = some (.int .i64 t) := (HX1.out.below hb2 HX1.out.lt).cell 0
    have k0 := (hb2.cell (p := ⟨bb, oo + j * 2, none⟩) (by show bb < _; omega)).trans g0
    have HB2 := Lib.hid (show Below w.heap.size w w2.drew from (HB1.out.trans (hb2.mono HB1.out.size)).drew)
    clear x0 x1 g0 hb2
    go_wp2_with fail
    go_region
    all_goals
      go_wp2_with fail
      go_ret2
      exact ⟨_, rfl, ⟨none, 0, rfl, Bys.empty _ _⟩, HB2.out⟩
  · rw [if_neg ht] at hsn
    rw [hsn, if_pos rfl]
    rw [hsn, if_pos rfl] at HER
    clear hsn
    go_enter Try.func25, Try.ntmps25
    go_wp2_with fail
    refine HD.out.mono ?_
    rintro e w1 ⟨v1, rfl, hO1, hb1⟩
    obtain ⟨P1, c1, hv1, _, hS1, _⟩ := owns_slice hO1
    subst hv1
    obtain ⟨bb, oo, rfl, hbb, g0, _⟩ := hS1.at_ HJ.out
    have hX1 := HX.out.below hb1 HX.out.lt
    have x0 : w1.cell? ⟨w.heap.size, 0, none⟩ = some (.int .i64 t) := hX1.cell 0
    have x1 : w1.cell? ⟨w.heap.size, 1, none⟩ = some (.int .i64 v) := hX1.cell 1
    have HB1 := Lib.hid (HB0.out.trans (hb1.mono HB0.out.size))
    have d1 : decide (t ≤ tOf l (l.length - 1)) = false := decide_eq_false (by omega)
    have HX1 := Lib.hid hX1
    have HS1 := Lib.hid hS1
    generalize tOf l (l.length - 1) = T1 at *
    generalize l.length - 1 = j at *
    have wrj : IntKind.i64.wrap ((l.length : Int) - 1) = (j : Int) := by rw [hj]; exact IntWalk.i64_in _ (by omega)
    have wrjj : IntKind.i64.wrap (j : Int) = (j : Int) := IntWalk.i64_in _ (by omega)
    clear hO1 hb1 hX1 hS1 ht HJ
    go_wp2_with fail
    refine (HM.out _).mono ?_
    rintro e w2 ⟨rfl, hb2⟩
    have y0 : w2.cell? ⟨w.heap.size, 0, none⟩ = some (.int .i64 t) := (HX1.out.below hb2 HX1.out.lt).cell 0
    have k0 := (hb2.cell (p := ⟨bb, oo + j * 2, none⟩) (by show bb < _; omega)).trans g0
    obtain ⟨z, hz⟩ : ∃ z, w2.drew = z := ⟨_, rfl⟩
    have HXz : Row z w.heap.size 44 #[.int .i64 t, .int .i64 v] := by subst hz; exact HX1.out.below hb2.drew HX1.out.lt
    have HSz : Smps z (some ⟨bb, oo, none⟩) l := by subst hz; exact HS1.out.below hb2.drew
    have HBz := Lib.hid (show Below w.heap.size w z by subst hz; exact (HB1.out.trans (hb2.mono HB1.out.size)).drew)
    have q0 : z.cell? ⟨w.heap.size, 0, none⟩ = some (.int .i64 t) := HXz.cell 0
    have k1 : z.cell? ⟨bb, oo + j * 2, none⟩ = some (.int .i64 T1) := by subst hz; exact k0
    have hzl := HXz.lt
    have HXz := Lib.hid HXz
    have HSz := Lib.hid HSz
    clear x0 x1 g0 hb2
    go_wp2_with fail
    go_region
    all_goals
      try rw [hz]
      clear hz y0 k0 q0 k1 wrj wrjj d1
      have z0 : z.cell? ⟨w.heap.size, 0, none⟩ = some (.int .i64 t) := HXz.out.cell 0
      have z1 : z.cell? ⟨w.heap.size, 1, none⟩ = some (.int .i64 v) := HXz.out.cell 1
      have E1 := Lib.hid (show OwnS (z.alloc (.cells #[] 44)).drew (w.heap.size + 1) (.slice (some ⟨z.heap.size, 0, none⟩) 0 0) [] from owns_empty (Row.new z _ _) (by omega))
      have E2 := Lib.hid (show ∀ o, OwnS ((z.alloc (.cells #[] 44)).alloc o).drew (w.heap.size + 1) (.slice (some ⟨z.heap.size, 0, none⟩) 0 0) [] from fun o => owns_empty ((Row.new z _ _).alloc o) (by omega))
      have E3 := Lib.hid (show ∀ o, OwnS ((z.alloc o).alloc (.cells #[] 44)).drew (w.heap.size + 1) (.slice (some ⟨z.heap.size + 1, 0, none⟩) 0 0) [] from fun o => owns_empty (row_at z _ _ _) (by omega))
      have B1 := Lib.hid (show ∀ o, Smps (z.alloc o).drew (some ⟨bb, oo, none⟩) l from fun o => HSz.out.alloc o)
      have B2 := Lib.hid (show ∀ o o', Smps ((z.alloc o).alloc o').drew (some ⟨bb, oo, none⟩) l from fun o o' => (HSz.out.alloc o).alloc o')
      have S1 := Lib.hid (show ∀ o, w.heap.size + 1 ≤ (z.alloc o).drew.heap.size from fun o => by simp; omega)
      have S2 := Lib.hid (show ∀ o o', w.heap.size + 1 ≤ ((z.alloc o).alloc o').drew.heap.size from fun o o' => by simp; omega)
      have SZ := Lib.hid (show w.heap.size + 1 ≤ z.heap.size by omega)
      have W1 := Lib.hid (show ∀ o, Below (w.heap.size + 1) z (z.alloc o).drew from fun o => ((Below.refl _ z).alloc (by omega) o).drew)
      have W2 := Lib.hid (show ∀ o o', Below (w.heap.size + 1) z ((z.alloc o).alloc o').drew from fun o o' => (((Below.refl _ z).alloc (by omega) o).alloc (by simp; omega) o').drew)
      have N2 := Lib.hid (show ∀ o, Row ((z.alloc o).alloc (.cells #[.int .i64 t, .int .i64 v] 44)).drew (z.heap.size + 1) 44 #[.int .i64 t, .int .i64 v] from fun o => row_at z o _ _)
      have N3 := Lib.hid (show ∀ o, Row ((z.alloc (.cells #[.int .i64 t, .int .i64 v] 44)).alloc o).drew z.heap.size 44 #[.int .i64 t, .int .i64 v] from fun o => (Row.new z _ _).alloc o)
      have HL1 := Lib.hid (show (([] : List Smp).length + l.length) * 16 ≤ 140737488355328 by simp; omega)
      have HL2 := Lib.hid (show (([] ++ l : List Smp).length + [(t, v)].length) * 16 ≤ 140737488355328 by simp; omega)
      have HNIL := Lib.hid (show ([] ++ l : List Smp) = l from rfl)
      go_wp2_with fail
      go_region_held3 (fun w' => w'.cell? ⟨w.heap.size, 0, none⟩ = some (.int .i64 t) ∧ w'.cell? ⟨w.heap.size, 1, none⟩ = some (.int .i64 v))
                (first | exact ⟨z0, z1⟩ | exact ⟨u0, u1⟩ | exact ⟨uu0 _, uu1 _⟩ | exact ⟨t0, t1⟩ | exact z0 | exact z1 | exact u0 | exact u1 | exact uu0 _ | exact uu1 _ | exact t0 | exact t1 | exact ⟨s0, s1⟩ | exact s0 | exact s1 | go_keep)
                (first
                  | (refine step_app_smps rfl (.tmp 32) (.tmp 33) rfl (w.heap.size + 1) (.slice (some ⟨z.heap.size, 0, none⟩) 0 0) [] rfl (by first | exact E1.out | exact E2.out _) (some ⟨bb, oo, none⟩) l c1 rfl (by first | exact B1.out _ | exact B2.out _ _) HL1.out (by first | exact S1.out _ | exact S2.out _ _) ?_
                     intro v5 w5 hO5 hb5 hg5
                     have HO5 := Lib.hid hO5
                     have HB5 := Lib.hid (show Below (w.heap.size + 1) z w5 by first | exact (W1.out _).trans hb5 | exact (W2.out _ _).trans hb5)
                     first | have HN5 := Lib.hid (show Row w5 (z.heap.size + 1) 44 #[.int .i64 t, .int .i64 v] from grown_row (N2.out _) hg5 (by simp [Value.ownBlock])) | skip
                     obtain ⟨P5, c5, hv5, _, _, _⟩ := owns_slice HO5.out
                     have HS5 := Lib.hid (show w.heap.size + 1 ≤ w5.heap.size from Nat.le_trans SZ.out HB5.out.size)
                     have u0 := (HB5.out.cell (p := ⟨w.heap.size, 0, none⟩) (by show w.heap.size < _; omega)).trans z0
                     have u1 := (HB5.out.cell (p := ⟨w.heap.size, 1, none⟩) (by show w.heap.size < _; omega)).trans z1
                     have uu0 : ∀ o, (w5.alloc o).cell? ⟨w.heap.size, 0, none⟩ = some (.int .i64 t) := fun o => ((below_one w5 o).cell (p := ⟨w.heap.size, 0, none⟩) (by have := HS5.out; show w.heap.size < _; omega)).trans u0
                     have uu1 : ∀ o, (w5.alloc o).cell? ⟨w.heap.size, 1, none⟩ = some (.int .i64 v) := fun o => ((below_one w5 o).cell (p := ⟨w.heap.size, 1, none⟩) (by have := HS5.out; show w.heap.size < _; omega)).trans u1
                     generalize ([] ++ l).length = l5 at hv5
                     subst hv5
                     clear hO5 hb5 hg5)
                  | (refine step_app_smps rfl (.tmp 32) (.tmp 33) rfl (w.heap.size + 1) (.slice (some ⟨z.heap.size + 1, 0, none⟩) 0 0) [] rfl (by first | exact E3.out _) (some ⟨bb, oo, none⟩) l c1 rfl (by first | exact B1.out _ | exact B2.out _ _) HL1.out (by first | exact S1.out _ | exact S2.out _ _) ?_
                     intro v5 w5 hO5 hb5 hg5
                     have HO5 := Lib.hid hO5
                     have HB5 := Lib.hid (show Below (w.heap.size + 1) z w5 by first | exact (W1.out _).trans hb5 | exact (W2.out _ _).trans hb5)
                     first | have HN5 := Lib.hid (show Row w5 z.heap.size 44 #[.int .i64 t, .int .i64 v] from grown_row (N3.out _) hg5 (by simp [Value.ownBlock])) | skip
                     obtain ⟨P5, c5, hv5, _, _, _⟩ := owns_slice HO5.out
                     have HS5 := Lib.hid (show w.heap.size + 1 ≤ w5.heap.size from Nat.le_trans SZ.out HB5.out.size)
                     have u0 := (HB5.out.cell (p := ⟨w.heap.size, 0, none⟩) (by show w.heap.size < _; omega)).trans z0
                     have u1 := (HB5.out.cell (p := ⟨w.heap.size, 1, none⟩) (by show w.heap.size < _; omega)).trans z1
                     have uu0 : ∀ o, (w5.alloc o).cell? ⟨w.heap.size, 0, none⟩ = some (.int .i64 t) := fun o => ((below_one w5 o).cell (p := ⟨w.heap.size, 0, none⟩) (by have := HS5.out; show w.heap.size < _; omega)).trans u0
                     have uu1 : ∀ o, (w5.alloc o).cell? ⟨w.heap.size, 1, none⟩ = some (.int .i64 v) := fun o => ((below_one w5 o).cell (p := ⟨w.heap.size, 1, none⟩) (by have := HS5.out; show w.heap.size < _; omega)).trans u1
                     generalize ([] ++ l).length = l5 at hv5
                     subst hv5
                     clear hO5 hb5 hg5)
                  | (refine step_app_smps rfl (.tmp 34) (.tmp 36) rfl (w.heap.size + 1) _ ([] ++ l) rfl (by first | exact HO5.out | exact owns_below HO5.out (below_one _ _)) _ [(t, v)] 1 rfl (by first | exact smps_cell HN5.out | exact smps_cell (Row.new _ _ _)) HL2.out (by first | exact HS5.out | exact Nat.le_trans HS5.out (by simp)) ?_
                     intro v7 w7 hO7 hb7 _
                     have HO7 := Lib.hid hO7
                     have HB7 := Lib.hid (show Below (w.heap.size + 1) z w7 by first | exact HB5.out.trans hb7 | exact (HB5.out.alloc HS5.out _).trans hb7)
                     obtain ⟨P7, c7, hv7, _, hS7, _⟩ := owns_slice HO7.out
                     rw [HNIL.out] at hv7 hS7
                     have HC := Lib.hid (HER.out P7 c7 w7 hS7)
                     generalize (l ++ [(t, v)]).length = l7 at hv7 HC
                     have t0 := (HB7.out.cell (p := ⟨w.heap.size, 0, none⟩) (by show w.heap.size < _; omega)).trans z0
                     have t1 := (HB7.out.cell (p := ⟨w.heap.size, 1, none⟩) (by show w.heap.size < _; omega)).trans z1
                     subst hv7
                     clear hO7 hb7 hS7)
                  | (go_at_call 14
                     refine HC.out.mono ?_
                     rintro e w8 ⟨v8, rfl, ⟨P8, c8, hv8, hB8⟩, hb8⟩
                     have HB8 := Lib.hid hB8
                     have Hb8 := Lib.hid hb8
                     have s0 := (hb8.cell (p := ⟨w.heap.size, 0, none⟩) (by have := HB7.out.size; show w.heap.size < _; omega)).trans t0
                     have s1 := (hb8.cell (p := ⟨w.heap.size, 1, none⟩) (by have := HB7.out.size; show w.heap.size < _; omega)).trans t1
                     generalize hl8 : (encL (l ++ [(t, v)])).length = l8 at hv8
                     have HL8 := Lib.hid hl8
                     subst hv8
                     clear hB8 hb8 hl8))
      all_goals
        clear u0 u1 uu0 uu1 t0 t1 s0 s1 z0 z1
        go_wp2_with fail
        go_ret2
        exact ⟨_, rfl, ⟨P8, c8, by rw [HL8.out]; rfl, HB8.out⟩, (HBz.out.trans (HB7.out.mono (Nat.le_succ _))).trans (Hb8.out.mono (by have := HBz.out.size; have := HB7.out.size; omega))⟩
end Go.Proofs.Ytheaebkegncdlaa
