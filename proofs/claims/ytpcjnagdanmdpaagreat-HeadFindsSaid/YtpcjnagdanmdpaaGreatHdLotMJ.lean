/- In one text, written by lotify.py: MtChk, MtGet, MtFits, MtRows, MtAll, MtChkAll. -/
import Derived.Test.YtpcjnagdanmdpaaGreatMtMath
import Derived.Test.YtpcjnagdanmdpaaGreatHdLotRI
namespace Go.Proofs.YtpcjnagdanmdpaaGreat
open Go.RowKit
set_option linter.unusedVariables false
theorem sign_prog (k : Int) (w : World) : Calls Tryz.prog 83 #[.int .i64 k] w fun e w' => e = .returned (.string (signM k)) ∧ w = w' := by
  by_cases h1 : k = 1
  · subst h1
    go_enter Tryz.func83, Tryz.ntmps83
    go_wp2
    go_ret
    exact ⟨rfl, rfl⟩
  by_cases h2 : k = 2
  · subst h2
    go_enter Tryz.func83, Tryz.ntmps83
    go_wp2
    go_ret
    exact ⟨rfl, rfl⟩
  by_cases h3 : k = 3
  · subst h3
    go_enter Tryz.func83, Tryz.ntmps83
    go_wp2
    go_ret
    exact ⟨rfl, rfl⟩
  by_cases h4 : k = 4
  · subst h4
    go_enter Tryz.func83, Tryz.ntmps83
    go_wp2
    go_ret
    exact ⟨rfl, rfl⟩
  have d1 : (k == 1) = false := beq_eq_false_iff_ne.2 h1
  have d2 : (k == 2) = false := beq_eq_false_iff_ne.2 h2
  have d3 : (k == 3) = false := beq_eq_false_iff_ne.2 h3
  have d4 : (k == 4) = false := beq_eq_false_iff_ne.2 h4
  rw [show signM k = ⟨#[]⟩ by unfold signM; rw [if_neg h1, if_neg h2, if_neg h3, if_neg h4]]
  clear h1 h2 h3 h4
  go_enter Tryz.func83, Tryz.ntmps83
  go_wp2
  go_ret
  exact ⟨rfl, rfl⟩
set_option maxHeartbeats 1000000 in
theorem mchk_prog (k : Int) (n v : ByteArray) (w : World) : Calls Tryz.prog 61 #[.agg #[.int .i64 k, .string n, .string v]] w fun e w' => e = .returned (.int .i64 (mchk (k, n, v))) ∧ Below w.heap.size w w' := by
  have HS := Lib.hid (fun W => sign_prog k W)
  have HN := Lib.hid (fun W => name_prog n W)
  have HB0 := Lib.hid (below_one w (.cells #[.int .i64 k, .string n, .string v] 107))
  cases hk : kindB k with
  | false =>
    rw [mchk_kind hk]
    rw [sign_none hk] at HS
    clear hk
    go_enter Tryz.func61, Tryz.ntmps61
    go_wp2_with (go_at_call 83; refine (HS.out _).mono ?_; rintro e w1 ⟨rfl, rfl⟩)
    go_ret
    exact ⟨rfl, HB0.out⟩
  | true =>
    have hs := sign_some hk
    cases hn : nameB (strL n) with
    | false =>
      rw [mchk_name hk hn]
      rw [hn] at HN
      generalize signM k = sg at HS hs
      clear hk hn
      go_enter Tryz.func61, Tryz.ntmps61
      go_wp2_with (first
        | (go_at_call 83; refine (HS.out _).mono ?_; rintro e w1 ⟨rfl, rfl⟩)
        | (go_at_call 67; refine (HN.out _).mono ?_; rintro e w1 ⟨rfl, rfl⟩))
      go_ret
      exact ⟨rfl, HB0.out⟩
    | true =>
      rw [hn] at HN
      by_cases hv : 64 < v.size
      · rw [mchk_big hk hn hv]
        generalize signM k = sg at HS hs
        clear hk hn
        go_enter Tryz.func61, Tryz.ntmps61
        go_wp2_with (first
          | (go_at_call 83; refine (HS.out _).mono ?_; rintro e w1 ⟨rfl, rfl⟩)
          | (go_at_call 67; refine (HN.out _).mono ?_; rintro e w1 ⟨rfl, rfl⟩))
        go_ret
        exact ⟨rfl, HB0.out⟩
      · by_cases h2 : k ≤ 2
        · rw [mchk_eq hk hn hv h2]
          have d3 : (k == 3) = false := beq_eq_false_iff_ne.2 (by omega)
          have d4 : (k == 4) = false := beq_eq_false_iff_ne.2 (by omega)
          generalize signM k = sg at HS hs
          clear hk hn h2
          go_enter Tryz.func61, Tryz.ntmps61
          go_wp2_with (first
            | (go_at_call 83; refine (HS.out _).mono ?_; rintro e w1 ⟨rfl, rfl⟩)
            | (go_at_call 67; refine (HN.out _).mono ?_; rintro e w1 ⟨rfl, rfl⟩))
          go_ret
          exact ⟨rfl, HB0.out⟩
        · rw [mchk_re hk hn hv h2]
          have HC := Lib.hid (fun W => check_prog W v (n := 300) (by omega))
          have hk34 : k = 3 ∨ k = 4 := by rcases kind_cases hk with h | h | h | h <;> omega
          generalize signM k = sg at HS hs
          clear hk hn h2
          rcases hk34 with rfl | rfl
          all_goals
            go_enter Tryz.func61, Tryz.ntmps61
            go_wp2_with (first
              | (go_at_call 83; refine (HS.out _).mono ?_; rintro e w1 ⟨rfl, rfl⟩)
              | (go_at_call 67; refine (HN.out _).mono ?_; rintro e w1 ⟨rfl, rfl⟩)
              | (go_at_call 84; refine (HC.out _).mono ?_; rintro e w2 ⟨rfl, hb2⟩; have HB2 := Lib.hid (below_then HB0.out hb2); clear hb2))
            go_ret
            exact ⟨rfl, HB2.out⟩
set_option maxHeartbeats 1000000 in
theorem takes_prog (k : Int) (n v x : ByteArray) (w : World) : Calls Tryz.prog 85 #[.agg #[.int .i64 k, .string n, .string v], .string x] w fun e w' => e = .returned (.bool (mtake (k, n, v) x)) ∧ Below w.heap.size w w' := by
  have HB0 := Lib.hid (below_one w (.cells #[.int .i64 k, .string n, .string v] 107))
  by_cases h12 : k = 1 ∨ k = 2
  · have hq := eqT x v
    have HM := Lib.hid (show mtake (k, n, v) x = if k = 1 then decide (x = v) else !decide (x = v) by rcases h12 with rfl | rfl <;> rfl)
    rw [HM.out]
    generalize decide (x = v) = b at hq ⊢
    rcases h12 with rfl | rfl <;> cases b
    all_goals
      go_enter Tryz.func85, Tryz.ntmps85
      go_wp2_with fail
      go_ret
      exact ⟨rfl, HB0.out⟩
  · by_cases h34 : k = 3 ∨ k = 4
    · have HF := Lib.hid (fun W => fits_prog W v x (n := 300) (by omega))
      have HM := Lib.hid (show mtake (k, n, v) x = if k = 3 then (fitV 300 (strL v) (strL x)).1 else !(fitV 300 (strL v) (strL x)).1 by rcases h34 with rfl | rfl <;> rfl)
      rw [HM.out]
      generalize fitV 300 (strL v) (strL x) = q at HF ⊢
      obtain ⟨b, c⟩ := q
      clear h12
      rcases h34 with rfl | rfl <;> cases b
      all_goals
        go_enter Tryz.func85, Tryz.ntmps85
        go_wp2_with (go_at_call 107; refine (HF.out _).mono ?_; rintro e w2 ⟨rfl, hb2⟩; have HB2 := Lib.hid (below_then HB0.out hb2); clear hb2)
        go_ret
        exact ⟨rfl, HB2.out⟩
    · have HM := Lib.hid (show mtake (k, n, v) x = false by
        unfold mtake
        rw [if_neg (by intro h; exact h12 (.inl h)), if_neg (by intro h; exact h12 (.inr h)), if_neg (by intro h; exact h34 (.inl h)), if_neg (by intro h; exact h34 (.inr h))])
      have d1 : (k == 1) = false := beq_eq_false_iff_ne.2 (by omega)
      have d2 : (k == 2) = false := beq_eq_false_iff_ne.2 (by omega)
      have d3 : (k == 3) = false := beq_eq_false_iff_ne.2 (by omega)
      have d4 : (k == 4) = false := beq_eq_false_iff_ne.2 (by omega)
      rw [HM.out]
      clear h12 h34
      go_enter Tryz.func85, Tryz.ntmps85
      go_wp2_with fail
      go_ret
      exact ⟨rfl, HB0.out⟩
theorem val_eq {l : List Lbl} {name : ByteArray} {k : Nat} (hk : k < l.length) (h : nmOf l k = name) : valOf (l.drop k) name = vlOf l k := by
  rw [List.drop_eq_getElem_cons hk, valOf]
  have e : l[k] = l.getD k lbl0 := by simp [List.getD, List.getElem?_eq_getElem hk]
  rw [e]
  exact if_pos h
theorem val_ne {l : List Lbl} {name : ByteArray} {k : Nat} (hk : k < l.length) (h : nmOf l k ≠ name) : valOf (l.drop k) name = valOf (l.drop (k + 1)) name := by
  rw [List.drop_eq_getElem_cons hk, valOf]
  have e : l[k] = l.getD k lbl0 := by simp [List.getD, List.getElem?_eq_getElem hk]
  rw [e]
  exact if_neg h
theorem ret_strv {a b : ByteArray} (h : a = b) : Ending.returned (.string a) = .returned (.string b) := by rw [h]
theorem get_prog (A : Option Addr) (l : List Lbl) (c : Nat) (name : ByteArray) (w : World) (hA : Lbls w A l) (hl : l.length ≤ 100000000000000) :
    Calls Tryz.prog 86 #[.slice A l.length c, .string name] w fun e w' => e = .returned (.string (valOf l name)) ∧ Below w.heap.size w w' := by
  have HA := Lib.hid hA
  clear hA
  go_enter Tryz.func86, Tryz.ntmps86
  go_wp2_with fail
  go_loopw [9] (fun i wr => ∃ k : Nat, k ≤ l.length ∧ i = .int .i64 (k : Int) ∧ valOf (l.drop k) name = valOf l name ∧ Below w.heap.size w wr) (fun i _ => l.length - (intOf i).toNat)
  case atStart => exact ⟨0, Nat.zero_le _, rfl, rfl, Below.refl _ _⟩
  case round =>
    obtain ⟨k, hk, rfl, he, hbr⟩ := hrel
    by_cases hlt : k < l.length
    · obtain ⟨b, o, rfl, hb, g0, g1⟩ := HA.out.at_ hlt
      have c0 := (hbr.cell (p := ⟨b, o + k * 2, none⟩) hb).trans g0
      have c1 := (hbr.cell (p := ⟨b, o + k * 2 + 1, none⟩) hb).trans g1
      have i2 : (k : Int) < (l.length : Int) := by omega
      have hq := eqT (nmOf l k) name
      have HB := Lib.hid (hbr.alloc hbr.size (.cells #[.string (nmOf l k), .string (vlOf l k)] 83))
      clear g0 g1 hbr
      by_cases h : nmOf l k = name
      · have HE := Lib.hid ((val_eq hlt h).symm.trans he)
        rw [decide_eq_true h] at hq
        clear he h
        go_wp2_with fail
        go_ret
        exact ⟨ret_strv HE.out, HB.out⟩
      · have HE := Lib.hid ((val_ne hlt h).symm.trans he)
        rw [decide_eq_false h] at hq
        clear he h
        go_wp2_with fail
        go_roundw
        case rel => exact ⟨k + 1, by omega, by go_num, HE.out, HB.out⟩
        case measure => simp [intOf]; omega
    · obtain rfl : k = l.length := by omega
      rw [List.drop_length] at he
      have HE := Lib.hid (show (⟨#[]⟩ : ByteArray) = valOf l name from he)
      clear he
      go_wp2_with fail
      go_ret
      exact ⟨ret_strv HE.out, hbr⟩
set_option maxHeartbeats 2000000 in
theorem mfits_prog (k : Int) (n v : ByteArray) (A : Option Addr) (l : List Lbl) (c : Nat) (w : World) (hA : Lbls w A l) (hl : l.length ≤ 100000000000000) :
    Calls Tryz.prog 63 #[.agg #[.int .i64 k, .string n, .string v], .slice A l.length c] w fun e w' => e = .returned (.bool (mfits (k, n, v) l)) ∧ Below w.heap.size w w' := by
  have R1 : Row (w.alloc (.cells #[.int .i64 k, .string n, .string v] 107)).drew w.heap.size 107 #[.int .i64 k, .string n, .string v] := Row.new w _ _
  have HB0 := Lib.hid (below_one w (.cells #[.int .i64 k, .string n, .string v] 107)).drew
  have c0 : (w.alloc (.cells #[.int .i64 k, .string n, .string v] 107)).drew.cell? ⟨w.heap.size, 0, none⟩ = some (.int .i64 k) := R1.cell 0
  have c1 : (w.alloc (.cells #[.int .i64 k, .string n, .string v] 107)).drew.cell? ⟨w.heap.size, 1, none⟩ = some (.string n) := R1.cell 1
  have c2 : (w.alloc (.cells #[.int .i64 k, .string n, .string v] 107)).drew.cell? ⟨w.heap.size, 2, none⟩ = some (.string v) := R1.cell 2
  have HR := Lib.hid R1
  have HC := Lib.hid (fun W => mchk_prog k n v W)
  have HG := Lib.hid (fun W (h : Lbls W A l) => get_prog A l c n W h hl)
  have HT := Lib.hid (fun W => takes_prog k n v (valOf l n) W)
  have HA := Lib.hid hA
  clear R1 hA
  by_cases h0 : mchk (k, n, v) = 0
  · have HM := Lib.hid (show mfits (k, n, v) l = mtake (k, n, v) (valOf l n) by unfold mfits; rw [decide_eq_true h0]; rfl)
    rw [HM.out]
    rw [h0] at HC
    generalize mtake (k, n, v) (valOf l n) = b at HT ⊢
    generalize valOf l n = x at HG HT
    clear h0
    go_enter Tryz.func63, Tryz.ntmps63
    go_wp2_with fail
    go_region_held3 (fun w' => w'.cell? ⟨w.heap.size, 0, none⟩ = some (.int .i64 k) ∧ w'.cell? ⟨w.heap.size, 1, none⟩ = some (.string n) ∧ w'.cell? ⟨w.heap.size, 2, none⟩ = some (.string v)) (go_keep)
      (first
        | (go_at_call 61; refine (HC.out _).mono ?_; rintro e w1 ⟨rfl, hb1⟩
           have HB1 := Lib.hid (HB0.out.trans (hb1.mono HB0.out.size))
           have HR1 := Lib.hid (HR.out.below hb1 HR.out.lt)
           have d0 : w1.cell? ⟨w.heap.size, 0, none⟩ = some (.int .i64 k) := HR1.out.cell 0
           have d1 : w1.cell? ⟨w.heap.size, 1, none⟩ = some (.string n) := HR1.out.cell 1
           have d2 : w1.cell? ⟨w.heap.size, 2, none⟩ = some (.string v) := HR1.out.cell 2
           clear hb1)
        | (go_at_call 86; refine (HG.out _ (HA.out.below HB1.out)).mono ?_; rintro e w2 ⟨rfl, hb2⟩
           have HB2 := Lib.hid (HB1.out.trans (hb2.mono HB1.out.size))
           have HR2 := Lib.hid (HR1.out.below hb2 HR1.out.lt)
           have e0 : w2.cell? ⟨w.heap.size, 0, none⟩ = some (.int .i64 k) := HR2.out.cell 0
           have e1 : w2.cell? ⟨w.heap.size, 1, none⟩ = some (.string n) := HR2.out.cell 1
           have e2 : w2.cell? ⟨w.heap.size, 2, none⟩ = some (.string v) := HR2.out.cell 2
           clear hb2)
        | (go_at_call 85; refine (HT.out _).mono ?_; rintro e w3 ⟨rfl, hb3⟩
           have HB3 := Lib.hid (HB2.out.trans (hb3.mono HB2.out.size))
           have HR3 := Lib.hid (HR2.out.below hb3 HR2.out.lt)
           have f0 : w3.cell? ⟨w.heap.size, 0, none⟩ = some (.int .i64 k) := HR3.out.cell 0
           have f1 : w3.cell? ⟨w.heap.size, 1, none⟩ = some (.string n) := HR3.out.cell 1
           have f2 : w3.cell? ⟨w.heap.size, 2, none⟩ = some (.string v) := HR3.out.cell 2
           clear hb3))
    all_goals
      go_wp2_with fail
      go_ret
      exact ⟨rfl, HB3.out⟩
  · rw [fits_no h0]
    generalize mchk (k, n, v) = ck at HC h0
    have z0 : (ck == 0) = false := beq_eq_false_iff_ne.2 h0
    clear h0
    go_enter Tryz.func63, Tryz.ntmps63
    go_wp2_with fail
    first
      | go_region_with
        ((go_at_call 61; refine (HC.out _).mono ?_; rintro e w1 ⟨rfl, hb1⟩
          have HB1 := Lib.hid (HB0.out.trans (hb1.mono HB0.out.size))
          have HR1 := Lib.hid (HR.out.below hb1 HR.out.lt)
          have d0 : w1.cell? ⟨w.heap.size, 0, none⟩ = some (.int .i64 k) := HR1.out.cell 0
          have d1 : w1.cell? ⟨w.heap.size, 1, none⟩ = some (.string n) := HR1.out.cell 1
          have d2 : w1.cell? ⟨w.heap.size, 2, none⟩ = some (.string v) := HR1.out.cell 2
          clear hb1))
      | fail
    all_goals
      go_wp2_with fail
      go_ret
      exact ⟨rfl, HB1.out⟩
end Go.Proofs.YtpcjnagdanmdpaaGreat

namespace Go.Proofs.YtpcjnagdanmdpaaGreat
open Go.ChangeShapes Go.WideShapes Go.ChangeAt Go.RowKit Go.Joins Go.Maps
set_option linter.unusedVariables false
def kdOf (l : List Mt) (i : Nat) : Int := (l.getD i mt0).1
def mnOf (l : List Mt) (i : Nat) : ByteArray := (l.getD i mt0).2.1
def mvOf (l : List Mt) (i : Nat) : ByteArray := (l.getD i mt0).2.2
theorem mt_of (l : List Mt) (i : Nat) : (kdOf l i, mnOf l i, mvOf l i) = l.getD i mt0 := rfl
def mtE (s : Mt) : List Value := [.int .i64 s.1, .string s.2.1, .string s.2.2]
theorem mtE_len (s : Mt) : (mtE s).length = 3 := rfl
def Mts (w : World) (A : Option Addr) (l : List Mt) : Prop := At w A (l.flatMap mtE)
theorem Mts.below {w w' : World} {A : Option Addr} {l : List Mt} (h : Mts w A l) (hb : Below w.heap.size w w') : Mts w' A l := At.below h hb
theorem Mts.nil (w : World) (A : Option Addr) : Mts w A [] := .inl rfl
theorem Mts.at_ {w : World} {A : Option Addr} {l : List Mt} (h : Mts w A l) {i : Nat} (hi : i < l.length) :
    ∃ b o, A = some ⟨b, o, none⟩ ∧ b < w.heap.size ∧ w.cell? ⟨b, o + i * 3, none⟩ = some (.int .i64 (kdOf l i)) ∧ w.cell? ⟨b, o + i * 3 + 1, none⟩ = some (.string (mnOf l i)) ∧ w.cell? ⟨b, o + i * 3 + 2, none⟩ = some (.string (mvOf l i)) := by
  have hlen := flat_len mtE 3 mtE_len l
  rcases h with h | ⟨b, o, rfl, hb, hc⟩
  · rw [h] at hlen; simp at hlen; omega
  · refine ⟨b, o, rfl, hb, ?_, ?_, ?_⟩
    · exact hc (i * 3 + 0) _ (flat_get mtE 3 mtE_len l i _ 0 (getD_some l mt0 hi) (by omega))
    · exact hc (i * 3 + 1) _ (flat_get mtE 3 mtE_len l i _ 1 (getD_some l mt0 hi) (by omega))
    · exact hc (i * 3 + 2) _ (flat_get mtE 3 mtE_len l i _ 2 (getD_some l mt0 hi) (by omega))
/-- The value v is a row of matchers of the call's own, from block base on, and holds l. -/
def OwnM (w : World) (base : Nat) (v : Value) (l : List Mt) : Prop := w.ownsRow base 107 3 v l.length (l.flatMap mtE)
section
variable {w w' : World} {base : Nat} {v : Value} {l : List Mt}
theorem ownm_empty {g : Nat} (h : Row w g 107 #[]) (hb : base ≤ g) : OwnM w base (.slice (some ⟨g, 0, none⟩) 0 0) [] :=
  ⟨rfl, .inr ⟨g, 0, #[], rfl, hb, h, Nat.le_refl _, by simp [maxLen], by simp, by simp⟩⟩
theorem ownm_slice (h : OwnM w base v l) : ∃ P c, v = .slice P l.length c ∧ l.length ≤ c ∧ Mts w P l ∧ ∀ ad, P = some ad → base ≤ ad.block := rows_slice h
end
theorem mt_info : (Tryz.prog.info? 107).map (fun i => (i.zero, i.size, i.bytes)) = some (some (.agg #[.int .i64 0, .string ⟨#[]⟩, .string ⟨#[]⟩]), 3, 40) := by kernel_rfl
theorem mt_one (l : List Mt) : ∀ u ∈ l.flatMap mtE, u.oneCell' = true := by
  intro u hu
  simp only [List.mem_flatMap, mtE, List.mem_cons, List.not_mem_nil, or_false] at hu
  obtain ⟨x, _, rfl | rfl | rfl⟩ := hu <;> rfl
/-- append of matchers to an own row, at a walk's built-in. -/
theorem app_mts {w : World} {ops : Array Oper} {rest : List Oper} {o : Oper} {a : Act} {Q : Exit → Act → World → Prop} (hgd : o.guard = none) (s y : Operand)
    (ho : o.op = .call { callee := .builtin .append, args := #[s, y], argTypes := #[23, 23] })
    (base : Nat) (v : Value) (x : List Mt) (hs : a.eval s = v) (hown : OwnM w base v x) (A : Option Addr) (l : List Mt) (c : Nat) (hy : a.eval y = .slice A l.length c) (hA : Mts w A l) (hn : (x.length + l.length) * 40 ≤ 140737488355328) (hbase : base ≤ w.heap.size)
    (h : ∀ v' w', OwnM w' base v' (x ++ l) → Below base w w' → w.grownBy w' v.ownBlock → wpList Tryz.prog ops Q rest (a.put o.dst v') w') : wpList Tryz.prog ops Q (o :: rest) a w := by
  obtain ⟨i0, hi, hz0, hz1, hz2⟩ := info_parts mt_info
  refine wpList_app_at hgd s y 23 ho base 107 i0 _ 3 40 Tryz.underlying23 hi hz0 hz1 hz2 rfl (by omega) v x.length (x.flatMap mtE) hs hown A l.length c (l.flatMap mtE) hy (flat_len mtE 3 mtE_len l) hA (mt_one l)
    (by simp only [maxLen]; omega) hn hbase ?_
  intro v' w' h1 h2 h3
  refine h v' w' ?_ h2 h3
  unfold OwnM
  rw [List.flatMap_append, List.length_append]
  exact h1
/-! ### opening -/
/-- A matcher as it comes in: its number is one, its texts are no longer than a law's argument may be. -/
def MFit (m : Mt) : Prop := (-9223372036854775808 ≤ m.1 ∧ m.1 ≤ 9223372036854775807) ∧ m.2.1.size ≤ 140737488351232 ∧ m.2.2.size ≤ 140737488351232
def MFits (l : List Mt) : Prop := ∀ i, i < l.length → MFit (l.getD i mt0)
section
variable {H : Type} {enc : TypeId × Value → H} {W : World} {base : Nat} {sp : Nat → Bool} {held : Bool}
theorem trod_struct3 {P : Program} {w : World} {t : TypeId} {f0 f1 f2 : Field} {fuel : Nat} {cs : List Value} {x : DataW H × List MemPlace} (ht : P.underlying t = some (.struct #[f0, f1, f2])) (h : DataW.trod enc P w base sp held fuel t cs = some x) :
    ∃ y0 y1 y2 n, x.1 = .agg [y0.1, y1.1, y2.1] ∧ cs.length = P.cellsOf t ∧ DataW.trod enc P w base sp held n f0.type ((cs.drop f0.offset).take (P.cellsOf f0.type)) = some y0 ∧
      DataW.trod enc P w base sp held n f1.type ((cs.drop f1.offset).take (P.cellsOf f1.type)) = some y1 ∧ DataW.trod enc P w base sp held n f2.type ((cs.drop f2.offset).take (P.cellsOf f2.type)) = some y2 := by
  obtain ⟨xs, n, _, rfl, hl, hlen, hf⟩ := DataW.trod_struct ht h
  match xs, hlen with
  | [y0, y1, y2], _ => exact ⟨y0, y1, y2, n, by simp, hl, by simpa using hf 0 f0 rfl, by simpa using hf 1 f1 rfl, by simpa using hf 2 f2 rfl⟩
theorem three_of {α : Type} {l : List α} (h : l.length = 3) : ∃ c0 c1 c2, l = [c0, c1, c2] := by
  match l, h with
  | [c0, c1, c2], _ => exact ⟨c0, c1, c2, rfl⟩
theorem mt_cells : Tryz.prog.cellsOf 107 = 3 := by kernel_rfl
theorem mt_three : ∃ f0 f1 f2 : Field, Tryz.prog.underlying 107 = some (.struct #[f0, f1, f2]) ∧ Go.Deep.oneCellFields Tryz.prog #[f0, f1, f2] = true ∧ [f0.type, f1.type, f2.type] = [3, 9, 9] :=
  ⟨_, _, _, Tryz.underlying107, by kernel_rfl, rfl⟩
theorem open_mt {fuel : Nat} {cs : List Value} {x : DataW H × List MemPlace} (h : DataW.trod enc Tryz.prog W base sp held fuel 107 cs = some x) (hw : ∀ n ∈ x.1.weights Tryz.prog 107, n ≤ reachBytes) : ∃ s : Mt, cs = mtE s ∧ MFit s := by
  obtain ⟨f0, f1, f2, hu, hone, hty⟩ := mt_three
  simp only [List.cons.injEq, and_true] at hty
  obtain ⟨e0, e1, e2⟩ := hty
  obtain ⟨y0, y1, y2, n, hx, hl, h0, h1, h2⟩ := trod_struct3 hu h
  rw [mt_cells] at hl
  obtain ⟨c0, c1, c2, rfl⟩ := three_of hl
  obtain ⟨o0, k0⟩ := Go.Deep.hone_of hone 0 f0 rfl
  obtain ⟨o1, k1⟩ := Go.Deep.hone_of hone 1 f1 rfl
  obtain ⟨o2, k2⟩ := Go.Deep.hone_of hone 2 f2 rfl
  have h0' : DataW.trod enc Tryz.prog W base sp held n 3 [c0] = some y0 := by rw [← e0]; simpa [o0, k0] using h0
  have h1' : DataW.trod enc Tryz.prog W base sp held n 9 [c1] = some y1 := by rw [← e1]; simpa [o1, k1] using h1
  have h2' : DataW.trod enc Tryz.prog W base sp held n 9 [c2] = some y2 := by rw [← e2]; simpa [o2, k2] using h2
  have hwe : ∀ n ∈ DataW.weightsEach Tryz.prog [3, 9, 9] [y0.1, y1.1, y2.1], n ≤ reachBytes := by
    intro m hm
    refine hw m ?_
    rw [hx]
    unfold DataW.weights
    rw [hu]
    show m ∈ DataW.weightsEach Tryz.prog ([f0, f1, f2].map (·.type)) _
    rw [show [f0, f1, f2].map (fun x : Field => x.type) = [3, 9, 9] from by simp [e0, e1, e2]]
    exact hm
  have hsz : (DataW.weightsEach Tryz.prog [3, 9, 9] [y0.1, y1.1, y2.1]).all (· ≤ reachBytes) = true := List.all_eq_true.2 fun m hm => by simpa using hwe m hm
  obtain ⟨z0, g0, d0, w0⟩ := DataW.trod_int Tryz.underlying3 h0'
  obtain ⟨s1, g1, d1, _⟩ := DataW.trod_string Tryz.underlying9 h1'
  obtain ⟨s2, g2, d2, _⟩ := DataW.trod_string Tryz.underlying9 h2'
  simp only [List.cons.injEq, and_true] at g0 g1 g2
  subst g0 g1 g2
  have r1 := sized_string hsz (j := 1) rfl (bytes := s1.data.toList) (by rw [d1]; rfl)
  have r2 := sized_string hsz (j := 2) rfl (bytes := s2.data.toList) (by rw [d2]; rfl)
  rw [reach_is] at r1 r2
  refine ⟨(z0, s1, s2), rfl, bounds_i64 w0, ?_, ?_⟩
  · have : s1.data.toList.length = s1.size := Array.length_toList
    show s1.size ≤ 140737488351232
    omega
  · have : s2.data.toList.length = s2.size := Array.length_toList
    show s2.size ≤ 140737488351232
    omega
theorem open_mts {fuel : Nat} {v : Value} {x : DataW H × List MemPlace} (hf : DataW.trod enc Tryz.prog W base sp held fuel 23 [v] = some x) (hw : ∀ n ∈ x.1.weights Tryz.prog 23, n ≤ reachBytes) :
    ∃ (V : Option Addr) (l : List Mt) (c : Nat), v = .slice V l.length c ∧ Mts W V l ∧ MFits l ∧ l.length * 40 ≤ 140737488351232 ∧ l.length ≤ c := by
  rcases Go.Deep.open_slice Tryz.underlying23 hf with ⟨hcs, hx⟩ | ⟨a, len, cap, m, n, D, Pl, hcs, hb, hl, hm, hmm, hx, hcell⟩
  · simp only [List.cons.injEq, and_true] at hcs
    subst hcs
    exact ⟨none, [], 0, rfl, .inl rfl, fun i hi => by simp at hi, by simp, Nat.le_refl _⟩
  · simp only [List.cons.injEq, and_true] at hcs
    subst hcs
    rw [mt_cells] at hcell
    have hml : len ≤ m := by rw [hmm]; split <;> omega
    rw [hx] at hw
    simp only [DataW.weights, Tryz.underlying23] at hw
    have hbytes : Tryz.prog.bytesOf 107 = 40 := by kernel_rfl
    have hlen40 := hw ((((List.range len).map D).length + ((List.range (m - len)).map fun j => D (len + j)).length) * Tryz.prog.bytesOf 107) (by simp)
    rw [hbytes] at hlen40
    simp only [List.length_map, List.length_range] at hlen40
    rw [reach_is] at hlen40
    have each : ∀ i, i < len → ∃ y : Mt, MFit y ∧ W.cells? base (a.add (i * 3)) 3 = some (mtE y) := by
      intro i hi
      obtain ⟨cs', h1, h2⟩ := hcell i (by omega)
      obtain ⟨y, rfl, hy⟩ := open_mt h2 (fun q hq => hw q (by
        simp only [List.mem_cons, List.mem_append]
        exact .inr (.inl (weights_all (List.mem_map.2 ⟨i, List.mem_range.2 hi, rfl⟩) q hq))))
      exact ⟨y, hy, h1⟩
    obtain ⟨y, hy⟩ := Go.Deep.choose_lt each
    have hlen : ((List.range len).map y).length = len := by simp
    have hget : ∀ i, i < len → ((List.range len).map y).getD i mt0 = y i := by
      intro i hi
      simp [List.getD_eq_getElem?_getD, hi]
    refine ⟨some a, (List.range len).map y, cap, by rw [hlen], ?_, ?_, by rw [hlen]; omega, by rw [hlen]; exact hl⟩
    · rcases Nat.eq_zero_or_pos len with h0 | h0
      · have : (List.range len).map y = [] := List.eq_nil_of_length_eq_zero (by rw [hlen]; exact h0)
        rw [this]
        exact Mts.nil _ _
      · obtain ⟨b, o, spot⟩ := a
        obtain ⟨_, hcs0⟩ := hy 0 h0
        obtain ⟨_, _, hc0⟩ := World.cells?_some hcs0
        have hc := hc0 0 (by omega)
        have hspot : spot = none := by
          have := World.cell?_spot (hc.trans rfl)
          simpa [Addr.add] using this
        subst hspot
        have hc00 : W.cell? ⟨b, o, none⟩ = some (.int .i64 (y 0).1) := by
          have : (mtE (y 0))[0]? = some (.int .i64 (y 0).1) := rfl
          rw [this] at hc
          simpa [Addr.add] using hc
        refine .inr ⟨b, o, rfl, cell_lt hc00, fun j u hj => ?_⟩
        have hj2 : j < len * 3 := by
          have := (List.getElem?_eq_some_iff.1 hj).1
          rw [flat_len mtE 3 mtE_len, hlen] at this
          exact this
        have hi : j / 3 < len := by omega
        obtain ⟨_, hcs⟩ := hy (j / 3) hi
        obtain ⟨_, _, hcj⟩ := World.cells?_some hcs
        have h1 := hcj (j % 3) (by omega)
        rw [add_at, add_at] at h1
        have h2 := flat_get mtE 3 mtE_len ((List.range len).map y) (j / 3) _ (j % 3) (getD_some _ mt0 (by rw [hlen]; exact hi)) (by omega)
        rw [hget _ hi, show j / 3 * 3 + j % 3 = j from by omega, hj] at h2
        rw [← h2, show o + j / 3 * 3 + j % 3 = o + j from by omega] at h1
        exact h1
    · intro i hi
      rw [hlen] at hi
      rw [hget i hi]
      exact (hy i hi).1
end
end Go.Proofs.YtpcjnagdanmdpaaGreat

namespace Go.Proofs.YtpcjnagdanmdpaaGreat
open Go.RowKit
set_option linter.unusedVariables false
def IdxTold (w : World) (b : Bool) (e : Ending) (w' : World) : Prop := ∃ j : Int, e = .returned (.int .i64 j) ∧ -1 ≤ j ∧ j ≤ 9223372036854775807 ∧ decide (0 ≤ j) = b ∧ Below w.heap.size w w'
theorem fails_prog (X : Nat) (A : Option Addr) (l : List Lbl) (c : Nat) (k : Int) (n v : ByteArray) (w : World) (hX : Row w X 24 #[.slice A l.length c]) (hA : Lbls w A l) (hl : l.length ≤ 100000000000000) :
    Calls Tryz.prog 62 #[.agg #[.int .i64 k, .string n, .string v], .pointer (some ⟨X, 0, none⟩)] w fun e w' => e = .returned (.bool (!mfits (k, n, v) l)) ∧ Below w.heap.size w w' := by
  have hb0 := below_one w (.cells #[.int .i64 k, .string n, .string v] 107)
  have HB0 := Lib.hid hb0
  have HF := Lib.hid (mfits_prog k n v A l c _ (hA.below hb0) hl)
  have hX1 := hX.below hb0 hX.lt
  have x0 := hX1.cell 0
  have R1 := Row.new w 107 #[.int .i64 k, .string n, .string v]
  have c0 := R1.cell 0
  have c1 := R1.cell 1
  have c2 := R1.cell 2
  generalize mfits (k, n, v) l = b at HF ⊢
  clear hb0 hX1 R1 hX hA
  go_enter Tryz.func62, Tryz.ntmps62
  go_wp2_with (go_at_call 63; refine HF.out.mono ?_; rintro e w2 ⟨rfl, hb2⟩; have HB2 := Lib.hid (below_then HB0.out hb2); clear hb2)
  go_ret
  exact ⟨rfl, HB2.out⟩
theorem idx_prog (X : Nat) (V : Option Addr) (ms : List Mt) (d : Nat) (w : World) (hV : Mts w V ms) (hm : ms.length ≤ 100000000000000) (st : Mt → Bool)
    (hst : ∀ (W : World) (k : Int) (n v : ByteArray), Below w.heap.size w W → Calls Tryz.prog 62 #[.agg #[.int .i64 k, .string n, .string v], .pointer (some ⟨X, 0, none⟩)] W fun e w' => e = .returned (.bool (st (k, n, v))) ∧ Below W.heap.size W w') :
    Calls Tryz.prog 87 #[.slice V ms.length d, .func (.func 62) #[] #[.pointer (some ⟨X, 0, none⟩)]] w (IdxTold w (ms.any st)) := by
  have HV := Lib.hid hV
  have HS := Lib.hid hst
  clear hV hst
  go_enter Tryz.func87, Tryz.ntmps87
  go_wp2_with fail
  go_loopw [8] (fun i wr => ∃ k : Nat, k ≤ ms.length ∧ i = .int .i64 (k : Int) ∧ (ms.drop k).any st = ms.any st ∧ Below w.heap.size w wr) (fun i _ => ms.length - (intOf i).toNat)
  case atStart => exact ⟨0, Nat.zero_le _, rfl, rfl, Below.refl _ _⟩
  case round =>
    obtain ⟨k, hk, rfl, ha, hbr⟩ := hrel
    by_cases hlt : k < ms.length
    · obtain ⟨b, o, rfl, hb, g0, g1, g2⟩ := HV.out.at_ hlt
      have c0 := (hbr.cell (p := ⟨b, o + k * 3, none⟩) hb).trans g0
      have c1 := (hbr.cell (p := ⟨b, o + k * 3 + 1, none⟩) hb).trans g1
      have c2 := (hbr.cell (p := ⟨b, o + k * 3 + 2, none⟩) hb).trans g2
      have i1 : (0 : Int) ≤ (k : Int) := by omega
      have i2 : (k : Int) < (ms.length : Int) := by omega
      have HC := Lib.hid (HS.out wr (kdOf ms k) (mnOf ms k) (mvOf ms k) hbr)
      rw [List.drop_eq_getElem_cons hlt, List.any_cons, show ms[k] = (kdOf ms k, mnOf ms k, mvOf ms k) by rw [mt_of]; simp [List.getD, List.getElem?_eq_getElem hlt]] at ha
      have HB := Lib.hid hbr
      clear g0 g1 g2 hbr
      generalize kdOf ms k = kd at *
      generalize mnOf ms k = mn at *
      generalize mvOf ms k = mv at *
      cases hs : st (kd, mn, mv)
      · rw [hs] at HC ha
        have HA := Lib.hid ((Bool.false_or _).symm.trans ha)
        clear ha hs
        go_wp2_with (go_at_call 62; refine HC.out.mono ?_; rintro e w2 ⟨rfl, hb2⟩; have HB2 := Lib.hid (HB.out.trans (hb2.mono HB.out.size)); clear hb2)
        go_roundw
        case rel => exact ⟨k + 1, by omega, by go_num, HA.out, HB2.out⟩
        case measure => simp [intOf]; omega
      · rw [hs] at HC ha
        have HA := Lib.hid (show true = ms.any st by rw [← ha]; rfl)
        clear ha hs
        go_wp2_with (go_at_call 62; refine HC.out.mono ?_; rintro e w2 ⟨rfl, hb2⟩; have HB2 := Lib.hid (HB.out.trans (hb2.mono HB.out.size)); clear hb2)
        go_ret
        exact ⟨(k : Int), rfl, by omega, by omega, by rw [← HA.out]; simp, HB2.out⟩
    · obtain rfl : k = ms.length := by omega
      have HA := Lib.hid (show false = ms.any st by rw [← ha, List.drop_length]; rfl)
      have HB := Lib.hid hbr
      clear ha hbr
      go_wp2_with fail
      go_ret
      exact ⟨-1, rfl, by omega, by omega, by rw [← HA.out]; rfl, HB.out⟩
theorem contains_prog (X : Nat) (V : Option Addr) (ms : List Mt) (d : Nat) (w : World) (hV : Mts w V ms) (hm : ms.length ≤ 100000000000000) (st : Mt → Bool)
    (hst : ∀ (W : World) (k : Int) (n v : ByteArray), Below w.heap.size w W → Calls Tryz.prog 62 #[.agg #[.int .i64 k, .string n, .string v], .pointer (some ⟨X, 0, none⟩)] W fun e w' => e = .returned (.bool (st (k, n, v))) ∧ Below W.heap.size W w') :
    Calls Tryz.prog 64 #[.slice V ms.length d, .func (.func 62) #[] #[.pointer (some ⟨X, 0, none⟩)]] w fun e w' => e = .returned (.bool (ms.any st)) ∧ Below w.heap.size w w' := by
  have HI := Lib.hid (idx_prog X V ms d w hV hm st hst)
  clear hst
  generalize ms.any st = b at HI ⊢
  cases b
  · go_enter Tryz.func64, Tryz.ntmps64
    go_wp2_with (go_at_call 87; refine HI.out.mono ?_; rintro e w2 ⟨j, rfl, j1, j2, jb, hb2⟩; have HB2 := Lib.hid hb2; clear hb2)
    go_ret
    exact ⟨rfl, HB2.out⟩
  · go_enter Tryz.func64, Tryz.ntmps64
    go_wp2_with (go_at_call 87; refine HI.out.mono ?_; rintro e w2 ⟨j, rfl, j1, j2, jb, hb2⟩; have HB2 := Lib.hid hb2; clear hb2)
    go_ret
    exact ⟨rfl, HB2.out⟩
theorem any_not (ms : List Mt) (l : List Lbl) : (ms.any fun m => !mfits m l) = !mall ms l := by
  unfold mall
  induction ms with
  | nil => rfl
  | cons m ms ih => rw [List.any_cons, List.all_cons, ih, Bool.not_and]
theorem all_prog (V : Option Addr) (ms : List Mt) (d : Nat) (A : Option Addr) (l : List Lbl) (c : Nat) (w : World) (hV : Mts w V ms) (hm : ms.length ≤ 100000000000000) (hA : Lbls w A l) (hl : l.length ≤ 100000000000000) :
    Calls Tryz.prog 31 #[.slice V ms.length d, .slice A l.length c] w fun e w' => e = .returned (.bool (mall ms l)) ∧ Below w.heap.size w w' := by
  have hb0 := below_one w (.cells #[.slice A l.length c] 24)
  have hX := Row.new w 24 #[.slice A l.length c]
  have hA1 := hA.below hb0
  have HH := Lib.hid (contains_prog w.heap.size V ms d _ (hV.below hb0) hm (fun m => !mfits m l) (fun W k n v h => fails_prog w.heap.size A l c k n v W (hX.below h hX.lt) (hA1.below h) hl))
  have HB0 := Lib.hid hb0
  rw [any_not] at HH
  generalize mall ms l = b at HH ⊢
  clear hb0 hX hA1 hV hA
  go_enter Tryz.func31, Tryz.ntmps31
  go_wp2_with (go_at_call 64; refine HH.out.mono ?_; rintro e w2 ⟨rfl, hb2⟩; have HB2 := Lib.hid (below_then HB0.out hb2); clear hb2)
  go_ret
  exact ⟨rfl, HB2.out⟩
theorem merr_at {ms : List Mt} {k : Nat} (h : k < ms.length) : merr (ms.drop k) = if mchk (kdOf ms k, mnOf ms k, mvOf ms k) = 0 then merr (ms.drop (k + 1)) else mchk (kdOf ms k, mnOf ms k, mvOf ms k) := by
  rw [List.drop_eq_getElem_cons h, merr, show ms[k] = (kdOf ms k, mnOf ms k, mvOf ms k) by rw [mt_of]; simp [List.getD, List.getElem?_eq_getElem h]]
theorem ret_i64 {a b : Int} (h : a = b) : Ending.returned (.int .i64 a) = .returned (.int .i64 b) := by rw [h]
set_option maxHeartbeats 1000000 in
theorem chkall_prog (V : Option Addr) (ms : List Mt) (d : Nat) (w : World) (hV : Mts w V ms) (hm : ms.length ≤ 100000000000000) :
    Calls Tryz.prog 30 #[.slice V ms.length d] w fun e w' => e = .returned (.int .i64 (mchkAll ms)) ∧ Below w.heap.size w w' := by
  by_cases h8 : 8 < ms.length
  · rw [show mchkAll ms = 3 by unfold mchkAll; rw [if_pos h8]]
    go_enter Tryz.func30, Tryz.ntmps30
    go_wp2_with fail
    go_ret
    exact ⟨rfl, Below.refl _ _⟩
  have HV := Lib.hid hV
  have HQ := Lib.hid (show mchkAll ms = if merr ms ≠ 0 then merr ms else if mall ms [] = true then 2 else 0 by unfold mchkAll; rw [if_neg h8])
  clear hV
  go_enter Tryz.func30, Tryz.ntmps30
  go_wp2_with fail
  go_loopw [11] (fun i wr => ∃ k : Nat, k ≤ ms.length ∧ i = .int .i64 (k : Int) ∧ merr (ms.drop k) = merr ms ∧ Below w.heap.size w wr) (fun i _ => ms.length - (intOf i).toNat)
  case atStart => exact ⟨0, Nat.zero_le _, rfl, rfl, Below.refl _ _⟩
  case round =>
    obtain ⟨k, hk, rfl, he, hbr⟩ := hrel
    by_cases hlt : k < ms.length
    · obtain ⟨b, o, rfl, hb, g0, g1, g2⟩ := HV.out.at_ hlt
      have c0 := (hbr.cell (p := ⟨b, o + k * 3, none⟩) hb).trans g0
      have c1 := (hbr.cell (p := ⟨b, o + k * 3 + 1, none⟩) hb).trans g1
      have c2 := (hbr.cell (p := ⟨b, o + k * 3 + 2, none⟩) hb).trans g2
      have i2 : (k : Int) < (ms.length : Int) := by omega
      rw [merr_at hlt] at he
      have HC := Lib.hid (fun W => mchk_prog (kdOf ms k) (mnOf ms k) (mvOf ms k) W)
      have HB := Lib.hid (hbr.alloc hbr.size (.cells #[.int .i64 (kdOf ms k), .string (mnOf ms k), .string (mvOf ms k)] 107))
      clear g0 g1 g2 hbr
      generalize mchk (kdOf ms k, mnOf ms k, mvOf ms k) = ck at he HC
      generalize kdOf ms k = kd at *
      generalize mnOf ms k = mn at *
      generalize mvOf ms k = mv at *
      by_cases h0 : ck = 0
      · subst h0
        rw [if_pos rfl] at he
        have HE := Lib.hid he
        clear he
        go_wp2_with (go_at_call 61; refine (HC.out _).mono ?_; rintro e w2 ⟨rfl, hb2⟩; have HB2 := Lib.hid (HB.out.trans (hb2.mono HB.out.size)); clear hb2)
        go_roundw
        case rel => exact ⟨k + 1, by omega, by go_num, HE.out, HB2.out⟩
        case measure => simp [intOf]; omega
      · rw [if_neg h0] at he
        have HE := Lib.hid (show ck = mchkAll ms by rw [HQ.out, ← he, if_pos h0])
        have z0 : (ck == 0) = false := beq_eq_false_iff_ne.2 h0
        have z1 : (ck != 0) = true := by rw [bne, z0]; rfl
        clear he h0
        go_wp2_with (go_at_call 61; refine (HC.out _).mono ?_; rintro e w2 ⟨rfl, hb2⟩; have HB2 := Lib.hid (HB.out.trans (hb2.mono HB.out.size)); clear hb2)
        go_ret
        exact ⟨ret_i64 HE.out, HB2.out⟩
    · obtain rfl : k = ms.length := by omega
      have hz : merr ms = 0 := by rw [← he, List.drop_length]; rfl
      have HA := Lib.hid (show Calls Tryz.prog 31 #[.slice V ms.length d, .slice none 0 0] wr fun e w' => e = .returned (.bool (mall ms [])) ∧ Below wr.heap.size wr w' from all_prog V ms d none [] 0 wr (HV.out.below hbr) hm (Lbls.nil _ _) (by simp))
      have HE := Lib.hid (show (if mall ms [] = true then (2 : Int) else 0) = mchkAll ms by rw [HQ.out, hz, if_neg (show ¬ (0 : Int) ≠ 0 by simp)])
      have HB := Lib.hid hbr
      generalize mall ms [] = b at HA HE
      clear he hbr hz
      cases b
      all_goals
        go_wp2_with (go_at_call 31; refine HA.out.mono ?_; rintro e w2 ⟨rfl, hb2⟩; have HB2 := Lib.hid (HB.out.trans (hb2.mono HB.out.size)); clear hb2)
        go_ret
        exact ⟨ret_i64 HE.out, HB2.out⟩
end Go.Proofs.YtpcjnagdanmdpaaGreat
