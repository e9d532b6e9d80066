/- In one text, written by lotify.py: ChMath, ChSmp, ChCheck, ChCut1. -/
import Derived.Laws.CopyOwn
import Derived.Lib.Slices
import Derived.Lib.Small
import Derived.Lib.Walk
import Derived.Lib.BitFns
import Derived.Test.YtpcjnagdanmdpaaGreatHdLotM
import Derived.RangeFuncBox
import Derived.RangeFuncCalls
import Derived.Shelf.RegionOpen
import Derived.OwnWalkIn
import Derived.LoopNIn
import Derived.LoopIn
namespace Go.Proofs.YtpcjnagdanmdpaaGreat.Ch
set_option linter.unusedVariables false
/-! ### samples -/
abbrev Smp := Int × Int
def tOf (l : List Smp) (i : Nat) : Int := (l.getD i (0, 0)).1
def vOf (l : List Smp) (i : Nat) : Int := (l.getD i (0, 0)).2
def mayB (s : Smp) : Bool := decide (0 ≤ s.1) && decide (s.1 ≤ 1099511627776) && decide (-1152921504606846976 ≤ s.2) && decide (s.2 ≤ 1152921504606846976)
theorem mayB_iff {s : Smp} : mayB s = true ↔ 0 ≤ s.1 ∧ s.1 ≤ 1099511627776 ∧ -1152921504606846976 ≤ s.2 ∧ s.2 ≤ 1152921504606846976 := by
  unfold mayB
  simp only [Bool.and_eq_true, decide_eq_true_eq, and_assoc]
def errAt (l : List Smp) (i : Nat) : Int := if mayB (l.getD i (0, 0)) = false then 11 else if 0 < i ∧ tOf l i ≤ tOf l (i - 1) then 13 else 0
def errF (l : List Smp) : Nat → Nat → Int
  | 0, _ => 0
  | n + 1, i => if errAt l i = 0 then errF l n (i + 1) else errAt l i
/-- The document's answer: are they a chunk's samples? -/
def chk (l : List Smp) : Int := if l.length = 0 ∨ 120 < l.length then 2 else errF l l.length 0
def Good (l : List Smp) : Prop := ∀ i, i < l.length → mayB (l.getD i (0, 0)) = true ∧ (0 < i → tOf l (i - 1) < tOf l i)
theorem errAt_zero {l : List Smp} {i : Nat} : errAt l i = 0 ↔ mayB (l.getD i (0, 0)) = true ∧ (0 < i → tOf l (i - 1) < tOf l i) := by
  unfold errAt
  cases hm : mayB (l.getD i (0, 0))
  · simp
  · simp only [Bool.true_eq_false, if_false, true_and]
    by_cases h : 0 < i ∧ tOf l i ≤ tOf l (i - 1)
    · rw [if_pos h]
      simp only [show (13 : Int) = 0 ↔ False from by decide, false_iff]
      intro hc
      have := hc h.1
      omega
    · rw [if_neg h]
      simp only [true_iff]
      intro h0
      rcases Int.lt_or_le (tOf l (i - 1)) (tOf l i) with h1 | h1
      · exact h1
      · exact absurd ⟨h0, h1⟩ h
end Go.Proofs.YtpcjnagdanmdpaaGreat.Ch

namespace Go.Proofs.YtpcjnagdanmdpaaGreat.Ch
open Go.ChangeShapes Go.WideShapes Go.ChangeAt Go.RowKit Go.Joins Go.Maps
set_option linter.unusedVariables false
def smpE (s : Smp) : List Value := [.int .i64 s.1, .int .i64 s.2]
theorem smpE_len (s : Smp) : (smpE s).length = 2 := rfl
def Smps (w : World) (A : Option Addr) (l : List Smp) : Prop := At w A (l.flatMap smpE)
theorem Smps.below {w w' : World} {A : Option Addr} {l : List Smp} (h : Smps w A l) (hb : Below w.heap.size w w') : Smps w' A l := At.below h hb
theorem Smps.at_ {w : World} {A : Option Addr} {l : List Smp} (h : Smps w A l) {i : Nat} (hi : i < l.length) :
    ∃ b o, A = some ⟨b, o, none⟩ ∧ b < w.heap.size ∧ w.cell? ⟨b, o + i * 2, none⟩ = some (.int .i64 (tOf l i)) ∧ w.cell? ⟨b, o + i * 2 + 1, none⟩ = some (.int .i64 (vOf l i)) := by
  have hlen := flat_len smpE 2 smpE_len l
  rcases h with h | ⟨b, o, rfl, hb, hc⟩
  · rw [h] at hlen; simp at hlen; omega
  · refine ⟨b, o, rfl, hb, ?_, ?_⟩
    · have := hc (i * 2 + 0) _ (flat_get smpE 2 smpE_len l i _ 0 (getD_some l (0, 0) hi) (by omega))
      exact this
    · have := hc (i * 2 + 1) _ (flat_get smpE 2 smpE_len l i _ 1 (getD_some l (0, 0) hi) (by omega))
      exact this
/-- The first address is the same for every element. -/
theorem Smps.all {w : World} {A : Option Addr} {l : List Smp} (h : Smps w A l) (hl : 0 < l.length) :
    ∃ b o, A = some ⟨b, o, none⟩ ∧ b < w.heap.size ∧ ∀ i, i < l.length → w.cell? ⟨b, o + i * 2, none⟩ = some (.int .i64 (tOf l i)) ∧ w.cell? ⟨b, o + i * 2 + 1, none⟩ = some (.int .i64 (vOf l i)) := by
  obtain ⟨b, o, rfl, hb, _⟩ := h.at_ hl
  refine ⟨b, o, rfl, hb, fun i hi => ?_⟩
  obtain ⟨b', o', e, _, h1, h2⟩ := h.at_ hi
  injection e with e
  injection e with e1 e2 _
  subst e1 e2
  exact ⟨h1, h2⟩
/-- The value v is a row of samples of the call's own, from block base on, and holds l. -/
def OwnS (w : World) (base : Nat) (v : Value) (l : List Smp) : Prop := w.ownsRow base 68 2 v l.length (l.flatMap smpE)
section
variable {w w' : World} {base : Nat} {v : Value} {l : List Smp}
theorem owns_nil (w : World) (base : Nat) : OwnS w base (.slice none 0 0) [] := ⟨rfl, .inl ⟨rfl, rfl⟩⟩
theorem owns_empty {g : Nat} (h : Row w g 68 #[]) (hb : base ≤ g) : OwnS w base (.slice (some ⟨g, 0, none⟩) 0 0) [] :=
  ⟨rfl, .inr ⟨g, 0, #[], rfl, hb, h, Nat.le_refl _, by simp [maxLen], by simp, by simp⟩⟩
theorem owns_below (h : OwnS w base v l) (hb : Below w.heap.size w w') : OwnS w' base v l := rows_below h hb
theorem owns_slice (h : OwnS w base v l) : ∃ P c, v = .slice P l.length c ∧ l.length ≤ c ∧ Smps w P l ∧ ∀ ad, P = some ad → base ≤ ad.block := rows_slice h
end
theorem sample_info : (Tryz.prog.info? 68).map (fun i => (i.zero, i.size, i.bytes)) = some (some (.agg #[.int .i64 0, .int .i64 0]), 2, 16) := by kernel_rfl
theorem smp_one (l : List Smp) : ∀ u ∈ l.flatMap smpE, u.oneCell' = true := by
  intro u hu
  simp only [List.mem_flatMap, smpE, List.mem_cons, List.not_mem_nil, or_false] at hu
  obtain ⟨x, _, rfl | rfl⟩ := hu <;> rfl
/-- append of samples to an own row, at a walk's built-in. -/
theorem app_smps {w : World} {ops : Array Oper} {rest : List Oper} {o : Oper} {a : Act} {Q : Exit → Act → World → Prop} (hgd : o.guard = none) (s y : Operand)
    (ho : o.op = .call { callee := .builtin .append, args := #[s, y], argTypes := #[50, 50] })
    (base : Nat) (v : Value) (x : List Smp) (hs : a.eval s = v) (hown : OwnS w base v x) (A : Option Addr) (l : List Smp) (c : Nat) (hy : a.eval y = .slice A l.length c) (hA : Smps w A l) (hn : (x.length + l.length) * 16 ≤ 140737488355328) (hbase : base ≤ w.heap.size)
    (h : ∀ v' w', OwnS w' base v' (x ++ l) → Below base w w' → w.grownBy w' v.ownBlock → wpList Tryz.prog ops Q rest (a.put o.dst v') w') : wpList Tryz.prog ops Q (o :: rest) a w := by
  obtain ⟨i0, hi, hz0, hz1, hz2⟩ := info_parts sample_info
  refine wpList_app_at hgd s y 50 ho base 68 i0 _ 2 16 Tryz.underlying50 hi hz0 hz1 hz2 rfl (by omega) v x.length (x.flatMap smpE) hs hown A l.length c (l.flatMap smpE) hy (flat_len smpE 2 smpE_len l) hA (smp_one l)
    (by simp only [maxLen]; omega) hn hbase ?_
  intro v' w' h1 h2 h3
  refine h v' w' ?_ h2 h3
  unfold OwnS
  rw [List.flatMap_append, List.length_append]
  exact h1
theorem smps_cell {w : World} {g : Nat} {t v : Int} (h : Row w g 68 #[.int .i64 t, .int .i64 v]) : Smps w (some ⟨g, 0, none⟩) [(t, v)] := At.row h
section
variable {H : Type} {enc : TypeId × Value → H} {W : World} {base : Nat} {sp : Nat → Bool} {held : Bool}
end
end Go.Proofs.YtpcjnagdanmdpaaGreat.Ch

namespace Go.Proofs.YtpcjnagdanmdpaaGreat.Ch
open Go.RowKit
set_option linter.unusedVariables false
theorem may_cases (s : Smp) : (decide (0 ≤ s.1) = false ∧ mayB s = false) ∨ (decide (0 ≤ s.1) = true ∧ decide (s.1 ≤ 1099511627776) = false ∧ mayB s = false) ∨
    (decide (0 ≤ s.1) = true ∧ decide (s.1 ≤ 1099511627776) = true ∧ decide (-1152921504606846976 ≤ s.2) = false ∧ mayB s = false) ∨
    (decide (0 ≤ s.1) = true ∧ decide (s.1 ≤ 1099511627776) = true ∧ decide (-1152921504606846976 ≤ s.2) = true ∧ decide (s.2 ≤ 1152921504606846976) = false ∧ mayB s = false) ∨
    (decide (0 ≤ s.1) = true ∧ decide (s.1 ≤ 1099511627776) = true ∧ decide (-1152921504606846976 ≤ s.2) = true ∧ decide (s.2 ≤ 1152921504606846976) = true ∧ mayB s = true) := by
  unfold mayB
  cases decide (0 ≤ s.1) <;> cases decide (s.1 ≤ 1099511627776) <;> cases decide (-1152921504606846976 ≤ s.2) <;> cases decide (s.2 ≤ 1152921504606846976) <;> simp
theorem may_prog (t v : Int) (w : World) :
    Calls Tryz.prog 105 #[.agg #[.int .i64 t, .int .i64 v]] w fun e w' => e = .returned (.bool (mayB (t, v))) ∧ Below w.heap.size w w' := by
  rcases may_cases (t, v) with ⟨h1, h⟩ | ⟨h1, h2, h⟩ | ⟨h1, h2, h3, h⟩ | ⟨h1, h2, h3, h4, h⟩ | ⟨h1, h2, h3, h4, h⟩
  all_goals
    rw [h]
    clear h
    go_enter Tryz.func105, Tryz.ntmps105
    go_wp2
    go_ret
    exact ⟨rfl, below_one _ _⟩
theorem may_ref (t v : Int) (w : World) :
    Calls Tryz.prog 82 #[.agg #[.int .i64 t, .int .i64 v]] w fun e w' => e = .returned (.bool (mayB (t, v))) ∧ Below w.heap.size w w' := by
  rcases may_cases (t, v) with ⟨h1, h⟩ | ⟨h1, h2, h⟩ | ⟨h1, h2, h3, h⟩ | ⟨h1, h2, h3, h4, h⟩ | ⟨h1, h2, h3, h4, h⟩
  all_goals
    rw [h]
    clear h
    go_enter Tryz.func82, Tryz.ntmps82
    go_wp2
    go_ret
    exact ⟨rfl, below_one _ _⟩
theorem chk_prog (A : Option Addr) (l : List Smp) (c : Nat) (w : World) (hA : Smps w A l) (hl : l.length ≤ 100000000000000) :
    Calls Tryz.prog 79 #[.slice A l.length c] w fun e w' => e = .returned (.int .i64 (chk l)) ∧ Below w.heap.size w w' := by
  by_cases h0 : l.length = 0
  · have e : chk l = 2 := by unfold chk; rw [if_pos (.inl h0)]
    rw [e, h0]
    clear e
    go_enter Tryz.func79, Tryz.ntmps79
    go_wp2
    go_ret
    exact ⟨rfl, Below.refl _ _⟩
  by_cases h1 : 120 < l.length
  · have e : chk l = 2 := by unfold chk; rw [if_pos (.inr h1)]
    rw [e]
    clear e
    have i0 : ((l.length : Int) == 0) = false := by rw [beq_eq_false_iff_ne]; omega
    have i1 : decide ((120 : Int) < (l.length : Int)) = true := by simp; omega
    go_enter Tryz.func79, Tryz.ntmps79
    go_wp2
    go_ret
    exact ⟨rfl, Below.refl _ _⟩
  have hC := Lib.hid (show errF l l.length 0 = chk l by unfold chk; rw [if_neg (by omega)])
  obtain ⟨b, o, rfl, hb, hc⟩ := hA.all (by omega)
  have Hc := Lib.hid hc
  clear hc hA
  have i0 : ((l.length : Int) == 0) = false := by rw [beq_eq_false_iff_ne]; omega
  have i1 : decide ((120 : Int) < (l.length : Int)) = false := by simp; omega
  go_enter Tryz.func79, Tryz.ntmps79
  go_wp2_with fail
  go_loopw [15] (fun i wr => ∃ k : Nat, k ≤ l.length ∧ i = .int .i64 (k : Int) ∧ errF l (l.length - k) k = chk l ∧ Below w.heap.size w wr) (fun i _ => l.length - (intOf i).toNat)
  case atStart => exact ⟨0, Nat.zero_le _, rfl, hC.out, Below.refl _ _⟩
  case round =>
    obtain ⟨k, hk, rfl, he, hbr⟩ := hrel
    have hsz := hbr.size
    by_cases hlt : k < l.length
    · obtain ⟨g0, g1⟩ := Hc.out k hlt
      have c0 := (hbr.cell (p := ⟨b, o + k * 2, none⟩) hb).trans g0
      have c1 := (hbr.cell (p := ⟨b, o + k * 2 + 1, none⟩) hb).trans g1
      have i2 : (k : Int) < (l.length : Int) := by omega
      have hM := may_prog (tOf l k) (vOf l k)
      have HE := Lib.hid he
      clear he g0 g1
      rw [show l.length - k = (l.length - (k + 1)) + 1 from by omega, errF] at HE
      cases hm : mayB (tOf l k, vOf l k)
      · rw [hm] at hM
        have eA : errAt l k = 11 := by unfold errAt; rw [if_pos (by exact hm)]
        rw [eA] at HE
        have HM := Lib.hid hM
        clear hM hm
        go_wp2_with fail
        refine (HM.out _).mono ?_
        rintro e w2 ⟨rfl, hb2⟩
        go_wp2
        go_ret
        exact ⟨by rw [← HE.out]; rfl, below_then (hbr.alloc hsz _) hb2⟩
      · rw [hm] at hM
        have HM := Lib.hid hM
        clear hM
        go_wp2_with fail
        refine (HM.out _).mono ?_
        rintro e w2 ⟨rfl, hb2⟩
        have hW2 := below_then (hbr.alloc hsz _) hb2
        have R : Row w2 wr.heap.size 68 #[.int .i64 (tOf l k), .int .i64 (vOf l k)] := (Row.new wr _ _).below hb2 (by simp)
        have r0 : w2.cell? ⟨wr.heap.size, 0, none⟩ = some (.int .i64 (tOf l k)) := R.cell 0
        have hd2 : Below w.heap.size w w2.drew := hW2.drew
        clear R
        by_cases hk0 : 0 < k
        · obtain ⟨p0, _⟩ := Hc.out (k - 1) (by omega)
          have d0 := (hW2.cell (p := ⟨b, o + (k - 1) * 2, none⟩) hb).trans p0
          have i3 : decide ((0 : Int) < (k : Int)) = true := by simp; omega
          clear p0 c0 c1
          by_cases hle : tOf l k ≤ tOf l (k - 1)
          · have i4 : decide (tOf l k ≤ tOf l (k - 1)) = true := by simpa using hle
            have eA : errAt l k = 13 := by unfold errAt; rw [if_neg (by rw [show l.getD k (0, 0) = (tOf l k, vOf l k) from rfl, hm]; simp), if_pos ⟨hk0, hle⟩]
            rw [eA] at HE
            clear hm hle
            go_wp2_with fail
            go_region
            all_goals
              go_wp2_with fail
              go_ret
              exact ⟨by rw [← HE.out]; rfl, hd2⟩
          · have i4 : decide (tOf l k ≤ tOf l (k - 1)) = false := by simpa using hle
            have eA : errAt l k = 0 := errAt_zero.2 ⟨hm, fun _ => by omega⟩
            rw [eA, if_pos rfl] at HE
            clear hm hle eA
            go_wp2_with fail
            go_region
            all_goals
              go_wp2_with fail
              go_roundw
              case rel => exact ⟨k + 1, by omega, by go_num, HE.out, hd2⟩
              case measure => simp [intOf]; omega
        · have i3 : decide ((0 : Int) < (k : Int)) = false := by simp; omega
          have eA : errAt l k = 0 := errAt_zero.2 ⟨hm, fun h => absurd h hk0⟩
          rw [eA, if_pos rfl] at HE
          clear hm eA
          go_wp2_with fail
          go_region
          all_goals
            go_wp2_with fail
            go_roundw
            case rel => exact ⟨k + 1, by omega, by go_num, HE.out, hd2⟩
            case measure => simp [intOf]; omega
    · obtain rfl : k = l.length := by omega
      rw [Nat.sub_self] at he
      have HE := Lib.hid he
      clear he
      go_wp2_with fail
      go_ret
      exact ⟨by rw [← HE.out]; rfl, hbr⟩
end Go.Proofs.YtpcjnagdanmdpaaGreat.Ch

namespace Go.Proofs.YtpcjnagdanmdpaaGreat.Ch
open Go.RowKit Go.Shelf
set_option linter.unusedVariables false
attribute [local go_sem] Oper.semAt_some
end Go.Proofs.YtpcjnagdanmdpaaGreat.Ch
