/- Whether samples may be a chunk's: as the program and as the document's own answer tell it. -/
import Derived.Test.YtpcjnagdanmdpaaChSmp
namespace Go.Proofs.Ytpcjnagdanmdpaa.Ch
open Go.RowKit
set_option linter.unusedVariables false
theorem may_cases (s : Smp) : (decide (0 ≤ s.1) = false ∧ mayB s = false) ∨ (decide (0 ≤ s.1) = true ∧ decide (s.1 ≤ 1099511627776) = false ∧ mayB s = false) ∨
    (decide (0 ≤ s.1) = true ∧ decide (s.1 ≤ 1099511627776) = true ∧ decide (-1152921504606846976 ≤ s.2) = false ∧ mayB s = false) ∨
    (decide (0 ≤ s.1) = true ∧ decide (s.1 ≤ 1099511627776) = true ∧ decide (-1152921504606846976 ≤ s.2) = true ∧ decide (s.2 ≤ 1152921504606846976) = false ∧ mayB s = false) ∨
    (decide (0 ≤ s.1) = true ∧ decide (s.1 ≤ 1099511627776) = true ∧ decide (-1152921504606846976 ≤ s.2) = true ∧ decide (s.2 ≤ 1152921504606846976) = true ∧ mayB s = true) := by
  unfold mayB
  cases decide (0 ≤ s.1) <;> cases decide (s.1 ≤ 1099511627776) <;> cases decide (-1152921504606846976 ≤ s.2) <;> cases decide (s.2 ≤ 1152921504606846976) <;> simp
theorem may_prog (t v : Int) (w : World) :
    Calls Try.prog 93 #[.agg #[.int .i64 t, .int .i64 v]] w fun e w' => e = .returned (.bool (mayB (t, v))) ∧ Below w.heap.size w w' := by
  rcases may_cases (t, v) with ⟨h1, h⟩ | ⟨h1, h2, h⟩ | ⟨h1, h2, h3, h⟩ | ⟨h1, h2, h3, h4, h⟩ | ⟨h1, h2, h3, h4, h⟩
  all_goals
    rw [h]
    clear h
    go_enter Try.func93, Try.ntmps93
    go_wp2
    go_ret
    exact ⟨rfl, below_one _ _⟩
theorem chk_prog (A : Option Addr) (l : List Smp) (c : Nat) (w : World) (hA : Smps w A l) (hl : l.length ≤ 100000000000000) :
    Calls Try.prog 73 #[.slice A l.length c] w fun e w' => e = .returned (.int .i64 (chk l)) ∧ Below w.heap.size w w' := by
  by_cases h0 : l.length = 0
  · have e : chk l = 2 := by unfold chk; rw [if_pos (.inl h0)]
    rw [e, h0]
    clear e
    go_enter Try.func73, Try.ntmps73
    go_wp2
    go_ret
    exact ⟨rfl, Below.refl _ _⟩
  by_cases h1 : 120 < l.length
  · have e : chk l = 2 := by unfold chk; rw [if_pos (.inr h1)]
    rw [e]
    clear e
    have i0 : ((l.length : Int) == 0) = false := by rw [beq_eq_false_iff_ne]; omega
    have i1 : decide ((120 : Int) < (l.length : Int)) = true := by simp; omega
    go_enter Try.func73, Try.ntmps73
    go_wp2
    go_ret
    exact ⟨rfl, Below.refl _ _⟩
  have hC := Lib.hid (show errF l l.length 0 = chk l by unfold chk; rw [if_neg (by omega)])
  obtain ⟨b, o, rfl, hb, hc⟩ := hA.all (by omega)
  have Hc := Lib.hid hc
  clear hc hA
  have i0 : ((l.length : Int) == 0) = false := by rw [beq_eq_false_iff_ne]; omega
  have i1 : decide ((120 : Int) < (l.length : Int)) = false := by simp; omega
  go_enter Try.func73, Try.ntmps73
  go_wp2_with fail
  go_loopw [15] (fun i wr => ∃ k : Nat, k ≤ l.length ∧ i = .int .i64 (k : Int) ∧ errF l (l.length - k) k = chk l ∧ Below w.heap.size w wr) (fun i _ => l.length - (intOf i).toNat)
  case atStart => exact ⟨0, Nat.zero_le _, rfl, hC.out, Below.refl _ _⟩
  case round =>
    obtain ⟨k, hk, rfl, he, hbr⟩ := hrel
    have hsz := hbr.size
    by_cases hlt : k < l.length
    · obtain ⟨g0, g1⟩ := Hc.out k hlt
      have c0 := (hbr.cell (p := ⟨b, o + k * 2, none⟩) hb).trans g0
      have c1 := (hbr.cell (p := ⟨b, o + k * 2 + 1, none⟩) hb).trans g1
      have i2 : (k : Int) < (l.length : Int) := by omega
      have hM := may_prog (tOf l k) (vOf l k)
      have HE := Lib.hid he
      clear he g0 g1
      rw [show l.length - k = (l.length - (k + 1)) + 1 from by omega, errF] at HE
      cases hm : mayB (tOf l k, vOf l k)
      · rw [hm] at hM
        have eA : errAt l k = 11 := by unfold errAt; rw [if_pos (by exact hm)]
        rw [eA] at HE
        have HM := Lib.hid hM
        clear hM hm
        go_wp2_with fail
        refine (HM.out _).mono ?_
        rintro e w2 ⟨rfl, hb2⟩
        go_wp2
        go_ret
        exact ⟨by rw [← HE.out]; rfl, below_then (hbr.alloc hsz _) hb2⟩
      · rw [hm] at hM
        have HM := Lib.hid hM
        clear hM
        go_wp2_with fail
        refine (HM.out _).mono ?_
        rintro e w2 ⟨rfl, hb2⟩
        have hW2 := below_then (hbr.alloc hsz _) hb2
        have R : Row w2 wr.heap.size 63 #[.int .i64 (tOf l k), .int .i64 (vOf l k)] := (Row.new wr _ _).below hb2 (by simp)
        have r0 : w2.cell? ⟨wr.heap.size, 0, none⟩ = some (.int .i64 (tOf l k)) := R.cell 0
        have hd2 : Below w.heap.size w w2.drew := hW2.drew
        clear R
        by_cases hk0 : 0 < k
        · obtain ⟨p0, _⟩ := Hc.out (k - 1) (by omega)
          have d0 := (hW2.cell (p := ⟨b, o + (k - 1) * 2, none⟩) hb).trans p0
          have i3 : decide ((0 : Int) < (k : Int)) = true := by simp; omega
          clear p0 c0 c1
          by_cases hle : tOf l k ≤ tOf l (k - 1)
          · have i4 : decide (tOf l k ≤ tOf l (k - 1)) = true := by simpa using hle
            have eA : errAt l k = 13 := by unfold errAt; rw [if_neg (by rw [show l.getD k (0, 0) = (tOf l k, vOf l k) from rfl, hm]; simp), if_pos ⟨hk0, hle⟩]
            rw [eA] at HE
            clear hm hle
            go_wp2_with fail
            go_region
            all_goals
              go_wp2_with fail
              go_ret
              exact ⟨by rw [← HE.out]; rfl, hd2⟩
          · have i4 : decide (tOf l k ≤ tOf l (k - 1)) = false := by simpa using hle
            have eA : errAt l k = 0 := errAt_zero.2 ⟨hm, fun _ => by omega⟩
            rw [eA, if_pos rfl] at HE
            clear hm hle eA
            go_wp2_with fail
            go_region
            all_goals
              go_wp2_with fail
              go_roundw
              case rel => exact ⟨k + 1, by omega, by go_num, HE.out, hd2⟩
              case measure => simp [intOf]; omega
        · have i3 : decide ((0 : Int) < (k : Int)) = false := by simp; omega
          have eA : errAt l k = 0 := errAt_zero.2 ⟨hm, fun h => absurd h hk0⟩
          rw [eA, if_pos rfl] at HE
          clear hm eA
          go_wp2_with fail
          go_region
          all_goals
            go_wp2_with fail
            go_roundw
            case rel => exact ⟨k + 1, by omega, by go_num, HE.out, hd2⟩
            case measure => simp [intOf]; omega
    · obtain rfl : k = l.length := by omega
      rw [Nat.sub_self] at he
      have HE := Lib.hid he
      clear he
      go_wp2_with fail
      go_ret
      exact ⟨by rw [← HE.out]; rfl, hbr⟩
end Go.Proofs.Ytpcjnagdanmdpaa.Ch
