/- The document's own answer of layer 5, in part: whether samples may be a chunk's; that two rows of samples are the same; and a law's copy of samples. -/
import Derived.Test.YtheaebkegncdlaaChCheck
namespace Go.Proofs.Ytheaebkegncdlaa
open Go.RowKit
set_option linter.unusedVariables false

theorem rises_ref (A : Option Addr) (l : List Smp) (c : Nat) (w : World) (hA : Smps w A l) (hl : l.length ≤ 100000000000000) :
    Calls Try.prog 33 #[.slice A l.length c] w fun e w' => e = .returned (.int .i64 (errF l l.length 0)) ∧ Below w.heap.size w w' := by
  have hall : 0 < l.length → ∃ b o, A = some ⟨b, o, none⟩ ∧ b < w.heap.size ∧ ∀ i, i < l.length → w.cell? ⟨b, o + i * 2, none⟩ = some (.int .i64 (tOf l i)) ∧ w.cell? ⟨b, o + i * 2 + 1, none⟩ = some (.int .i64 (vOf l i)) := hA.all
  have Hall := Lib.hid hall
  clear hall hA
  go_enter Try.func33, Try.ntmps33
  go_wp2_with fail
  go_loopw [3] (fun i wr => ∃ k : Nat, k ≤ l.length ∧ i = .int .i64 (k : Int) ∧ errF l (l.length - k) k = errF l l.length 0 ∧ Below w.heap.size w wr) (fun i _ => l.length - (intOf i).toNat)
  case atStart => exact ⟨0, Nat.zero_le _, rfl, rfl, Below.refl _ _⟩
  case round =>
    obtain ⟨k, hk, rfl, he, hbr⟩ := hrel
    have hsz := hbr.size
    by_cases hlt : k < l.length
    · obtain ⟨b, o, rfl, hb, hc⟩ := Hall.out (by omega)
      have Hc := Lib.hid hc
      clear hc
      obtain ⟨g0, g1⟩ := Hc.out k hlt
      have c0 := (hbr.cell (p := ⟨b, o + k * 2, none⟩) hb).trans g0
      have c1 := (hbr.cell (p := ⟨b, o + k * 2 + 1, none⟩) hb).trans g1
      have i2 : (k : Int) < (l.length : Int) := by omega
      have hM := may_ref (tOf l k) (vOf l k)
      have HE := Lib.hid he
      clear he g0 g1
      rw [show l.length - k = (l.length - (k + 1)) + 1 from by omega, errF] at HE
      cases hm : mayB (tOf l k, vOf l k)
      · rw [hm] at hM
        have eA : errAt l k = 11 := by unfold errAt; rw [if_pos (by exact hm)]
        rw [eA] at HE
        have HM := Lib.hid hM
        clear hM hm
        go_wp2_with fail
        refine (HM.out _).mono ?_
        rintro e w2 ⟨rfl, hb2⟩
        go_wp2
        go_ret
        exact ⟨by rw [← HE.out]; rfl, below_then hbr hb2⟩
      · rw [hm] at hM
        have HM := Lib.hid hM
        clear hM
        go_wp2_with fail
        refine (HM.out _).mono ?_
        rintro e w2 ⟨rfl, hb2⟩
        have hW2 := below_then hbr hb2
        have hd2 : Below w.heap.size w w2.drew := hW2.drew
        have e0 := (hb2.cell (p := ⟨b, o + k * 2, none⟩) (by show b < _; omega)).trans c0
        by_cases hk0 : 0 < k
        · obtain ⟨p0, _⟩ := Hc.out (k - 1) (by omega)
          have d0 := (hW2.cell (p := ⟨b, o + (k - 1) * 2, none⟩) hb).trans p0
          have i3 : decide ((0 : Int) < (k : Int)) = true := by simp; omega
          clear p0 c0 c1
          by_cases hle : tOf l k ≤ tOf l (k - 1)
          · have i4 : decide (tOf l k ≤ tOf l (k - 1)) = true := by simpa using hle
            have eA : errAt l k = 13 := by unfold errAt; rw [if_neg (by rw [show l.getD k (0, 0) = (tOf l k, vOf l k) from rfl, hm]; simp), if_pos ⟨hk0, hle⟩]
            rw [eA] at HE
            clear hm hle
            go_wp2_with fail
            go_region
            all_goals
              go_wp2_with fail
              go_ret
              exact ⟨by rw [← HE.out]; rfl, hd2⟩
          · have i4 : decide (tOf l k ≤ tOf l (k - 1)) = false := by simpa using hle
            have eA : errAt l k = 0 := errAt_zero.2 ⟨hm, fun _ => by omega⟩
            rw [eA, if_pos rfl] at HE
            clear hm hle eA
            go_wp2_with fail
            go_region
            all_goals
              go_wp2_with fail
              go_roundw
              case rel => exact ⟨k + 1, by omega, by go_num, HE.out, hd2⟩
              case measure => simp [intOf]; omega
        · have i3 : decide ((0 : Int) < (k : Int)) = false := by simp; omega
          have eA : errAt l k = 0 := errAt_zero.2 ⟨hm, fun h => absurd h hk0⟩
          rw [eA, if_pos rfl] at HE
          clear hm eA
          go_wp2_with fail
          go_region
          all_goals
            go_wp2_with fail
            go_roundw
            case rel => exact ⟨k + 1, by omega, by go_num, HE.out, hd2⟩
            case measure => simp [intOf]; omega
    · obtain rfl : k = l.length := by omega
      rw [Nat.sub_self] at he
      have HE := Lib.hid he
      clear he
      go_wp2_with fail
      go_ret
      exact ⟨by rw [← HE.out]; rfl, hbr⟩

theorem chk_ref (A : Option Addr) (l : List Smp) (c : Nat) (w : World) (hA : Smps w A l) (hl : l.length ≤ 100000000000000) :
    Calls Try.prog 16 #[.slice A l.length c] w fun e w' => e = .returned (.int .i64 (chk l)) ∧ Below w.heap.size w w' := by
  by_cases h0 : l.length = 0
  · have e : chk l = 2 := by unfold chk; rw [if_pos (.inl h0)]
    rw [e, h0]
    clear e
    go_enter Try.func16, Try.ntmps16
    go_wp2
    go_ret
    exact ⟨rfl, Below.refl _ _⟩
  have i0 : ((l.length : Int) == 0) = false := by rw [beq_eq_false_iff_ne]; omega
  by_cases h1 : 120 < l.length
  · have e : chk l = 2 := by unfold chk; rw [if_pos (.inr h1)]
    rw [e]
    clear e
    have i1 : decide ((120 : Int) < (l.length : Int)) = true := by simp; omega
    go_enter Try.func16, Try.ntmps16
    go_wp2
    go_ret
    exact ⟨rfl, Below.refl _ _⟩
  have hC := Lib.hid (show errF l l.length 0 = chk l by unfold chk; rw [if_neg (by omega)])
  have i1 : decide ((120 : Int) < (l.length : Int)) = false := by simp; omega
  have HR := Lib.hid (rises_ref A l c w hA hl)
  go_enter Try.func16, Try.ntmps16
  go_wp2_with fail
  refine HR.out.mono ?_
  rintro e w2 ⟨rfl, hb2⟩
  go_wp2
  go_ret
  exact ⟨by rw [← hC.out]; rfl, hb2⟩

theorem same_smps (A B : Option Addr) (l : List Smp) (c d : Nat) (w : World) (hA : Smps w A l) (hB : Smps w B l) (hl : l.length ≤ 100000000000000) :
    Calls Try.prog 17 #[.slice A l.length c, .slice B l.length d] w fun e w' => e = .returned (.bool true) ∧ Below w.heap.size w w' := by
  have Hall := Lib.hid (fun h => hA.all h)
  have Hbll := Lib.hid (fun h => hB.all h)
  clear hA hB
  have q0 : ((l.length : Int) != (l.length : Int)) = false := by simp
  go_enter Try.func17, Try.ntmps17
  go_wp2_with fail
  go_loopw [5] (fun i wr => ∃ k : Nat, k ≤ l.length ∧ i = .int .i64 (k : Int) ∧ Below w.heap.size w wr) (fun i _ => l.length - (intOf i).toNat)
  case atStart => exact ⟨0, Nat.zero_le _, rfl, Below.refl _ _⟩
  case round =>
    obtain ⟨k, hk, rfl, hbr⟩ := hrel
    by_cases hlt : k < l.length
    · obtain ⟨b, o, rfl, hb, hc⟩ := Hall.out (by omega)
      obtain ⟨b', o', rfl, hb', hc'⟩ := Hbll.out (by omega)
      obtain ⟨g0, g1⟩ := hc k hlt
      obtain ⟨k0, k1⟩ := hc' k hlt
      have c0 := (hbr.cell (p := ⟨b, o + k * 2, none⟩) hb).trans g0
      have c1 := (hbr.cell (p := ⟨b, o + k * 2 + 1, none⟩) hb).trans g1
      have d0 := (hbr.cell (p := ⟨b', o' + k * 2, none⟩) hb').trans k0
      have d1 := (hbr.cell (p := ⟨b', o' + k * 2 + 1, none⟩) hb').trans k1
      have i2 : (k : Int) < (l.length : Int) := by omega
      have hd : Below w.heap.size w wr.drew := hbr.drew
      clear hc hc' g0 g1 k0 k1
      generalize tOf l k = t at *
      generalize vOf l k = v at *
      have q1 : (t == t) = true := beq_self_eq_true _
      have q2 : (v == v) = true := beq_self_eq_true _
      go_wp2_with fail
      go_region
      all_goals
        go_wp2_with fail
        go_roundw
        case rel => exact ⟨k + 1, by omega, by go_num, hd⟩
        case measure => simp [intOf]; omega
    · obtain rfl : k = l.length := by omega
      go_wp2_with fail
      go_ret
      exact ⟨rfl, hbr⟩

theorem own_law (A : Option Addr) (l : List Smp) (c : Nat) (w : World) (hA : Smps w A l) (hl : l.length * 16 ≤ 140737488355328) :
    Calls Try.prog 12 #[.slice A l.length c] w fun e w' => ∃ v, e = .returned v ∧ OwnS w' w.heap.size v l ∧ Below w.heap.size w w' := by
  have hR : Row (w.alloc (.cells #[] 44)) w.heap.size 44 #[] := Row.new w _ _
  have hO : OwnS (w.alloc (.cells #[] 44)) w.heap.size (.slice (some ⟨w.heap.size, 0, none⟩) 0 0) [] := owns_empty hR (Nat.le_refl _)
  have hA1 := hA.alloc (.cells #[] 44)
  have hW1 := below_one w (.cells #[] 44)
  have hs1 := hW1.size
  have HO := Lib.hid hO
  clear hO hR
  go_enter Try.func12, Try.ntmps12
  go_wp2_with (at_builtin; refine app_smps rfl (.tmp 3) (.tmp 4) rfl w.heap.size _ [] rfl HO.out A l c rfl hA1 (by simpa using hl) hs1 ?_; intro v3 w3 hF3 hb3 _; have HF3 := Lib.hid hF3; obtain ⟨P3, c3, hv3, _, _, _⟩ := owns_slice hF3; clear hF3; generalize ([] ++ l).length = n3 at hv3; subst hv3)
  go_ret
  exact ⟨_, rfl, HF3.out, hW1.trans hb3⟩
end Go.Proofs.Ytheaebkegncdlaa
