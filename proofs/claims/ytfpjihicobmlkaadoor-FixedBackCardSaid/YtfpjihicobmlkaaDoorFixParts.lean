/- Layer 3: the parts that the digits of a text are: by a closure that keeps what is too great as it is. -/
import Derived.Test.YtfpjihicobmlkaaDoorFixDigs
import Derived.Test.YtfpjihicobmlkaaDoorMem
namespace Go.Proofs.YtfpjihicobmlkaaDoor
open Go.RowKit
set_option linter.unusedVariables false

def satStep (p : Nat) (c : UInt8) : Nat := if p ≤ 1152921504606846976 then 10 * p + (c.toNat - 48) else p
theorem sat_snoc (p : Nat) (l : List UInt8) (c : UInt8) : sat p (l ++ [c]) = satStep (sat p l) c := by
  unfold sat satB satStep
  rw [List.foldl_append]
  rfl
theorem sat_nil (p : Nat) : sat p [] = p := rfl
theorem satStep_le {p : Nat} {c : UInt8} (hp : p ≤ 11529215046068469769) (hc : c.toNat ≤ 57) : satStep p c ≤ 11529215046068469769 := by
  unfold satStep
  split <;> omega

/-- A digit more: by the closure. -/
theorem digit_more (c : UInt8) (h0 : 48 ≤ c.toNat) (h1 : c.toNat ≤ 57) (p X base : Nat) (w : World) (hX : Row w X 43 #[.int .u64 (p : Int)]) (hb : base ≤ X) (hp : p ≤ 11529215046068469769) :
    Calls Tryd.prog 52 #[.int .u8 (c.toNat : Int), .pointer (some ⟨X, 0, none⟩)] w fun e w' => e = .returned (.tuple #[]) ∧ Row w' X 43 #[.int .u64 (satStep p c : Nat)] ∧ Below base w w' := by
  have hX0 := hX.cell 0
  simp only [List.getElem?_toArray, List.getElem?_cons_zero] at hX0
  have hXf := hX.frozen 0
  have HX := Lib.hid hX
  generalize hcn : c.toNat = cn at *
  have HC := Lib.hid hcn
  clear hX hcn
  by_cases h : p ≤ 1152921504606846976
  · have HS := Lib.hid (show satStep p c = 10 * p + (cn - 48) from by unfold satStep; rw [if_pos h, HC.out])
    have q : decide ((p : Int) ≤ 1152921504606846976) = true := decide_eq_true (by omega)
    have hpi : (p : Int) ≤ 1152921504606846976 := by omega
    clear h hp
    go_enter Tryd.func52, Tryd.ntmps52
    go_wp2
    go_end0
    refine ⟨rfl, ?_, (Below.refl _ _).setCell hb _⟩
    have := HX.out.setAt 0 (.int .u64 ((p : Int) * 10 + ((cn : Int) - 48)))
    rw [HS.out, show ((10 * p + (cn - 48) : Nat) : Int) = (p : Int) * 10 + ((cn : Int) - 48) from by omega]
    simpa using this
  · have HS := Lib.hid (show satStep p c = p from by unfold satStep; rw [if_neg h])
    have q : decide ((p : Int) ≤ 1152921504606846976) = false := decide_eq_false (by omega)
    clear h
    go_enter Tryd.func52, Tryd.ntmps52
    go_wp2
    go_end0
    exact ⟨rfl, by rw [HS.out]; exact HX.out, Below.refl _ _⟩

theorem pad_length (l : List UInt8) (h : l.length ≤ 6) : (pad 6 l).length = 6 := by simp [pad]; omega
theorem pad_in (l : List UInt8) (j : Nat) (hj : j < l.length) : (pad 6 l).getD j 0 = l.getD j 0 := by
  unfold pad
  rw [getD_in _ 0 (by rw [List.length_append]; omega), getD_in l 0 hj, List.getElem_append_left]
theorem pad_out (l : List UInt8) (j : Nat) (hj : l.length ≤ j) (h6 : j < 6) : (pad 6 l).getD j 0 = 48 := by
  unfold pad
  rw [getD_in _ 0 (by rw [List.length_append, List.length_replicate]; omega), List.getElem_append_right hj]
  simp
theorem take_more (l : List UInt8) (j : Nat) (h : j < l.length) : l.take (j + 1) = l.take j ++ [l.getD j 0] := by
  rw [List.take_succ_eq_append_getElem h, getD_in l 0 h]
theorem sat_le : ∀ (l : List UInt8) (p : Nat), l.all isDig = true → p ≤ 11529215046068469769 → sat p l ≤ 11529215046068469769 := by
  intro l
  induction l with
  | nil => intro p _ h; exact h
  | cons c r ih =>
    intro p h hp
    simp only [List.all_cons, Bool.and_eq_true] at h
    have := ih (satStep p c) h.2 (satStep_le hp (dig_of h.1).2)
    unfold sat at this ⊢
    rw [satB_cons]
    exact this
theorem all_get {l : List UInt8} (h : l.all isDig = true) {j : Nat} (hj : j < l.length) : isDig (l.getD j 0) = true := by
  rw [getD_in l 0 hj]
  exact List.all_eq_true.1 h _ (List.getElem_mem _)
theorem all_take {l : List UInt8} (h : l.all isDig = true) (j : Nat) : (l.take j).all isDig = true := by
  rw [List.all_eq_true] at h ⊢
  exact fun x hx => h x (List.mem_of_mem_take hx)
theorem pad_digs {l : List UInt8} (h : l.all isDig = true) : (pad 6 l).all isDig = true := by
  unfold pad
  rw [List.all_append, h]
  rw [Bool.true_and, List.all_eq_true]
  intro x hx
  rw [List.eq_of_mem_replicate hx]
  rfl
theorem ret_u64 {a b : Nat} (h : a = b) : Ending.returned (.int .u64 (a : Int)) = .returned (.int .u64 (b : Int)) := by rw [h]

set_option maxHeartbeats 2000000 in
theorem parts_prog (a b : ByteArray) (w : World) (ha : a.size ≤ 140737488351232) (hb : b.size ≤ 6) (hda : (txl a).all isDig = true) (hdb : (txl b).all isDig = true) :
    Calls Tryd.prog 42 #[.string a, .string b] w fun e w' => e = .returned (.int .u64 (sat 0 (txl a ++ pad 6 (txl b)) : Nat)) ∧ Below w.heap.size w w' := by
  have hmf : ∀ (fn : Fn) (first cap : Array Value) (w : World), (Instr.makeFunc fn first cap).run Tryd.prog w = .ok (.func fn first cap) w := fun _ _ _ _ => rfl
  have R0 := Row.new w 43 #[.int .u64 0]
  have HDA := Lib.hid hda
  have HDB := Lib.hid hdb
  clear hda hdb
  go_enter Tryd.func42, Tryd.ntmps42
  go_wp2_with fail
  obtain ⟨X, hX⟩ : ∃ X, X = w.heap.size := ⟨_, rfl⟩
  rw [← hX] at R0 ⊢
  have HX := Lib.hid hX
  have B0 : Below X w (w.alloc (.cells #[.int .u64 0] 43)) := by rw [hX]; exact below_one w _
  clear hX
  go_loopw [12] (fun i wr => ∃ k : Nat, k ≤ a.size ∧ i = .int .i64 (k : Int) ∧ Row wr X 43 #[.int .u64 (sat 0 ((txl a).take k) : Nat)] ∧ Below X w wr) (fun i _ => a.size - (intOf i).toNat)
  case atStart => exact ⟨0, Nat.zero_le _, rfl, R0, B0⟩
  case round =>
    obtain ⟨k, hk, rfl, hr, bl⟩ := hrel
    by_cases hlt : k < a.size
    · have hd := dig_of (all_get HDA.out (j := k) (by rw [txl_length]; exact hlt))
      rw [txl_get a hlt] at hd
      have HT := Lib.hid (txl_take a hlt)
      have hp := sat_le _ 0 (all_take HDA.out k) (by omega)
      have HM := Lib.hid (digit_more a[k] hd.1 hd.2 (sat 0 ((txl a).take k)) X X wr hr (Nat.le_refl _) hp)
      clear hd hp hr
      go_wp2_with fail
      refine HM.out.mono ?_
      rintro e w2 ⟨rfl, hr2, hb2⟩
      go_wp2_with fail
      go_roundw
      case rel => exact ⟨k + 1, by omega, by go_num, by rw [HT.out, sat_snoc]; exact hr2, bl.trans hb2⟩
      case measure => simp [intOf]; omega
    · have hkk : k = a.size := by omega
      rw [hkk, ← txl_length, List.take_length] at hr
      have hr' : Row wr X 43 #[.int .u64 (sat 0 (txl a ++ (pad 6 (txl b)).take 0) : Nat)] := by rw [List.take_zero, List.append_nil]; exact hr
      have HR := Lib.hid hr'
      clear hkk hr hr'
      go_wp2_with fail
      go_loopw [21] (fun i wr => ∃ j : Nat, j ≤ 6 ∧ i = .int .i64 (j : Int) ∧ Row wr X 43 #[.int .u64 (sat 0 (txl a ++ (pad 6 (txl b)).take j) : Nat)] ∧ Below X w wr) (fun i _ => 6 - (intOf i).toNat)
      case atStart => exact ⟨0, by omega, rfl, HR.out, bl⟩
      case round =>
        obtain ⟨j, hj, rfl, hr2, bl2⟩ := hrel
        have hp := sat_le (txl a ++ (pad 6 (txl b)).take j) 0 (by rw [List.all_append, HDA.out, all_take (pad_digs HDB.out) j]; rfl) (by omega)
        by_cases hlj : j < 6
        · have HT := Lib.hid (take_more (pad 6 (txl b)) j (by rw [pad_length _ (by rw [txl_length]; omega)]; exact hlj))
          by_cases hin : j < b.size
          · have hd := dig_of (all_get HDB.out (j := j) (by rw [txl_length]; exact hin))
            have hpi := pad_in (txl b) j (by rw [txl_length]; exact hin)
            rw [txl_get b hin] at hd hpi
            have HPI := Lib.hid hpi
            have HM := Lib.hid (digit_more b[j] hd.1 hd.2 _ X X wr hr2 (Nat.le_refl _) hp)
            clear hd hp hr2 hpi
            go_wp2_with fail
            refine HM.out.mono ?_
            rintro e w2 ⟨rfl, hr3, hb3⟩
            go_wp2_with fail
            go_roundw
            case rel => exact ⟨j + 1, by omega, by go_num, by rw [HT.out, HPI.out, ← List.append_assoc, sat_snoc]; exact hr3, bl2.trans hb3⟩
            case measure => simp [intOf]; omega
          · have hpi := pad_out (txl b) j (by rw [txl_length]; omega) hlj
            have HPI := Lib.hid hpi
            have hm := digit_more 48 (by decide) (by decide) _ X X wr hr2 (Nat.le_refl _) hp
            rw [show ((48 : UInt8).toNat : Int) = 48 from rfl] at hm
            have HM := Lib.hid hm
            clear hp hr2 hpi hm
            go_wp2_with fail
            refine HM.out.mono ?_
            rintro e w2 ⟨rfl, hr3, hb3⟩
            go_wp2_with fail
            go_roundw
            case rel => exact ⟨j + 1, by omega, by go_num, by rw [HT.out, HPI.out, ← List.append_assoc, sat_snoc]; exact hr3, bl2.trans hb3⟩
            case measure => simp [intOf]; omega
        · have hjj : j = 6 := by omega
          have hpl := pad_length (txl b) (by rw [txl_length]; omega)
          rw [hjj, List.take_of_length_le (by omega)] at hr2
          have hc := hr2.cell 0
          simp only [List.getElem?_toArray, List.getElem?_cons_zero] at hc
          clear hjj hp hr2 hpl
          go_wp2_with fail
          go_ret
          exact ⟨rfl, by rw [← HX.out]; exact bl2⟩
end Go.Proofs.YtfpjihicobmlkaaDoor
