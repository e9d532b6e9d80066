/- The document's own answer for patterns: where a piece may end. -/
import Derived.Test.YtjljfilflajogaaReOne
import Derived.Deep.DeepCutAuto
namespace Go.Proofs.Ytjljfilflajogaa
open Go.RowKit Go.Maps
set_option linter.unusedVariables false

def markF (m : UInt8) (r : Re) : Re := if m = 42 then .rep r true true else if m = 43 then .rep r false true else if m = 63 then .rep r true false else r
/-- What a mark of many makes of what a part fits. -/
def Many (r : Re) (m : UInt8) (x : List UInt8) : Prop := if m = 42 ∨ m = 43 then ∃ u v, x = u ++ v ∧ L r u ∧ Star (L r) v else L r x
def PieceAt (s a : ByteArray) : Prop := ∀ (r : Re), AtomT (strL a) r → ∀ (m : UInt8) (A : Option Addr) (l : List Nat) (c : Nat) (w : World), Pls w A l → l.length ≤ c → Rise l → (∀ x ∈ l, x ≤ s.size) → Calls Try.prog 69 #[.string a, .int .u8 (m.toNat : Int), .string s, .slice A l.length c] w (PlsTold w (IsEnds (L (markF m r)) (strL s) l))
def PcMid (w : World) (Q : List UInt8 → Prop) (s : List UInt8) (l : List Nat) (v : Value) (wx : World) : Prop := ∃ A out c, v = .slice A out.length c ∧ out.length ≤ c ∧ Pls wx A out ∧ IsEnds Q s l out ∧ Below w.heap.size w wx
def PcRel (w : World) (r : Re) (s : List UInt8) (l : List Nat) (v i : Value) (wr : World) : Prop := ∃ (k : Nat) (A : Option Addr) (nx : List Nat) (c : Nat), k ≤ s.length ∧ i = .int .i64 (k : Int) ∧ v = .slice A nx.length c ∧ nx.length ≤ c ∧ Pls wr A nx ∧ Found (L r) s l k nx ∧ Below w.heap.size w wr
theorem found_le {P : List UInt8 → Prop} {s : List UInt8} {l nx : List Nat} {k : Nat} (h : Found P s l k nx) : ∀ j ∈ nx, j ≤ s.length := fun j hj => by
  obtain ⟨i, t, _, hp⟩ := h.2.1 j hj
  exact hp.le.2
theorem many_yes {r : Re} {m : UInt8} (h : m = 42 ∨ m = 43) {s : List UInt8} {l out : List Nat} (k : IsEnds (fun x => ∃ u v, x = u ++ v ∧ L r u ∧ Star (L r) v) s l out) : IsEnds (Many r m) s l out := k.congr fun x => by unfold Many; rw [if_pos h]
theorem many_no {r : Re} {m : UInt8} (h : ¬ (m = 42 ∨ m = 43)) {s : List UInt8} {l out : List Nat} (k : IsEnds (L r) s l out) : IsEnds (Many r m) s l out := k.congr fun x => by unfold Many; rw [if_neg h]
theorem u8_yes {m : UInt8} (k : Nat) (hk : k < 256) (h : m = UInt8.ofNat k) : ((m.toNat : Int) == (k : Int)) = true := test_yes k hk h
theorem u8_no {m : UInt8} (k : Nat) (hk : k < 256) (h : m ≠ UInt8.ofNat k) : ((m.toNat : Int) == (k : Int)) = false := test_no k hk h
set_option maxRecDepth 100000 in
set_option maxHeartbeats 4000000 in
theorem piece_ref (s a : ByteArray) (hs : s.size ≤ 1000) (hO : OneAt s a) : PieceAt s a := by
  intro r hr m A l c w hA hc hl hx
  have hsl := strL_length s
  have HO := Lib.hid (fun (A : Option Addr) (l : List Nat) (c : Nat) W h1 h2 h3 h4 => hO r hr A l c W h1 h2 h3 h4)
  have HA := Lib.hid hA
  have HRL := Lib.hid hl
  have HXL := Lib.hid hx
  have HLL := Lib.hid (show l.length ≤ 1001 by have := rise_len hl hx; omega)
  have HSL := Lib.hid hsl
  clear hA hl hx hO hr hsl
  go_enter Try.func69, Try.ntmps69
  go_upto_region 2 with (first | (go_at_call 79; refine (HO.out A l c _ HA.out hc HRL.out HXL.out).mono ?_; rintro e w1 ⟨A1, n1, c1, rfl, hc1, hP1, hE1, hb1⟩; have HP1 := Lib.hid hP1; have HE1 := Lib.hid hE1; have HB1 := Lib.hid hb1; clear hP1 hE1 hb1))
  go_cut [21] (fun s21 wx => s21 = .bool (decide (m = 42 ∨ m = 43)) ∧ w1 = wx)
  case first =>
    by_cases h1 : m = 42
    · have t1 : ((m.toNat : Int) == 42) = true := u8_yes 42 (by omega) h1
      have HD := Lib.hid (decide_eq_true (show m = 42 ∨ m = 43 from .inl h1))
      clear h1
      go_wp2_with fail
      go_meet
      exact ⟨by rw [HD.out], rfl⟩
    · have t1 : ((m.toNat : Int) == 42) = false := u8_no 42 (by omega) h1
      by_cases h2 : m = 43
      · have t2 : ((m.toNat : Int) == 43) = true := u8_yes 43 (by omega) h2
        have HD := Lib.hid (decide_eq_true (show m = 42 ∨ m = 43 from .inr h2))
        clear h1 h2
        go_wp2_with fail
        go_meet
        exact ⟨by rw [HD.out], rfl⟩
      · have t2 : ((m.toNat : Int) == 43) = false := u8_no 43 (by omega) h2
        have HD := Lib.hid (decide_eq_false (show ¬ (m = 42 ∨ m = 43) from fun h => h.elim h1 h2))
        clear h1 h2
        go_wp2_with fail
        go_meet
        exact ⟨by rw [HD.out], rfl⟩
  case rest =>
    obtain ⟨rfl, rfl⟩ := hcut
    go_upto_if 21 with fail
    go_cut [9] (fun s9 wx => PcMid w (Many r m) (strL s) l s9 wx)
    case first =>
      by_cases hm : m = 42 ∨ m = 43
      · have HM := Lib.hid hm
        rw [decide_eq_true hm]
        clear hm
        have HS0 := Lib.hid (found_zero HE1.out)
        go_wp2_with fail
        go_loopw [9, 10] (fun v i wr => PcRel w r (strL s) l v i wr) (fun _ i _ => s.size - (intOf i).toNat)
        case atStart => exact ⟨0, A1, n1, c1, Nat.zero_le _, rfl, rfl, hc1, HP1.out, HS0.out, HB1.out⟩
        case round =>
          obtain ⟨k, A2, nx, c2, hk, rfl, rfl, hc2, hP2, hF2, hbr⟩ := hrel
          have hr2 := hF2.1
          have hl2 := found_le hF2
          rw [HSL.out] at hk hl2
          have HLX := Lib.hid (show nx.length ≤ 1001 by have := rise_len hr2 hl2; omega)
          have HP2 := Lib.hid hP2
          have HF2 := Lib.hid hF2
          have HBr := Lib.hid hbr
          have HC := Lib.hid (HO.out A2 nx c2 wr hP2 hc2 hr2 hl2)
          have HR2 := Lib.hid hr2
          clear hP2 hF2 hbr hr2 hl2
          by_cases hlt : k < s.size
          · have i1 : (k : Int) < (s.size : Int) := by omega
            go_upto_region 7 with (first
              | (go_at_call 79; refine HC.out.mono ?_; rintro e w3 ⟨A3, e3, c3, rfl, hc3, hP3, hE3, hb3⟩
                 have HB3 := Lib.hid (HBr.out.trans (hb3.mono HBr.out.size))
                 have HW3 := Lib.hid hb3
                 have HE3 := Lib.hid hE3
                 have hl3 := hE3.le
                 rw [HSL.out] at hl3
                 have HMG := Lib.hid (merge_ref A2 A3 nx e3 c2 c3 w3 (HP2.out.below hb3) hP3 hc2 hc3 HR2.out hE3.1 HLX.out (by have := rise_len hE3.1 hl3; omega))
                 clear hP3 hE3 hb3 hl3)
              | (go_at_call 55; refine HMG.out.mono ?_; rintro e w4 ⟨A4, mo, c4, rfl, hc4, hP4, hJ4, hb4⟩
                 have HB4 := Lib.hid (HB3.out.trans (hb4.mono HB3.out.size))
                 have HP4 := Lib.hid hP4
                 have HJ4 := Lib.hid hJ4
                 have HP24 := Lib.hid ((HP2.out.below HW3.out).below hb4)
                 clear hP4 hJ4 hb4))
            by_cases hle : mo.length = nx.length
            · have HFS := Lib.hid (found_stop HF2.out HE3.out HJ4.out hle)
              have z0 : ((mo.length : Int) == (nx.length : Int)) = true := by rw [hle]; simp
              clear hle
              go_wp2_with fail
              go_meet
              exact ⟨A2, nx, c2, rfl, hc2, HP24.out, many_yes HM.out HFS.out, HB4.out⟩
            · have HFS := Lib.hid (found_step HF2.out HE3.out HJ4.out)
              have z0 : ((mo.length : Int) == (nx.length : Int)) = false := by rw [beq_eq_false_iff_ne]; omega
              clear hle
              go_wp2_with fail
              go_roundw
              case rel => exact ⟨k + 1, A4, mo, c4, by rw [HSL.out]; omega, by go_num, rfl, hc4, HP4.out, HFS.out, HB4.out⟩
              case measure => simp [intOf]; omega
          · obtain rfl : k = s.size := by omega
            have HFS := Lib.hid (found_full (by rw [HSL.out]; exact HF2.out))
            go_wp2_with fail
            go_meet
            exact ⟨A2, nx, c2, rfl, hc2, HP2.out, many_yes HM.out HFS.out, HBr.out⟩
      · have HE := Lib.hid (many_no hm HE1.out)
        rw [decide_eq_false hm]
        clear hm
        go_wp2_with fail
        go_meet
        exact ⟨A1, n1, c1, rfl, hc1, HP1.out, HE.out, HB1.out⟩
    case rest =>
      obtain ⟨A2, n2, c2, rfl, hc2, hP2, hE2, hb2⟩ := hcut
      have hl2 := hE2.le
      rw [HSL.out] at hl2
      have HB2 := Lib.hid hb2
      have HMG := Lib.hid (merge_ref A2 A n2 l c2 c wc hP2 (HA.out.below hb2) hc2 hc hE2.1 HRL.out (by have := rise_len hE2.1 hl2; omega) HLL.out)
      have HE2 := Lib.hid hE2
      have HP2 := Lib.hid hP2
      clear hP2 hE2 hb2 hl2
      by_cases h1 : m = 42
      · have t1 : ((m.toNat : Int) == 42) = true := u8_yes 42 (by omega) h1
        have HQ := Lib.hid (fun out (hj : Joins n2 l out) => show IsEnds (L (markF m r)) (strL s) l out by
          rw [h1] at HE2 ⊢
          exact ends_star HRL.out (by rw [HSL.out]; exact HXL.out) (HE2.out.congr fun x => by unfold Many; rw [if_pos (.inl rfl)]) hj)
        clear h1
        go_wp2_with (go_at_call 55; refine HMG.out.mono ?_; rintro e w4 ⟨A4, mo, c4, rfl, hc4, hP4, hJ4, hb4⟩; have HB4 := Lib.hid (HB2.out.trans (hb4.mono HB2.out.size)); have HP4 := Lib.hid hP4; have HJ4 := Lib.hid (HQ.out mo hJ4); clear hP4 hJ4 hb4)
        go_ret
        exact ⟨A4, mo, c4, rfl, hc4, HP4.out, HJ4.out, HB4.out⟩
      · have t1 : ((m.toNat : Int) == 42) = false := u8_no 42 (by omega) h1
        by_cases h3 : m = 63
        · have t3 : ((m.toNat : Int) == 63) = true := u8_yes 63 (by omega) h3
          have HQ := Lib.hid (fun out (hj : Joins n2 l out) => show IsEnds (L (markF m r)) (strL s) l out by
            rw [h3] at HE2 ⊢
            exact ends_maybe HRL.out (by rw [HSL.out]; exact HXL.out) (HE2.out.congr fun x => by unfold Many; rw [if_neg (by decide)]) hj)
          clear h1 h3
          go_wp2_with (go_at_call 55; refine HMG.out.mono ?_; rintro e w4 ⟨A4, mo, c4, rfl, hc4, hP4, hJ4, hb4⟩; have HB4 := Lib.hid (HB2.out.trans (hb4.mono HB2.out.size)); have HP4 := Lib.hid hP4; have HJ4 := Lib.hid (HQ.out mo hJ4); clear hP4 hJ4 hb4)
          go_ret
          exact ⟨A4, mo, c4, rfl, hc4, HP4.out, HJ4.out, HB4.out⟩
        · have t3 : ((m.toNat : Int) == 63) = false := u8_no 63 (by omega) h3
          have HQ := Lib.hid (show IsEnds (L (markF m r)) (strL s) l n2 by
            unfold markF
            rw [if_neg h1]
            by_cases h2 : m = 43
            · rw [if_pos h2]
              exact ends_plus (HE2.out.congr fun x => by unfold Many; rw [if_pos (.inr h2)])
            · rw [if_neg h2, if_neg h3]
              exact HE2.out.congr fun x => by unfold Many; rw [if_neg (fun h => h.elim h1 h2)])
          clear h1 h3
          go_wp2_with fail
          go_ret
          exact ⟨A2, n2, c2, rfl, hc2, HP2.out, HQ.out, HB2.out⟩
end Go.Proofs.Ytjljfilflajogaa
