/- In one text, written by lotify.py: ReOne, RePiece, ReAlts. -/
import Derived.Test.YtpcjnagdanmdpaaGreatReEnds
import Derived.Test.YtpcjnagdanmdpaaGreatReMerge
namespace Go.Proofs.YtpcjnagdanmdpaaGreat
open Go.RowKit Go.Maps
set_option linter.unusedVariables false
/-- Where the pattern of the text p may end, of s, is told as its tree's places. -/
def EndsAt (s p : ByteArray) : Prop := ∀ (ls : List Re), PatT (strL p) ls → ∀ (A : Option Addr) (l : List Nat) (c : Nat) (w : World), Pls w A l → l.length ≤ c → Rise l → (∀ x ∈ l, x ≤ s.size) → Calls Tryz.prog 110 #[.string p, .string s, .slice A l.length c] w (PlsTold w (IsEnds (LAlt ls) (strL s) l))
def OneAt (s a : ByteArray) : Prop := ∀ (r : Re), AtomT (strL a) r → ∀ (A : Option Addr) (l : List Nat) (c : Nat) (w : World), Pls w A l → l.length ≤ c → Rise l → (∀ x ∈ l, x ≤ s.size) → Calls Tryz.prog 136 #[.string a, .string s, .slice A l.length c] w (PlsTold w (IsEnds (L r) (strL s) l))
def OneRel (w : World) (s : List UInt8) (f : UInt8 → Bool) (l : List Nat) (o i : Value) (wr : World) : Prop := ∃ k : Nat, k ≤ l.length ∧ i = .int .i64 (k : Int) ∧ OwnP wr w.heap.size o (oneOut s f l k) ∧ Below w.heap.size w wr
set_option maxRecDepth 100000 in
set_option maxHeartbeats 4000000 in
theorem one_ref (s a : ByteArray) (hs : s.size ≤ 1000) (ha : a.size ≤ 1000) (hE : ∀ q : ByteArray, q.size < a.size → EndsAt s q) : OneAt s a := by
  intro r hr A l c w hA hc hl hx
  have hlen := rise_len hl hx
  obtain ⟨n, d, hat⟩ := hr
  rcases atom_text hat with ⟨ss, neg, rfl, hleaf⟩ | ⟨u, ls, rfl, hg, hp⟩
  · have HF := Lib.hid (fun (cc : UInt8) W => byteof_ref a ha hleaf cc W)
    obtain ⟨c0, t, he, hne⟩ := leaf_head hleaf
    have hal : 0 < a.size := by rw [← strL_length, he]; simp
    have h0 : a[0] = c0 := by have := strG a (k := 0) hal; rw [he] at this; simpa using this.symm
    have t0 : ((a[0].toNat : Int) == 40) = false := test_no 40 (by omega) (show a[0] ≠ UInt8.ofNat 40 by rw [h0]; exact hne)
    have i0 : (0 : Int) < (a.size : Int) := by omega
    have HEN := Lib.hid (show IsEnds (L (.atom ss neg false)) (strL s) l (oneOut (strL s) (hasB ss neg) l l.length) from (oneOut_ends (strL s) (hasB ss neg) l hl).congr fun w => by simp only [L])
    have HA := Lib.hid hA
    have HST := Lib.hid (fun (k : Nat) (h : k < l.length) => oneOut_step (strL s) (hasB ss neg) l h)
    have HLN := Lib.hid (fun k => oneOut_len (strL s) (hasB ss neg) l k)
    have HXL := Lib.hid hx
    clear hat hleaf he hne h0 hA hl hx
    go_enter Tryz.func136, Tryz.ntmps136
    go_wp2_with fail
    go_loopw [7, 8] (fun o i wr => OneRel w (strL s) (hasB ss neg) l o i wr) (fun _ i _ => l.length - (intOf i).toNat)
    case atStart => exact ⟨0, Nat.zero_le _, rfl, ownp_nil _ _, Below.refl _ _⟩
    case round =>
      obtain ⟨k, hk, rfl, ho, hbr⟩ := hrel
      have hsz := hbr.size
      obtain ⟨P, cc, rfl, hlc, hP, _⟩ := ownp_slice ho
      have HBr := Lib.hid hbr
      have HO := Lib.hid ho
      by_cases hlt : k < l.length
      · obtain ⟨b, o, rfl, hb, g0⟩ := HA.out.at_ hlt
        have e0 : wr.cell? ⟨b, o + k, none⟩ = some (.int .i64 ((l.getD k 0 : Nat) : Int)) := (hbr.cell (p := ⟨b, o + k, none⟩) hb).trans g0
        have hst := HST.out k hlt
        have hxl := HXL.out (l.getD k 0) (by rw [List.getD_eq_getElem?_getD, List.getElem?_eq_getElem hlt]; exact List.getElem_mem _)
        generalize l.getD k 0 = x at e0 hst hxl
        have i1 : (0 : Int) ≤ (k : Int) := by omega
        have i2 : (k : Int) < (l.length : Int) := by omega
        clear ho hbr g0 hP
        by_cases hxs : x < s.size
        · have HB := Lib.hid (fun W => HF.out s[x] W)
          have hsb : stepB (strL s) (hasB ss neg) x = hasB ss neg s[x] := by unfold stepB; rw [strG s hxs]
          rw [hsb] at hst
          have i3 : (x : Int) < (s.size : Int) := by omega
          have i4 : (0 : Int) ≤ (x : Int) := by omega
          cases hh : hasB ss neg s[x]
          · rw [hh] at hst HB
            have HS := Lib.hid (hst.trans (by simp : _ = oneOut (strL s) (hasB ss neg) l k))
            clear hst hh hsb
            go_wp2_with (go_at_call 139; refine (HB.out _).mono ?_; rintro e w2 ⟨rfl, hb2⟩; have HB2 := Lib.hid (HBr.out.trans (hb2.mono HBr.out.size)); have HO2 := Lib.hid (ownp_below HO.out hb2); clear hb2)
            go_roundw
            case rel => exact ⟨k + 1, by omega, by go_num, by rw [HS.out]; exact HO2.out, HB2.out⟩
            case measure => simp [intOf]; omega
          · rw [hh] at hst HB
            have HS := Lib.hid (hst.trans (by simp : _ = oneOut (strL s) (hasB ss neg) l k ++ [x + 1]))
            have HN := Lib.hid (show (oneOut (strL s) (hasB ss neg) l k).length + 1 ≤ 2002 by have := HLN.out k; omega)
            generalize oneOut (strL s) (hasB ss neg) l k = y at *
            clear hst hh hsb
            go_wp2_with (first
              | (go_at_call 139; refine (HB.out _).mono ?_; rintro e w2 ⟨rfl, hb2⟩; have HB2 := Lib.hid (HBr.out.trans (hb2.mono HBr.out.size)); have HO2 := Lib.hid (ownp_below HO.out hb2); have e2 : w2.cell? ⟨b, o + k, none⟩ = some (.int .i64 (x : Int)) := (HB2.out.cell (p := ⟨b, o + k, none⟩) hb).trans ((HBr.out.cell (p := ⟨b, o + k, none⟩) hb).symm.trans e0); clear hb2)
              | (at_builtin; refine app_nats rfl (.tmp 43) (.tmp 49) rfl w.heap.size _ y rfl (ownp_below HO2.out (below_one _ _)) _ [x + 1] 1 rfl (pls_cell (n := x + 1) (Row.new _ _ _)) (by rw [List.length_singleton]; have := HN.out; omega) (Nat.le_trans HB2.out.size (by simp)) ?_; intro v1 w3 hown1 hb1 _; have HO3 := Lib.hid hown1; have HB3 := Lib.hid ((HB2.out.alloc HB2.out.size _).trans hb1); clear hown1 hb1))
            go_roundw
            case rel => exact ⟨k + 1, by omega, by go_num, by rw [HS.out]; exact HO3.out, HB3.out⟩
            case measure => simp [intOf]; omega
        · have hsb : stepB (strL s) (hasB ss neg) x = false := by unfold stepB; rw [List.getElem?_eq_none (by rw [strL_length]; omega)]
          rw [hsb] at hst
          have HS := Lib.hid (hst.trans (by simp : _ = oneOut (strL s) (hasB ss neg) l k))
          have i3 : ¬ (x : Int) < (s.size : Int) := by omega
          clear hst hsb
          go_wp2_with fail
          exact ⟨⟨k + 1, by omega, by go_num, by rw [HS.out]; exact HO.out, HBr.out⟩, by simp [intOf]; omega⟩
      · obtain rfl : k = l.length := by omega
        clear ho hbr
        have HP := Lib.hid hP
        clear hP
        go_wp2_with fail
        go_ret
        exact ⟨P, _, cc, rfl, hlc, HP.out, HEN.out, HBr.out⟩
  · obtain ⟨hau, hpu⟩ : strL a = 40 :: (u ++ [41]) ∧ PatT u ls := ⟨hg, hp⟩
    have hz : a.size = u.length + 2 := by rw [← strL_length, hau]; simp
    have hal : 0 < a.size := by omega
    have h0 : a[0] = 40 := by have := strG a (k := 0) hal; rw [hau] at this; simpa using this.symm
    have t0 : ((a[0].toNat : Int) == 40) = true := test_yes 40 (by omega) h0
    have i0 : (0 : Int) < (a.size : Int) := by omega
    have hsl : strL (a.extract 1 (a.size - 1)) = u := by
      rw [ext_txt a _ _ (by omega), hau]
      simp only [List.drop_succ_cons, List.drop_zero]
      rw [show a.size - 1 - 1 = u.length by omega, List.take_left]
    have hsz : (a.extract 1 (a.size - 1)).size < a.size := by rw [← strL_length, hsl]; omega
    have HC := Lib.hid (hE _ hsz ls (by rw [hsl]; exact hpu) A l c w hA hc hl hx)
    have HL := Lib.hid (show ∀ e w', PlsTold w (IsEnds (LAlt ls) (strL s) l) e w' → PlsTold w (IsEnds (L (.alt ls)) (strL s) l) e w' from fun e w' h => by
      obtain ⟨A', out, c', h1, h2, h3, h4, h5⟩ := h
      exact ⟨A', out, c', h1, h2, h3, h4.congr fun w => by simp only [L], h5⟩)
    have i1 : (2 : Int) ≤ (a.size : Int) := by omega
    have i2 : 2 ≤ a.size := by omega
    clear hat hg hp hau hpu hz h0 hsl hsz hE
    go_enter Tryz.func136, Tryz.ntmps136
    go_wp2_with (go_at_call 110; refine HC.out.mono ?_; rintro e w2 ⟨A', out, c', rfl, h2, h3, h4, h5⟩; have H3 := Lib.hid h3; have H4 := Lib.hid h4; have H5 := Lib.hid h5; clear h3 h4 h5)
    go_ret
    exact HL.out _ _ ⟨A', out, c', rfl, h2, H3.out, H4.out, H5.out⟩
def markF (m : UInt8) (r : Re) : Re := if m = 42 then .rep r true true else if m = 43 then .rep r false true else if m = 63 then .rep r true false else r
/-- What a mark of many makes of what a part fits. -/
def Many (r : Re) (m : UInt8) (x : List UInt8) : Prop := if m = 42 ∨ m = 43 then ∃ u v, x = u ++ v ∧ L r u ∧ Star (L r) v else L r x
def PieceAt (s a : ByteArray) : Prop := ∀ (r : Re), AtomT (strL a) r → ∀ (m : UInt8) (A : Option Addr) (l : List Nat) (c : Nat) (w : World), Pls w A l → l.length ≤ c → Rise l → (∀ x ∈ l, x ≤ s.size) → Calls Tryz.prog 129 #[.string a, .int .u8 (m.toNat : Int), .string s, .slice A l.length c] w (PlsTold w (IsEnds (L (markF m r)) (strL s) l))
def PcMid (w : World) (Q : List UInt8 → Prop) (s : List UInt8) (l : List Nat) (v : Value) (wx : World) : Prop := ∃ A out c, v = .slice A out.length c ∧ out.length ≤ c ∧ Pls wx A out ∧ IsEnds Q s l out ∧ Below w.heap.size w wx
def PcRel (w : World) (r : Re) (s : List UInt8) (l : List Nat) (v i : Value) (wr : World) : Prop := ∃ (k : Nat) (A : Option Addr) (nx : List Nat) (c : Nat), k ≤ s.length ∧ i = .int .i64 (k : Int) ∧ v = .slice A nx.length c ∧ nx.length ≤ c ∧ Pls wr A nx ∧ Found (L r) s l k nx ∧ Below w.heap.size w wr
theorem found_le {P : List UInt8 → Prop} {s : List UInt8} {l nx : List Nat} {k : Nat} (h : Found P s l k nx) : ∀ j ∈ nx, j ≤ s.length := fun j hj => by
  obtain ⟨i, t, _, hp⟩ := h.2.1 j hj
  exact hp.le.2
theorem many_yes {r : Re} {m : UInt8} (h : m = 42 ∨ m = 43) {s : List UInt8} {l out : List Nat} (k : IsEnds (fun x => ∃ u v, x = u ++ v ∧ L r u ∧ Star (L r) v) s l out) : IsEnds (Many r m) s l out := k.congr fun x => by unfold Many; rw [if_pos h]
theorem many_no {r : Re} {m : UInt8} (h : ¬ (m = 42 ∨ m = 43)) {s : List UInt8} {l out : List Nat} (k : IsEnds (L r) s l out) : IsEnds (Many r m) s l out := k.congr fun x => by unfold Many; rw [if_neg h]
theorem u8_yes {m : UInt8} (k : Nat) (hk : k < 256) (h : m = UInt8.ofNat k) : ((m.toNat : Int) == (k : Int)) = true := test_yes k hk h
theorem u8_no {m : UInt8} (k : Nat) (hk : k < 256) (h : m ≠ UInt8.ofNat k) : ((m.toNat : Int) == (k : Int)) = false := test_no k hk h
set_option maxRecDepth 100000 in
set_option maxHeartbeats 4000000 in
theorem piece_ref (s a : ByteArray) (hs : s.size ≤ 1000) (hO : OneAt s a) : PieceAt s a := by
  intro r hr m A l c w hA hc hl hx
  have hsl := strL_length s
  have HO := Lib.hid (fun (A : Option Addr) (l : List Nat) (c : Nat) W h1 h2 h3 h4 => hO r hr A l c W h1 h2 h3 h4)
  have HA := Lib.hid hA
  have HRL := Lib.hid hl
  have HXL := Lib.hid hx
  have HLL := Lib.hid (show l.length ≤ 1001 by have := rise_len hl hx; omega)
  have HSL := Lib.hid hsl
  clear hA hl hx hO hr hsl
  go_enter Tryz.func129, Tryz.ntmps129
  go_upto_region 2 with (first | (go_at_call 136; refine (HO.out A l c _ HA.out hc HRL.out HXL.out).mono ?_; rintro e w1 ⟨A1, n1, c1, rfl, hc1, hP1, hE1, hb1⟩; have HP1 := Lib.hid hP1; have HE1 := Lib.hid hE1; have HB1 := Lib.hid hb1; clear hP1 hE1 hb1))
  go_cut [21] (fun s21 wx => s21 = .bool (decide (m = 42 ∨ m = 43)) ∧ w1 = wx)
  case first =>
    by_cases h1 : m = 42
    · have t1 : ((m.toNat : Int) == 42) = true := u8_yes 42 (by omega) h1
      have HD := Lib.hid (decide_eq_true (show m = 42 ∨ m = 43 from .inl h1))
      clear h1
      go_wp2_with fail
      go_meet
      exact ⟨by rw [HD.out], rfl⟩
    · have t1 : ((m.toNat : Int) == 42) = false := u8_no 42 (by omega) h1
      by_cases h2 : m = 43
      · have t2 : ((m.toNat : Int) == 43) = true := u8_yes 43 (by omega) h2
        have HD := Lib.hid (decide_eq_true (show m = 42 ∨ m = 43 from .inr h2))
        clear h1 h2
        go_wp2_with fail
        go_meet
        exact ⟨by rw [HD.out], rfl⟩
      · have t2 : ((m.toNat : Int) == 43) = false := u8_no 43 (by omega) h2
        have HD := Lib.hid (decide_eq_false (show ¬ (m = 42 ∨ m = 43) from fun h => h.elim h1 h2))
        clear h1 h2
        go_wp2_with fail
        go_meet
        exact ⟨by rw [HD.out], rfl⟩
  case rest =>
    obtain ⟨rfl, rfl⟩ := hcut
    go_upto_if 21 with fail
    go_cut [9] (fun s9 wx => PcMid w (Many r m) (strL s) l s9 wx)
    case first =>
      by_cases hm : m = 42 ∨ m = 43
      · have HM := Lib.hid hm
        rw [decide_eq_true hm]
        clear hm
        have HS0 := Lib.hid (found_zero HE1.out)
        go_wp2_with fail
        go_loopw [9, 10] (fun v i wr => PcRel w r (strL s) l v i wr) (fun _ i _ => s.size - (intOf i).toNat)
        case atStart => exact ⟨0, A1, n1, c1, Nat.zero_le _, rfl, rfl, hc1, HP1.out, HS0.out, HB1.out⟩
        case round =>
          obtain ⟨k, A2, nx, c2, hk, rfl, rfl, hc2, hP2, hF2, hbr⟩ := hrel
          have hr2 := hF2.1
          have hl2 := found_le hF2
          rw [HSL.out] at hk hl2
          have HLX := Lib.hid (show nx.length ≤ 1001 by have := rise_len hr2 hl2; omega)
          have HP2 := Lib.hid hP2
          have HF2 := Lib.hid hF2
          have HBr := Lib.hid hbr
          have HC := Lib.hid (HO.out A2 nx c2 wr hP2 hc2 hr2 hl2)
          have HR2 := Lib.hid hr2
          clear hP2 hF2 hbr hr2 hl2
          by_cases hlt : k < s.size
          · have i1 : (k : Int) < (s.size : Int) := by omega
            go_upto_region 7 with (first
              | (go_at_call 136; refine HC.out.mono ?_; rintro e w3 ⟨A3, e3, c3, rfl, hc3, hP3, hE3, hb3⟩
                 have HB3 := Lib.hid (HBr.out.trans (hb3.mono HBr.out.size))
                 have HW3 := Lib.hid hb3
                 have HE3 := Lib.hid hE3
                 have hl3 := hE3.le
                 rw [HSL.out] at hl3
                 have HMG := Lib.hid (merge_ref A2 A3 nx e3 c2 c3 w3 (HP2.out.below hb3) hP3 hc2 hc3 HR2.out hE3.1 HLX.out (by have := rise_len hE3.1 hl3; omega))
                 clear hP3 hE3 hb3 hl3)
              | (go_at_call 121; refine HMG.out.mono ?_; rintro e w4 ⟨A4, mo, c4, rfl, hc4, hP4, hJ4, hb4⟩
                 have HB4 := Lib.hid (HB3.out.trans (hb4.mono HB3.out.size))
                 have HP4 := Lib.hid hP4
                 have HJ4 := Lib.hid hJ4
                 have HP24 := Lib.hid ((HP2.out.below HW3.out).below hb4)
                 clear hP4 hJ4 hb4))
            by_cases hle : mo.length = nx.length
            · have HFS := Lib.hid (found_stop HF2.out HE3.out HJ4.out hle)
              have z0 : ((mo.length : Int) == (nx.length : Int)) = true := by rw [hle]; simp
              clear hle
              go_wp2_with fail
              go_meet
              exact ⟨A2, nx, c2, rfl, hc2, HP24.out, many_yes HM.out HFS.out, HB4.out⟩
            · have HFS := Lib.hid (found_step HF2.out HE3.out HJ4.out)
              have z0 : ((mo.length : Int) == (nx.length : Int)) = false := by rw [beq_eq_false_iff_ne]; omega
              clear hle
              go_wp2_with fail
              go_roundw
              case rel => exact ⟨k + 1, A4, mo, c4, by rw [HSL.out]; omega, by go_num, rfl, hc4, HP4.out, HFS.out, HB4.out⟩
              case measure => simp [intOf]; omega
          · obtain rfl : k = s.size := by omega
            have HFS := Lib.hid (found_full (by rw [HSL.out]; exact HF2.out))
            go_wp2_with fail
            go_meet
            exact ⟨A2, nx, c2, rfl, hc2, HP2.out, many_yes HM.out HFS.out, HBr.out⟩
      · have HE := Lib.hid (many_no hm HE1.out)
        rw [decide_eq_false hm]
        clear hm
        go_wp2_with fail
        go_meet
        exact ⟨A1, n1, c1, rfl, hc1, HP1.out, HE.out, HB1.out⟩
    case rest =>
      obtain ⟨A2, n2, c2, rfl, hc2, hP2, hE2, hb2⟩ := hcut
      have hl2 := hE2.le
      rw [HSL.out] at hl2
      have HB2 := Lib.hid hb2
      have HMG := Lib.hid (merge_ref A2 A n2 l c2 c wc hP2 (HA.out.below hb2) hc2 hc hE2.1 HRL.out (by have := rise_len hE2.1 hl2; omega) HLL.out)
      have HE2 := Lib.hid hE2
      have HP2 := Lib.hid hP2
      clear hP2 hE2 hb2 hl2
      by_cases h1 : m = 42
      · have t1 : ((m.toNat : Int) == 42) = true := u8_yes 42 (by omega) h1
        have HQ := Lib.hid (fun out (hj : Joins n2 l out) => show IsEnds (L (markF m r)) (strL s) l out by
          rw [h1] at HE2 ⊢
          exact ends_star HRL.out (by rw [HSL.out]; exact HXL.out) (HE2.out.congr fun x => by unfold Many; rw [if_pos (.inl rfl)]) hj)
        clear h1
        go_wp2_with (go_at_call 121; refine HMG.out.mono ?_; rintro e w4 ⟨A4, mo, c4, rfl, hc4, hP4, hJ4, hb4⟩; have HB4 := Lib.hid (HB2.out.trans (hb4.mono HB2.out.size)); have HP4 := Lib.hid hP4; have HJ4 := Lib.hid (HQ.out mo hJ4); clear hP4 hJ4 hb4)
        go_ret
        exact ⟨A4, mo, c4, rfl, hc4, HP4.out, HJ4.out, HB4.out⟩
      · have t1 : ((m.toNat : Int) == 42) = false := u8_no 42 (by omega) h1
        by_cases h3 : m = 63
        · have t3 : ((m.toNat : Int) == 63) = true := u8_yes 63 (by omega) h3
          have HQ := Lib.hid (fun out (hj : Joins n2 l out) => show IsEnds (L (markF m r)) (strL s) l out by
            rw [h3] at HE2 ⊢
            exact ends_maybe HRL.out (by rw [HSL.out]; exact HXL.out) (HE2.out.congr fun x => by unfold Many; rw [if_neg (by decide)]) hj)
          clear h1 h3
          go_wp2_with (go_at_call 121; refine HMG.out.mono ?_; rintro e w4 ⟨A4, mo, c4, rfl, hc4, hP4, hJ4, hb4⟩; have HB4 := Lib.hid (HB2.out.trans (hb4.mono HB2.out.size)); have HP4 := Lib.hid hP4; have HJ4 := Lib.hid (HQ.out mo hJ4); clear hP4 hJ4 hb4)
          go_ret
          exact ⟨A4, mo, c4, rfl, hc4, HP4.out, HJ4.out, HB4.out⟩
        · have t3 : ((m.toNat : Int) == 63) = false := u8_no 63 (by omega) h3
          have HQ := Lib.hid (show IsEnds (L (markF m r)) (strL s) l n2 by
            unfold markF
            rw [if_neg h1]
            by_cases h2 : m = 43
            · rw [if_pos h2]
              exact ends_plus (HE2.out.congr fun x => by unfold Many; rw [if_pos (.inr h2)])
            · rw [if_neg h2, if_neg h3]
              exact HE2.out.congr fun x => by unfold Many; rw [if_neg (fun h => h.elim h1 h2)])
          clear h1 h3
          go_wp2_with fail
          go_ret
          exact ⟨A2, n2, c2, rfl, hc2, HP2.out, HQ.out, HB2.out⟩
def AltAt (s p : ByteArray) : Prop := ∀ (rs : List Re), AltT (strL p) rs → ∀ (A : Option Addr) (l : List Nat) (c : Nat) (w : World), Pls w A l → l.length ≤ c → Rise l → (∀ x ∈ l, x ≤ s.size) → Calls Tryz.prog 122 #[.string p, .string s, .slice A l.length c] w (PlsTold w (IsEnds (LRow rs) (strL s) l))
def AlRel (w : World) (s p : ByteArray) (rs : List Re) (l : List Nat) (v i : Value) (wr : World) : Prop := ∃ (k : Nat) (rs' : List Re) (A : Option Addr) (l' : List Nat) (c : Nat), k ≤ p.size ∧ i = .int .i64 (k : Int) ∧ v = .slice A l'.length c ∧ l'.length ≤ c ∧ Pls wr A l' ∧ Rise l' ∧ (∀ x ∈ l', x ≤ s.size) ∧ AltT ((strL p).drop k) rs' ∧ (∀ out, IsEnds (LRow rs') (strL s) l' out → IsEnds (LRow rs) (strL s) l out) ∧ Below w.heap.size w wr
def markB (z : List UInt8) : UInt8 := if MarkP z then z.headD 0 else 0
theorem mark_fr (z : List UInt8) (r : Re) : markR z r = markF (markB z) r := by
  unfold markR markF markB MarkP
  cases z with
  | nil => rfl
  | cons c t =>
    simp only [aheadM, List.contains_cons, List.contains_nil, Bool.or_false, beq_iff_eq, List.headD_cons]
    by_cases h1 : c = 42
    · subst h1; rfl
    · by_cases h2 : c = 43
      · subst h2; rfl
      · by_cases h3 : c = 63
        · subst h3; rfl
        · rw [if_neg h1, if_neg h2, if_neg h3]
          have : ((c == 42) || (c == 43) || (c == 63)) = false := by simp [h1, h2, h3]
          rw [this]
          rfl
set_option maxRecDepth 100000 in
set_option maxHeartbeats 4000000 in
theorem alternative_ref (s p : ByteArray) (hs : s.size ≤ 1000) (hp : p.size ≤ 1000) (hq : ∀ q : ByteArray, q.size ≤ p.size → PieceAt s q) : AltAt s p := by
  intro rs hr A l c w hA hc hl hx
  have HAT := Lib.hid (atom_all _ p (Nat.le_refl _) hp)
  have HPC := Lib.hid hq
  have HSL := Lib.hid (strL_length s)
  have HA := Lib.hid hA
  have HR := Lib.hid (show AltT ((strL p).drop 0) rs from hr)
  have HL := Lib.hid hl
  have HX := Lib.hid hx
  clear hq hA hr hl hx
  go_enter Tryz.func122, Tryz.ntmps122
  go_wp2_with fail
  go_loopw [2, 7] (fun v i wr => AlRel w s p rs l v i wr) (fun _ i _ => p.size - (intOf i).toNat)
  case atStart => exact ⟨0, rs, A, l, c, Nat.zero_le _, rfl, rfl, hc, HA.out, HL.out, HX.out, HR.out, fun _ h => h, Below.refl _ _⟩
  case round =>
    obtain ⟨k, rs', A1, l1, c1, hk, rfl, rfl, hc1, hP1, hr1, hx1, hat, hgo, hbr⟩ := hrel
    have HBr := Lib.hid hbr
    have HP1 := Lib.hid hP1
    by_cases hlt : k < p.size
    · have hd := drop_byte p hlt
      obtain ⟨a, r, z, rs2, hxa, hane, hT, hz, hnext, hrs⟩ := alt_open hat (by rw [hd]; simp)
      have hzl := atomP_len hz
      have hzd : (strL p) = ((strL p).take k ++ a) ++ z := by rw [List.append_assoc, ← hxa, List.take_append_drop]
      have hzs := suffix_drop hzd
      rw [strL_length] at hzs
      rw [drop_len] at hzl
      obtain ⟨m, hm⟩ : ∃ m : Nat, p.size - z.length = m := ⟨_, rfl⟩
      rw [hm] at hzs
      have hzle : z.length ≤ p.size := by omega
      have hkm : k < m ∧ m ≤ p.size := by omega
      have HC := Lib.hid (fun W => HAT.out k (m : Int) W hk (.inl ⟨z, hz, by omega⟩))
      have hal : a.length + z.length = p.size - k := by rw [← drop_len p k, hxa, List.length_append]
      have hta : strL (p.extract k m) = a := by rw [ext_txt p _ _ hkm.2, hxa, show m - k = a.length by omega, List.take_left]
      have hsz : (p.extract k m).size ≤ p.size := by rw [← strL_length, hta]; omega
      rw [mark_fr] at hrs
      have HG := Lib.hid (fun (W : World) (hb : Below wr.heap.size wr W) => HPC.out _ hsz r (by rw [hta]; exact hT) (markB z) A1 l1 c1 W (HP1.out.below hb) hc1 hr1 hx1)
      have HGO := Lib.hid (fun (l2 out : List Nat) (h1 : IsEnds (L (markF (markB z) r)) (strL s) l1 l2) (h2 : IsEnds (LRow rs2) (strL s) l2 out) => hgo out (by rw [hrs]; exact ends_row h1 h2))
      rw [hzs, mark_is] at hnext
      rw [hzs] at HG HGO
      have i1 : (k : Int) ≤ (m : Int) := by omega
      have i2 : (m : Int) ≤ (p.size : Int) := by omega
      by_cases hmk : MarkP ((strL p).drop m) = true
      · rw [if_pos hmk] at hnext
        have hms : m < p.size := by
          rcases Nat.lt_or_ge m p.size with h | h
          · exact h
          · rw [mark_end p h] at hmk; cases hmk
        have hmb : markB ((strL p).drop m) = p[m] := by unfold markB; rw [if_pos hmk, drop_byte p hms]; rfl
        rw [hmb] at HG HGO
        rw [mark_at p hms] at hmk
        have HN := Lib.hid hnext
        have q1 := byte_eq p[m] 42 (by omega)
        have q2 := byte_eq p[m] 43 (by omega)
        have q3 := byte_eq p[m] 63 (by omega)
        have z0 : ((p[m].toNat : Int) == 0) = false := by
          have := byte_eq p[m] 0 (by omega)
          refine this.trans (decide_eq_false fun e => ?_)
          rw [e] at hmk
          exact absurd hmk (by decide)
        have z1 : ((p[m].toNat : Int) != 0) = true := by rw [bne, z0]; rfl
        clear hd hat hgo hbr hP1 hr1 hx1 hxa hane hT hz hnext hrs hzl hzd hzs hm hal hta hsz hmb
        cases h1 : decide (p[m] = UInt8.ofNat 42)
        · cases h2 : decide (p[m] = UInt8.ofNat 43)
          · cases h3 : decide (p[m] = UInt8.ofNat 63)
            · rw [h1, h2, h3] at hmk; cases hmk
            · have s1 : ((p[m].toNat : Int) == 42) = false := q1.trans h1
              have s2 : ((p[m].toNat : Int) == 43) = false := q2.trans h2
              have s3 : ((p[m].toNat : Int) == 63) = true := q3.trans h3
              clear q1 q2 q3 h1 h2 h3 hmk
              go_wp2_with (first
                | (go_at_call 127; refine (HC.out _).mono ?_; rintro e w2 ⟨rfl, hb2⟩; have HB2 := Lib.hid (HBr.out.trans (hb2.mono HBr.out.size)); have HG2 := Lib.hid (HG.out _ hb2); clear hb2)
                | (go_at_call 129; refine HG2.out.mono ?_; rintro e w3 ⟨A3, l3, c3, rfl, hc3, hP3, hE3, hb3⟩; have HB3 := Lib.hid (HB2.out.trans (hb3.mono HB2.out.size)); have HP3 := Lib.hid hP3; have HE3 := Lib.hid hE3; have HL3 := Lib.hid (show ∀ x ∈ l3, x ≤ s.size by rw [← HSL.out]; exact hE3.le); clear hP3 hE3 hb3))
              exact ⟨⟨m + 1, rs2, A3, l3, c3, by omega, by go_num, rfl, hc3, HP3.out, HE3.out.1, HL3.out, HN.out, fun out h => HGO.out _ _ HE3.out h, HB3.out⟩, by simp [intOf]; omega⟩
          · have s1 : ((p[m].toNat : Int) == 42) = false := q1.trans h1
            have s2 : ((p[m].toNat : Int) == 43) = true := q2.trans h2
            clear q1 q2 q3 h1 h2 hmk
            go_wp2_with (first
              | (go_at_call 127; refine (HC.out _).mono ?_; rintro e w2 ⟨rfl, hb2⟩; have HB2 := Lib.hid (HBr.out.trans (hb2.mono HBr.out.size)); have HG2 := Lib.hid (HG.out _ hb2); clear hb2)
              | (go_at_call 129; refine HG2.out.mono ?_; rintro e w3 ⟨A3, l3, c3, rfl, hc3, hP3, hE3, hb3⟩; have HB3 := Lib.hid (HB2.out.trans (hb3.mono HB2.out.size)); have HP3 := Lib.hid hP3; have HE3 := Lib.hid hE3; have HL3 := Lib.hid (show ∀ x ∈ l3, x ≤ s.size by rw [← HSL.out]; exact hE3.le); clear hP3 hE3 hb3))
            exact ⟨⟨m + 1, rs2, A3, l3, c3, by omega, by go_num, rfl, hc3, HP3.out, HE3.out.1, HL3.out, HN.out, fun out h => HGO.out _ _ HE3.out h, HB3.out⟩, by simp [intOf]; omega⟩
        · have s1 : ((p[m].toNat : Int) == 42) = true := q1.trans h1
          clear q1 q2 q3 h1 hmk
          go_wp2_with (first
            | (go_at_call 127; refine (HC.out _).mono ?_; rintro e w2 ⟨rfl, hb2⟩; have HB2 := Lib.hid (HBr.out.trans (hb2.mono HBr.out.size)); have HG2 := Lib.hid (HG.out _ hb2); clear hb2)
            | (go_at_call 129; refine HG2.out.mono ?_; rintro e w3 ⟨A3, l3, c3, rfl, hc3, hP3, hE3, hb3⟩; have HB3 := Lib.hid (HB2.out.trans (hb3.mono HB2.out.size)); have HP3 := Lib.hid hP3; have HE3 := Lib.hid hE3; have HL3 := Lib.hid (show ∀ x ∈ l3, x ≤ s.size by rw [← HSL.out]; exact hE3.le); clear hP3 hE3 hb3))
          exact ⟨⟨m + 1, rs2, A3, l3, c3, by omega, by go_num, rfl, hc3, HP3.out, HE3.out.1, HL3.out, HN.out, fun out h => HGO.out _ _ HE3.out h, HB3.out⟩, by simp [intOf]; omega⟩
      · rw [if_neg hmk] at hnext
        have hmb : markB ((strL p).drop m) = 0 := by unfold markB; rw [if_neg hmk]
        rw [hmb] at HG HGO
        have HG' := Lib.hid (fun (W : World) (hb : Below wr.heap.size wr W) => show Calls Tryz.prog 129 #[.string (p.extract k m), .int .u8 0, .string s, .slice A1 l1.length c1] W (PlsTold W (IsEnds (L (markF 0 r)) (strL s) l1)) from HG.out W hb)
        have HN := Lib.hid hnext
        have hmk' := Bool.eq_false_iff.2 hmk
        clear hd hat hgo hbr hP1 hr1 hx1 hxa hane hT hz hnext hrs hzl hzd hzs hm hal hta hsz hmb hmk HG
        by_cases hms : m < p.size
        · rw [mark_at p hms, Bool.or_eq_false_iff, Bool.or_eq_false_iff] at hmk'
          have s1 : ((p[m].toNat : Int) == 42) = false := (byte_eq p[m] 42 (by omega)).trans hmk'.1
          have s2 : ((p[m].toNat : Int) == 43) = false := (byte_eq p[m] 43 (by omega)).trans hmk'.2.1
          have s3 : ((p[m].toNat : Int) == 63) = false := (byte_eq p[m] 63 (by omega)).trans hmk'.2.2
          clear hmk'
          go_wp2_with (first
            | (go_at_call 127; refine (HC.out _).mono ?_; rintro e w2 ⟨rfl, hb2⟩; have HB2 := Lib.hid (HBr.out.trans (hb2.mono HBr.out.size)); have HG2 := Lib.hid (HG'.out _ hb2); clear hb2)
            | (go_at_call 129; refine HG2.out.mono ?_; rintro e w3 ⟨A3, l3, c3, rfl, hc3, hP3, hE3, hb3⟩; have HB3 := Lib.hid (HB2.out.trans (hb3.mono HB2.out.size)); have HP3 := Lib.hid hP3; have HE3 := Lib.hid hE3; have HL3 := Lib.hid (show ∀ x ∈ l3, x ≤ s.size by rw [← HSL.out]; exact hE3.le); clear hP3 hE3 hb3))
          exact ⟨⟨m, rs2, A3, l3, c3, by omega, rfl, rfl, hc3, HP3.out, HE3.out.1, HL3.out, HN.out, fun out h => HGO.out _ _ HE3.out h, HB3.out⟩, by simp [intOf]; omega⟩
        · clear hmk'
          go_wp2_with (first
            | (go_at_call 127; refine (HC.out _).mono ?_; rintro e w2 ⟨rfl, hb2⟩; have HB2 := Lib.hid (HBr.out.trans (hb2.mono HBr.out.size)); have HG2 := Lib.hid (HG'.out _ hb2); clear hb2)
            | (go_at_call 129; refine HG2.out.mono ?_; rintro e w3 ⟨A3, l3, c3, rfl, hc3, hP3, hE3, hb3⟩; have HB3 := Lib.hid (HB2.out.trans (hb3.mono HB2.out.size)); have HP3 := Lib.hid hP3; have HE3 := Lib.hid hE3; have HL3 := Lib.hid (show ∀ x ∈ l3, x ≤ s.size by rw [← HSL.out]; exact hE3.le); clear hP3 hE3 hb3))
          exact ⟨⟨m, rs2, A3, l3, c3, by omega, rfl, rfl, hc3, HP3.out, HE3.out.1, HL3.out, HN.out, fun out h => HGO.out _ _ HE3.out h, HB3.out⟩, by simp [intOf]; omega⟩
    · obtain rfl : k = p.size := by omega
      rw [drop_end p (Nat.le_refl _)] at hat
      have hrn := alt_void hat
      have HEN := Lib.hid (hgo l1 (by rw [hrn]; exact (ends_nil hr1 (by rw [HSL.out]; exact hx1)).congr fun w => by simp only [LRow]))
      clear hat hgo hbr hP1 hr1 hx1 hrn
      go_wp2_with fail
      go_ret
      exact ⟨A1, l1, c1, rfl, hc1, HP1.out, HEN.out, HBr.out⟩
end Go.Proofs.YtpcjnagdanmdpaaGreat
