/- The document's own answer for patterns: where an atom may end. -/
import Derived.Test.YtjljfilflajogaaReByte
import Derived.Test.YtjljfilflajogaaReEnds
import Derived.Test.YtjljfilflajogaaReMerge
namespace Go.Proofs.Ytjljfilflajogaa
open Go.RowKit Go.Maps
set_option linter.unusedVariables false

/-- Where the pattern of the text p may end, of s, is told as its tree's places. -/
def EndsAt (s p : ByteArray) : Prop := ∀ (ls : List Re), PatT (strL p) ls → ∀ (A : Option Addr) (l : List Nat) (c : Nat) (w : World), Pls w A l → l.length ≤ c → Rise l → (∀ x ∈ l, x ≤ s.size) → Calls Try.prog 39 #[.string p, .string s, .slice A l.length c] w (PlsTold w (IsEnds (LAlt ls) (strL s) l))
def OneAt (s a : ByteArray) : Prop := ∀ (r : Re), AtomT (strL a) r → ∀ (A : Option Addr) (l : List Nat) (c : Nat) (w : World), Pls w A l → l.length ≤ c → Rise l → (∀ x ∈ l, x ≤ s.size) → Calls Try.prog 79 #[.string a, .string s, .slice A l.length c] w (PlsTold w (IsEnds (L r) (strL s) l))
def OneRel (w : World) (s : List UInt8) (f : UInt8 → Bool) (l : List Nat) (o i : Value) (wr : World) : Prop := ∃ k : Nat, k ≤ l.length ∧ i = .int .i64 (k : Int) ∧ OwnP wr w.heap.size o (oneOut s f l k) ∧ Below w.heap.size w wr
set_option maxRecDepth 100000 in
set_option maxHeartbeats 4000000 in
theorem one_ref (s a : ByteArray) (hs : s.size ≤ 1000) (ha : a.size ≤ 1000) (hE : ∀ q : ByteArray, q.size < a.size → EndsAt s q) : OneAt s a := by
  intro r hr A l c w hA hc hl hx
  have hlen := rise_len hl hx
  obtain ⟨n, d, hat⟩ := hr
  rcases atom_text hat with ⟨ss, neg, rfl, hleaf⟩ | ⟨u, ls, rfl, hg, hp⟩
  · have HF := Lib.hid (fun (cc : UInt8) W => byteof_ref a ha hleaf cc W)
    obtain ⟨c0, t, he, hne⟩ := leaf_head hleaf
    have hal : 0 < a.size := by rw [← strL_length, he]; simp
    have h0 : a[0] = c0 := by have := strG a (k := 0) hal; rw [he] at this; simpa using this.symm
    have t0 : ((a[0].toNat : Int) == 40) = false := test_no 40 (by omega) (show a[0] ≠ UInt8.ofNat 40 by rw [h0]; exact hne)
    have i0 : (0 : Int) < (a.size : Int) := by omega
    have HEN := Lib.hid (show IsEnds (L (.atom ss neg false)) (strL s) l (oneOut (strL s) (hasB ss neg) l l.length) from (oneOut_ends (strL s) (hasB ss neg) l hl).congr fun w => by simp only [L])
    have HA := Lib.hid hA
    have HST := Lib.hid (fun (k : Nat) (h : k < l.length) => oneOut_step (strL s) (hasB ss neg) l h)
    have HLN := Lib.hid (fun k => oneOut_len (strL s) (hasB ss neg) l k)
    have HXL := Lib.hid hx
    clear hat hleaf he hne h0 hA hl hx
    go_enter Try.func79, Try.ntmps79
    go_wp2_with fail
    go_loopw [7, 8] (fun o i wr => OneRel w (strL s) (hasB ss neg) l o i wr) (fun _ i _ => l.length - (intOf i).toNat)
    case atStart => exact ⟨0, Nat.zero_le _, rfl, ownp_nil _ _, Below.refl _ _⟩
    case round =>
      obtain ⟨k, hk, rfl, ho, hbr⟩ := hrel
      have hsz := hbr.size
      obtain ⟨P, cc, rfl, hlc, hP, _⟩ := ownp_slice ho
      have HBr := Lib.hid hbr
      have HO := Lib.hid ho
      by_cases hlt : k < l.length
      · obtain ⟨b, o, rfl, hb, g0⟩ := HA.out.at_ hlt
        have e0 : wr.cell? ⟨b, o + k, none⟩ = some (.int .i64 ((l.getD k 0 : Nat) : Int)) := (hbr.cell (p := ⟨b, o + k, none⟩) hb).trans g0
        have hst := HST.out k hlt
        have hxl := HXL.out (l.getD k 0) (by rw [List.getD_eq_getElem?_getD, List.getElem?_eq_getElem hlt]; exact List.getElem_mem _)
        generalize l.getD k 0 = x at e0 hst hxl
        have i1 : (0 : Int) ≤ (k : Int) := by omega
        have i2 : (k : Int) < (l.length : Int) := by omega
        clear ho hbr g0 hP
        by_cases hxs : x < s.size
        · have HB := Lib.hid (fun W => HF.out s[x] W)
          have hsb : stepB (strL s) (hasB ss neg) x = hasB ss neg s[x] := by unfold stepB; rw [strG s hxs]
          rw [hsb] at hst
          have i3 : (x : Int) < (s.size : Int) := by omega
          have i4 : (0 : Int) ≤ (x : Int) := by omega
          cases hh : hasB ss neg s[x]
          · rw [hh] at hst HB
            have HS := Lib.hid (hst.trans (by simp : _ = oneOut (strL s) (hasB ss neg) l k))
            clear hst hh hsb
            go_wp2_with (go_at_call 84; refine (HB.out _).mono ?_; rintro e w2 ⟨rfl, hb2⟩; have HB2 := Lib.hid (HBr.out.trans (hb2.mono HBr.out.size)); have HO2 := Lib.hid (ownp_below HO.out hb2); clear hb2)
            go_roundw
            case rel => exact ⟨k + 1, by omega, by go_num, by rw [HS.out]; exact HO2.out, HB2.out⟩
            case measure => simp [intOf]; omega
          · rw [hh] at hst HB
            have HS := Lib.hid (hst.trans (by simp : _ = oneOut (strL s) (hasB ss neg) l k ++ [x + 1]))
            have HN := Lib.hid (show (oneOut (strL s) (hasB ss neg) l k).length + 1 ≤ 2002 by have := HLN.out k; omega)
            generalize oneOut (strL s) (hasB ss neg) l k = y at *
            clear hst hh hsb
            go_wp2_with (first
              | (go_at_call 84; refine (HB.out _).mono ?_; rintro e w2 ⟨rfl, hb2⟩; have HB2 := Lib.hid (HBr.out.trans (hb2.mono HBr.out.size)); have HO2 := Lib.hid (ownp_below HO.out hb2); have e2 : w2.cell? ⟨b, o + k, none⟩ = some (.int .i64 (x : Int)) := (HB2.out.cell (p := ⟨b, o + k, none⟩) hb).trans ((HBr.out.cell (p := ⟨b, o + k, none⟩) hb).symm.trans e0); clear hb2)
              | (at_builtin; refine app_nats rfl (.tmp 43) (.tmp 49) rfl w.heap.size _ y rfl (ownp_below HO2.out (below_one _ _)) _ [x + 1] 1 rfl (pls_cell (n := x + 1) (Row.new _ _ _)) (by rw [List.length_singleton]; have := HN.out; omega) (Nat.le_trans HB2.out.size (by simp)) ?_; intro v1 w3 hown1 hb1 _; have HO3 := Lib.hid hown1; have HB3 := Lib.hid ((HB2.out.alloc HB2.out.size _).trans hb1); clear hown1 hb1))
            go_roundw
            case rel => exact ⟨k + 1, by omega, by go_num, by rw [HS.out]; exact HO3.out, HB3.out⟩
            case measure => simp [intOf]; omega
        · have hsb : stepB (strL s) (hasB ss neg) x = false := by unfold stepB; rw [List.getElem?_eq_none (by rw [strL_length]; omega)]
          rw [hsb] at hst
          have HS := Lib.hid (hst.trans (by simp : _ = oneOut (strL s) (hasB ss neg) l k))
          have i3 : ¬ (x : Int) < (s.size : Int) := by omega
          clear hst hsb
          go_wp2_with fail
          exact ⟨⟨k + 1, by omega, by go_num, by rw [HS.out]; exact HO.out, HBr.out⟩, by simp [intOf]; omega⟩
      · obtain rfl : k = l.length := by omega
        clear ho hbr
        have HP := Lib.hid hP
        clear hP
        go_wp2_with fail
        go_ret
        exact ⟨P, _, cc, rfl, hlc, HP.out, HEN.out, HBr.out⟩
  · obtain ⟨hau, hpu⟩ : strL a = 40 :: (u ++ [41]) ∧ PatT u ls := ⟨hg, hp⟩
    have hz : a.size = u.length + 2 := by rw [← strL_length, hau]; simp
    have hal : 0 < a.size := by omega
    have h0 : a[0] = 40 := by have := strG a (k := 0) hal; rw [hau] at this; simpa using this.symm
    have t0 : ((a[0].toNat : Int) == 40) = true := test_yes 40 (by omega) h0
    have i0 : (0 : Int) < (a.size : Int) := by omega
    have hsl : strL (a.extract 1 (a.size - 1)) = u := by
      rw [ext_txt a _ _ (by omega), hau]
      simp only [List.drop_succ_cons, List.drop_zero]
      rw [show a.size - 1 - 1 = u.length by omega, List.take_left]
    have hsz : (a.extract 1 (a.size - 1)).size < a.size := by rw [← strL_length, hsl]; omega
    have HC := Lib.hid (hE _ hsz ls (by rw [hsl]; exact hpu) A l c w hA hc hl hx)
    have HL := Lib.hid (show ∀ e w', PlsTold w (IsEnds (LAlt ls) (strL s) l) e w' → PlsTold w (IsEnds (L (.alt ls)) (strL s) l) e w' from fun e w' h => by
      obtain ⟨A', out, c', h1, h2, h3, h4, h5⟩ := h
      exact ⟨A', out, c', h1, h2, h3, h4.congr fun w => by simp only [L], h5⟩)
    have i1 : (2 : Int) ≤ (a.size : Int) := by omega
    have i2 : 2 ≤ a.size := by omega
    clear hat hg hp hau hpu hz h0 hsl hsz hE
    go_enter Try.func79, Try.ntmps79
    go_wp2_with (go_at_call 39; refine HC.out.mono ?_; rintro e w2 ⟨A', out, c', rfl, h2, h3, h4, h5⟩; have H3 := Lib.hid h3; have H4 := Lib.hid h4; have H5 := Lib.hid h5; clear h3 h4 h5)
    go_ret
    exact HL.out _ _ ⟨A', out, c', rfl, h2, H3.out, H4.out, H5.out⟩
end Go.Proofs.Ytjljfilflajogaa
