/- A value read back out of its text, whole: as the program does it. -/
import Derived.Test.YtnhaehjkepmbaaaDoorLbUnesc
namespace Go.Proofs.YtnhaehjkepmbaaaDoor
open Go.RowKit
set_option linter.unusedVariables false

theorem ret_two_s {a b x y : ByteArray} (h1 : a = x) (h2 : b = y) : Ending.returned (.tuple #[.string a, .string b]) = .returned (.tuple #[.string x, .string y]) := by rw [h1, h2]
theorem esc_kinds (c : UInt8) : ((c.toNat = 34 ∨ c.toNat = 92) ∧ escB c = [92, c]) ∨ ((c.toNat ≠ 34 ∧ c.toNat ≠ 92) ∧ (∃ q r, q < 16 ∧ r < 16 ∧ 16 * q + r = c.toNat ∧ escB c = [92, 120, hexD q, hexD r])) ∨ ((c.toNat ≠ 34 ∧ c.toNat ≠ 92) ∧ escB c = [c]) := by
  have hc := c.toNat_lt
  unfold escB
  by_cases h1 : c.toNat = 34 ∨ c.toNat = 92
  · left; exact ⟨h1, if_pos h1⟩
  · by_cases h2 : c.toNat < 32 ∨ 126 < c.toNat
    · right; left; exact ⟨by omega, c.toNat / 16, c.toNat % 16, by omega, by omega, by omega, by rw [if_neg h1, if_pos h2]⟩
    · right; right; exact ⟨by omega, by rw [if_neg h1, if_neg h2]⟩
theorem escL_ge : ∀ V : List UInt8, V.length ≤ (escL V).length
  | [] => Nat.zero_le _
  | c :: r => by
    have h1 := escL_ge r
    have h2 : 1 ≤ (escB c).length := by rcases esc_kinds c with ⟨_, h⟩ | ⟨_, _, _, _, _, _, h⟩ | ⟨_, h⟩ <;> rw [h] <;> simp
    have h3 : (escL (c :: r)).length = (escB c).length + (escL r).length := by show (escB c ++ escL r).length = _; rw [List.length_append]
    rw [h3, List.length_cons]
    omega
set_option maxHeartbeats 1000000 in
theorem unesc_prog (s : ByteArray) (V R : List UInt8) (hs : strL s = escL V ++ 34 :: R) (hsz : s.size ≤ 100000000) (w : World) :
    Calls Tryd.prog 19 #[.string s] w fun e w' => e = .returned (.tuple #[.string (txt V), .string (txt R)]) ∧ Below w.heap.size w w' := by
  have HS := Lib.hid hs
  have hlen : (strL s).length = s.size := strL_length s
  have HV := Lib.hid (show V.length ≤ s.size by
    have h1 := escL_ge V
    rw [← hlen, hs, List.length_append]
    omega)
  clear hs
  go_enter Tryd.func19, Tryd.ntmps19
  go_wp2_with fail
  go_loopw [5, 4] (fun i u wr => ∃ k : Nat, k ≤ V.length ∧ i = .int .i64 (escP V k : Int) ∧ Own wr w.heap.size u (V.take k) ∧ Below w.heap.size w wr) (fun i _ _ => s.size - (intOf i).toNat)
  case atStart => exact ⟨0, Nat.zero_le _, rfl, own_nil _ _, Below.refl _ _⟩
  case round =>
    obtain ⟨k, hk, rfl, ho, hbr⟩ := hrel
    have hszr := hbr.size
    by_cases hlt : k < V.length
    · have hat := escL_at V (34 :: R) hlt
      rw [← HS.out] at hat
      have hsucc := escP_succ V hlt
      have hHT : V.take (k + 1) = V.take k ++ [V.getD k 0] := by rw [List.take_succ_eq_append_getElem hlt, getD_in V 0 hlt]
      have HT := Lib.hid hHT
      have HO := Lib.hid ho
      have HBR := Lib.hid hbr
      have HTL := Lib.hid (show (V.take k).length + 1 ≤ 211106232532992 by rw [List.length_take]; have := HV.out; omega)
      clear hHT ho hbr
      obtain ⟨p, hp⟩ : ∃ p, escP V k = p := ⟨_, rfl⟩
      obtain ⟨p2, hp2⟩ : ∃ p2, escP V (k + 1) = p2 := ⟨_, rfl⟩
      obtain ⟨c, hc⟩ : ∃ c, V.getD k 0 = c := ⟨_, rfl⟩
      rw [hp] at hat hsucc ⊢
      rw [hp2] at hsucc
      rw [hc] at hat hsucc HT
      have HP2 := Lib.hid hp2
      clear hp hp2 hc
      rcases esc_kinds c with ⟨hcc, he⟩ | ⟨hcc, q, r, hq, hr, hqr, he⟩ | ⟨hcc, he⟩
      · -- an escape and the byte
        rw [he] at hat hsucc
        simp only [List.cons_append, List.nil_append] at hat
        obtain ⟨l1, g1, hat2⟩ := at_drop hat
        have l1' : p < s.size := by omega
        rw [strL_get s l1'] at g1
        obtain ⟨l2, g2, _⟩ := at_drop hat2
        have hx0 : strL (s.extract (p + 1) s.size) = c :: (escL (V.drop (k + 1)) ++ 34 :: R) := by
          rw [strL_ext, hat2, List.take_of_length_le]
          · have := congrArg List.length hat2
            rw [List.length_drop, hlen] at this
            omega
        have hxs : 0 < (s.extract (p + 1) s.size).size := by rw [← strL_length, hx0]; simp
        have hx1 : (s.extract (p + 1) s.size)[0] = c := by
          have := strL_get (s.extract (p + 1) s.size) (k := 0) hxs
          rw [hx0] at this
          exact this.symm
        have HB := Lib.hid (fun W => behind_plain (s.extract (p + 1) s.size) c hxs hx1 (by omega) W)
        have i1 : ((s[p].toNat : Int) == 34) = false := by rw [g1]; rfl
        have i2 : ((s[p].toNat : Int) != 92) = false := by rw [g1]; rfl
        have i3 : ((s[p].toNat : Int) == 92) = true := by rw [g1]; rfl
        have i4 : (p : Int) < (s.size : Int) := by omega
        have l2' : p + 1 ≤ s.size := by omega
        have l3 : (p : Int) + 1 ≤ (s.size : Int) := by omega
        have i5 : IntKind.i64.wrap ((p : Int) + 1) = (p : Int) + 1 := IntWalk.i64_in _ (by omega)
        have hp2 : p2 = p + 2 := by rw [hsucc]; rfl
        have HPE := Lib.hid hp2
        clear hat hat2 hx0 hx1 hxs g1 g2 he hsucc hcc hp2
        go_wp2_with (first
          | (go_at_call 26; refine (HB.out _).mono ?_; rintro e w2 ⟨rfl, hb2⟩; have HB2 := Lib.hid (HBR.out.trans (hb2.mono HBR.out.size)); have HO2 := Lib.hid (own_below HO.out hb2); clear hb2)
          | (at_builtin; refine app_u8 rfl (.tmp 42) (.tmp 44) rfl w.heap.size _ _ rfl (own_alloc HO2.out _) _ [c] 1 rfl (row_bys1 (Row.new _ _ _)) HTL.out (Nat.le_trans HB2.out.size (by simp)) ?_; intro v3 w3 hown3 hb3 _; have HO3 := Lib.hid hown3; have HB3 := Lib.hid ((HB2.out.alloc HB2.out.size _).trans hb3); clear hown3 hb3))
        go_roundw
        case rel => exact ⟨k + 1, by omega, by rw [HP2.out, HPE.out]; first | rfl | (congr 1; omega), by rw [HT.out]; exact HO3.out, HB3.out⟩
        case measure => simp [intOf]; omega
      · -- x and two digits
        rw [he] at hat hsucc
        simp only [List.cons_append, List.nil_append] at hat
        obtain ⟨l1, g1, hat2⟩ := at_drop hat
        have l1' : p < s.size := by omega
        rw [strL_get s l1'] at g1
        obtain ⟨l2, g2, _⟩ := at_drop hat2
        have hx0 : strL (s.extract (p + 1) s.size) = 120 :: hexD q :: hexD r :: (escL (V.drop (k + 1)) ++ 34 :: R) := by
          rw [strL_ext, hat2, List.take_of_length_le]
          · have := congrArg List.length hat2
            rw [List.length_drop, hlen] at this
            omega
        have HB := Lib.hid (fun W => behind_hex (s.extract (p + 1) s.size) q r hq hr _ hx0 W)
        rw [hqr] at HB
        have i1 : ((s[p].toNat : Int) == 34) = false := by rw [g1]; rfl
        have i2 : ((s[p].toNat : Int) != 92) = false := by rw [g1]; rfl
        have i3 : ((s[p].toNat : Int) == 92) = true := by rw [g1]; rfl
        have l4 : p + 4 ≤ s.size := by
          have := congrArg List.length hat2
          rw [List.length_drop, hlen] at this
          simp only [List.length_cons, List.length_append] at this
          omega
        have i4 : (p : Int) < (s.size : Int) := by omega
        have l2' : p + 1 ≤ s.size := by omega
        have l3 : (p : Int) + 1 ≤ (s.size : Int) := by omega
        have i5 : IntKind.i64.wrap ((p : Int) + 1) = (p : Int) + 1 := IntWalk.i64_in _ (by omega)
        have hp2 : p2 = p + 4 := by rw [hsucc]; rfl
        have HPE := Lib.hid hp2
        clear hat hat2 hx0 g1 g2 he hsucc hcc hp2
        go_wp2_with (first
          | (go_at_call 26; refine (HB.out _).mono ?_; rintro e w2 ⟨rfl, hb2⟩; have HB2 := Lib.hid (HBR.out.trans (hb2.mono HBR.out.size)); have HO2 := Lib.hid (own_below HO.out hb2); clear hb2)
          | (at_builtin; refine app_u8 rfl (.tmp 42) (.tmp 44) rfl w.heap.size _ _ rfl (own_alloc HO2.out _) _ [c] 1 rfl (row_bys1 (Row.new _ _ _)) HTL.out (Nat.le_trans HB2.out.size (by simp)) ?_; intro v3 w3 hown3 hb3 _; have HO3 := Lib.hid hown3; have HB3 := Lib.hid ((HB2.out.alloc HB2.out.size _).trans hb3); clear hown3 hb3))
        go_roundw
        case rel => exact ⟨k + 1, by omega, by rw [HP2.out, HPE.out]; first | rfl | (congr 1; omega), by rw [HT.out]; exact HO3.out, HB3.out⟩
        case measure => simp [intOf]; omega
      · -- as it stands
        rw [he] at hat hsucc
        simp only [List.cons_append, List.nil_append] at hat
        obtain ⟨l1, g1, _⟩ := at_drop hat
        have l1' : p < s.size := by omega
        rw [strL_get s l1'] at g1
        have i1 : ((s[p].toNat : Int) == 34) = false := by rw [g1]; exact beq_eq_false_iff_ne.2 (by omega)
        have i2 : ((s[p].toNat : Int) != 92) = true := by rw [g1]; exact bne_iff_ne.2 (by omega)
        have i3 : ((s[p].toNat : Int) == 92) = false := by rw [g1]; exact beq_eq_false_iff_ne.2 (by omega)
        have i4 : (p : Int) < (s.size : Int) := by omega
        have hp2 : p2 = p + 1 := by rw [hsucc]; rfl
        have HPE := Lib.hid hp2
        have HG1 := Lib.hid g1
        clear hat g1 he hsucc hcc hp2
        go_wp2_with (first
          | (at_builtin; refine app_u8 rfl (.tmp 28) (.tmp 32) rfl w.heap.size _ _ rfl (own_alloc HO.out _) _ [s[p]] 1 rfl (row_bys1 (Row.new _ _ _)) HTL.out (Nat.le_trans HBR.out.size (by simp)) ?_; intro v3 w3 hown3 hb3 _; rw [HG1.out] at hown3; have HO3 := Lib.hid hown3; have HB3 := Lib.hid ((HBR.out.alloc HBR.out.size _).trans hb3); clear hown3 hb3))
        go_roundw
        case rel => exact ⟨k + 1, by omega, by rw [HP2.out, HPE.out]; first | rfl | (congr 1; omega), by rw [HT.out]; exact HO3.out, HB3.out⟩
        case measure => simp [intOf]; omega
    · obtain rfl : k = V.length := by omega
      have hat := escL_drop V (34 :: R) (Nat.le_refl V.length)
      rw [← HS.out, List.drop_of_length_le (Nat.le_refl _)] at hat
      have hat' : (strL s).drop (escP V V.length) = 34 :: R := hat
      obtain ⟨p, hp⟩ : ∃ p, escP V V.length = p := ⟨_, rfl⟩
      rw [hp] at hat' ⊢
      obtain ⟨l1, g1, g2⟩ := at_drop hat'
      have l1' : p < s.size := by omega
      rw [strL_get s l1'] at g1
      rw [List.take_of_length_le (Nat.le_refl _)] at ho
      obtain ⟨B, d, hu, hB, _⟩ := own_slice' ho
      subst hu
      have i1 : ((s[p].toNat : Int) == 34) = true := by rw [g1]; rfl
      have i4 : (p : Int) < (s.size : Int) := by omega
      have l3 : (p : Int) + 1 ≤ (s.size : Int) := by omega
      have l2' : p + 1 ≤ s.size := by omega
      have i5 : IntKind.i64.wrap ((p : Int) + 1) = (p : Int) + 1 := IntWalk.i64_in _ (by omega)
      have HX := Lib.hid (show s.extract (p + 1) s.size = txt R by
        have h1 : strL (s.extract (p + 1) s.size) = R := by
          rw [strL_ext, g2, List.take_of_length_le]
          have := congrArg List.length g2
          rw [List.length_drop, hlen] at this
          omega
        rw [← txt_strL (s.extract (p + 1) s.size), h1])
      have hcv := conv_bys wr B V d hB
      have hcv2 := conv_bys wr.drew B V d (hB.below ((Below.refl wr.heap.size wr).drew))
      have HBR := Lib.hid hbr
      have HBD := Lib.hid hbr.drew
      clear hat hat' g1 g2 ho hB hbr hp
      go_wp2_with fail
      go_region
      all_goals
        go_wp2_with fail
        go_ret2
        exact ⟨ret_two_s rfl HX.out, by first | exact HBR.out | exact HBD.out⟩
end Go.Proofs.YtnhaehjkepmbaaaDoor
