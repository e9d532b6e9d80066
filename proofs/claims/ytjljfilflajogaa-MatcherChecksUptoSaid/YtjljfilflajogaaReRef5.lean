/- The document's own answer for patterns: the alternatives, whether a text is a pattern, what refuses it. -/
import Derived.Test.YtjljfilflajogaaReRef4
import Derived.Deep.DeepCutAuto
namespace Go.Proofs.Ytjljfilflajogaa
open Go.RowKit Go.Maps
set_option linter.unusedVariables false

def CutTold (w : World) (r : Option (List (List UInt8))) (e : Ending) (w' : World) : Prop :=
  match r with
  | none => e = .returned (.tuple #[.slice none 0 0, .bool false]) ∧ Below w.heap.size w w'
  | some us => ∃ v, e = .returned (.tuple #[v, .bool true]) ∧ OwnT w' w.heap.size v us ∧ Below w.heap.size w w'
def CutRel (p : ByteArray) (w : World) (r : Option (List (List UInt8))) (o f i : Value) (wr : World) : Prop :=
  ∃ (k j : Nat) (us : List (List UInt8)) (r' : Option (List (List UInt8))), k ≤ p.size ∧ j ≤ k ∧ us.length ≤ k ∧ i = .int .i64 (k : Int) ∧ f = .int .i64 (j : Int) ∧ OwnT wr w.heap.size o us ∧ Res (((strL p).drop j).take (k - j)) ((strL p).drop k) r' ∧ r = r'.map (us ++ ·) ∧ Below w.heap.size w wr
theorem mark_is (p : ByteArray) {m : Nat} : behindP ((strL p).drop m) = if MarkP ((strL p).drop m) then (strL p).drop (m + 1) else (strL p).drop m := by
  unfold behindP
  rw [List.tail_drop]
theorem mark_at (p : ByteArray) {m : Nat} (h : m < p.size) : MarkP ((strL p).drop m) = (decide (p[m] = UInt8.ofNat 42) || (decide (p[m] = UInt8.ofNat 43) || decide (p[m] = UInt8.ofNat 63))) := by
  rw [drop_byte p h]
  unfold MarkP
  simp only [aheadM, List.contains_cons, List.contains_nil, Bool.or_false, Bool.or_assoc]
  rfl
theorem mark_end (p : ByteArray) {m : Nat} (h : p.size ≤ m) : MarkP ((strL p).drop m) = false := by rw [drop_end p h]; rfl
theorem take_more (L v y : List UInt8) (j k m : Nat) (hj : j ≤ k) (hkm : k ≤ m) (hm : m ≤ L.length) (h : L.drop k = v ++ L.drop m) : (L.drop j).take (k - j) ++ v = (L.drop j).take (m - j) := by
  have hv : v = (L.drop k).take (m - k) := by
    have h2 : (L.drop k).length = v.length + (L.drop m).length := by rw [h, List.length_append]
    rw [List.length_drop, List.length_drop] at h2
    rw [h, show m - k = v.length by omega, List.take_left]
  rw [hv, show m - j = (k - j) + (m - k) by omega, List.take_add, List.drop_drop, show j + (k - j) = k by omega]
set_option maxRecDepth 100000 in
set_option maxHeartbeats 8000000 in
theorem cut_ref (p : ByteArray) (hp : p.size ≤ 1000) (ha : AtomAt p) (r : Option (List (List UInt8))) (hr : Res [] (strL p) r) (w : World) :
    Calls Try.prog 52 #[.string p] w (CutTold w r) := by
  have HA := Lib.hid ha
  have HR := Lib.hid hr
  clear ha hr
  go_enter Try.func52, Try.ntmps52
  go_wp2_with fail
  go_loopw [4, 5, 6] (fun o f i wr => CutRel p w r o f i wr) (fun _ _ i _ => p.size - (intOf i).toNat)
  case atStart => exact ⟨0, 0, [], r, Nat.zero_le _, Nat.le_refl _, Nat.le_refl _, rfl, rfl, ownt_nil _ _, by simpa using HR.out, by cases r <;> rfl, Below.refl _ _⟩
  case round =>
    obtain ⟨k, j, us, r', hk, hjk, hus, rfl, rfl, ho, hres, hrr, hbr⟩ := hrel
    have hsz := hbr.size
    obtain ⟨P, cc, rfl, _, _, _⟩ := ownt_slice ho
    have HBr := Lib.hid hbr
    have HO := Lib.hid ho
    clear hbr ho
    by_cases hlt : k < p.size
    · have hd := drop_byte p hlt
      by_cases hb : p[k] = 124
      · have t1 : ((p[k].toNat : Int) == 124) = true := test_yes 124 (by omega) hb
        rw [hd, hb] at hres
        obtain ⟨r2, hr2, hres2⟩ := res_bar hres
        have HS := Lib.hid (show strL (p.extract j k) = ((strL p).drop j).take (k - j) from ext_txt p j k hk)
        have HRR := Lib.hid (show r = r2.map ((us ++ [((strL p).drop j).take (k - j)]) ++ ·) by rw [hrr, hr2]; cases r2 <;> simp)
        have HRES := Lib.hid (show Res (((strL p).drop (k + 1)).take (k + 1 - (k + 1))) ((strL p).drop (k + 1)) r2 by rw [Nat.sub_self]; exact hres2)
        have HN := Lib.hid (show (us.length + 1) * 16 ≤ 140737488355328 by omega)
        generalize ((strL p).drop j).take (k - j) = u at *
        have i1 : (j : Int) ≤ (k : Int) := by omega
        have i2 : (k : Int) ≤ (p.size : Int) := by omega
        have HL := Lib.hid (show (us ++ [u]).length ≤ k + 1 by simp; omega)
        clear hd hb hres hr2 hres2 hrr
        go_wp2_with (at_builtin; refine app_strs rfl (.tmp 16) (.tmp 21) rfl w.heap.size _ us rfl (ownt_below HO.out (below_one _ _)) _ [u] 1 rfl (str_cell (Row.new _ _ _) HS.out) HN.out (Nat.le_trans hsz (by simp)) ?_; intro v1 w1 hown1 hb1 _; have HO1 := Lib.hid hown1; have HB1 := Lib.hid ((HBr.out.alloc hsz _).trans hb1); clear hown1 hb1)
        exact ⟨⟨k + 1, k + 1, us ++ [u], r2, by omega, Nat.le_refl _, HL.out, by go_num, by go_num, HO1.out, HRES.out, HRR.out, HB1.out⟩, by simp [intOf]; omega⟩
      · have t1 : ((p[k].toNat : Int) == 124) = false := test_no 124 (by omega) hb
        have hah : aheadM [124] ((strL p).drop k) = false := by rw [hd]; simp only [aheadM, List.contains_cons, List.contains_nil, Bool.or_false, beq_eq_false_iff_ne]; exact hb
        rcases atom_or ((strL p).drop k) with hno | ⟨z, hz⟩
        · have hrn := res_bad hno (by rw [hd]; simp) hah hres
          have HRN := Lib.hid (show r = none by rw [hrr, hrn]; rfl)
          have HC := Lib.hid (fun W => HA.out k 0 W hk (.inr ⟨hno, rfl⟩))
          clear hd hb hres hrr hah hno hrn
          go_wp2_with (go_at_call 66; refine (HC.out _).mono ?_; rintro e w2 ⟨rfl, hb2⟩; have HB2 := Lib.hid (HBr.out.trans (hb2.mono HBr.out.size)); clear hb2)
          go_ret2
          rw [HRN.out]
          exact ⟨rfl, HB2.out⟩
        · obtain ⟨v, hv, _⟩ := atomP_cut hz
          obtain ⟨v2, hv2, hres2⟩ := res_one hz hres
          have hzl := atomP_len hz
          have hzd : (strL p) = ((strL p).take k ++ v) ++ z := by rw [List.append_assoc, ← hv, List.take_append_drop]
          have hzs := suffix_drop hzd
          rw [strL_length] at hzs
          rw [drop_len] at hzl
          obtain ⟨m, hm⟩ : ∃ m : Nat, p.size - z.length = m := ⟨_, rfl⟩
          rw [hm] at hzs
          have hzle : z.length ≤ p.size := by omega
          have hkm : k < m ∧ m ≤ p.size := by omega
          have HC := Lib.hid (fun W => HA.out k (m : Int) W hk (.inl ⟨z, hz, by omega⟩))
          have z0 : ((m : Int) == 0) = false := by rw [beq_eq_false_iff_ne]; omega
          rw [hzs] at hv2 hres2
          rw [mark_is] at hv2 hres2
          by_cases hmk : MarkP ((strL p).drop m) = true
          · rw [if_pos hmk] at hv2 hres2
            have hms : m < p.size := by
              rcases Nat.lt_or_ge m p.size with h | h
              · exact h
              · rw [mark_end p h] at hmk; cases hmk
            rw [take_more (strL p) v2 [] j k (m + 1) hjk (by omega) (by rw [strL_length]; omega) hv2] at hres2
            rw [mark_at p hms] at hmk
            have HRES := Lib.hid hres2
            have HRR := Lib.hid hrr
            have q1 := byte_eq p[m] 42 (by omega)
            have q2 := byte_eq p[m] 43 (by omega)
            have q3 := byte_eq p[m] 63 (by omega)
            clear hd hb hres hrr hah hv hv2 hzl hzd hzs hz hres2 hm
            cases h1 : decide (p[m] = UInt8.ofNat 42)
            · cases h2 : decide (p[m] = UInt8.ofNat 43)
              · cases h3 : decide (p[m] = UInt8.ofNat 63)
                · rw [h1, h2, h3] at hmk; cases hmk
                · have s1 : ((p[m].toNat : Int) == 42) = false := q1.trans h1
                  have s2 : ((p[m].toNat : Int) == 43) = false := q2.trans h2
                  have s3 : ((p[m].toNat : Int) == 63) = true := q3.trans h3
                  clear q1 q2 q3 h1 h2 h3 hmk
                  go_wp2_with (go_at_call 66; refine (HC.out _).mono ?_; rintro e w2 ⟨rfl, hb2⟩; have HB2 := Lib.hid (HBr.out.trans (hb2.mono HBr.out.size)); have HO2 := Lib.hid (ownt_below HO.out hb2); clear hb2)
                  exact ⟨⟨m + 1, j, us, r', by omega, by omega, by omega, by go_num, rfl, HO2.out, HRES.out, HRR.out, HB2.out⟩, by simp [intOf]; omega⟩
              · have s1 : ((p[m].toNat : Int) == 42) = false := q1.trans h1
                have s2 : ((p[m].toNat : Int) == 43) = true := q2.trans h2
                clear q1 q2 q3 h1 h2 hmk
                go_wp2_with (go_at_call 66; refine (HC.out _).mono ?_; rintro e w2 ⟨rfl, hb2⟩; have HB2 := Lib.hid (HBr.out.trans (hb2.mono HBr.out.size)); have HO2 := Lib.hid (ownt_below HO.out hb2); clear hb2)
                exact ⟨⟨m + 1, j, us, r', by omega, by omega, by omega, by go_num, rfl, HO2.out, HRES.out, HRR.out, HB2.out⟩, by simp [intOf]; omega⟩
            · have s1 : ((p[m].toNat : Int) == 42) = true := q1.trans h1
              clear q1 q2 q3 h1 hmk
              go_wp2_with (go_at_call 66; refine (HC.out _).mono ?_; rintro e w2 ⟨rfl, hb2⟩; have HB2 := Lib.hid (HBr.out.trans (hb2.mono HBr.out.size)); have HO2 := Lib.hid (ownt_below HO.out hb2); clear hb2)
              exact ⟨⟨m + 1, j, us, r', by omega, by omega, by omega, by go_num, rfl, HO2.out, HRES.out, HRR.out, HB2.out⟩, by simp [intOf]; omega⟩
          · rw [if_neg hmk] at hv2 hres2
            rw [take_more (strL p) v2 [] j k m hjk (by omega) (by rw [strL_length]; omega) hv2] at hres2
            have HRES := Lib.hid hres2
            have HRR := Lib.hid hrr
            have hmk' := Bool.eq_false_iff.2 hmk
            clear hd hb hres hrr hah hv hv2 hzl hzd hzs hz hres2 hm hmk
            by_cases hms : m < p.size
            · rw [mark_at p hms, Bool.or_eq_false_iff, Bool.or_eq_false_iff] at hmk'
              have s1 : ((p[m].toNat : Int) == 42) = false := (byte_eq p[m] 42 (by omega)).trans hmk'.1
              have s2 : ((p[m].toNat : Int) == 43) = false := (byte_eq p[m] 43 (by omega)).trans hmk'.2.1
              have s3 : ((p[m].toNat : Int) == 63) = false := (byte_eq p[m] 63 (by omega)).trans hmk'.2.2
              clear hmk'
              go_wp2_with (go_at_call 66; refine (HC.out _).mono ?_; rintro e w2 ⟨rfl, hb2⟩; have HB2 := Lib.hid (HBr.out.trans (hb2.mono HBr.out.size)); have HO2 := Lib.hid (ownt_below HO.out hb2); clear hb2)
              exact ⟨⟨m, j, us, r', by omega, by omega, by omega, rfl, rfl, HO2.out, HRES.out, HRR.out, HB2.out⟩, by simp [intOf]; omega⟩
            · clear hmk'
              go_wp2_with (go_at_call 66; refine (HC.out _).mono ?_; rintro e w2 ⟨rfl, hb2⟩; have HB2 := Lib.hid (HBr.out.trans (hb2.mono HBr.out.size)); have HO2 := Lib.hid (ownt_below HO.out hb2); clear hb2)
              exact ⟨⟨m, j, us, r', by omega, by omega, by omega, rfl, rfl, HO2.out, HRES.out, HRR.out, HB2.out⟩, by simp [intOf]; omega⟩
    · obtain rfl : k = p.size := by omega
      rw [drop_end p (Nat.le_refl _)] at hres
      have hrn := res_nil hres
      have HS := Lib.hid (show strL (p.extract j p.size) = ((strL p).drop j).take (p.size - j) from ext_txt p j _ (Nat.le_refl _))
      have HRR := Lib.hid (show r = some (us ++ [((strL p).drop j).take (p.size - j)]) by rw [hrr, hrn]; rfl)
      generalize ((strL p).drop j).take (p.size - j) = u at *
      have HN := Lib.hid (show (us.length + 1) * 16 ≤ 140737488355328 by omega)
      have i1 : (j : Int) ≤ (p.size : Int) := by omega
      clear hres hrn hrr
      go_wp2_with (at_builtin; refine app_strs rfl (.tmp 56) (.tmp 60) rfl w.heap.size _ us rfl (ownt_below HO.out (below_one _ _)) _ [u] 1 rfl (str_cell (Row.new _ _ _) HS.out) HN.out (Nat.le_trans hsz (by simp)) ?_; intro v1 w1 hown1 hb1 _; have HO1 := Lib.hid hown1; have HB1 := Lib.hid ((HBr.out.alloc hsz _).trans hb1); clear hown1 hb1)
      go_ret2
      rw [HRR.out]
      exact ⟨v1, rfl, HO1.out, HB1.out⟩
theorem right_ref (p : ByteArray) (hp : p.size ≤ 1000) (ha : AtomAt p) : RightAt p := by
  intro b w hb
  obtain ⟨r, hr⟩ := res_all _ (strL p) [] (Nat.le_refl _)
  have hq := res_right hr
  have HC := Lib.hid (cut_ref p hp ha r hr w)
  cases r with
  | none =>
    have hbf : b = false := by rw [Bool.eq_false_iff, Ne, hb, hq]; simp
    subst hbf
    have HC' := Lib.hid (show Calls Try.prog 52 #[.string p] w fun e w' => e = .returned (.tuple #[.slice none 0 0, .bool false]) ∧ Below w.heap.size w w' from HC.out)
    clear HC hb hq hr ha
    go_enter Try.func36, Try.ntmps36
    go_wp2_with (go_at_call 52; refine HC'.out.mono ?_; rintro e w2 ⟨rfl, hb2⟩; have HB2 := Lib.hid hb2; clear hb2)
    go_ret
    exact ⟨rfl, HB2.out⟩
  | some us =>
    have hbt : b = true := hb.2 (hq.2 rfl)
    subst hbt
    have HC' := Lib.hid (show Calls Try.prog 52 #[.string p] w (fun e w' => ∃ P c, e = .returned (.tuple #[.slice P us.length c, .bool true]) ∧ Below w.heap.size w w') from HC.out.mono fun e w' h => by
      obtain ⟨v, h1, h2, h3⟩ := h
      obtain ⟨P, c, h4, _⟩ := ownt_slice h2
      exact ⟨P, c, by rw [h1, h4], h3⟩)
    clear HC hb hq hr ha
    go_enter Try.func36, Try.ntmps36
    go_wp2_with (go_at_call 52; refine HC'.out.mono ?_; rintro e w2 ⟨P, c, rfl, hb2⟩; have HB2 := Lib.hid hb2; clear hb2)
    go_ret
    exact ⟨rfl, HB2.out⟩
theorem atom_all : ∀ (m : Nat) (p : ByteArray), p.size ≤ m → p.size ≤ 1000 → AtomAt p := by
  intro m
  induction m with
  | zero => intro p h h2; exact atom_ref p h2 fun q hq => by omega
  | succ m ih => intro p h h2; exact atom_ref p h2 fun q hq => right_ref q (by omega) (ih q (by omega) (by omega))
theorem right_all (p : ByteArray) (h : p.size ≤ 1000) : RightAt p := right_ref p h (atom_all _ p (Nat.le_refl _) h)
end Go.Proofs.Ytjljfilflajogaa
