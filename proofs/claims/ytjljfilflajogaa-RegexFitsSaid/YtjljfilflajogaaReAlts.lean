/- The document's own answer for patterns: where an alternative, and a pattern, may end. -/
import Derived.Test.YtjljfilflajogaaRePiece
namespace Go.Proofs.Ytjljfilflajogaa
open Go.RowKit Go.Maps
set_option linter.unusedVariables false

def AltAt (s p : ByteArray) : Prop := ∀ (rs : List Re), AltT (strL p) rs → ∀ (A : Option Addr) (l : List Nat) (c : Nat) (w : World), Pls w A l → l.length ≤ c → Rise l → (∀ x ∈ l, x ≤ s.size) → Calls Try.prog 56 #[.string p, .string s, .slice A l.length c] w (PlsTold w (IsEnds (LRow rs) (strL s) l))
def AlRel (w : World) (s p : ByteArray) (rs : List Re) (l : List Nat) (v i : Value) (wr : World) : Prop := ∃ (k : Nat) (rs' : List Re) (A : Option Addr) (l' : List Nat) (c : Nat), k ≤ p.size ∧ i = .int .i64 (k : Int) ∧ v = .slice A l'.length c ∧ l'.length ≤ c ∧ Pls wr A l' ∧ Rise l' ∧ (∀ x ∈ l', x ≤ s.size) ∧ AltT ((strL p).drop k) rs' ∧ (∀ out, IsEnds (LRow rs') (strL s) l' out → IsEnds (LRow rs) (strL s) l out) ∧ Below w.heap.size w wr
def markB (z : List UInt8) : UInt8 := if MarkP z then z.headD 0 else 0
theorem mark_fr (z : List UInt8) (r : Re) : markR z r = markF (markB z) r := by
  unfold markR markF markB MarkP
  cases z with
  | nil => rfl
  | cons c t =>
    simp only [aheadM, List.contains_cons, List.contains_nil, Bool.or_false, beq_iff_eq, List.headD_cons]
    by_cases h1 : c = 42
    · subst h1; rfl
    · by_cases h2 : c = 43
      · subst h2; rfl
      · by_cases h3 : c = 63
        · subst h3; rfl
        · rw [if_neg h1, if_neg h2, if_neg h3]
          have : ((c == 42) || (c == 43) || (c == 63)) = false := by simp [h1, h2, h3]
          rw [this]
          rfl
set_option maxRecDepth 100000 in
set_option maxHeartbeats 4000000 in
theorem alternative_ref (s p : ByteArray) (hs : s.size ≤ 1000) (hp : p.size ≤ 1000) (hq : ∀ q : ByteArray, q.size ≤ p.size → PieceAt s q) : AltAt s p := by
  intro rs hr A l c w hA hc hl hx
  have HAT := Lib.hid (atom_all _ p (Nat.le_refl _) hp)
  have HPC := Lib.hid hq
  have HSL := Lib.hid (strL_length s)
  have HA := Lib.hid hA
  have HR := Lib.hid (show AltT ((strL p).drop 0) rs from hr)
  have HL := Lib.hid hl
  have HX := Lib.hid hx
  clear hq hA hr hl hx
  go_enter Try.func56, Try.ntmps56
  go_wp2_with fail
  go_loopw [2, 7] (fun v i wr => AlRel w s p rs l v i wr) (fun _ i _ => p.size - (intOf i).toNat)
  case atStart => exact ⟨0, rs, A, l, c, Nat.zero_le _, rfl, rfl, hc, HA.out, HL.out, HX.out, HR.out, fun _ h => h, Below.refl _ _⟩
  case round =>
    obtain ⟨k, rs', A1, l1, c1, hk, rfl, rfl, hc1, hP1, hr1, hx1, hat, hgo, hbr⟩ := hrel
    have HBr := Lib.hid hbr
    have HP1 := Lib.hid hP1
    by_cases hlt : k < p.size
    · have hd := drop_byte p hlt
      obtain ⟨a, r, z, rs2, hxa, hane, hT, hz, hnext, hrs⟩ := alt_open hat (by rw [hd]; simp)
      have hzl := atomP_len hz
      have hzd : (strL p) = ((strL p).take k ++ a) ++ z := by rw [List.append_assoc, ← hxa, List.take_append_drop]
      have hzs := suffix_drop hzd
      rw [strL_length] at hzs
      rw [drop_len] at hzl
      obtain ⟨m, hm⟩ : ∃ m : Nat, p.size - z.length = m := ⟨_, rfl⟩
      rw [hm] at hzs
      have hzle : z.length ≤ p.size := by omega
      have hkm : k < m ∧ m ≤ p.size := by omega
      have HC := Lib.hid (fun W => HAT.out k (m : Int) W hk (.inl ⟨z, hz, by omega⟩))
      have hal : a.length + z.length = p.size - k := by rw [← drop_len p k, hxa, List.length_append]
      have hta : strL (p.extract k m) = a := by rw [ext_txt p _ _ hkm.2, hxa, show m - k = a.length by omega, List.take_left]
      have hsz : (p.extract k m).size ≤ p.size := by rw [← strL_length, hta]; omega
      rw [mark_fr] at hrs
      have HG := Lib.hid (fun (W : World) (hb : Below wr.heap.size wr W) => HPC.out _ hsz r (by rw [hta]; exact hT) (markB z) A1 l1 c1 W (HP1.out.below hb) hc1 hr1 hx1)
      have HGO := Lib.hid (fun (l2 out : List Nat) (h1 : IsEnds (L (markF (markB z) r)) (strL s) l1 l2) (h2 : IsEnds (LRow rs2) (strL s) l2 out) => hgo out (by rw [hrs]; exact ends_row h1 h2))
      rw [hzs, mark_is] at hnext
      rw [hzs] at HG HGO
      have i1 : (k : Int) ≤ (m : Int) := by omega
      have i2 : (m : Int) ≤ (p.size : Int) := by omega
      by_cases hmk : MarkP ((strL p).drop m) = true
      · rw [if_pos hmk] at hnext
        have hms : m < p.size := by
          rcases Nat.lt_or_ge m p.size with h | h
          · exact h
          · rw [mark_end p h] at hmk; cases hmk
        have hmb : markB ((strL p).drop m) = p[m] := by unfold markB; rw [if_pos hmk, drop_byte p hms]; rfl
        rw [hmb] at HG HGO
        rw [mark_at p hms] at hmk
        have HN := Lib.hid hnext
        have q1 := byte_eq p[m] 42 (by omega)
        have q2 := byte_eq p[m] 43 (by omega)
        have q3 := byte_eq p[m] 63 (by omega)
        have z0 : ((p[m].toNat : Int) == 0) = false := by
          have := byte_eq p[m] 0 (by omega)
          refine this.trans (decide_eq_false fun e => ?_)
          rw [e] at hmk
          exact absurd hmk (by decide)
        have z1 : ((p[m].toNat : Int) != 0) = true := by rw [bne, z0]; rfl
        clear hd hat hgo hbr hP1 hr1 hx1 hxa hane hT hz hnext hrs hzl hzd hzs hm hal hta hsz hmb
        cases h1 : decide (p[m] = UInt8.ofNat 42)
        · cases h2 : decide (p[m] = UInt8.ofNat 43)
          · cases h3 : decide (p[m] = UInt8.ofNat 63)
            · rw [h1, h2, h3] at hmk; cases hmk
            · have s1 : ((p[m].toNat : Int) == 42) = false := q1.trans h1
              have s2 : ((p[m].toNat : Int) == 43) = false := q2.trans h2
              have s3 : ((p[m].toNat : Int) == 63) = true := q3.trans h3
              clear q1 q2 q3 h1 h2 h3 hmk
              go_wp2_with (first
                | (go_at_call 66; refine (HC.out _).mono ?_; rintro e w2 ⟨rfl, hb2⟩; have HB2 := Lib.hid (HBr.out.trans (hb2.mono HBr.out.size)); have HG2 := Lib.hid (HG.out _ hb2); clear hb2)
                | (go_at_call 69; refine HG2.out.mono ?_; rintro e w3 ⟨A3, l3, c3, rfl, hc3, hP3, hE3, hb3⟩; have HB3 := Lib.hid (HB2.out.trans (hb3.mono HB2.out.size)); have HP3 := Lib.hid hP3; have HE3 := Lib.hid hE3; have HL3 := Lib.hid (show ∀ x ∈ l3, x ≤ s.size by rw [← HSL.out]; exact hE3.le); clear hP3 hE3 hb3))
              exact ⟨⟨m + 1, rs2, A3, l3, c3, by omega, by go_num, rfl, hc3, HP3.out, HE3.out.1, HL3.out, HN.out, fun out h => HGO.out _ _ HE3.out h, HB3.out⟩, by simp [intOf]; omega⟩
          · have s1 : ((p[m].toNat : Int) == 42) = false := q1.trans h1
            have s2 : ((p[m].toNat : Int) == 43) = true := q2.trans h2
            clear q1 q2 q3 h1 h2 hmk
            go_wp2_with (first
              | (go_at_call 66; refine (HC.out _).mono ?_; rintro e w2 ⟨rfl, hb2⟩; have HB2 := Lib.hid (HBr.out.trans (hb2.mono HBr.out.size)); have HG2 := Lib.hid (HG.out _ hb2); clear hb2)
              | (go_at_call 69; refine HG2.out.mono ?_; rintro e w3 ⟨A3, l3, c3, rfl, hc3, hP3, hE3, hb3⟩; have HB3 := Lib.hid (HB2.out.trans (hb3.mono HB2.out.size)); have HP3 := Lib.hid hP3; have HE3 := Lib.hid hE3; have HL3 := Lib.hid (show ∀ x ∈ l3, x ≤ s.size by rw [← HSL.out]; exact hE3.le); clear hP3 hE3 hb3))
            exact ⟨⟨m + 1, rs2, A3, l3, c3, by omega, by go_num, rfl, hc3, HP3.out, HE3.out.1, HL3.out, HN.out, fun out h => HGO.out _ _ HE3.out h, HB3.out⟩, by simp [intOf]; omega⟩
        · have s1 : ((p[m].toNat : Int) == 42) = true := q1.trans h1
          clear q1 q2 q3 h1 hmk
          go_wp2_with (first
            | (go_at_call 66; refine (HC.out _).mono ?_; rintro e w2 ⟨rfl, hb2⟩; have HB2 := Lib.hid (HBr.out.trans (hb2.mono HBr.out.size)); have HG2 := Lib.hid (HG.out _ hb2); clear hb2)
            | (go_at_call 69; refine HG2.out.mono ?_; rintro e w3 ⟨A3, l3, c3, rfl, hc3, hP3, hE3, hb3⟩; have HB3 := Lib.hid (HB2.out.trans (hb3.mono HB2.out.size)); have HP3 := Lib.hid hP3; have HE3 := Lib.hid hE3; have HL3 := Lib.hid (show ∀ x ∈ l3, x ≤ s.size by rw [← HSL.out]; exact hE3.le); clear hP3 hE3 hb3))
          exact ⟨⟨m + 1, rs2, A3, l3, c3, by omega, by go_num, rfl, hc3, HP3.out, HE3.out.1, HL3.out, HN.out, fun out h => HGO.out _ _ HE3.out h, HB3.out⟩, by simp [intOf]; omega⟩
      · rw [if_neg hmk] at hnext
        have hmb : markB ((strL p).drop m) = 0 := by unfold markB; rw [if_neg hmk]
        rw [hmb] at HG HGO
        have HG' := Lib.hid (fun (W : World) (hb : Below wr.heap.size wr W) => show Calls Try.prog 69 #[.string (p.extract k m), .int .u8 0, .string s, .slice A1 l1.length c1] W (PlsTold W (IsEnds (L (markF 0 r)) (strL s) l1)) from HG.out W hb)
        have HN := Lib.hid hnext
        have hmk' := Bool.eq_false_iff.2 hmk
        clear hd hat hgo hbr hP1 hr1 hx1 hxa hane hT hz hnext hrs hzl hzd hzs hm hal hta hsz hmb hmk HG
        by_cases hms : m < p.size
        · rw [mark_at p hms, Bool.or_eq_false_iff, Bool.or_eq_false_iff] at hmk'
          have s1 : ((p[m].toNat : Int) == 42) = false := (byte_eq p[m] 42 (by omega)).trans hmk'.1
          have s2 : ((p[m].toNat : Int) == 43) = false := (byte_eq p[m] 43 (by omega)).trans hmk'.2.1
          have s3 : ((p[m].toNat : Int) == 63) = false := (byte_eq p[m] 63 (by omega)).trans hmk'.2.2
          clear hmk'
          go_wp2_with (first
            | (go_at_call 66; refine (HC.out _).mono ?_; rintro e w2 ⟨rfl, hb2⟩; have HB2 := Lib.hid (HBr.out.trans (hb2.mono HBr.out.size)); have HG2 := Lib.hid (HG'.out _ hb2); clear hb2)
            | (go_at_call 69; refine HG2.out.mono ?_; rintro e w3 ⟨A3, l3, c3, rfl, hc3, hP3, hE3, hb3⟩; have HB3 := Lib.hid (HB2.out.trans (hb3.mono HB2.out.size)); have HP3 := Lib.hid hP3; have HE3 := Lib.hid hE3; have HL3 := Lib.hid (show ∀ x ∈ l3, x ≤ s.size by rw [← HSL.out]; exact hE3.le); clear hP3 hE3 hb3))
          exact ⟨⟨m, rs2, A3, l3, c3, by omega, rfl, rfl, hc3, HP3.out, HE3.out.1, HL3.out, HN.out, fun out h => HGO.out _ _ HE3.out h, HB3.out⟩, by simp [intOf]; omega⟩
        · clear hmk'
          go_wp2_with (first
            | (go_at_call 66; refine (HC.out _).mono ?_; rintro e w2 ⟨rfl, hb2⟩; have HB2 := Lib.hid (HBr.out.trans (hb2.mono HBr.out.size)); have HG2 := Lib.hid (HG'.out _ hb2); clear hb2)
            | (go_at_call 69; refine HG2.out.mono ?_; rintro e w3 ⟨A3, l3, c3, rfl, hc3, hP3, hE3, hb3⟩; have HB3 := Lib.hid (HB2.out.trans (hb3.mono HB2.out.size)); have HP3 := Lib.hid hP3; have HE3 := Lib.hid hE3; have HL3 := Lib.hid (show ∀ x ∈ l3, x ≤ s.size by rw [← HSL.out]; exact hE3.le); clear hP3 hE3 hb3))
          exact ⟨⟨m, rs2, A3, l3, c3, by omega, rfl, rfl, hc3, HP3.out, HE3.out.1, HL3.out, HN.out, fun out h => HGO.out _ _ HE3.out h, HB3.out⟩, by simp [intOf]; omega⟩
    · obtain rfl : k = p.size := by omega
      rw [drop_end p (Nat.le_refl _)] at hat
      have hrn := alt_void hat
      have HEN := Lib.hid (hgo l1 (by rw [hrn]; exact (ends_nil hr1 (by rw [HSL.out]; exact hx1)).congr fun w => by simp only [LRow]))
      clear hat hgo hbr hP1 hr1 hx1 hrn
      go_wp2_with fail
      go_ret
      exact ⟨A1, l1, c1, rfl, hc1, HP1.out, HEN.out, HBr.out⟩
end Go.Proofs.Ytjljfilflajogaa
