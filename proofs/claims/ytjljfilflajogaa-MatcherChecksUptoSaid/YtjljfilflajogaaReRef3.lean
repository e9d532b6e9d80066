/- The document's own answer for patterns: where a group ends; how deep groups nest. -/
import Derived.Test.YtjljfilflajogaaReRef2
import Derived.Lib.MinMax
namespace Go.Proofs.Ytjljfilflajogaa
open Go.RowKit
set_option linter.unusedVariables false

theorem scan_inv {o : Nat} {c : UInt8} {t : List UInt8} {q : Option (List UInt8)} (h : Scan o (c :: t) q) : (c = 92 ∧ Scan o t.tail q) ∨ (c = 91 ∧ ∃ ss y, clsV t = some (ss, y) ∧ Scan o y q) ∨ (c = 91 ∧ clsV t = none ∧ q = none) ∨ (c = 40 ∧ Scan (o + 1) t q) ∨ (c = 41 ∧ o = 1 ∧ q = some (41 :: t)) ∨ (c = 41 ∧ ∃ k, o = k + 2 ∧ Scan (k + 1) t q) ∨ (c ≠ 92 ∧ c ≠ 91 ∧ c ≠ 40 ∧ c ≠ 41 ∧ Scan o t q) := by
  cases h with
  | esc _ _ _ h => exact .inl ⟨rfl, h⟩
  | cls _ n _ y r _ hc h =>
    obtain ⟨ss, h1, _⟩ := class_of hc
    exact .inr (.inl ⟨rfl, ss, y, h1, h⟩)
  | ncl _ _ h =>
    refine .inr (.inr (.inl ⟨rfl, ?_, rfl⟩))
    cases hc : clsV t with
    | none => rfl
    | some r =>
      have := class_is (ss := r.1) (y := r.2) hc
      rw [h] at this
      cases this
  | opn _ _ _ h => exact .inr (.inr (.inr (.inl ⟨rfl, h⟩)))
  | stop _ => exact .inr (.inr (.inr (.inr (.inl ⟨rfl, rfl, rfl⟩))))
  | cl k _ _ h => exact .inr (.inr (.inr (.inr (.inr (.inl ⟨rfl, k, rfl, h⟩)))))
  | oth _ _ _ _ a b c d h => exact .inr (.inr (.inr (.inr (.inr (.inr ⟨a, b, c, d, h⟩)))))
theorem scan_nil {o : Nat} {q : Option (List UInt8)} (h : Scan o [] q) : q = none := by cases h; rfl
theorem suffix_drop {L a y : List UInt8} (h : L = a ++ y) : y = L.drop (L.length - y.length) := by
  rw [h, List.length_append, Nat.add_sub_cancel, List.drop_left]
/-- What a class leaves stands at a place of the text. -/
theorem cls_rest {p : ByteArray} {j : Nat} {ss : List (UInt8 × UInt8)} {y : List UInt8} (hj : j ≤ p.size) (h : clsV ((strL p).drop j) = some (ss, y)) : ∃ m : Nat, clsE p.size ((strL p).drop j) = (m : Int) ∧ y = (strL p).drop m ∧ j ≤ m ∧ m ≤ p.size := by
  obtain ⟨u, hu, _⟩ := class_cut (class_is h)
  have hl := drop_len p j
  have hy : y.length ≤ p.size - j := by rw [← hl, hu, List.length_append]; omega
  refine ⟨p.size - y.length, ?_, ?_, by omega, by omega⟩
  · rw [(cls_some (c := 0) h).1]; omega
  · have : strL p = ((strL p).take j ++ u) ++ y := by rw [List.append_assoc, ← hu, List.take_append_drop]
    have := suffix_drop this
    rw [strL_length] at this
    exact this
def closV (N : Nat) (q : Option (List UInt8)) : Int := match q with | none => -1 | some y => (N : Int) - (y.length : Int)
theorem ret_i {a b : Int} (h : a = b) : Ending.returned (.int .i64 a) = .returned (.int .i64 b) := by rw [h]
/-- The tests of a byte that is k, or is not. -/
theorem test_yes {c : UInt8} (k : Nat) (hk : k < 256) (h : c = UInt8.ofNat k) : ((c.toNat : Int) == (k : Int)) = true := (byte_is hk (decide_eq_true h)).1
theorem test_no {c : UInt8} (k : Nat) (hk : k < 256) (h : c ≠ UInt8.ofNat k) : ((c.toNat : Int) == (k : Int)) = false := (byte_is hk (decide_eq_false h)).1
def CloRel (p : ByteArray) (w : World) (q : Option (List UInt8)) (o i : Value) (wr : World) : Prop :=
  ∃ k n : Nat, k ≤ p.size + 1 ∧ i = .int .i64 (k : Int) ∧ o = .int .i64 (n : Int) ∧ n ≤ k ∧ Scan n ((strL p).drop k) q ∧ Below w.heap.size w wr
set_option maxRecDepth 100000 in
set_option maxHeartbeats 4000000 in
theorem closing_ref (p : ByteArray) (j : Nat) (hp : p.size ≤ 1000) (hj : j < p.size) (h40 : p[j] = 40) (q : Option (List UInt8)) (hs : Scan 1 ((strL p).drop (j + 1)) q) (w : World) :
    Calls Try.prog 78 #[.string p, .int .i64 (j : Int)] w fun e w' => e = .returned (.int .i64 (closV p.size q)) ∧ Below w.heap.size w w' := by
  have HS := Lib.hid (show Scan 0 ((strL p).drop j) q by rw [drop_byte p hj, h40]; exact .opn _ _ _ hs)
  have HC := Lib.hid (fun (k : Nat) (hk : k < p.size) W => class_ref p k hp hk 0 W)
  clear hs h40
  go_enter Try.func78, Try.ntmps78
  go_wp2_with fail
  go_loopw [5, 6] (fun o i wr => CloRel p w q o i wr) (fun _ i _ => p.size + 1 - (intOf i).toNat)
  case atStart => exact ⟨j, 0, by omega, rfl, rfl, Nat.zero_le _, HS.out, Below.refl _ _⟩
  case round =>
    obtain ⟨k, n, hk, rfl, rfl, hn, hsc, hbr⟩ := hrel
    have HBr := Lib.hid hbr
    clear hbr
    by_cases hlt : k < p.size
    · rw [drop_byte p hlt] at hsc
      rcases scan_inv hsc with ⟨hc, h⟩ | ⟨hc, ss, y, hv, h⟩ | ⟨hc, hv, h⟩ | ⟨hc, h⟩ | ⟨hc, h1, h⟩ | ⟨hc, m, h1, h⟩ | ⟨h1, h2, h3, h4, h⟩
      · have t1 : ((p[k].toNat : Int) == 92) = true := test_yes 92 (by omega) hc
        have H := Lib.hid (show Scan n ((strL p).drop (k + 2)) q by rw [List.tail_drop] at h; exact h)
        clear hsc hc h
        go_wp2_with fail
        exact ⟨⟨k + 2, n, by omega, by go_num, rfl, by omega, H.out, HBr.out⟩, by simp [intOf]; omega⟩
      · have t1 : ((p[k].toNat : Int) == 92) = false := test_no 92 (by omega) (show p[k] ≠ UInt8.ofNat 92 by rw [hc]; decide)
        have t2 : ((p[k].toNat : Int) == 91) = true := test_yes 91 (by omega) hc
        obtain ⟨m, hm1, rfl, hm2, hm3⟩ := cls_rest (by omega) hv
        have HC1 := Lib.hid (fun W => HC.out k hlt W)
        rw [hm1] at HC1
        have z0 : ((m : Int) == 0) = false := by rw [beq_eq_false_iff_ne]; omega
        have H := Lib.hid h
        generalize clsH ((strL p).drop (k + 1)) 0 = hb at HC1
        clear hsc hc h hv hm1
        go_wp2_with (go_at_call 53; refine (HC1.out _).mono ?_; rintro e w2 ⟨rfl, hb2⟩; have HB2 := Lib.hid (HBr.out.trans (hb2.mono HBr.out.size)); clear hb2)
        go_roundw
        case rel => exact ⟨m, n, by omega, by go_num, rfl, by omega, H.out, HB2.out⟩
        case measure => simp [intOf]; omega
      · have t1 : ((p[k].toNat : Int) == 92) = false := test_no 92 (by omega) (show p[k] ≠ UInt8.ofNat 92 by rw [hc]; decide)
        have t2 : ((p[k].toNat : Int) == 91) = true := test_yes 91 (by omega) hc
        have HC1 := Lib.hid (fun W => HC.out k hlt W)
        rw [(cls_none (c := 0) hv).1] at HC1
        have HQ := Lib.hid (show (-1 : Int) = closV p.size q by rw [h]; rfl)
        generalize clsH ((strL p).drop (k + 1)) 0 = hb at HC1
        clear hsc hc h hv
        go_wp2_with (go_at_call 53; refine (HC1.out _).mono ?_; rintro e w2 ⟨rfl, hb2⟩; have HB2 := Lib.hid (HBr.out.trans (hb2.mono HBr.out.size)); clear hb2)
        go_ret
        exact ⟨ret_i HQ.out, HB2.out⟩
      · have t1 : ((p[k].toNat : Int) == 92) = false := test_no 92 (by omega) (show p[k] ≠ UInt8.ofNat 92 by rw [hc]; decide)
        have t2 : ((p[k].toNat : Int) == 91) = false := test_no 91 (by omega) (show p[k] ≠ UInt8.ofNat 91 by rw [hc]; decide)
        have t3 : ((p[k].toNat : Int) == 40) = true := test_yes 40 (by omega) hc
        have H := Lib.hid h
        clear hsc hc h
        go_wp2_with fail
        exact ⟨⟨k + 1, n + 1, by omega, by go_num, by go_num, by omega, H.out, HBr.out⟩, by simp [intOf]; omega⟩
      · have t1 : ((p[k].toNat : Int) == 92) = false := test_no 92 (by omega) (show p[k] ≠ UInt8.ofNat 92 by rw [hc]; decide)
        have t2 : ((p[k].toNat : Int) == 91) = false := test_no 91 (by omega) (show p[k] ≠ UInt8.ofNat 91 by rw [hc]; decide)
        have t3 : ((p[k].toNat : Int) == 40) = false := test_no 40 (by omega) (show p[k] ≠ UInt8.ofNat 40 by rw [hc]; decide)
        have t4 : ((p[k].toNat : Int) == 41) = true := test_yes 41 (by omega) hc
        subst h1
        have HQ := Lib.hid (show (k : Int) = closV p.size q by rw [h]; show _ = (p.size : Int) - _; rw [List.length_cons, drop_len]; omega)
        clear hsc hc h
        go_wp2_with fail
        go_ret
        exact ⟨ret_i HQ.out, HBr.out⟩
      · have t1 : ((p[k].toNat : Int) == 92) = false := test_no 92 (by omega) (show p[k] ≠ UInt8.ofNat 92 by rw [hc]; decide)
        have t2 : ((p[k].toNat : Int) == 91) = false := test_no 91 (by omega) (show p[k] ≠ UInt8.ofNat 91 by rw [hc]; decide)
        have t3 : ((p[k].toNat : Int) == 40) = false := test_no 40 (by omega) (show p[k] ≠ UInt8.ofNat 40 by rw [hc]; decide)
        have t4 : ((p[k].toNat : Int) == 41) = true := test_yes 41 (by omega) hc
        have z0 : ((n : Int) - 1 == 0) = false := by rw [beq_eq_false_iff_ne]; omega
        have z1 : ¬ (n : Int) - 1 = 0 := by omega
        have i1 : (1 : Int) ≤ (n : Int) := by omega
        have HN := Lib.hid (show (n : Int) - 1 = ((m + 1 : Nat) : Int) by omega)
        have HM := Lib.hid (show m + 1 ≤ k by omega)
        have H := Lib.hid h
        clear hsc hc h h1
        go_wp2_with fail
        exact ⟨⟨k + 1, m + 1, by omega, by go_num, by rw [HN.out], by have := HM.out; omega, H.out, HBr.out⟩, by simp [intOf]; omega⟩
      · have t1 : ((p[k].toNat : Int) == 92) = false := test_no 92 (by omega) h1
        have t2 : ((p[k].toNat : Int) == 91) = false := test_no 91 (by omega) h2
        have t3 : ((p[k].toNat : Int) == 40) = false := test_no 40 (by omega) h3
        have t4 : ((p[k].toNat : Int) == 41) = false := test_no 41 (by omega) h4
        have H := Lib.hid h
        clear hsc h h1 h2 h3 h4
        go_wp2_with fail
        exact ⟨⟨k + 1, n, by omega, by go_num, rfl, by omega, H.out, HBr.out⟩, by simp [intOf]; omega⟩
    · rw [drop_end p (by omega)] at hsc
      have HQ := Lib.hid (show (-1 : Int) = closV p.size q by rw [scan_nil hsc]; rfl)
      clear hsc
      go_wp2_with fail
      go_ret
      exact ⟨ret_i HQ.out, HBr.out⟩
theorem dep_inv {o m out : Nat} {c : UInt8} {t : List UInt8} (h : Dep o m (c :: t) out) : (c = 92 ∧ Dep o m t.tail out) ∨ (c = 91 ∧ ∃ ss y, clsV t = some (ss, y) ∧ Dep o m y out) ∨ (c = 40 ∧ Dep (o + 1) (max m (o + 1)) t out) ∨ (c = 41 ∧ ∃ k, o = k + 1 ∧ Dep k m t out) ∨ (c ≠ 92 ∧ c ≠ 91 ∧ c ≠ 40 ∧ c ≠ 41 ∧ Dep o m t out) := by
  cases h with
  | esc _ _ _ _ h => exact .inl ⟨rfl, h⟩
  | cls _ _ _ n _ y r hc h =>
    obtain ⟨ss, h1, _⟩ := class_of hc
    exact .inr (.inl ⟨rfl, ss, y, h1, h⟩)
  | opn _ _ _ _ h => exact .inr (.inr (.inl ⟨rfl, h⟩))
  | cl k _ _ _ h => exact .inr (.inr (.inr (.inl ⟨rfl, k, rfl, h⟩)))
  | oth _ _ _ _ _ a b c d h => exact .inr (.inr (.inr (.inr ⟨a, b, c, d, h⟩)))
theorem dep_nil {o m out : Nat} (h : Dep o m [] out) : out = m := by cases h; rfl
def DepRel (p : ByteArray) (w : World) (out : Nat) (o m i : Value) (wr : World) : Prop :=
  ∃ k n d : Nat, k ≤ p.size + 1 ∧ i = .int .i64 (k : Int) ∧ o = .int .i64 (n : Int) ∧ m = .int .i64 (d : Int) ∧ n ≤ k ∧ d ≤ k ∧ Dep n d ((strL p).drop k) out ∧ Below w.heap.size w wr
set_option maxRecDepth 100000 in
set_option maxHeartbeats 4000000 in
theorem depth_ref (p : ByteArray) (hp : p.size ≤ 1000) (out : Nat) (hs : Dep 0 0 (strL p) out) (w : World) :
    Calls Try.prog 37 #[.string p] w fun e w' => e = .returned (.int .i64 (out : Int)) ∧ Below w.heap.size w w' := by
  have HS := Lib.hid hs
  have HC := Lib.hid (fun (k : Nat) (hk : k < p.size) W => class_ref p k hp hk 0 W)
  clear hs
  go_enter Try.func37, Try.ntmps37
  go_wp2_with fail
  go_loopw [3, 4, 5] (fun o m i wr => DepRel p w out o m i wr) (fun _ _ i _ => p.size + 1 - (intOf i).toNat)
  case atStart => exact ⟨0, 0, 0, by omega, rfl, rfl, rfl, Nat.zero_le _, Nat.zero_le _, HS.out, Below.refl _ _⟩
  case round =>
    obtain ⟨k, n, d, hk, rfl, rfl, rfl, hn, hdk, hsc, hbr⟩ := hrel
    have HBr := Lib.hid hbr
    clear hbr
    by_cases hlt : k < p.size
    · rw [drop_byte p hlt] at hsc
      rcases dep_inv hsc with ⟨hc, h⟩ | ⟨hc, ss, y, hv, h⟩ | ⟨hc, h⟩ | ⟨hc, m, h1, h⟩ | ⟨h1, h2, h3, h4, h⟩
      · have t1 : ((p[k].toNat : Int) == 92) = true := test_yes 92 (by omega) hc
        have H := Lib.hid (show Dep n d ((strL p).drop (k + 2)) out by rw [List.tail_drop] at h; exact h)
        clear hsc hc h
        go_wp2_with fail
        exact ⟨⟨k + 2, n, d, by omega, by go_num, rfl, rfl, by omega, by omega, H.out, HBr.out⟩, by simp [intOf]; omega⟩
      · have t1 : ((p[k].toNat : Int) == 92) = false := test_no 92 (by omega) (show p[k] ≠ UInt8.ofNat 92 by rw [hc]; decide)
        have t2 : ((p[k].toNat : Int) == 91) = true := test_yes 91 (by omega) hc
        obtain ⟨m, hm1, rfl, hm2, hm3⟩ := cls_rest (by omega) hv
        have HC1 := Lib.hid (fun W => HC.out k hlt W)
        rw [hm1] at HC1
        have H := Lib.hid h
        generalize clsH ((strL p).drop (k + 1)) 0 = hb at HC1
        clear hsc hc h hv hm1
        go_wp2_with (go_at_call 53; refine (HC1.out _).mono ?_; rintro e w2 ⟨rfl, hb2⟩; have HB2 := Lib.hid (HBr.out.trans (hb2.mono HBr.out.size)); clear hb2)
        go_roundw
        case rel => exact ⟨m, n, d, by omega, by go_num, rfl, rfl, by omega, by omega, H.out, HB2.out⟩
        case measure => simp [intOf]; omega
      · have t1 : ((p[k].toNat : Int) == 92) = false := test_no 92 (by omega) (show p[k] ≠ UInt8.ofNat 92 by rw [hc]; decide)
        have t2 : ((p[k].toNat : Int) == 91) = false := test_no 91 (by omega) (show p[k] ≠ UInt8.ofNat 91 by rw [hc]; decide)
        have t3 : ((p[k].toNat : Int) == 40) = true := test_yes 40 (by omega) hc
        have H := Lib.hid h
        clear hsc hc h
        by_cases hmx : n + 1 ≤ d
        · have HX := Lib.hid (show max d (n + 1) = d by omega)
          rw [HX.out] at H
          go_wp2_with fail
          exact ⟨⟨k + 1, n + 1, d, by omega, by go_num, by go_num, by congr 1; omega, by omega, by omega, H.out, HBr.out⟩, by simp [intOf]; omega⟩
        · have HX := Lib.hid (show max d (n + 1) = n + 1 by omega)
          rw [HX.out] at H
          go_wp2_with fail
          exact ⟨⟨k + 1, n + 1, n + 1, by omega, by go_num, by go_num, by congr 1; omega, by omega, by omega, H.out, HBr.out⟩, by simp [intOf]; omega⟩
      · have t1 : ((p[k].toNat : Int) == 92) = false := test_no 92 (by omega) (show p[k] ≠ UInt8.ofNat 92 by rw [hc]; decide)
        have t2 : ((p[k].toNat : Int) == 91) = false := test_no 91 (by omega) (show p[k] ≠ UInt8.ofNat 91 by rw [hc]; decide)
        have t3 : ((p[k].toNat : Int) == 40) = false := test_no 40 (by omega) (show p[k] ≠ UInt8.ofNat 40 by rw [hc]; decide)
        have t4 : ((p[k].toNat : Int) == 41) = true := test_yes 41 (by omega) hc
        have i1 : (1 : Int) ≤ (n : Int) := by omega
        have HN := Lib.hid (show (n : Int) - 1 = (m : Int) by omega)
        have HM := Lib.hid (show m ≤ k by omega)
        have H := Lib.hid h
        clear hsc hc h h1
        go_wp2_with fail
        exact ⟨⟨k + 1, m, d, by omega, by go_num, by rw [HN.out], rfl, by have := HM.out; omega, by omega, H.out, HBr.out⟩, by simp [intOf]; omega⟩
      · have t1 : ((p[k].toNat : Int) == 92) = false := test_no 92 (by omega) h1
        have t2 : ((p[k].toNat : Int) == 91) = false := test_no 91 (by omega) h2
        have t3 : ((p[k].toNat : Int) == 40) = false := test_no 40 (by omega) h3
        have t4 : ((p[k].toNat : Int) == 41) = false := test_no 41 (by omega) h4
        have H := Lib.hid h
        clear hsc h h1 h2 h3 h4
        go_wp2_with fail
        exact ⟨⟨k + 1, n, d, by omega, by go_num, rfl, rfl, by omega, by omega, H.out, HBr.out⟩, by simp [intOf]; omega⟩
    · rw [drop_end p (by omega)] at hsc
      have HQ := Lib.hid (show (d : Int) = (out : Int) by rw [dep_nil hsc])
      clear hsc
      go_wp2_with fail
      go_ret
      exact ⟨ret_i HQ.out, HBr.out⟩
end Go.Proofs.Ytjljfilflajogaa
