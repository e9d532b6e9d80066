/- Whether a record may be: as the program tells it (wal.Check and what it calls). -/
import Derived.Test.YtpcjnagdanmdpaaWaRows
namespace Go.Proofs.Ytpcjnagdanmdpaa
open Go.RowKit Go.Maps
set_option linter.unusedVariables false
theorem ret_rec {fn : Func} {p : Tmp} (h : fn.results = #[.cell p 30]) (tmps : Array Value) (w : World) (g : Nat) (cs : Array Value) (hp : tmps.getD p undef = .pointer (some ⟨g, 0, none⟩)) (hg : Row w g 30 cs) (hs : cs.size = 6) :
    (results fn tmps).run Try.prog w = .ok (.agg cs) w :=
  results_cell_row h tmps w g _ cs _ _ hp hg Try.underlying30 rfl (by rw [hs]; kernel_rfl)
theorem ret_cont {fn : Func} {p : Tmp} (h : fn.results = #[.cell p 89]) (tmps : Array Value) (w : World) (g : Nat) (cs : Array Value) (hp : tmps.getD p undef = .pointer (some ⟨g, 0, none⟩)) (hg : Row w g 89 cs) (hs : cs.size = 5) :
    (results fn tmps).run Try.prog w = .ok (.agg cs) w :=
  results_cell_row h tmps w g _ cs _ _ hp hg Try.underlying89 rfl (by rw [hs]; kernel_rfl)
theorem content_raw (k : Int) (A : Option Addr) (a ca : Nat) (B : Option Addr) (b cb : Nat) (C : Option Addr) (c cc : Nat) (lo hi : Int) (w : World) :
    Calls Try.prog 44 #[.agg #[.int .i64 k, .slice A a ca, .slice B b cb, .slice C c cc, .int .i64 lo, .int .i64 hi]] w fun e w' => e = .returned (.agg #[.int .i64 (a : Int), .int .i64 (b : Int), .int .i64 (c : Int), .int .i64 lo, .int .i64 hi]) ∧ Below w.heap.size w w' := by
  obtain ⟨x0, x1, x2, x3, x4, x5⟩ := rec_cells (Row.new w 30 #[.int .i64 k, .slice A a ca, .slice B b cb, .slice C c cc, .int .i64 lo, .int .i64 hi]) rfl
  go_enter Try.func44, Try.ntmps44
  go_wp2_with fail
  try simp only [Exit.inBlock, Exit.then]
  refine bodyPost_ret (ret_cont rfl _ _ _ _ rfl (heap_alloc2_new w _ _) rfl) rfl ?_
  exact ⟨rfl, (below_one _ _).alloc (by simp) _⟩
/-- What of a record its kind has. -/
def properC (k : Int) (A : Option Addr) (a ca : Nat) (B : Option Addr) (b cb : Nat) (C : Option Addr) (c cc : Nat) (lo hi : Int) : Array Value :=
  if k = 1 then #[.int .i64 0, .slice A a ca, .slice none 0 0, .slice none 0 0, .int .i64 0, .int .i64 0]
  else if k = 2 then #[.int .i64 0, .slice none 0 0, .slice B b cb, .slice none 0 0, .int .i64 0, .int .i64 0]
  else if k = 3 then #[.int .i64 0, .slice none 0 0, .slice none 0 0, .slice C c cc, .int .i64 lo, .int .i64 hi]
  else #[.int .i64 0, .slice none 0 0, .slice none 0 0, .slice none 0 0, .int .i64 0, .int .i64 0]
theorem proper_raw (k : Int) (A : Option Addr) (a ca : Nat) (B : Option Addr) (b cb : Nat) (C : Option Addr) (c cc : Nat) (lo hi : Int) (w : World) :
    Calls Try.prog 45 #[.agg #[.int .i64 k, .slice A a ca, .slice B b cb, .slice C c cc, .int .i64 lo, .int .i64 hi]] w fun e w' => e = .returned (.agg (properC k A a ca B b cb C c cc lo hi)) ∧ Below w.heap.size w w' := by
  obtain ⟨x0, x1, x2, x3, x4, x5⟩ := rec_cells (Row.new w 30 #[.int .i64 k, .slice A a ca, .slice B b cb, .slice C c cc, .int .i64 lo, .int .i64 hi]) rfl
  unfold properC
  by_cases h1 : k = 1
  · subst h1
    rw [if_pos rfl]
    go_enter Try.func45, Try.ntmps45
    go_wp2_with fail
    try simp only [Exit.inBlock, Exit.then]
    refine bodyPost_ret (ret_rec rfl _ _ _ _ rfl (heap_alloc2_new w _ _) rfl) rfl ?_
    exact ⟨rfl, (below_one _ _).alloc (by simp) _⟩
  · rw [if_neg h1]
    have q1 : (k == 1) = false := beq_eq_false_iff_ne.2 h1
    by_cases h2 : k = 2
    · subst h2
      rw [if_pos rfl]
      go_enter Try.func45, Try.ntmps45
      go_wp2_with fail
      try simp only [Exit.inBlock, Exit.then]
      refine bodyPost_ret (ret_rec rfl _ _ _ _ rfl (heap_alloc2_new w _ _) rfl) rfl ?_
      exact ⟨rfl, (below_one _ _).alloc (by simp) _⟩
    · rw [if_neg h2]
      have q2 : (k == 2) = false := beq_eq_false_iff_ne.2 h2
      by_cases h3 : k = 3
      · subst h3
        rw [if_pos rfl]
        go_enter Try.func45, Try.ntmps45
        go_wp2_with fail
        try simp only [Exit.inBlock, Exit.then]
        refine bodyPost_ret (ret_rec rfl _ _ _ _ rfl (heap_alloc2_new w _ _) rfl) rfl ?_
        exact ⟨rfl, (below_one _ _).alloc (by simp) _⟩
      · rw [if_neg h3]
        have q3 : (k == 3) = false := beq_eq_false_iff_ne.2 h3
        go_enter Try.func45, Try.ntmps45
        go_wp2_with fail
        try simp only [Exit.inBlock, Exit.then]
        refine bodyPost_ret (ret_rec rfl _ _ _ _ rfl (heap_alloc2_new w _ _) rfl) rfl ?_
        exact ⟨rfl, (below_one _ _).alloc (by simp) _⟩
theorem cont_neq (a b c a' b' c' lo hi lo' hi' : Int) (w : World) :
    (binOp .neq 89 (.agg #[.int .i64 a, .int .i64 b, .int .i64 c, .int .i64 lo, .int .i64 hi]) (.agg #[.int .i64 a', .int .i64 b', .int .i64 c', .int .i64 lo', .int .i64 hi'])).run Try.prog w = .ok (.bool (!(a == a' && (b == b' && (c == c' && (lo == lo' && hi == hi')))))) w := by
  rw [run_neq_struct, run_equalIn_agg w 9999 _ _ _ (by kernel_rfl) (by kernel_rfl)]
  simp [go_sem, Try.underlying89, Try.underlying3]
  by_cases h1 : a = a' <;> by_cases h2 : b = b' <;> by_cases h3 : c = c' <;> by_cases h4 : lo = lo' <;> by_cases h5 : hi = hi' <;> simp [*]
theorem chk_one (t v : Int) : Ch.chk [(t, v)] = if Ch.mayB (t, v) = false then 11 else 0 := by
  show (if ([(t, v)] : List Ch.Smp).length = 0 ∨ 120 < ([(t, v)] : List Ch.Smp).length then (2 : Int) else Ch.errF [(t, v)] 1 0) = _
  rw [if_neg (by simp)]
  show (if Ch.errAt [(t, v)] 0 = 0 then (0 : Int) else Ch.errAt [(t, v)] 0) = _
  have e : Ch.errAt [(t, v)] 0 = if Ch.mayB (t, v) = false then 11 else 0 := by
    unfold Ch.errAt
    simp
  rw [e]
  split <;> rfl
theorem wrow_drop (l : List Wrow) {k : Nat} (hk : k < l.length) : l.drop k = l.getD k wrow0 :: l.drop (k + 1) := by
  rw [List.drop_eq_getElem_cons hk, List.getD_eq_getElem?_getD, List.getElem?_eq_getElem hk]
  rfl
theorem checkrows_prog (A : Option Addr) (l : List Wrow) (c : Nat) (w : World) (hA : Wrows w A l) (hl : l.length ≤ 100000000000000) :
    Calls Try.prog 47 #[.slice A l.length c] w fun e w' => e = .returned (.int .i64 (rowsChk l)) ∧ Below w.heap.size w w' := by
  by_cases h0 : l.length = 0
  · have e : rowsChk l = 2 := by unfold rowsChk; rw [if_pos (.inl h0)]
    rw [e, h0]
    clear e
    go_enter Try.func47, Try.ntmps47
    go_wp2
    go_ret
    exact ⟨rfl, Below.refl _ _⟩
  have i0 : ((l.length : Int) == 0) = false := by rw [beq_eq_false_iff_ne]; omega
  by_cases h1 : 64 < l.length
  · have e : rowsChk l = 2 := by unfold rowsChk; rw [if_pos (.inr h1)]
    rw [e]
    clear e
    have i1 : decide ((64 : Int) < (l.length : Int)) = true := by simp; omega
    go_enter Try.func47, Try.ntmps47
    go_wp2
    go_ret
    exact ⟨rfl, Below.refl _ _⟩
  have hC := Lib.hid (show rowsErr (l.drop 0) = rowsChk l by unfold rowsChk; rw [if_neg (by omega), List.drop_zero])
  obtain ⟨b, o, rfl, hb, hc⟩ := hA.all (by omega)
  have Hc := Lib.hid hc
  have i1 : decide ((64 : Int) < (l.length : Int)) = false := by simp; omega
  clear hc hA
  go_enter Try.func47, Try.ntmps47
  go_wp2_with fail
  go_loopw [16] (fun i wr => ∃ k : Nat, k ≤ l.length ∧ i = .int .i64 (k : Int) ∧ rowsErr (l.drop k) = rowsChk l ∧ Below w.heap.size w wr) (fun i _ => l.length - (intOf i).toNat)
  case atStart => exact ⟨0, Nat.zero_le _, rfl, hC.out, Below.refl _ _⟩
  case round =>
    obtain ⟨k, hk, rfl, he, hbr⟩ := hrel
    have hsz := hbr.size
    have HBR := Lib.hid hbr
    by_cases hlt : k < l.length
    · obtain ⟨g0, g1, g2⟩ := Hc.out k hlt
      have c0 := (hbr.cell (p := ⟨b, o + k * 3, none⟩) hb).trans g0
      have c1 := (hbr.cell (p := ⟨b, o + k * 3 + 1, none⟩) hb).trans g1
      have c2 := (hbr.cell (p := ⟨b, o + k * 3 + 2, none⟩) hb).trans g2
      have i2 : (k : Int) < (l.length : Int) := by omega
      rw [wrow_drop l hlt] at he
      have HE := Lib.hid he
      clear he g0 g1 g2
      rw [rowsErr] at HE
      generalize l.getD k wrow0 = x at *
      obtain ⟨id, t, v⟩ := x
      simp only at c0 c1 c2
      by_cases hid0 : id < 0
      · have eA : wrowErr (id, t, v) = 2 := by unfold wrowErr; rw [if_pos (.inl hid0)]
        rw [eA, if_neg (by decide)] at HE
        have i3 : decide (id < 0) = true := decide_eq_true hid0
        clear hbr
        go_wp2_with fail
        go_ret
        exact ⟨by rw [← HE.out]; rfl, HBR.out.alloc hsz _⟩
      · have i3 : decide (id < 0) = false := decide_eq_false hid0
        by_cases hid1 : 1099511627776 < id
        · have eA : wrowErr (id, t, v) = 2 := by unfold wrowErr; rw [if_pos (.inr hid1)]
          rw [eA, if_neg (by decide)] at HE
          have i4 : decide (1099511627776 < id) = true := decide_eq_true hid1
          clear hbr
          go_wp2_with fail
          go_ret
          exact ⟨by rw [← HE.out]; rfl, HBR.out.alloc hsz _⟩
        · have i4 : decide (1099511627776 < id) = false := decide_eq_false hid1
          have HK := Lib.hid (fun W (hW : Ch.Smps W (some ⟨wr.heap.size + 1, 0, none⟩) [(t, v)]) => Ch.chk_prog (some ⟨wr.heap.size + 1, 0, none⟩) [(t, v)] 1 W hW (by simp))
          rw [chk_one] at HK
          have HS := Lib.hid (Ch.smps_cell (heap_alloc2_new wr (.cells #[.int .i64 id, .int .i64 t, .int .i64 v] 65) (.cells #[.int .i64 t, .int .i64 v] 63)))
          cases hm : Ch.mayB (t, v)
          · have eA : wrowErr (id, t, v) = 11 := by unfold wrowErr; rw [if_neg (by simp only; omega), if_pos hm]
            rw [eA, if_neg (by decide)] at HE
            rw [hm] at HK
            simp only [if_true] at HK
            clear hbr hm eA
            go_wp2_with fail
            refine (HK.out _ HS.out).mono ?_
            rintro e w2 ⟨rfl, hb2⟩
            have HB2 := Lib.hid (below_then ((HBR.out.alloc hsz _).alloc (by simp; omega) _) hb2)
            clear hb2
            go_wp2
            go_ret
            exact ⟨by rw [← HE.out]; rfl, HB2.out⟩
          · have eA : wrowErr (id, t, v) = 0 := by unfold wrowErr; rw [if_neg (by simp only; omega), if_neg (by rw [hm]; decide)]
            rw [eA, if_pos rfl] at HE
            rw [hm] at HK
            simp only [Bool.true_eq_false, if_false] at HK
            clear hbr hm eA
            go_wp2_with fail
            refine (HK.out _ HS.out).mono ?_
            rintro e w2 ⟨rfl, hb2⟩
            have HB2 := Lib.hid (below_then ((HBR.out.alloc hsz _).alloc (by simp; omega) _) hb2)
            clear hb2
            go_wp2_with fail
            go_roundw
            case rel => exact ⟨k + 1, by omega, by go_num, HE.out, HB2.out⟩
            case measure => simp [intOf]; omega
    · obtain rfl : k = l.length := by omega
      rw [List.drop_length] at he
      have HE := Lib.hid he
      clear he hbr
      go_wp2_with fail
      go_ret
      exact ⟨by rw [← HE.out]; rfl, HBR.out⟩
end Go.Proofs.Ytpcjnagdanmdpaa
