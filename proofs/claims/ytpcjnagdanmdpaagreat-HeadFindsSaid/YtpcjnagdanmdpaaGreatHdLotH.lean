/- In one text, written by lotify.py: WaRows, WaCheck, WaCheck2. -/
import Derived.Test.YtpcjnagdanmdpaaGreatHdLotQ
namespace Go.Proofs.YtpcjnagdanmdpaaGreat
open Go.RowKit Go.Maps
set_option linter.unusedVariables false
/-! ### a record's rows -/
def wrow0 : Wrow := (0, 0, 0)
def wrowE (x : Wrow) : List Value := [.int .i64 x.1, .int .i64 x.2.1, .int .i64 x.2.2]
theorem wrowE_len (x : Wrow) : (wrowE x).length = 3 := rfl
def Wrows (w : World) (A : Option Addr) (l : List Wrow) : Prop := At w A (l.flatMap wrowE)
theorem Wrows.below {w w' : World} {A : Option Addr} {l : List Wrow} (h : Wrows w A l) (hb : Below w.heap.size w w') : Wrows w' A l := At.below h hb
theorem Wrows.nil (w : World) (A : Option Addr) : Wrows w A [] := .inl rfl
theorem Wrows.all {w : World} {A : Option Addr} {l : List Wrow} (h : Wrows w A l) (hl : 0 < l.length) :
    ∃ b o, A = some ⟨b, o, none⟩ ∧ b < w.heap.size ∧ ∀ i, i < l.length → w.cell? ⟨b, o + i * 3, none⟩ = some (.int .i64 (l.getD i wrow0).1) ∧ w.cell? ⟨b, o + i * 3 + 1, none⟩ = some (.int .i64 (l.getD i wrow0).2.1) ∧ w.cell? ⟨b, o + i * 3 + 2, none⟩ = some (.int .i64 (l.getD i wrow0).2.2) := by
  have hlen := flat_len wrowE 3 wrowE_len l
  rcases h with h | ⟨b, o, rfl, hb, hc⟩
  · rw [h] at hlen; simp at hlen; omega
  · exact ⟨b, o, rfl, hb, fun i hi => ⟨hc (i * 3 + 0) _ (flat_get wrowE 3 wrowE_len l i _ 0 (getD_some l wrow0 hi) (by omega)), hc (i * 3 + 1) _ (flat_get wrowE 3 wrowE_len l i _ 1 (getD_some l wrow0 hi) (by omega)), hc (i * 3 + 2) _ (flat_get wrowE 3 wrowE_len l i _ 2 (getD_some l wrow0 hi) (by omega))⟩⟩
theorem wrows_cell {w : World} {g : Nat} {a b c : Int} (h : Row w g 70 #[.int .i64 a, .int .i64 b, .int .i64 c]) : Wrows w (some ⟨g, 0, none⟩) [(a, b, c)] := At.row h
section
variable {w w' : World} {base : Nat} {v : Value} {l : List Wrow}
end
/-! ### a record -/
/-- Where a record's slices lie. -/
structure RecM where
  la : Option Addr
  lc : Nat
  ra : Option Addr
  rc : Nat
  ia : Option Addr
  ic : Nat
def recM0 : RecM := ⟨none, 0, none, 0, none, 0⟩
def recC (R : RecV) (m : RecM) : List Value := [.int .i64 R.kind, .slice m.la R.labels.length m.lc, .slice m.ra R.rows.length m.rc, .slice m.ia R.ids.length m.ic, .int .i64 R.low, .int .i64 R.high]
structure RecIn (w : World) (R : RecV) (m : RecM) : Prop where
  labels : Lbls w m.la R.labels
  rows : Wrows w m.ra R.rows
  ids : Zi w m.ia R.ids
  lc : R.labels.length ≤ m.lc
  rc : R.rows.length ≤ m.rc
  ic : R.ids.length ≤ m.ic
/-- No part of a record is longer than a law's argument may be. -/
structure RecFit (R : RecV) : Prop where
  fits : LFits R.labels
  labels : R.labels.length * 32 ≤ 140737488351232
  rows : R.rows.length * 24 ≤ 140737488351232
  ids : R.ids.length ≤ 17592186043904
theorem RecIn.below {w w' : World} {R : RecV} {m : RecM} (h : RecIn w R m) (hb : Below w.heap.size w w') : RecIn w' R m := ⟨h.labels.below hb, h.rows.below hb, h.ids.below hb, h.lc, h.rc, h.ic⟩
theorem rec_cells {w : World} {g : Nat} {cs : Array Value} (h : Row w g 33 cs) {v0 v1 v2 v3 v4 v5 : Value} (hc : cs = #[v0, v1, v2, v3, v4, v5]) :
    w.cell? ⟨g, 0, none⟩ = some v0 ∧ w.cell? ⟨g, 1, none⟩ = some v1 ∧ w.cell? ⟨g, 2, none⟩ = some v2 ∧ w.cell? ⟨g, 3, none⟩ = some v3 ∧ w.cell? ⟨g, 4, none⟩ = some v4 ∧ w.cell? ⟨g, 5, none⟩ = some v5 := by
  subst hc
  exact ⟨h.cell 0, h.cell 1, h.cell 2, h.cell 3, h.cell 4, h.cell 5⟩
/-- Where a right record is told, no part of it is long. -/
theorem right_fit {R : RecV} (h : recChk R = 0) : RecFit R := by
  have lb : ∀ {l : List Lbl}, lbChk l = 0 → LFits l ∧ l.length * 32 ≤ 140737488351232 := fun {l} h => by
    refine ⟨fun i hi => ?_, by have := (lbChk_ok.1 h).1; omega⟩
    have := right_at h hi
    omega
  obtain ⟨k, la, ro, ids, lo, hi⟩ := R
  rcases recChk_zero.1 h with ⟨h1, h2, h3, h4, h5, h6⟩ | ⟨h1, h2, h3, h4, h5, h6⟩ | ⟨h1, h2, h3, h4⟩ <;> simp only at *
  · subst h2 h3
    exact ⟨(lb h6).1, (lb h6).2, by simp, by simp⟩
  · subst h2 h3
    exact ⟨fun i hi => by simp at hi, by simp, by have := (rowsChk_zero.1 h6).2.1; show ro.length * 24 ≤ _; omega, by simp⟩
  · subst h2 h3
    exact ⟨fun i hi => by simp at hi, by simp, by simp, by have := (pchk_zero.1 (delChk_zero.1 h4).1).1; show ids.length ≤ _; omega⟩
/-! ### rows of records -/
abbrev Pl := RecV × RecM
def plE (x : Pl) : List Value := recC x.1 x.2
theorem plE_len (x : Pl) : (plE x).length = 6 := rfl
def pl0 : Pl := (rec0, recM0)
def Recs (w : World) (A : Option Addr) (ps : List Pl) : Prop := At w A (ps.flatMap plE) ∧ ∀ x ∈ ps, RecIn w x.1 x.2
theorem Recs.nil (w : World) (A : Option Addr) : Recs w A [] := ⟨.inl rfl, fun x hx => by cases hx⟩
theorem Recs.all {w : World} {A : Option Addr} {ps : List Pl} (h : Recs w A ps) (hl : 0 < ps.length) :
    ∃ b o, A = some ⟨b, o, none⟩ ∧ b < w.heap.size ∧ ∀ i, i < ps.length → RecIn w (ps.getD i pl0).1 (ps.getD i pl0).2 ∧ ∀ j u, (plE (ps.getD i pl0))[j]? = some u → w.cell? ⟨b, o + i * 6 + j, none⟩ = some u := by
  have hlen := flat_len plE 6 plE_len ps
  rcases h.1 with h1 | ⟨b, o, rfl, hb, hc⟩
  · rw [h1] at hlen; simp at hlen; omega
  · refine ⟨b, o, rfl, hb, fun i hi => ⟨h.2 _ ?_, fun j u hj => ?_⟩⟩
    · have := getD_some ps pl0 hi
      exact List.mem_of_getElem? this
    · have hj6 : j < 6 := by
        have := (List.getElem?_eq_some_iff.1 hj).1
        rw [plE_len] at this
        exact this
      have := hc (i * 6 + j) u ((flat_get plE 6 plE_len ps i _ j (getD_some ps pl0 hi) hj6).trans hj)
      rw [Nat.add_assoc]
      exact this
theorem at_block {w : World} {A : Option Addr} {xs : List Value} (h : At w A xs) (hx : xs ≠ []) : ∀ ad, A = some ad → ad.block < w.heap.size := by
  rcases h with h | ⟨b, o, rfl, hb, _⟩
  · exact absurd h hx
  · intro ad e
    injection e with e
    subst e
    exact hb
theorem at_move {w w' : World} {A : Option Addr} {xs : List Value} (h : At w A xs) (hs : w.heap.size ≤ w'.heap.size) (hb : xs = [] ∨ ∀ ad, A = some ad → w'.heap[ad.block]? = w.heap[ad.block]?) : At w' A xs := by
  rcases h with h | ⟨b, o, rfl, hlt, hc⟩
  · exact .inl h
  · rcases hb with h0 | hb
    · exact .inl h0
    · refine .inr ⟨b, o, rfl, by omega, fun j u hj => ?_⟩
      rw [← hc j u hj]
      exact World.cell?_of_block (w := w) (a := ⟨b, o + j, none⟩) (hb ⟨b, o, none⟩ rfl)
theorem flat_nil {α : Type} (f : α → List Value) (n : Nat) (hf : ∀ x, (f x).length = n + 1) {l : List α} : l.flatMap f = [] ↔ l = [] := by
  have := flat_len f (n + 1) hf l
  constructor
  · intro h
    rw [h] at this
    cases l with
    | nil => rfl
    | cons x r => simp [Nat.succ_mul] at this
  · rintro rfl
    rfl
section
variable {w w' : World} {base : Nat} {v : Value} {ps : List Pl}
end
theorem ret_rec {fn : Func} {p : Tmp} (h : fn.results = #[.cell p 33]) (tmps : Array Value) (w : World) (g : Nat) (cs : Array Value) (hp : tmps.getD p undef = .pointer (some ⟨g, 0, none⟩)) (hg : Row w g 33 cs) (hs : cs.size = 6) :
    (results fn tmps).run Tryz.prog w = .ok (.agg cs) w :=
  results_cell_row h tmps w g _ cs _ _ hp hg Tryz.underlying33 rfl (by rw [hs]; kernel_rfl)
theorem ret_cont {fn : Func} {p : Tmp} (h : fn.results = #[.cell p 97]) (tmps : Array Value) (w : World) (g : Nat) (cs : Array Value) (hp : tmps.getD p undef = .pointer (some ⟨g, 0, none⟩)) (hg : Row w g 97 cs) (hs : cs.size = 5) :
    (results fn tmps).run Tryz.prog w = .ok (.agg cs) w :=
  results_cell_row h tmps w g _ cs _ _ hp hg Tryz.underlying97 rfl (by rw [hs]; kernel_rfl)
theorem content_raw (k : Int) (A : Option Addr) (a ca : Nat) (B : Option Addr) (b cb : Nat) (C : Option Addr) (c cc : Nat) (lo hi : Int) (w : World) :
    Calls Tryz.prog 50 #[.agg #[.int .i64 k, .slice A a ca, .slice B b cb, .slice C c cc, .int .i64 lo, .int .i64 hi]] w fun e w' => e = .returned (.agg #[.int .i64 (a : Int), .int .i64 (b : Int), .int .i64 (c : Int), .int .i64 lo, .int .i64 hi]) ∧ Below w.heap.size w w' := by
  obtain ⟨x0, x1, x2, x3, x4, x5⟩ := rec_cells (Row.new w 33 #[.int .i64 k, .slice A a ca, .slice B b cb, .slice C c cc, .int .i64 lo, .int .i64 hi]) rfl
  go_enter Tryz.func50, Tryz.ntmps50
  go_wp2_with fail
  try simp only [Exit.inBlock, Exit.then]
  refine bodyPost_ret (ret_cont rfl _ _ _ _ rfl (heap_alloc2_new w _ _) rfl) rfl ?_
  exact ⟨rfl, (below_one _ _).alloc (by simp) _⟩
/-- What of a record its kind has. -/
def properC (k : Int) (A : Option Addr) (a ca : Nat) (B : Option Addr) (b cb : Nat) (C : Option Addr) (c cc : Nat) (lo hi : Int) : Array Value :=
  if k = 1 then #[.int .i64 0, .slice A a ca, .slice none 0 0, .slice none 0 0, .int .i64 0, .int .i64 0]
  else if k = 2 then #[.int .i64 0, .slice none 0 0, .slice B b cb, .slice none 0 0, .int .i64 0, .int .i64 0]
  else if k = 3 then #[.int .i64 0, .slice none 0 0, .slice none 0 0, .slice C c cc, .int .i64 lo, .int .i64 hi]
  else #[.int .i64 0, .slice none 0 0, .slice none 0 0, .slice none 0 0, .int .i64 0, .int .i64 0]
theorem proper_raw (k : Int) (A : Option Addr) (a ca : Nat) (B : Option Addr) (b cb : Nat) (C : Option Addr) (c cc : Nat) (lo hi : Int) (w : World) :
    Calls Tryz.prog 51 #[.agg #[.int .i64 k, .slice A a ca, .slice B b cb, .slice C c cc, .int .i64 lo, .int .i64 hi]] w fun e w' => e = .returned (.agg (properC k A a ca B b cb C c cc lo hi)) ∧ Below w.heap.size w w' := by
  obtain ⟨x0, x1, x2, x3, x4, x5⟩ := rec_cells (Row.new w 33 #[.int .i64 k, .slice A a ca, .slice B b cb, .slice C c cc, .int .i64 lo, .int .i64 hi]) rfl
  unfold properC
  by_cases h1 : k = 1
  · subst h1
    rw [if_pos rfl]
    go_enter Tryz.func51, Tryz.ntmps51
    go_wp2_with fail
    try simp only [Exit.inBlock, Exit.then]
    refine bodyPost_ret (ret_rec rfl _ _ _ _ rfl (heap_alloc2_new w _ _) rfl) rfl ?_
    exact ⟨rfl, (below_one _ _).alloc (by simp) _⟩
  · rw [if_neg h1]
    have q1 : (k == 1) = false := beq_eq_false_iff_ne.2 h1
    by_cases h2 : k = 2
    · subst h2
      rw [if_pos rfl]
      go_enter Tryz.func51, Tryz.ntmps51
      go_wp2_with fail
      try simp only [Exit.inBlock, Exit.then]
      refine bodyPost_ret (ret_rec rfl _ _ _ _ rfl (heap_alloc2_new w _ _) rfl) rfl ?_
      exact ⟨rfl, (below_one _ _).alloc (by simp) _⟩
    · rw [if_neg h2]
      have q2 : (k == 2) = false := beq_eq_false_iff_ne.2 h2
      by_cases h3 : k = 3
      · subst h3
        rw [if_pos rfl]
        go_enter Tryz.func51, Tryz.ntmps51
        go_wp2_with fail
        try simp only [Exit.inBlock, Exit.then]
        refine bodyPost_ret (ret_rec rfl _ _ _ _ rfl (heap_alloc2_new w _ _) rfl) rfl ?_
        exact ⟨rfl, (below_one _ _).alloc (by simp) _⟩
      · rw [if_neg h3]
        have q3 : (k == 3) = false := beq_eq_false_iff_ne.2 h3
        go_enter Tryz.func51, Tryz.ntmps51
        go_wp2_with fail
        try simp only [Exit.inBlock, Exit.then]
        refine bodyPost_ret (ret_rec rfl _ _ _ _ rfl (heap_alloc2_new w _ _) rfl) rfl ?_
        exact ⟨rfl, (below_one _ _).alloc (by simp) _⟩
theorem cont_neq (a b c a' b' c' lo hi lo' hi' : Int) (w : World) :
    (binOp .neq 97 (.agg #[.int .i64 a, .int .i64 b, .int .i64 c, .int .i64 lo, .int .i64 hi]) (.agg #[.int .i64 a', .int .i64 b', .int .i64 c', .int .i64 lo', .int .i64 hi'])).run Tryz.prog w = .ok (.bool (!(a == a' && (b == b' && (c == c' && (lo == lo' && hi == hi')))))) w := by
  rw [run_neq_struct, run_equalIn_agg w 9999 _ _ _ (by kernel_rfl) (by kernel_rfl)]
  simp [go_sem, Tryz.underlying97, Tryz.underlying3]
  by_cases h1 : a = a' <;> by_cases h2 : b = b' <;> by_cases h3 : c = c' <;> by_cases h4 : lo = lo' <;> by_cases h5 : hi = hi' <;> simp [*]
theorem chk_one (t v : Int) : Ch.chk [(t, v)] = if Ch.mayB (t, v) = false then 11 else 0 := by
  show (if ([(t, v)] : List Ch.Smp).length = 0 ∨ 120 < ([(t, v)] : List Ch.Smp).length then (2 : Int) else Ch.errF [(t, v)] 1 0) = _
  rw [if_neg (by simp)]
  show (if Ch.errAt [(t, v)] 0 = 0 then (0 : Int) else Ch.errAt [(t, v)] 0) = _
  have e : Ch.errAt [(t, v)] 0 = if Ch.mayB (t, v) = false then 11 else 0 := by
    unfold Ch.errAt
    simp
  rw [e]
  split <;> rfl
theorem wrow_drop (l : List Wrow) {k : Nat} (hk : k < l.length) : l.drop k = l.getD k wrow0 :: l.drop (k + 1) := by
  rw [List.drop_eq_getElem_cons hk, List.getD_eq_getElem?_getD, List.getElem?_eq_getElem hk]
  rfl
theorem checkrows_prog (A : Option Addr) (l : List Wrow) (c : Nat) (w : World) (hA : Wrows w A l) (hl : l.length ≤ 100000000000000) :
    Calls Tryz.prog 52 #[.slice A l.length c] w fun e w' => e = .returned (.int .i64 (rowsChk l)) ∧ Below w.heap.size w w' := by
  by_cases h0 : l.length = 0
  · have e : rowsChk l = 2 := by unfold rowsChk; rw [if_pos (.inl h0)]
    rw [e, h0]
    clear e
    go_enter Tryz.func52, Tryz.ntmps52
    go_wp2
    go_ret
    exact ⟨rfl, Below.refl _ _⟩
  have i0 : ((l.length : Int) == 0) = false := by rw [beq_eq_false_iff_ne]; omega
  by_cases h1 : 64 < l.length
  · have e : rowsChk l = 2 := by unfold rowsChk; rw [if_pos (.inr h1)]
    rw [e]
    clear e
    have i1 : decide ((64 : Int) < (l.length : Int)) = true := by simp; omega
    go_enter Tryz.func52, Tryz.ntmps52
    go_wp2
    go_ret
    exact ⟨rfl, Below.refl _ _⟩
  have hC := Lib.hid (show rowsErr (l.drop 0) = rowsChk l by unfold rowsChk; rw [if_neg (by omega), List.drop_zero])
  obtain ⟨b, o, rfl, hb, hc⟩ := hA.all (by omega)
  have Hc := Lib.hid hc
  have i1 : decide ((64 : Int) < (l.length : Int)) = false := by simp; omega
  clear hc hA
  go_enter Tryz.func52, Tryz.ntmps52
  go_wp2_with fail
  go_loopw [16] (fun i wr => ∃ k : Nat, k ≤ l.length ∧ i = .int .i64 (k : Int) ∧ rowsErr (l.drop k) = rowsChk l ∧ Below w.heap.size w wr) (fun i _ => l.length - (intOf i).toNat)
  case atStart => exact ⟨0, Nat.zero_le _, rfl, hC.out, Below.refl _ _⟩
  case round =>
    obtain ⟨k, hk, rfl, he, hbr⟩ := hrel
    have hsz := hbr.size
    have HBR := Lib.hid hbr
    by_cases hlt : k < l.length
    · obtain ⟨g0, g1, g2⟩ := Hc.out k hlt
      have c0 := (hbr.cell (p := ⟨b, o + k * 3, none⟩) hb).trans g0
      have c1 := (hbr.cell (p := ⟨b, o + k * 3 + 1, none⟩) hb).trans g1
      have c2 := (hbr.cell (p := ⟨b, o + k * 3 + 2, none⟩) hb).trans g2
      have i2 : (k : Int) < (l.length : Int) := by omega
      rw [wrow_drop l hlt] at he
      have HE := Lib.hid he
      clear he g0 g1 g2
      rw [rowsErr] at HE
      generalize l.getD k wrow0 = x at *
      obtain ⟨id, t, v⟩ := x
      simp only at c0 c1 c2
      by_cases hid0 : id < 0
      · have eA : wrowErr (id, t, v) = 2 := by unfold wrowErr; rw [if_pos (.inl hid0)]
        rw [eA, if_neg (by decide)] at HE
        have i3 : decide (id < 0) = true := decide_eq_true hid0
        clear hbr
        go_wp2_with fail
        go_ret
        exact ⟨by rw [← HE.out]; rfl, HBR.out.alloc hsz _⟩
      · have i3 : decide (id < 0) = false := decide_eq_false hid0
        by_cases hid1 : 1099511627776 < id
        · have eA : wrowErr (id, t, v) = 2 := by unfold wrowErr; rw [if_pos (.inr hid1)]
          rw [eA, if_neg (by decide)] at HE
          have i4 : decide (1099511627776 < id) = true := decide_eq_true hid1
          clear hbr
          go_wp2_with fail
          go_ret
          exact ⟨by rw [← HE.out]; rfl, HBR.out.alloc hsz _⟩
        · have i4 : decide (1099511627776 < id) = false := decide_eq_false hid1
          have HK := Lib.hid (fun W (hW : Ch.Smps W (some ⟨wr.heap.size + 1, 0, none⟩) [(t, v)]) => Ch.chk_prog (some ⟨wr.heap.size + 1, 0, none⟩) [(t, v)] 1 W hW (by simp))
          rw [chk_one] at HK
          have HS := Lib.hid (Ch.smps_cell (heap_alloc2_new wr (.cells #[.int .i64 id, .int .i64 t, .int .i64 v] 70) (.cells #[.int .i64 t, .int .i64 v] 68)))
          cases hm : Ch.mayB (t, v)
          · have eA : wrowErr (id, t, v) = 11 := by unfold wrowErr; rw [if_neg (by simp only; omega), if_pos hm]
            rw [eA, if_neg (by decide)] at HE
            rw [hm] at HK
            simp only [if_true] at HK
            clear hbr hm eA
            go_wp2_with fail
            refine (HK.out _ HS.out).mono ?_
            rintro e w2 ⟨rfl, hb2⟩
            have HB2 := Lib.hid (below_then ((HBR.out.alloc hsz _).alloc (by simp; omega) _) hb2)
            clear hb2
            go_wp2
            go_ret
            exact ⟨by rw [← HE.out]; rfl, HB2.out⟩
          · have eA : wrowErr (id, t, v) = 0 := by unfold wrowErr; rw [if_neg (by simp only; omega), if_neg (by rw [hm]; decide)]
            rw [eA, if_pos rfl] at HE
            rw [hm] at HK
            simp only [Bool.true_eq_false, if_false] at HK
            clear hbr hm eA
            go_wp2_with fail
            refine (HK.out _ HS.out).mono ?_
            rintro e w2 ⟨rfl, hb2⟩
            have HB2 := Lib.hid (below_then ((HBR.out.alloc hsz _).alloc (by simp; omega) _) hb2)
            clear hb2
            go_wp2_with fail
            go_roundw
            case rel => exact ⟨k + 1, by omega, by go_num, HE.out, HB2.out⟩
            case measure => simp [intOf]; omega
    · obtain rfl : k = l.length := by omega
      rw [List.drop_length] at he
      have HE := Lib.hid he
      clear he hbr
      go_wp2_with fail
      go_ret
      exact ⟨by rw [← HE.out]; rfl, HBR.out⟩
theorem checkdelete_prog (k : Int) (A : Option Addr) (a ca : Nat) (B : Option Addr) (b cb : Nat) (C : Option Addr) (ids : List Int) (cc : Nat) (lo hi : Int) (w : World) (hC : Zi w C ids) (hl : ids.length ≤ 281474976710656) :
    Calls Tryz.prog 53 #[.agg #[.int .i64 k, .slice A a ca, .slice B b cb, .slice C ids.length cc, .int .i64 lo, .int .i64 hi]] w fun e w' => e = .returned (.int .i64 (delChk ids lo hi)) ∧ Below w.heap.size w w' := by
  obtain ⟨x0, x1, x2, x3, x4, x5⟩ := rec_cells (Row.new w 33 #[.int .i64 k, .slice A a ca, .slice B b cb, .slice C ids.length cc, .int .i64 lo, .int .i64 hi]) rfl
  have HK := Lib.hid (po_check_prog C ids cc (w.alloc (.cells #[.int .i64 k, .slice A a ca, .slice B b cb, .slice C ids.length cc, .int .i64 lo, .int .i64 hi] 33)) (hC.alloc _) hl)
  have HB := Lib.hid (below_one w (.cells #[.int .i64 k, .slice A a ca, .slice B b cb, .slice C ids.length cc, .int .i64 lo, .int .i64 hi] 33))
  unfold delChk
  by_cases h1 : pchk ids = 0
  · rw [if_neg (by simpa using h1)]
    rw [h1] at HK
    by_cases h2 : ids.length = 0
    · rw [if_pos h2]
      rw [h2] at HK x3 HB ⊢
      clear hC hl h1
      go_enter Tryz.func53, Tryz.ntmps53
      go_wp2_with fail
      refine HK.out.mono ?_
      rintro e w1 ⟨rfl, rfl⟩
      go_wp2
      go_ret
      exact ⟨rfl, HB.out⟩
    · rw [if_neg h2]
      have i0 : ((ids.length : Int) == 0) = false := by rw [beq_eq_false_iff_ne]; omega
      by_cases h3 : lo < 0
      · rw [if_pos (.inl h3)]
        have i1 : decide (lo < 0) = true := decide_eq_true h3
        clear hC hl h1
        go_enter Tryz.func53, Tryz.ntmps53
        go_wp2_with fail
        refine HK.out.mono ?_
        rintro e w1 ⟨rfl, rfl⟩
        go_wp2
        go_ret
        exact ⟨rfl, HB.out⟩
      · have i1 : decide (lo < 0) = false := decide_eq_false h3
        by_cases h4 : 1099511627776 < hi
        · rw [if_pos (.inr h4)]
          have i2 : decide (1099511627776 < hi) = true := decide_eq_true h4
          clear hC hl h1
          go_enter Tryz.func53, Tryz.ntmps53
          go_wp2_with fail
          refine HK.out.mono ?_
          rintro e w1 ⟨rfl, rfl⟩
          go_wp2
          go_ret
          exact ⟨rfl, HB.out⟩
        · rw [if_neg (by omega)]
          have i2 : decide (1099511627776 < hi) = false := decide_eq_false h4
          by_cases h5 : hi < lo
          · rw [if_pos h5]
            have i3 : decide (hi < lo) = true := decide_eq_true h5
            clear hC hl h1
            go_enter Tryz.func53, Tryz.ntmps53
            go_wp2_with fail
            refine HK.out.mono ?_
            rintro e w1 ⟨rfl, rfl⟩
            go_wp2
            go_ret
            exact ⟨rfl, HB.out⟩
          · rw [if_neg h5]
            have i3 : decide (hi < lo) = false := decide_eq_false h5
            clear hC hl h1
            go_enter Tryz.func53, Tryz.ntmps53
            go_wp2_with fail
            refine HK.out.mono ?_
            rintro e w1 ⟨rfl, rfl⟩
            go_wp2
            go_ret
            exact ⟨rfl, HB.out⟩
  · rw [if_pos h1]
    obtain ⟨E, hE⟩ : ∃ E, pchk ids = E := ⟨_, rfl⟩
    rw [hE] at HK h1 ⊢
    have i0 : (E != 0) = true := bne_iff_ne.2 h1
    have i1 : (E == 0) = false := beq_eq_false_iff_ne.2 h1
    clear hC hl hE h1
    go_enter Tryz.func53, Tryz.ntmps53
    go_wp2_with fail
    refine HK.out.mono ?_
    rintro e w1 ⟨rfl, rfl⟩
    go_wp2
    go_ret
    exact ⟨rfl, HB.out⟩
/-- What the kind has, in numbers, and whether that is all there is. -/
theorem proper_form (k : Int) (A : Option Addr) (a ca : Nat) (B : Option Addr) (b cb : Nat) (C : Option Addr) (c cc : Nat) (lo hi : Int) :
    ∃ (A' : Option Addr) (a' ca' : Nat) (B' : Option Addr) (b' cb' : Nat) (C' : Option Addr) (c' cc' : Nat) (lo' hi' : Int) (q : Bool), properC k A a ca B b cb C c cc lo hi = #[.int .i64 0, .slice A' a' ca', .slice B' b' cb', .slice C' c' cc', .int .i64 lo', .int .i64 hi'] ∧
      (!((a : Int) == a' && ((b : Int) == b' && ((c : Int) == c' && (lo == lo' && hi == hi'))))) = q ∧
      (q = true ↔ ((k ≠ 1 ∧ a ≠ 0) ∨ (k ≠ 2 ∧ b ≠ 0) ∨ (k ≠ 3 ∧ (c ≠ 0 ∨ lo ≠ 0 ∨ hi ≠ 0)))) := by
  unfold properC
  by_cases h1 : k = 1
  · rw [if_pos h1]
    refine ⟨_, _, _, _, _, _, _, _, _, _, _, _, rfl, rfl, ?_⟩
    subst h1
    simp
  · rw [if_neg h1]
    by_cases h2 : k = 2
    · rw [if_pos h2]
      refine ⟨_, _, _, _, _, _, _, _, _, _, _, _, rfl, rfl, ?_⟩
      subst h2
      simp
    · rw [if_neg h2]
      by_cases h3 : k = 3
      · rw [if_pos h3]
        refine ⟨_, _, _, _, _, _, _, _, _, _, _, _, rfl, rfl, ?_⟩
        subst h3
        simp
      · rw [if_neg h3]
        refine ⟨_, _, _, _, _, _, _, _, _, _, _, _, rfl, rfl, ?_⟩
        simp [h1, h2, h3]
theorem misfit_iff (R : RecV) : Misfit R ↔ ¬ (R.kind = 1 ∨ R.kind = 2 ∨ R.kind = 3) ∨ ((R.kind ≠ 1 ∧ R.labels.length ≠ 0) ∨ (R.kind ≠ 2 ∧ R.rows.length ≠ 0) ∨ (R.kind ≠ 3 ∧ (R.ids.length ≠ 0 ∨ R.low ≠ 0 ∨ R.high ≠ 0))) := Iff.rfl
set_option maxRecDepth 20000 in
theorem wchk_prog (R : RecV) (m : RecM) (w : World) (h : RecIn w R m) (hf : RecFit R) :
    Calls Tryz.prog 22 #[.agg (recC R m).toArray] w fun e w' => e = .returned (.int .i64 (recChk R)) ∧ Below w.heap.size w w' := by
  have hB0 := below_one w (.cells (recC R m).toArray 33)
  have HB0 := Lib.hid hB0
  have HL := Lib.hid (fun W (hW : Below w.heap.size w W) => lbchk_prog m.la R.labels m.lc W (h.labels.below hW) (by have := hf.labels; omega))
  have HR := Lib.hid (fun W (hW : Below w.heap.size w W) => checkrows_prog m.ra R.rows m.rc W (h.rows.below hW) (by have := hf.rows; omega))
  have HD := Lib.hid (fun W (hW : Below w.heap.size w W) => checkdelete_prog R.kind m.la R.labels.length m.lc m.ra R.rows.length m.rc m.ia R.ids m.ic R.low R.high W (h.ids.below hW) (by have := hf.ids; omega))
  have hmis := misfit_iff R
  have HX := Lib.hid (fun W (hW : Below (w.alloc (.cells (recC R m).toArray 33)).heap.size (w.alloc (.cells (recC R m).toArray 33)) W) => rec_cells ((Row.new w 33 (recC R m).toArray).below hW (by simp)) rfl)
  obtain ⟨k, la, ro, ids, lo, hi⟩ := R
  obtain ⟨A, ca, B, cb, C, cc⟩ := m
  simp only [recC] at *
  obtain ⟨x0, x1, x2, x3, x4, x5⟩ := HX.out _ (Below.refl _ _)
  have hchk : recChk ⟨k, la, ro, ids, lo, hi⟩ = if Misfit ⟨k, la, ro, ids, lo, hi⟩ then 2 else if k = 1 then lbChk la else if k = 2 then rowsChk ro else delChk ids lo hi := rfl
  obtain ⟨E, hE⟩ : ∃ E, recChk ⟨k, la, ro, ids, lo, hi⟩ = E := ⟨_, rfl⟩
  rw [hE] at hchk ⊢
  have HC1 := Lib.hid (content_raw k A la.length ca B ro.length cb C ids.length cc lo hi)
  have HP := Lib.hid (proper_raw k A la.length ca B ro.length cb C ids.length cc lo hi)
  obtain ⟨A', a', ca', B', b', cb', C', c', cc', lo', hi', q, hform, hq, hqi⟩ := proper_form k A la.length ca B ro.length cb C ids.length cc lo hi
  rw [hform] at HP
  have HC2 := Lib.hid (content_raw 0 A' a' ca' B' b' cb' C' c' cc' lo' hi')
  have HN := fun W => cont_neq (la.length : Int) (ro.length : Int) (ids.length : Int) (a' : Int) (b' : Int) (c' : Int) lo hi lo' hi' W
  rw [hq] at HN
  have hmis2 : Misfit ⟨k, la, ro, ids, lo, hi⟩ ↔ ¬ (k = 1 ∨ k = 2 ∨ k = 3) ∨ q = true := by rw [hmis, hqi]
  clear hform hq hqi hmis h hf hE hB0
  have HCHK := Lib.hid hchk
  have HMIS := Lib.hid hmis2
  clear hchk hmis2
  generalize la.length = na at *
  generalize ro.length = nr at *
  generalize ids.length = ni at *
  have HZ := Lib.hid (Below.refl (w.alloc (.cells #[.int .i64 k, .slice A na ca, .slice B nr cb, .slice C ni cc, .int .i64 lo, .int .i64 hi] 33)).heap.size (w.alloc (.cells #[.int .i64 k, .slice A na ca, .slice B nr cb, .slice C ni cc, .int .i64 lo, .int .i64 hi] 33))).drew
  cases q
  · by_cases h1 : k = 1
    · have hE : E = lbChk la := by rw [HCHK.out, if_neg (by rw [HMIS.out]; simp [h1]), if_pos h1]
      subst h1
      rw [← hE] at HL
      clear hE HR HD HCHK HMIS
      go_enter Tryz.func22, Tryz.ntmps22
      go_upto_region 1 with fail
      go_region_held3 (fun w' => w'.cell? ⟨w.heap.size, 0, none⟩ = some (.int .i64 1) ∧ w'.cell? ⟨w.heap.size, 1, none⟩ = some (.slice A na ca) ∧ w'.cell? ⟨w.heap.size, 2, none⟩ = some (.slice B nr cb) ∧ w'.cell? ⟨w.heap.size, 3, none⟩ = some (.slice C ni cc) ∧ w'.cell? ⟨w.heap.size, 4, none⟩ = some (.int .i64 lo) ∧ w'.cell? ⟨w.heap.size, 5, none⟩ = some (.int .i64 hi))
        (first | exact ⟨x0, x1, x2, x3, x4, x5⟩ | go_keep)
        (first
          | (go_at_call 50; (with_reducible refine (HC1.out _).mono ?_); rintro e w1 ⟨rfl, hb1⟩
             have HB1 := Lib.hid (HZ.out.trans (hb1.mono HZ.out.size))
             obtain ⟨y0, y1, y2, y3, y4, y5⟩ := HX.out _ HB1.out
             clear hb1)
          | (go_at_call 51; refine (HP.out _).mono ?_; rintro e w2 ⟨rfl, hb2⟩
             have HB2 := Lib.hid (HB1.out.trans (hb2.mono HB1.out.size))
             obtain ⟨z0, z1, z2, z3, z4, z5⟩ := HX.out _ HB2.out
             clear hb2)
          | (go_at_call 50; (with_reducible refine (HC2.out _).mono ?_); rintro e w3 ⟨rfl, hb3⟩
             have HB3 := Lib.hid (HB2.out.trans (hb3.mono HB2.out.size))
             obtain ⟨u0, u1, u2, u3, u4, u5⟩ := HX.out _ HB3.out
             clear hb3))
      all_goals
        have HB4 := Lib.hid (below_then HB0.out HB3.out)
        go_wp2_with fail
        refine (HL.out _ HB4.out).mono ?_
        rintro e w4 ⟨rfl, hb4⟩
        have HB5 := Lib.hid (below_then HB4.out hb4)
        clear hb4
        go_wp2
        go_ret
        exact ⟨rfl, HB5.out⟩
    · have q1 : (k == 1) = false := beq_eq_false_iff_ne.2 h1
      by_cases h2 : k = 2
      · have hE : E = rowsChk ro := by rw [HCHK.out, if_neg (by rw [HMIS.out]; simp [h2]), if_neg h1, if_pos h2]
        subst h2
        rw [← hE] at HR
        clear hE HL HD HCHK HMIS h1
        go_enter Tryz.func22, Tryz.ntmps22
        go_upto_region 1 with fail
        go_region_held3 (fun w' => w'.cell? ⟨w.heap.size, 0, none⟩ = some (.int .i64 2) ∧ w'.cell? ⟨w.heap.size, 1, none⟩ = some (.slice A na ca) ∧ w'.cell? ⟨w.heap.size, 2, none⟩ = some (.slice B nr cb) ∧ w'.cell? ⟨w.heap.size, 3, none⟩ = some (.slice C ni cc) ∧ w'.cell? ⟨w.heap.size, 4, none⟩ = some (.int .i64 lo) ∧ w'.cell? ⟨w.heap.size, 5, none⟩ = some (.int .i64 hi))
          (first | exact ⟨x0, x1, x2, x3, x4, x5⟩ | go_keep)
          (first
            | (go_at_call 50; (with_reducible refine (HC1.out _).mono ?_); rintro e w1 ⟨rfl, hb1⟩
               have HB1 := Lib.hid (HZ.out.trans (hb1.mono HZ.out.size))
               obtain ⟨y0, y1, y2, y3, y4, y5⟩ := HX.out _ HB1.out
               clear hb1)
            | (go_at_call 51; refine (HP.out _).mono ?_; rintro e w2 ⟨rfl, hb2⟩
               have HB2 := Lib.hid (HB1.out.trans (hb2.mono HB1.out.size))
               obtain ⟨z0, z1, z2, z3, z4, z5⟩ := HX.out _ HB2.out
               clear hb2)
            | (go_at_call 50; (with_reducible refine (HC2.out _).mono ?_); rintro e w3 ⟨rfl, hb3⟩
               have HB3 := Lib.hid (HB2.out.trans (hb3.mono HB2.out.size))
               obtain ⟨u0, u1, u2, u3, u4, u5⟩ := HX.out _ HB3.out
               clear hb3))
        all_goals
          have HB4 := Lib.hid (below_then HB0.out HB3.out)
          go_wp2_with fail
          refine (HR.out _ HB4.out).mono ?_
          rintro e w4 ⟨rfl, hb4⟩
          have HB5 := Lib.hid (below_then HB4.out hb4)
          clear hb4
          go_wp2
          go_ret
          exact ⟨rfl, HB5.out⟩
      · have q2 : (k == 2) = false := beq_eq_false_iff_ne.2 h2
        by_cases h3 : k = 3
        · have hE : E = delChk ids lo hi := by rw [HCHK.out, if_neg (by rw [HMIS.out]; simp [h3]), if_neg h1, if_neg h2]
          subst h3
          rw [← hE] at HD
          clear hE HL HR HCHK HMIS h1 h2
          go_enter Tryz.func22, Tryz.ntmps22
          go_upto_region 1 with fail
          go_region_held3 (fun w' => w'.cell? ⟨w.heap.size, 0, none⟩ = some (.int .i64 3) ∧ w'.cell? ⟨w.heap.size, 1, none⟩ = some (.slice A na ca) ∧ w'.cell? ⟨w.heap.size, 2, none⟩ = some (.slice B nr cb) ∧ w'.cell? ⟨w.heap.size, 3, none⟩ = some (.slice C ni cc) ∧ w'.cell? ⟨w.heap.size, 4, none⟩ = some (.int .i64 lo) ∧ w'.cell? ⟨w.heap.size, 5, none⟩ = some (.int .i64 hi))
            (first | exact ⟨x0, x1, x2, x3, x4, x5⟩ | go_keep)
            (first
              | (go_at_call 50; (with_reducible refine (HC1.out _).mono ?_); rintro e w1 ⟨rfl, hb1⟩
                 have HB1 := Lib.hid (HZ.out.trans (hb1.mono HZ.out.size))
                 obtain ⟨y0, y1, y2, y3, y4, y5⟩ := HX.out _ HB1.out
                 clear hb1)
              | (go_at_call 51; refine (HP.out _).mono ?_; rintro e w2 ⟨rfl, hb2⟩
                 have HB2 := Lib.hid (HB1.out.trans (hb2.mono HB1.out.size))
                 obtain ⟨z0, z1, z2, z3, z4, z5⟩ := HX.out _ HB2.out
                 clear hb2)
              | (go_at_call 50; (with_reducible refine (HC2.out _).mono ?_); rintro e w3 ⟨rfl, hb3⟩
                 have HB3 := Lib.hid (HB2.out.trans (hb3.mono HB2.out.size))
                 obtain ⟨u0, u1, u2, u3, u4, u5⟩ := HX.out _ HB3.out
                 clear hb3))
          all_goals
            have HB4 := Lib.hid (below_then HB0.out HB3.out)
            go_wp2_with fail
            refine (HD.out _ HB4.out).mono ?_
            rintro e w4 ⟨rfl, hb4⟩
            have HB5 := Lib.hid (below_then HB4.out hb4)
            clear hb4
            go_wp2
            go_ret
            exact ⟨rfl, HB5.out⟩
        · have q3 : (k == 3) = false := beq_eq_false_iff_ne.2 h3
          have hE : E = 2 := by rw [HCHK.out, if_pos (by rw [HMIS.out]; exact .inl (by simp [h1, h2, h3]))]
          subst hE
          clear HL HR HD HCHK HMIS h1 h2 h3
          go_enter Tryz.func22, Tryz.ntmps22
          go_upto_region 1 with fail
          go_region_held3 (fun w' => w'.cell? ⟨w.heap.size, 0, none⟩ = some (.int .i64 k) ∧ w'.cell? ⟨w.heap.size, 1, none⟩ = some (.slice A na ca) ∧ w'.cell? ⟨w.heap.size, 2, none⟩ = some (.slice B nr cb) ∧ w'.cell? ⟨w.heap.size, 3, none⟩ = some (.slice C ni cc) ∧ w'.cell? ⟨w.heap.size, 4, none⟩ = some (.int .i64 lo) ∧ w'.cell? ⟨w.heap.size, 5, none⟩ = some (.int .i64 hi))
            (first | exact ⟨x0, x1, x2, x3, x4, x5⟩ | go_keep)
            (first
              | (go_at_call 50; (with_reducible refine (HC1.out _).mono ?_); rintro e w1 ⟨rfl, hb1⟩
                 have HB1 := Lib.hid (HZ.out.trans (hb1.mono HZ.out.size))
                 obtain ⟨y0, y1, y2, y3, y4, y5⟩ := HX.out _ HB1.out
                 clear hb1)
              | (go_at_call 51; refine (HP.out _).mono ?_; rintro e w2 ⟨rfl, hb2⟩
                 have HB2 := Lib.hid (HB1.out.trans (hb2.mono HB1.out.size))
                 obtain ⟨z0, z1, z2, z3, z4, z5⟩ := HX.out _ HB2.out
                 clear hb2)
              | (go_at_call 50; (with_reducible refine (HC2.out _).mono ?_); rintro e w3 ⟨rfl, hb3⟩
                 have HB3 := Lib.hid (HB2.out.trans (hb3.mono HB2.out.size))
                 obtain ⟨u0, u1, u2, u3, u4, u5⟩ := HX.out _ HB3.out
                 clear hb3))
          all_goals
            have HB4 := Lib.hid (below_then HB0.out HB3.out)
            go_wp2
            go_ret
            exact ⟨rfl, HB4.out⟩
  · have hE : E = 2 := by rw [HCHK.out, if_pos (by rw [HMIS.out]; exact .inr rfl)]
    subst hE
    clear HL HR HD HCHK HMIS
    go_enter Tryz.func22, Tryz.ntmps22
    go_upto_region 1 with fail
    go_region_held3 (fun w' => w'.cell? ⟨w.heap.size, 0, none⟩ = some (.int .i64 k) ∧ w'.cell? ⟨w.heap.size, 1, none⟩ = some (.slice A na ca) ∧ w'.cell? ⟨w.heap.size, 2, none⟩ = some (.slice B nr cb) ∧ w'.cell? ⟨w.heap.size, 3, none⟩ = some (.slice C ni cc) ∧ w'.cell? ⟨w.heap.size, 4, none⟩ = some (.int .i64 lo) ∧ w'.cell? ⟨w.heap.size, 5, none⟩ = some (.int .i64 hi))
      (first | exact ⟨x0, x1, x2, x3, x4, x5⟩ | go_keep)
      (first
        | (go_at_call 50; (with_reducible refine (HC1.out _).mono ?_); rintro e w1 ⟨rfl, hb1⟩
           have HB1 := Lib.hid (HZ.out.trans (hb1.mono HZ.out.size))
           obtain ⟨y0, y1, y2, y3, y4, y5⟩ := HX.out _ HB1.out
           clear hb1)
        | (go_at_call 51; refine (HP.out _).mono ?_; rintro e w2 ⟨rfl, hb2⟩
           have HB2 := Lib.hid (HB1.out.trans (hb2.mono HB1.out.size))
           obtain ⟨z0, z1, z2, z3, z4, z5⟩ := HX.out _ HB2.out
           clear hb2)
        | (go_at_call 50; (with_reducible refine (HC2.out _).mono ?_); rintro e w3 ⟨rfl, hb3⟩
           have HB3 := Lib.hid (HB2.out.trans (hb3.mono HB2.out.size))
           obtain ⟨u0, u1, u2, u3, u4, u5⟩ := HX.out _ HB3.out
           clear hb3))
    all_goals
      have HB4 := Lib.hid (below_then HB0.out HB3.out)
      go_wp2
      go_ret
      exact ⟨rfl, HB4.out⟩
end Go.Proofs.YtpcjnagdanmdpaaGreat
