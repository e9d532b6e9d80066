/- Patterns: the loop; every call of the reader's; parse, Check and Fits. -/
import Derived.Test.YtjljfilflajogaaReAlt
import Derived.Test.YtjljfilflajogaaReParse5
namespace Go.Proofs.Ytjljfilflajogaa
open Go.RowKit Go.Maps
set_option linter.unusedVariables false

def PatIn (W : World) (X : Nat) (x0 : List UInt8) (op dp n : Nat) (v : Value) (wr : World) : Prop :=
  ∃ pre x dd k, Grp wr W.heap.size v pre ∧ Rdr wr X x op (max dp (op + dd)) ∧ Two W wr X X ∧ 4 * x.length + 4 ≤ k ∧ pre.length + x.length ≤ x0.length ∧ patM n x0 = contA pre dd (patM k x)
theorem pat_step {k : Nat} {x y : List UInt8} {l : List Re} {d : Nat} (h : altM k x = some (l, y, d)) : patM (k + 1) x = if aheadM [124] y then (patM k y.tail).map fun s => (.row l :: s.1, s.2.1, max d s.2.2) else some ([.row l], y, d) := by
  simp only [patM, h]
  split
  · cases patM k y.tail <;> rfl
  · rfl
theorem alt_fits {n : Nat} {x : List UInt8} {l : List Re} {y : List UInt8} {d : Nat} (h : altM n x = some (l, y, d)) : y.length ≤ x.length := by
  have := alt_len h
  omega
set_option maxHeartbeats 2000000 in
theorem pat_prog {m : Nat} (hp : ∀ k, k ≤ m → AltAll k) : PatAll m := by
  intro n hn w X x0 op dp h hod hopx hm
  have hX := h.lt
  have HP := Lib.hid hp
  have HD : ∀ z, aheadM (strL ⟨#[124]⟩) z = aheadM [124] z := fun _ => rfl
  have H0 := Lib.hid (show PatIn w X x0 op dp n (.slice none 0 0) w from ⟨[], x0, 0, n, Grp.nil _ _, by rw [show max dp (op + 0) = dp by omega]; exact h, Two.refl _ _ _, by omega, by simp, (contA_nil _).symm⟩)
  clear h hp
  go_enter Try.func51, Try.ntmps51
  go_wp2_with fail
  go_loopw [4] (fun v wr => PatIn w X x0 op dp n v wr) (fun _ wr => restLen wr X)
  case atStart => exact H0.out
  case round =>
    obtain ⟨pre, x, dd, k, hG, hr, ht, hk, hpx, hq⟩ := hrel
    have hrl := hr.rest
    have hXr := hr.lt
    have hpre : pre.length ≤ 1000 := by omega
    obtain ⟨k', rfl⟩ : ∃ k', k = k' + 1 := ⟨k - 1, by omega⟩
    obtain ⟨A, cc, rfl⟩ := hG.slice
    have HA := Lib.hid (HP.out x.length (by omega) k' (by omega) wr X x op (max dp (op + dd)) hr (by omega) (by omega) (Nat.le_refl _))
    have HT := Lib.hid ht
    have HG := Lib.hid hG
    have HQ := Lib.hid hq
    cases hac : altM k' x with
    | none =>
      have HB := Lib.hid (show altR k' x = none by unfold altR; rw [hac]; rfl)
      rw [HB.out] at HA
      have HN := Lib.hid (show patR n x0 = none by unfold patR; rw [HQ.out]; simp only [patM, hac]; rfl)
      clear hG hr ht hq hac
      go_wp2_with (go_at_call 64; refine HA.out.mono ?_; rintro e w2 ⟨ht2, hr2, v2, rfl⟩; have HT2 := Lib.hid (HT.out.trans ht2); have HR2 := Lib.hid hr2; clear hr2 ht2)
      go_ret2
      rw [HN.out]
      exact ⟨HT2.out, HR2.out, _, rfl⟩
    | some q =>
      obtain ⟨l, y, d⟩ := q
      have HB := Lib.hid (show altR k' x = some (.row l, y, d) by unfold altR; rw [hac]; rfl)
      rw [HB.out] at HA
      have hyl := alt_fits hac
      have hst := pat_step hac
      cases ha : aheadM [124] y
      all_goals
        rw [ha] at hst
        have HST := Lib.hid hst
        clear hG hr ht hq hac hst
        go_wp2_with (first
          | (go_at_call 65; refine HS.out.mono ?_; rintro e w4 ⟨rfl, hr4, ht4⟩; have HR4 := Lib.hid hr4; have HT4 := Lib.hid ht4; clear hr4 ht4)
          | (at_builtin; refine app_node rfl (.tmp 14) (.tmp 16) 84 rfl Try.underlying84 (.slice A pre.length cc) rfl HG.out HT.out HT2.out hX HN2.out HM2.out hpre 1 rfl ?_
             intro v3 w3 hG3 ht3 hx3
             have HS := Lib.hid (skip_prog (HR2.out.stay hx3) ⟨#[124]⟩)
             simp only [HD, ha, Bool.false_eq_true, if_false, if_true] at HS
             obtain ⟨A3, c3, hv3⟩ := hG3.slice
             generalize (pre ++ [Re.row l]).length = ln at hv3
             subst hv3
             have HG3 := Lib.hid hG3
             have HT3 := Lib.hid ht3
             clear hG3 ht3 hx3)
          | (go_at_call 64; refine HA.out.mono ?_; rintro e w2 ⟨ht2, hr2, v2, M2, rfl, hN2, hM2⟩; obtain ⟨T2, y2, rfl⟩ := node_form hN2; have HT2 := Lib.hid ht2; have HR2 := Lib.hid hr2; have HN2 := Lib.hid hN2; have HM2 := Lib.hid hM2; clear hr2 ht2 hN2 hM2))
      · go_ret2
        have HN := show patR n x0 = some (.alt (pre ++ [.row l]), y, max dd d) by unfold patR; rw [HQ.out, HST.out]; simp [contA]
        rw [HN]
        obtain ⟨M, hN, hM⟩ := (HG3.out.two HT4.out hX).alt (by rw [List.length_append, List.length_singleton]; omega)
        refine ⟨HT3.out.trans HT4.out, ?_, _, M, rfl, hN, hM⟩
        rw [show max dp (op + max dd d) = max (max dp (op + dd)) (op + d) by omega]; exact HR4.out
      · have hl := tail_len ha
        refine ⟨⟨pre ++ [.row l], y.tail, max dd d, k', HG3.out.two HT4.out hX, ?_, HT3.out.trans HT4.out, by omega, by rw [List.length_append, List.length_singleton]; omega, ?_⟩, ?_⟩
        · rw [show max dp (op + max dd d) = max (max dp (op + dd)) (op + d) by omega]; exact HR4.out
        · rw [HQ.out, HST.out]; simp only [if_true]; exact contA_step _ _ _ _ _
        · rw [HR4.out.rest, hrl]; omega
theorem all_read : ∀ m, PatAll m ∧ AltAll m ∧ PieceAll m := by
  intro m
  induction m using Nat.strongRecOn with
  | ind m ih =>
    have hg : ∀ n, 4 * m ≤ n → ∀ k, k < m → GrpReads n k := fun n hn k hk => group_prog ((ih k hk).1 n (by omega))
    have hat : ∀ n, 4 * m + 1 ≤ n → Reads 83 (atomM n) m := by
      intro n hn
      obtain ⟨k, rfl⟩ : ∃ k, n = k + 1 := ⟨n - 1, by omega⟩
      exact atom_prog (hg k (by omega)) (by omega)
    have hpi : PieceAll m := by
      intro n hn
      obtain ⟨k, rfl⟩ : ∃ k, n = k + 1 := ⟨n - 1, by omega⟩
      exact piece_prog (hat k (by omega))
    have hal : AltAll m := alt_prog fun k hk => by
      rcases Nat.lt_or_ge k m with h | h
      · exact (ih k h).2.2
      · obtain rfl : k = m := by omega
        exact hpi
    exact ⟨pat_prog fun k hk => by
      rcases Nat.lt_or_ge k m with h | h
      · exact (ih k h).2.1
      · obtain rfl : k = m := by omega
        exact hal, hal, hpi⟩
/-- What parse tells. -/
def ParTold (w w' : World) (e : Ending) (q : Int × Re) : Prop :=
  Below w.heap.size w w' ∧ ∃ v, e = .returned (.tuple #[v, .int .i64 q.1]) ∧ (q.1 = 0 → ∃ M, NodeAt w' q.2 v M ∧ ∀ k ∈ M, w.heap.size ≤ k)
theorem two_fresh {w w1 w' : World} {X : Nat} (hb : Below w.heap.size w w1) (h : Two w1 w' X X) (hX : w.heap.size ≤ X) : Below w.heap.size w w' := Two.below hb h hb.size hX hX
set_option maxHeartbeats 1000000 in
theorem parse_prog (w : World) (s : ByteArray) {n : Nat} (hn : 260 ≤ n) :
    Calls Try.prog 35 #[.string s] w fun e w' => ParTold w w' e (parseM n (strL s)) := by
  have hl := strL_length s
  by_cases hb : 64 < s.size
  · have HN := Lib.hid (show parseM n (strL s) = (3, .row []) by unfold parseM; rw [if_pos (by omega)])
    clear hl
    go_enter Try.func35, Try.ntmps35
    go_wp2_with fail
    go_ret2
    rw [HN.out]
    exact ⟨Below.refl _ _, _, rfl, fun h => by cases h⟩
  · have hR : Rdr (w.alloc (.cells #[.string s, .int .i64 0, .int .i64 0] 69)) w.heap.size (strL s) 0 0 := ⟨s, rfl, Row.new w _ _⟩
    have HP := Lib.hid ((all_read 64).1 n (by omega) _ _ _ 0 0 hR (Nat.le_refl _) (by omega) (by omega))
    have HB := Lib.hid (below_one w (.cells #[.string s, .int .i64 0, .int .i64 0] 69))
    have HQ := Lib.hid (show parseM n (strL s) = (match patM n (strL s) with | none => (14, .row []) | some (ls, y, d) => if y.isEmpty then (if 8 < d then (15, .row []) else (0, .alt ls)) else (14, .row [])) by unfold parseM; rw [if_neg (by omega)]; cases patM n (strL s) <;> rfl)
    clear hl hR
    cases hq : patM n (strL s) with
    | none =>
      rw [show patR n (strL s) = none by unfold patR; rw [hq]; rfl] at HP
      rw [hq] at HQ
      go_enter Try.func35, Try.ntmps35
      go_wp2_with (go_at_call 51; refine HP.out.mono ?_; rintro e w2 ⟨ht2, hr2, v2, rfl⟩; have HT2 := Lib.hid ht2; clear hr2 ht2)
      go_ret2
      rw [HQ.out]
      exact ⟨two_fresh HB.out HT2.out (Nat.le_refl _), _, rfl, fun h => by cases h⟩
    | some q =>
      obtain ⟨ls, y, d⟩ := q
      rw [show patR n (strL s) = some (.alt ls, y, d) by unfold patR; rw [hq]; rfl] at HP
      rw [hq] at HQ
      simp only at HQ
      cases y with
      | cons c t =>
        simp only [List.isEmpty_cons, Bool.false_eq_true, if_false] at HQ
        go_enter Try.func35, Try.ntmps35
        go_wp2_with (go_at_call 51; refine HP.out.mono ?_; rintro e w2 ⟨ht2, ⟨s2, hs2, hr2⟩, v2, M2, rfl, hN2, hM2⟩
                     have c0 : w2.cell? ⟨w.heap.size, 0, none⟩ = some (.string s2) := hr2.cell 0
                     have e1 : (s2.toList == []) = false := by rw [empty_text hs2]; simp
                     have HT2 := Lib.hid ht2; clear hr2 ht2 hs2 hN2 hM2)
        go_ret2
        rw [HQ.out]
        exact ⟨two_fresh HB.out HT2.out (Nat.le_refl _), _, rfl, fun h => by cases h⟩
      | nil =>
        simp only [List.isEmpty_nil, if_true] at HQ
        by_cases hd : 8 < d
        · rw [if_pos hd] at HQ
          go_enter Try.func35, Try.ntmps35
          go_wp2_with (go_at_call 51; refine HP.out.mono ?_; rintro e w2 ⟨ht2, ⟨s2, hs2, hr2⟩, v2, M2, rfl, hN2, hM2⟩
                       have c0 : w2.cell? ⟨w.heap.size, 0, none⟩ = some (.string s2) := hr2.cell 0
                       have c2 : w2.cell? ⟨w.heap.size, 2, none⟩ = some (.int .i64 (d : Int)) := by have := hr2.cell 2; rw [show max 0 (0 + d) = d by omega] at this; exact this
                       have e1 : (s2.toList == []) = true := by rw [empty_text hs2]; simp
                       have HT2 := Lib.hid ht2; clear hr2 ht2 hs2 hN2 hM2)
          go_ret2
          rw [HQ.out]
          exact ⟨two_fresh HB.out HT2.out (Nat.le_refl _), _, rfl, fun h => by cases h⟩
        · rw [if_neg hd] at HQ
          go_enter Try.func35, Try.ntmps35
          go_wp2_with (go_at_call 51; refine HP.out.mono ?_; rintro e w2 ⟨ht2, ⟨s2, hs2, hr2⟩, v2, M2, rfl, hN2, hM2⟩
                       have c0 : w2.cell? ⟨w.heap.size, 0, none⟩ = some (.string s2) := hr2.cell 0
                       have c2 : w2.cell? ⟨w.heap.size, 2, none⟩ = some (.int .i64 (d : Int)) := by have := hr2.cell 2; rw [show max 0 (0 + d) = d by omega] at this; exact this
                       have e1 : (s2.toList == []) = true := by rw [empty_text hs2]; simp
                       have HN2 := Lib.hid hN2
                       have HM2 := Lib.hid hM2
                       have HT2 := Lib.hid ht2; clear hr2 ht2 hs2 hN2 hM2)
          go_ret2
          rw [HQ.out]
          exact ⟨two_fresh HB.out HT2.out (Nat.le_refl _), _, rfl, fun _ => ⟨M2, HN2.out, fun k hk => Nat.le_trans HB.out.size (HM2.out k hk)⟩⟩
theorem check_prog (w : World) (s : ByteArray) {n : Nat} (hn : 260 ≤ n) :
    Calls Try.prog 16 #[.string s] w fun e w' => e = .returned (.int .i64 (parseM n (strL s)).1) ∧ Below w.heap.size w w' := by
  have HP := Lib.hid (parse_prog w s hn)
  go_enter Try.func16, Try.ntmps16
  go_wp2_with (go_at_call 35; refine HP.out.mono ?_; rintro e w1 ⟨hb1, v1, rfl, hv1⟩)
  go_ret
  exact ⟨rfl, hb1⟩
set_option maxHeartbeats 1000000 in
theorem fits_prog (w : World) (p s : ByteArray) {n : Nat} (hn : 260 ≤ n) :
    Calls Try.prog 19 #[.string p, .string s] w fun e w' => e = .returned (.tuple #[.bool (fitV n (strL p) (strL s)).1, .int .i64 (fitV n (strL p) (strL s)).2]) ∧ Below w.heap.size w w' := by
  have HP := Lib.hid (parse_prog w p hn)
  have hl := strL_length s
  generalize hq : parseM n (strL p) = q at HP
  obtain ⟨c, r⟩ := q
  by_cases h0 : c = 0
  · subst h0
    by_cases hb : 64 < s.size
    · have HV := Lib.hid (show fitV n (strL p) (strL s) = (false, 3) by unfold fitV; rw [hq]; simp only [if_true]; rw [if_pos (by omega)])
      clear hq hl
      go_enter Try.func19, Try.ntmps19
      go_wp2_with (go_at_call 35; refine HP.out.mono ?_; rintro e w1 ⟨hb1, v1, rfl, hv1⟩)
      go_ret2
      rw [HV.out]
      exact ⟨rfl, hb1⟩
    · have HV := Lib.hid (show fitV n (strL p) (strL s) = (fitsM r (strL s), 0) by unfold fitV; rw [hq]; simp only [if_true]; rw [if_neg (by omega)])
      clear hq hl
      go_enter Try.func19, Try.ntmps19
      go_wp2_with (first
        | (go_at_call 38; refine HF.out.mono ?_; rintro e w2 ⟨rfl, ht2⟩; have HT2 := Lib.hid ht2; clear ht2)
        | (go_at_call 35; refine HP.out.mono ?_; rintro e w1 ⟨hb1, v1, rfl, hv1⟩
           obtain ⟨M, hN, hM⟩ := hv1 rfl
           have HF := Lib.hid (fitsI_prog hN s (by omega))
           have HM := Lib.hid hM
           clear hN hM hv1))
      go_ret2
      rw [HV.out]
      refine ⟨rfl, ⟨HT2.out.os.trans hb1.os, HT2.out.tape.trans hb1.tape, HT2.out.output.trans hb1.output, Nat.le_trans hb1.size HT2.out.size, fun k hk => (HT2.out.block k (Nat.lt_of_lt_of_le hk hb1.size) (fun hm => by have := HM.out k hm; omega)).trans (hb1.block k hk)⟩⟩
  · have HV := Lib.hid (show fitV n (strL p) (strL s) = (false, c) by unfold fitV; rw [hq]; simp only [h0, if_false])
    have d0 : (c == 0) = false := by rw [beq_eq_false_iff_ne]; exact h0
    clear hq hl
    go_enter Try.func19, Try.ntmps19
    go_wp2_with (go_at_call 35; refine HP.out.mono ?_; rintro e w1 ⟨hb1, v1, rfl, hv1⟩)
    go_ret2
    rw [HV.out]
    exact ⟨rfl, hb1⟩
end Go.Proofs.Ytjljfilflajogaa
