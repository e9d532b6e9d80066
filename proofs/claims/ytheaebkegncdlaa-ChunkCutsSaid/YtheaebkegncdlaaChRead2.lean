/- Samples read out of a chunk's numbers, wherever the reading gives up. -/
import Derived.Test.YtheaebkegncdlaaChRead
import Derived.RegionDies
namespace Go.Proofs.Ytheaebkegncdlaa
open Go.RowKit Go.Maps
set_option linter.unusedVariables false

/-- No chunk of any samples. -/
def NoChunk (b : List UInt8) : Prop := ∀ lw, chk lw = 0 → encL lw ≠ b
/-- What reading tells: samples out of numbers that stand there, or that b is no chunk. -/
def ReadTold (w : World) (X : Nat) (A : Option Addr) (b : List UInt8) (c base : Nat) (e : Ending) (w' : World) : Prop :=
  (∃ v l us, e = .returned v ∧ OwnS w' base v l ∧ l.length ≤ 120 ∧ Rd w' X A b c (endN 0 us) ∧ Stand b 0 us ∧ (Good l → us = nums l) ∧ (∀ lw, chk lw = 0 → encL lw = b → l = lw)) ∨ (e = .panicked broken ∧ NoChunk b)

/-- Where the reading of k samples has come to: the samples l, of the numbers us, the last distance d. -/
structure At5 (b : List UInt8) (n k : Nat) (l : List Smp) (us : List Nat) (d : Int) : Prop where
  len : l.length = k
  le : k ≤ n
  n120 : n ≤ 120
  st : Stand b 0 (n :: us)
  good : Good l → us = body l k ∧ d = preD l k
  wit : ∀ lw, chk lw = 0 → encL lw = b → lw.length = n ∧ l = lw.take k
theorem stand_end {b : List UInt8} (us : List Nat) : ∀ p, p ≤ 8 * b.length → Stand b p us → endN p us ≤ 8 * b.length := by
  induction us with
  | nil => intro p h _; exact h
  | cons x r ih => intro p h hs; exact ih _ hs.2.1 hs.2.2.2
theorem At5.pos {b : List UInt8} {n k : Nat} {l : List Smp} {us : List Nat} {d : Int} (h : At5 b n k l us d) : endN 0 (n :: us) ≤ 8 * b.length := stand_end _ 0 (Nat.zero_le _) h.st
theorem At5.first {b : List UInt8} {n : Nat} (hn : n ≤ 120) (hs : Stand b 0 [n]) : At5 b n 0 [] [] 0 :=
  ⟨rfl, Nat.zero_le _, hn, hs, fun _ => ⟨rfl, rfl⟩, fun lw h1 h2 => ⟨by
    have h3 := wit_count h1
    rw [h2] at h3
    have h4 : gnum b ((8 * b.length : Nat) : Int) ((0 : Nat) : Int) = _ := stand_read hs
    rw [h4] at h3
    simp only [Prod.mk.injEq] at h3
    exact h3.1.symm, by simp⟩⟩
theorem At5.posw {b : List UInt8} {n k : Nat} {l : List Smp} {us : List Nat} {d : Int} (h : At5 b n k l us d) {lw : List Smp} (h1 : chk lw = 0) (h2 : encL lw = b) : us = body lw k ∧ d = preD (lw.take k) k := by
  obtain ⟨e1, e2⟩ := h.wit lw h1 h2
  obtain ⟨_, _, hg⟩ := chk_zero.1 h1
  have hgl : Good l := by
    rw [e2]
    intro i hi
    rw [List.length_take] at hi
    have := hg i (by omega)
    unfold tOf at this ⊢
    rw [getD_in (lw.take k) _ (by rw [List.length_take]; omega), List.getElem_take]
    rw [getD_in lw _ (by omega)] at this
    refine ⟨this.1, fun h0 => ?_⟩
    have h3 := this.2 h0
    rw [getD_in (lw.take k) _ (by rw [List.length_take]; omega), List.getElem_take]
    rw [getD_in lw _ (by omega)] at h3
    exact h3
  obtain ⟨e3, e4⟩ := h.good hgl
  rw [e2] at e3 e4
  refine ⟨e3.trans ?_, e4⟩
  have hk : k ≤ lw.length := by have := h.le; omega
  have : ∀ m, m ≤ k → body (lw.take k) m = body lw m := by
    intro m hm
    have hh : lw = lw.take k ++ lw.drop k := (List.take_append_drop k lw).symm
    clear e3 e4 e2 h2 h1
    induction m with
    | zero => rfl
    | succ m ih =>
      unfold body
      rw [ih (by omega)]
      congr 1
      have ht : ∀ i, i < k → tOf (lw.take k) i = tOf lw i ∧ vOf (lw.take k) i = vOf lw i := by
        intro i hi
        unfold tOf vOf
        rw [getD_in (lw.take k) _ (by rw [List.length_take]; omega), List.getElem_take, getD_in lw _ (by omega)]
        exact ⟨rfl, rfl⟩
      have hpt : ∀ i, i ≤ k → preT (lw.take k) i = preT lw i ∧ preV (lw.take k) i = preV lw i := by
        intro i hi
        unfold preT preV
        split
        · exact ⟨rfl, rfl⟩
        · exact ht _ (by omega)
      have hd : ∀ i, i < k → dist (lw.take k) i = dist lw i := by
        intro i hi
        unfold dist
        rw [(ht i hi).1, (hpt i (by omega)).1]
      have hpd : ∀ i, i ≤ k → preD (lw.take k) i = preD lw i := by
        intro i hi
        unfold preD
        split
        · rfl
        · exact hd _ (by omega)
      unfold tnum vnum
      rw [hd m (by omega), hpd m (by omega), (ht m (by omega)).2, (hpt m (by omega)).2]
  exact this k (Nat.le_refl _)
/-- One sample more. -/
theorem At5.next {b : List UInt8} {n k : Nat} {l : List Smp} {us : List Nat} {d : Int} {u v : Nat} (h : At5 b n k l us d) (hk : k < n) (hu : Stand b (endN 0 (n :: us)) [u]) (hv : Stand b (endN 0 (n :: us) + (7 + digs u)) [v]) :
    At5 b n (k + 1) (l ++ [newS l d u v]) (us ++ [u, v]) (newD k d u) := by
  have hl := h.len
  have hst : Stand b 0 (n :: (us ++ [u, v])) := by
    have e : n :: (us ++ [u, v]) = (n :: us) ++ [u, v] := rfl
    rw [e, stand_app]
    exact ⟨h.st, hu.1, hu.2.1, hu.2.2.1, hv⟩
  refine ⟨by rw [List.length_append, hl]; rfl, hk, h.n120, hst, fun hg => ?_, fun lw h1 h2 => ?_⟩
  · have := step_good (us := us) hu.2.2.1 hv.2.2.1 (by rw [hl]; exact h.good) hg
    rw [hl] at this
    exact this
  · obtain ⟨e1, e2⟩ := h.wit lw h1 h2
    obtain ⟨e3, e4⟩ := h.posw h1 h2
    obtain ⟨_, _, hg⟩ := chk_zero.1 h1
    refine ⟨e1, ?_⟩
    have w1 := wit_stand h1 (i := k) (by omega)
    obtain ⟨r, hr⟩ := w1
    rw [h2, e1, ← e3] at hr
    have eu : u = tnum lw k := has_one hu.1 hr.1 hu.2.2.1 hr.2.2.1
    have ev : v = vnum lw k := by
      have hr2 := hr.2.2.2
      rw [← eu] at hr2
      exact has_one hv.1 hr2.1 hv.2.2.1 hr2.2.2.1
    have w2 := (step_wit hg (i := k) (by omega)).1
    have e5 : newS l d u v = lw.getD k (0, 0) := by
      rw [e4, eu, ev, e2]
      exact w2
    have hkl : k < lw.length := by omega
    rw [List.take_succ_eq_append_getElem hkl, e5, getD_in _ _ hkl, e2]
/-- Where the next number can't be read, b is no chunk. -/
theorem At5.noT {b : List UInt8} {n k : Nat} {l : List Smp} {us : List Nat} {d : Int} {code : Int} (h : At5 b n k l us d) (hk : k < n) (hc : (code != 0) = true) (hg : gnum b ((8 * b.length : Nat) : Int) ((endN 0 (n :: us) : Nat) : Int) = (0, 0, code)) : NoChunk b := by
  intro lw h1 h2
  obtain ⟨e1, e2⟩ := h.wit lw h1 h2
  obtain ⟨e3, _⟩ := h.posw h1 h2
  have := wit_t h1 (i := k) (by omega)
  rw [h2, e1, ← e3, hg] at this
  simp only [Prod.mk.injEq] at this
  exact absurd this.2.2 (bne_iff_ne.1 hc)
theorem At5.noV {b : List UInt8} {n k : Nat} {l : List Smp} {us : List Nat} {d : Int} {code : Int} {u : Nat} (h : At5 b n k l us d) (hk : k < n) (hu : Stand b (endN 0 (n :: us)) [u]) (hc : (code != 0) = true) (hg : gnum b ((8 * b.length : Nat) : Int) ((endN 0 (n :: us) + (7 + digs u) : Nat) : Int) = (0, 0, code)) : NoChunk b := by
  intro lw h1 h2
  obtain ⟨e1, e2⟩ := h.wit lw h1 h2
  obtain ⟨e3, _⟩ := h.posw h1 h2
  obtain ⟨r, hr⟩ := wit_stand h1 (i := k) (by omega)
  rw [h2, e1, ← e3] at hr
  have eu : u = tnum lw k := has_one hu.1 hr.1 hu.2.2.1 hr.2.2.1
  have := wit_v h1 (i := k) (by omega)
  rw [h2, e1, ← e3, ← eu, hg] at this
  simp only [Prod.mk.injEq] at this
  exact absurd this.2.2 (bne_iff_ne.1 hc)
theorem no_first {b : List UInt8} {code : Int} (hc : (code != 0) = true) (hg : gnum b ((8 * b.length : Nat) : Int) ((0 : Nat) : Int) = (0, 0, code)) : NoChunk b := by
  intro lw h1 h2
  have := wit_count h1
  rw [h2, hg] at this
  simp only [Prod.mk.injEq] at this
  exact absurd this.2.2 (bne_iff_ne.1 hc)
theorem no_many {b : List UInt8} {u : Nat} (hu : Stand b 0 [u]) (h : 120 < u) : NoChunk b := by
  intro lw h1 h2
  have h3 := wit_count h1
  rw [h2] at h3
  have h4 : gnum b ((8 * b.length : Nat) : Int) ((0 : Nat) : Int) = _ := stand_read hu
  rw [h4] at h3
  simp only [Prod.mk.injEq] at h3
  have := (chk_zero.1 h1).2.1
  omega

theorem owns_two {w w' : World} {F X : Nat} {v : Value} {l : List Smp} (h : OwnS w (F + 1) v l) (ht : Two w w' X X) (hX : X ≤ F) : OwnS w' (F + 1) v l :=
  rows_move h fun k hk => by have := World.ownsRow.lt h k hk; exact ht.block k this.2 (by omega) (by omega)
theorem owns_set {w : World} {F : Nat} {v : Value} {l : List Smp} (h : OwnS w (F + 1) v l) (i : Nat) (u : Value) : OwnS (w.setCell ⟨F, i, none⟩ u) (F + 1) v l :=
  rows_move h fun k hk => by have := World.ownsRow.lt h k hk; exact Below.heap_setCell w ⟨F, i, none⟩ u k (by show k ≠ F; omega)

set_option maxRecDepth 20000 in
set_option maxHeartbeats 2000000 in
theorem read_prog {w : World} {X base : Nat} {A : Option Addr} {b : List UInt8} {c : Nat} (h : Rd w X A b c 0) (hA : ∀ W, Below base w W → Bys W A b) (hX : base ≤ X) (hl : b.length ≤ 140737488355328) :
    Calls Try.prog 48 #[.func (.func 49) #[.pointer (some ⟨X, 0, none⟩)] #[]] w fun e w' => ReadTold w X A b c base e w' ∧ Below base w w' := by
  have HA := Lib.hid hA
  have hXl := h.lt
  clear hA
  have hg0 : (0 : Nat) ≤ 8 * b.length := Nat.zero_le _
  rcases read_stand (p := 0) hg0 with ⟨code, hc, hg⟩ | ⟨n, hsn, hg⟩
  · have HN := Lib.hid (rnum_no h (HA.out w (Below.refl _ _)) hl hc hg)
    have HNo := Lib.hid (no_first hc hg)
    clear hg h hc
    go_enter Try.func48, Try.ntmps48
    go_wp2_with fail
    refine HN.out.mono ?_
    rintro e w1 ⟨rfl, hb1⟩
    go_wp2_with fail
    exact ⟨rfl, .inr ⟨rfl, HNo.out⟩, Two.below (Below.refl base w) hb1 (by omega) hX hX⟩
  have HN := Lib.hid (rnum_yes (q := 0 + (7 + digs n)) h (HA.out w (Below.refl _ _)) hl hg)
  clear hg h
  have hn64 := hsn.2.2.1
  by_cases hn : 120 < n
  · have HNo := Lib.hid (no_many hsn hn)
    have i1 : decide ((n : Int) ≤ 120) = false := by simp; omega
    clear hsn
    go_enter Try.func48, Try.ntmps48
    go_wp2_with fail
    refine HN.out.mono ?_
    rintro e w1 ⟨rfl, hr1, hb1⟩
    go_wp2_with fail
    refine (must_no _).mono ?_
    rintro e w2 ⟨rfl, rfl⟩
    go_wp2_with fail
    exact ⟨rfl, .inr ⟨rfl, HNo.out⟩, Two.below (Below.refl base w) hb1 (by omega) hX hX⟩
  have i1 : decide ((n : Int) ≤ 120) = true := by simp; omega
  have H0 := Lib.hid (At5.first (by omega) hsn)
  have he0 : 0 + (7 + digs n) = endN 0 (n :: []) := rfl
  rw [he0] at HN
  have wn : IntKind.i64.wrap (n : Int) = (n : Int) := IntWalk.i64_in _ (by omega)
  clear hsn he0
  go_enter Try.func48, Try.ntmps48
  go_wp2_with fail
  refine HN.out.mono ?_
  rintro e w1 ⟨rfl, hr1, hb1⟩
  have hB1 : Below base w w1 := Two.below (Below.refl base w) hb1 (by omega) hX hX
  have hs1 := hb1.size
  have hF : Row (w1.alloc (.cells #[.int .i64 0, .int .i64 0] 44)) w1.heap.size 44 #[.int .i64 0, .int .i64 0] := Row.new w1 _ _
  have hr2 : Rd (w1.alloc (.cells #[.int .i64 0, .int .i64 0] 44)) X A b c (endN 0 [n]) := hr1.alloc _
  have hB2 := hB1.alloc (by omega) (.cells #[.int .i64 0, .int .i64 0] 44)
  have hXF : X < w1.heap.size := by omega
  generalize hFF : w1.heap.size = F at *
  clear hr1 hb1 hB1 HN
  go_wp2_with fail
  refine (must_yes _).mono ?_
  rintro e w2 ⟨rfl, rfl⟩
  go_wp2_with fail
  go_loopw [4, 6, 16] (fun vl d i wr => ∃ (k : Nat) (l : List Smp) (us : List Nat) (dd : Int) (P : Option Addr) (cc : Nat), i = .int .i64 (k : Int) ∧ d = .int .i64 dd ∧ vl = .slice P l.length cc ∧ OwnS wr (F + 1) (.slice P l.length cc) l ∧
    Row wr F 44 #[.int .i64 (preT l k), .int .i64 (preV l k)] ∧ Rd wr X A b c (endN 0 (n :: us)) ∧ At5 b n k l us dd ∧ Below base w wr) (fun _ _ i _ => n - (intOf i).toNat)
  case atStart => exact ⟨0, [], [], 0, none, 0, rfl, rfl, rfl, owns_nil _ _, hF, hr2, H0.out, hB2⟩
  case round =>
    clear hF hr2 hB2 hFF
    obtain ⟨k, l, us, dd, P, cc, rfl, rfl, rfl, hOr, hFr, hRr, hAt, hBr⟩ := hrel
    have hsz := hBr.size
    have hle := hAt.le
    have hFl := hFr.lt
    by_cases hk : k < n
    · have i2 : (k : Int) < (n : Int) := by omega
      have hAr := HA.out wr hBr
      have hpl := plain_prog k
      have HAT := Lib.hid hAt
      rcases read_stand hAt.pos with ⟨code, hc, hg⟩ | ⟨u, hsu, hg⟩
      · have HNo := Lib.hid (hAt.noT hk hc hg)
        have HNU := Lib.hid (rnum_no hRr hAr hl hc hg)
        clear hg hc hAt hOr hFr hRr
        by_cases hk2 : k < 2
        · have HP := Lib.hid (fun W => by have := hpl W (by omega); rw [decide_eq_true hk2] at this; exact this)
          clear hpl
          go_wp2_with fail
          refine (HP.out _).mono ?_
          rintro e w2 ⟨rfl, rfl⟩
          go_wp2_with fail
          refine HNU.out.mono ?_
          rintro e w2 ⟨rfl, ht2⟩
          go_wp2_with fail
          exact ⟨rfl, .inr ⟨rfl, HNo.out⟩, Two.below hBr ht2 (by omega) hX hX⟩
        · have HP := Lib.hid (fun W => by have := hpl W (by omega); rw [decide_eq_false hk2] at this; exact this)
          clear hpl
          go_wp2_with fail
          refine (HP.out _).mono ?_
          rintro e w2 ⟨rfl, rfl⟩
          go_wp2_with fail
          refine HNU.out.mono ?_
          rintro e w2 ⟨rfl, ht2⟩
          go_wp2_with fail
          exact ⟨rfl, .inr ⟨rfl, HNo.out⟩, Two.below hBr ht2 (by omega) hX hX⟩
      · have HNU := Lib.hid (rnum_yes (q := endN 0 (n :: us) + (7 + digs u)) hRr hAr hl hg)
        have hq1 : endN 0 (n :: us) + (7 + digs u) ≤ 8 * b.length := hsu.2.1
        have HLL := Lib.hid hAt.len
        have HZU := Lib.hid (fun W => zag_prog u W hsu.2.2.1)
        generalize hpt : preT l k = PT at *
        generalize hpv : preV l k = PV at *
        have HPT := Lib.hid hpt
        have HPV := Lib.hid hpv
        have HK := Lib.hid (fun w2 (ht2 : Two wr w2 X X) => (⟨(ht2.block F hFr.lt (by omega) (by omega)).trans hFr, owns_two hOr ht2 (by omega), Two.below hBr ht2 (by omega) hX hX, HA.out w2 (Two.below hBr ht2 (by omega) hX hX)⟩ :
          Row w2 F 44 #[.int .i64 PT, .int .i64 PV] ∧ OwnS w2 (F + 1) (.slice P l.length cc) l ∧ Below base w w2 ∧ Bys w2 A b))
        clear hg hAt hOr hFr hRr hpt hpv
        have HP := Lib.hid (fun W => hpl W (by omega))
        clear hpl
        go_upto_if 20 with (go_at_call 42; refine (HP.out _).mono ?_; rintro e w2 ⟨rfl, rfl⟩)
        go_cut [6] (fun s6 wx => s6 = .int .i64 (newD k dd u) ∧ Row wx F 44 #[.int .i64 PT, .int .i64 PV] ∧ OwnS wx (F + 1) (.slice P l.length cc) l ∧ Rd wx X A b c (endN 0 (n :: us) + (7 + digs u)) ∧ Below base w wx)
        case first =>
          by_cases hk2 : k < 2
          · rw [decide_eq_true hk2]
            have HDN := Lib.hid (show newD k dd u = IntKind.i64.wrap (u : Int) by unfold newD; rw [if_pos hk2]; rfl)
            generalize newD k dd u = D at *
            have hD : IntKind.i64.wrap (u : Int) = D := HDN.out.symm
            have hD' : wrap64 (u : Int) = D := by rw [← IntWalk.i64_left]; exact hD
            clear HDN
            go_wp2_with fail
            refine HNU.out.mono ?_
            rintro e w2 ⟨rfl, hr2, ht2⟩
            have HK2 := Lib.hid (HK.out w2 ht2)
            go_wp2_with fail
            go_meet
            exact ⟨rfl, HK2.out.1, HK2.out.2.1, hr2, HK2.out.2.2.1⟩
          · rw [decide_eq_false hk2]
            have HDN := Lib.hid (show newD k dd u = IntKind.i64.wrap (dd + zag u) by unfold newD; rw [if_neg hk2]; rfl)
            generalize newD k dd u = D at *
            generalize zag u = zu at *
            have hD : IntKind.i64.wrap (dd + zu) = D := HDN.out.symm
            have hD' : wrap64 (dd + zu) = D := by rw [← IntWalk.i64_left]; exact hD
            clear HDN
            go_wp2_with fail
            refine HNU.out.mono ?_
            rintro e w2 ⟨rfl, hr2, ht2⟩
            have HK2 := Lib.hid (HK.out w2 ht2)
            go_wp2_with fail
            refine (HZU.out _).mono ?_
            rintro e w2 ⟨rfl, rfl⟩
            go_wp2_with fail
            go_meet
            exact ⟨rfl, HK2.out.1, HK2.out.2.1, hr2, HK2.out.2.2.1⟩
        case rest =>
          obtain ⟨rfl, hF2, hO2, hr2, hB2⟩ := hcut
          have hA2 := HA.out wc hB2
          have f0 : wc.cell? ⟨F, 0, none⟩ = some (.int .i64 PT) := hF2.cell 0
          have f1 : wc.cell? ⟨F, 1, none⟩ = some (.int .i64 PV) := hF2.cell 1
          have hFl2 := hF2.lt
          generalize hDD : newD k dd u = D at *
          have HDN := Lib.hid hDD
          clear hDD HNU HK HZU HP hAr
          rcases read_stand hq1 with ⟨code, hc2, hg2⟩ | ⟨v, hsv, hg2⟩
          · have HNo := Lib.hid (HAT.out.noV hk hsu hc2 hg2)
            have HN2 := Lib.hid (rnum_no (w := wc.drew) hr2 hA2 hl hc2 hg2)
            have HB2d := Lib.hid (show Below base w wc.drew from hB2.drew)
            have HBs := Lib.hid (show base ≤ wc.drew.heap.size from Nat.le_trans (by omega) hB2.size)
            have HF2k := Lib.hid (fun w3 (ht3 : Two wc.drew w3 X X) => (show Row w3 F 44 #[.int .i64 PT, .int .i64 PV] from (ht3.block F hF2.lt (by omega) (by omega)).trans hF2))
            clear hr2 hA2 hO2 hF2 hg2
            go_wp2_with fail
            go_region_dies
            all_goals
              refine HN2.out.mono ?_
              rintro e w3 ⟨rfl, ht3⟩
              exact ⟨rfl, .inr ⟨rfl, HNo.out⟩, Two.below HB2d.out ht3 HBs.out hX hX⟩
          · have HNX := Lib.hid (HAT.out.next hk hsu hsv)
            have HNS := Lib.hid (show newS l dd u v = (IntKind.i64.wrap (PT + D), IntKind.i64.wrap (PV + zag v)) by
              unfold newS
              rw [HLL.out, HPT.out, HPV.out, HDN.out]
              rfl)
            have HZV := Lib.hid (fun W => zag_prog v W hsv.2.2.1)
            obtain ⟨T, hT⟩ : ∃ T, IntKind.i64.wrap (PT + D) = T := ⟨_, rfl⟩
            generalize zag v = zv at *
            obtain ⟨V, hV⟩ : ∃ V, IntKind.i64.wrap (PV + zv) = V := ⟨_, rfl⟩
            have hT' : wrap64 (PT + D) = T := by rw [← IntWalk.i64_left]; exact hT
            have hV' : wrap64 (PV + zv) = V := by rw [← IntWalk.i64_left]; exact hV
            rw [hT, hV] at HNS
            have HN2 := Lib.hid (rnum_yes (w := wc.drew) (q := endN 0 (n :: us) + (7 + digs u) + (7 + digs v)) hr2 hA2 hl hg2)
            have HK2 := Lib.hid (fun w3 (ht3 : Two wc.drew w3 X X) => (⟨(ht3.block F hF2.lt (by omega) (by omega)).trans hF2, owns_two (w := wc.drew) hO2 ht3 (by omega), Two.below (show Below base w wc.drew from hB2.drew) ht3 (Nat.le_trans (by omega) hB2.size) hX hX⟩ :
              Row w3 F 44 #[.int .i64 PT, .int .i64 PV] ∧ OwnS w3 (F + 1) (.slice P l.length cc) l ∧ Below base w w3))
            clear hr2 hA2 hO2 hF2 hg2 hB2
            go_wp2_with fail
            have HF0 := Lib.hid (show ∀ w3 : World, Row w3 F 44 #[.int .i64 PT, .int .i64 PV] ∧ OwnS w3 (F + 1) (.slice P l.length cc) l ∧ Below base w w3 → Rd w3 X A b c (endN 0 (n :: us) + (7 + digs u) + (7 + digs v)) →
              Row ((w3.setCell ⟨F, 0, none⟩ (.int .i64 T)).setCell ⟨F, 1, none⟩ (.int .i64 V)) F 44 #[.int .i64 T, .int .i64 V] ∧ OwnS ((w3.setCell ⟨F, 0, none⟩ (.int .i64 T)).setCell ⟨F, 1, none⟩ (.int .i64 V)) (F + 1) (.slice P l.length cc) l ∧
              Rd ((w3.setCell ⟨F, 0, none⟩ (.int .i64 T)).setCell ⟨F, 1, none⟩ (.int .i64 V)) X A b c (endN 0 (n :: us) + (7 + digs u) + (7 + digs v)) ∧ Below base w ((w3.setCell ⟨F, 0, none⟩ (.int .i64 T)).setCell ⟨F, 1, none⟩ (.int .i64 V)) from fun w3 k1 k2 =>
                ⟨(k1.1.setAt 0 (.int .i64 T)).setAt 1 (.int .i64 V), owns_set (owns_set k1.2.1 0 (.int .i64 T)) 1 (.int .i64 V), Row.setFar (Row.setFar k2 (p := ⟨F, 0, none⟩) (by show X ≠ F; omega) (.int .i64 T)) (p := ⟨F, 1, none⟩) (by show X ≠ F; omega) (.int .i64 V),
                  (k1.2.2.setCell (p := ⟨F, 0, none⟩) (by show base ≤ F; omega) (.int .i64 T)).setCell (p := ⟨F, 1, none⟩) (by show base ≤ F; omega) (.int .i64 V)⟩)
            go_cut [6] (fun s6 wx => s6 = .int .i64 D ∧ Row wx F 44 #[.int .i64 T, .int .i64 V] ∧ OwnS wx (F + 1) (.slice P l.length cc) l ∧ Rd wx X A b c (endN 0 (n :: us) + (7 + digs u) + (7 + digs v)) ∧ Below base w wx)
            case first =>
              clear HAT HNX HNS HDN HLL HA H0 hsu hsv hq1
              go_region_with (first
                | (go_at_call 49
                   refine HN2.out.mono ?_
                   rintro e w3 ⟨rfl, hr3, ht3⟩
                   have HK3 := Lib.hid (HK2.out w3 ht3)
                   have hF3 := HK3.out.1
                   have y0 : w3.cell? ⟨F, 0, none⟩ = some (.int .i64 PT) := hF3.cell 0
                   have y1 : w3.cell? ⟨F, 1, none⟩ = some (.int .i64 PV) := hF3.cell 1
                   have z0 := hF3.frozen 0
                   have z1 := hF3.frozen 1
                   have HR3 := Lib.hid hr3
                   clear hF3 hr3 ht3)
                | (go_at_call 60
                   refine (HZV.out _).mono ?_
                   rintro e w4 ⟨rfl, rfl⟩))
              all_goals (go_wp2_with fail; go_meet)
              all_goals exact ⟨rfl, HF0.out _ HK3.out HR3.out⟩
            case rest =>
              obtain ⟨rfl, hF5, hO5, hR5, hB5⟩ := hcut
              have f0 : wc.cell? ⟨F, 0, none⟩ = some (.int .i64 T) := hF5.cell 0
              have f1 : wc.cell? ⟨F, 1, none⟩ = some (.int .i64 V) := hF5.cell 1
              have hFl5 := hF5.lt
              have HO6 := Lib.hid (owns_below hO5 (below_one wc (.cells #[.int .i64 T, .int .i64 V] 44)))
              have HS6 := Lib.hid (smps_cell (Row.new wc 44 #[.int .i64 T, .int .i64 V]))
              have hFs : F + 1 ≤ (wc.alloc (.cells #[.int .i64 T, .int .i64 V] 44)).heap.size := by simp; omega
              have HL6 := Lib.hid (show (l.length + [(T, V)].length) * 16 ≤ 140737488355328 by have := HLL.out; simp; omega)
              have HF6 := Lib.hid (hF5.alloc (.cells #[.int .i64 T, .int .i64 V] 44))
              have HR6 := Lib.hid (show Rd (wc.alloc (.cells #[.int .i64 T, .int .i64 V] 44)) X A b c (endN 0 (n :: us) + (7 + digs u) + (7 + digs v)) from hR5.alloc _)
              have HB6 := Lib.hid (hB5.alloc (Nat.le_trans (by omega) hB5.size) (.cells #[.int .i64 T, .int .i64 V] 44))
              clear hF5 hO5 hR5 hB5
              go_wp2_with (at_builtin; refine app_smps rfl (.tmp 40) (.tmp 42) rfl (F + 1) (.slice P l.length cc) l rfl HO6.out (some ⟨wc.heap.size, 0, none⟩) [(T, V)] 1 rfl HS6.out HL6.out hFs ?_; intro v7 w7 hO7 hb7 _; have HO7 := Lib.hid hO7; have HB7 := Lib.hid hb7; obtain ⟨P7, c7, hv7, _, _, _⟩ := owns_slice hO7; generalize hl7 : (l ++ [(T, V)]).length = l7 at hv7; have HLL7 := Lib.hid hl7; subst hv7; clear hO7 hb7 hl7)
              go_roundw
              case rel =>
                have hx := HNX.out
                rw [HNS.out] at hx
                refine ⟨k + 1, l ++ [(T, V)], us ++ [u, v], newD k dd u, P7, c7, by go_num, by rw [HDN.out], by rw [HLL7.out], by rw [HLL7.out]; exact HO7.out, ?_, ?_, hx, HB6.out.trans (HB7.out.mono (by omega))⟩
                · have e1 : preT (l ++ [(T, V)]) (k + 1) = T := by
                    show tOf (l ++ [(T, V)]) k = T
                    rw [← HLL.out, tOf_new]
                  have e2 : preV (l ++ [(T, V)]) (k + 1) = V := by
                    show vOf (l ++ [(T, V)]) k = V
                    rw [← HLL.out, vOf_new]
                  rw [e1, e2]
                  exact (HB7.out.block F (by omega)).trans HF6.out
                · have e3 : endN 0 (n :: (us ++ [u, v])) = endN 0 (n :: us) + (7 + digs u) + (7 + digs v) := by
                    have : n :: (us ++ [u, v]) = (n :: us) ++ [u, v] := rfl
                    rw [this, endN_app]
                    rfl
                  rw [e3]
                  exact (HB7.out.block X (by omega)).trans HR6.out
              case measure => simp [intOf]; omega
    · obtain rfl : k = n := by omega
      go_wp2_with fail
      go_ret
      refine ⟨.inl ⟨_, l, k :: us, rfl, owns_lower hOr (by omega), by have := hAt.len; omega, hRr, hAt.st, fun hg => ?_, fun lw h1 h2 => ?_⟩, hBr⟩
      · obtain ⟨e, _⟩ := hAt.good hg
        show k :: us = l.length :: body l l.length
        rw [hAt.len, e]
      · obtain ⟨e1, e2⟩ := hAt.wit lw h1 h2
        rw [e2, ← e1, List.take_length]
end Go.Proofs.Ytheaebkegncdlaa
