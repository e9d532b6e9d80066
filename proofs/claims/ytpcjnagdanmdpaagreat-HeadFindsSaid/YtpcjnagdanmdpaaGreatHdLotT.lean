/- In one text, written by lotify.py: HdRefDo3, HdRefDo2, HdRefDoAll. -/
import Derived.Test.YtpcjnagdanmdpaaGreatHdLotY
namespace Go.Proofs.YtpcjnagdanmdpaaGreat
open Go.RowKit Go.Maps
open Ch
set_option linter.unusedVariables false
set_option linter.unusedSimpArgs false
set_option maxRecDepth 100000
theorem hidsH_cons (n : Nat) (lo hi : Int) (h : List Ser) {l : List Int} {k : Nat} (hk : k < l.length) : idsH n lo hi h (l.drop k) = if (n : Int) ≤ l.getD k 0 then (h, 9) else idsH n lo hi (cutH h lo hi (l.getD k 0)) (l.drop (k + 1)) := by
  have e : l.getD k 0 = l[k] := by simp [List.getD_eq_getElem?_getD, hk]
  rw [e, List.drop_eq_getElem_cons hk]
  rfl
/-- What the document's list is while it is written: an own row, its parts apart from it. -/
def OutAt (T : Nat → Prop) (base : Nat) (w : World) (v : Value) (n : Nat) (h : List Ser) : Prop :=
  ∃ qs : List SPl, qs.map (·.1) = h ∧ qs.length = n ∧ w.ownsRow base 65 2 v n (qs.flatMap spE) ∧ ∀ x ∈ qs, SerT (fun k => T k ∧ v.ownBlock ≠ some k) w x
section
variable {T : Nat → Prop} {base n : Nat} {w w' : World} {v : Value} {h : List Ser}
theorem OutAt.below (ho : OutAt T base w v n h) (hb : Below w.heap.size w w') : OutAt T base w' v n h := by
  obtain ⟨qs, h1, h2, h3, h4⟩ := ho
  exact ⟨qs, h1, h2, rows_below h3 hb, fun x hx => (h4 x hx).move hb.size fun k hl _ => hb.block k hl⟩
/-- The i-th series of it. -/
theorem OutAt.at_ (ho : OutAt T base w v n h) {i : Nat} (hi : i < n) : ∃ g c m, v = .slice (some ⟨g, 0, none⟩) n c ∧ base ≤ g ∧ g < w.heap.size ∧ w.cell? ⟨g, i * 2, none⟩ = some (.slice m.la (h.getD i ser0).1.length m.lc) ∧ w.cell? ⟨g, i * 2 + 1, none⟩ = some (.slice m.sa (h.getD i ser0).2.length m.sc) ∧ w.frozen? ⟨g, i * 2 + 1, none⟩ = false ∧ SerIn w (h.getD i ser0, m) := by
  obtain ⟨qs, rfl, h2, h3, h4⟩ := ho
  have hiq : i < qs.length := by omega
  have hg : (qs.map (·.1)).getD i ser0 = (qs.getD i spl0).1 := by simp [List.getD_eq_getElem?_getD, hiq]
  have hm : qs.getD i spl0 ∈ qs := List.mem_of_getElem? (getD_some qs spl0 hiq)
  rcases h3.2 with ⟨_, h0⟩ | ⟨g, cap, cur, e1, hb, hh, hn, hx, hs, ht⟩
  · omega
  have hr : Row w g 65 cur := hh
  have key : ∀ j u, (qs.flatMap spE)[j]? = some u → j < n * 2 → w.cell? ⟨g, j, none⟩ = some u := fun j u hu hj => by
    rw [hr.cell j, ← Array.getElem?_toList, ← hu, ← ht, List.getElem?_take_of_lt hj]
  refine ⟨g, cap, (qs.getD i spl0).2, e1, hb, hr.lt, ?_, ?_, hr.frozen _, ?_⟩
  · rw [hg]
    exact key (i * 2) _ (flat_get spE 2 spE_len qs i _ 0 (getD_some qs spl0 hiq) (by omega)) (by omega)
  · rw [hg]
    exact key (i * 2 + 1) _ (flat_get spE 2 spE_len qs i _ 1 (getD_some qs spl0 hiq) (by omega)) (by omega)
  · rw [hg]
    exact (h4 _ hm).ins
/-- The samples of the i-th one written anew. -/
theorem OutAt.put (ho : OutAt T base w v n h) {i : Nat} (hi : i < n) {g c : Nat} (hv : v = .slice (some ⟨g, 0, none⟩) n c) {l : List Smp} {P : Option Addr} {d b : Nat} (hS : OwnS w b (.slice P l.length d) l) (hT : ∀ k, b ≤ k → T k) : OutAt T base (w.setCell ⟨g, i * 2 + 1, none⟩ (.slice P l.length d)) v n (h.set i ((h.getD i ser0).1, l)) := by
  obtain ⟨qs, rfl, rfl, h3, h4⟩ := ho
  have hg : (qs.map (·.1)).getD i ser0 = (qs.getD i spl0).1 := by simp [List.getD_eq_getElem?_getD, hi]
  have hm : qs.getD i spl0 ∈ qs := List.mem_of_getElem? (getD_some qs spl0 hi)
  have hq : qs[i]? = some (qs.getD i spl0) := getD_some qs spl0 hi
  rw [hg]
  generalize qs.getD i spl0 = q at *
  have hown : v.ownBlock = some g := by rw [hv]; rfl
  have hmv : ∀ x, SerT (fun k => T k ∧ v.ownBlock ≠ some k) w x → SerT (fun k => T k ∧ v.ownBlock ≠ some k) (w.setCell ⟨g, i * 2 + 1, none⟩ (.slice P l.length d)) x := fun x hx => hx.move (by simp [World.setCell]) fun k hl hk => Below.heap_setCell _ _ _ _ fun e => hk.2 (by rw [hown, e])
  have hrow := rows_write (f := spE) (j := 1) spE_len h3 hv hi (by omega) ((q.1.1, l), ⟨q.2.la, q.2.lc, P, d⟩) (.slice P l.length d) (fun x hx => by rw [hq] at hx; injection hx with hx; subst hx; rfl)
  obtain ⟨P', d', e1, k1, k2, k3⟩ := owns_slice hS
  obtain ⟨rfl, -, rfl⟩ := Value.slice.inj e1
  have hne : ∀ ad, P = some ad → v.ownBlock ≠ some ad.block := fun ad e => by
    rcases hS.2 with ⟨e2, _⟩ | ⟨g', cap, cur, e2, _, hh, _⟩
    · rw [e] at e2; cases e2
    · rw [e] at e2
      injection e2 with e3
      injection e3 with e3
      subst e3
      exact rows_ne (show Row w g' _ _ from hh) h3 (by decide)
  refine ⟨qs.set i ((q.1.1, l), ⟨q.2.la, q.2.lc, P, d⟩), by rw [List.map_set], by simp, hrow, fun x hx => ?_⟩
  rcases List.mem_or_eq_of_mem_set hx with hx | rfl
  · exact hmv x (h4 x hx)
  · have hq2 := hmv q (h4 q hm)
    refine ⟨⟨hq2.ins.labels, ?_, hq2.ins.lc, k1⟩, hq2.la, fun _ ad e => ⟨hT _ (k3 ad e), hne ad e⟩⟩
    refine at_move k2 (by simp [World.setCell]) (.inr fun ad e => Below.heap_setCell _ _ _ _ fun e2 => hne ad e (by rw [hown]; exact congrArg some e2.symm))
/-- What is left of it. -/
theorem OutAt.done {w0 : World} {E : Int} (ho : OutAt (fun k => T k ∨ w0.heap.size ≤ k) base w v n h) (hbase : w0.heap.size ≤ base) (hb : Below w0.heap.size w0 w) : RefDone T w0 h E (.returned (.tuple #[v, .int .i64 E])) w := by
  obtain ⟨qs, rfl, rfl, h3, h4⟩ := ho
  obtain ⟨P, c, rfl, h5, h6, h7⟩ := rows_slice h3
  refine ⟨P, c, by rw [List.length_map], by rw [List.length_map]; exact h5, ⟨qs, rfl, h6, fun _ ad e => .inr (Nat.le_trans hbase (h7 ad e)), fun x hx => (h4 x hx).mono fun k hk => hk.1⟩, hb⟩
end
theorem hup_at : ∀ (l : List Int) (p : Int) (k : Nat), Up p l → k < l.length → p < l.getD k 0 := by
  intro l
  induction l with
  | nil => intro p k _ h; simp at h
  | cons a r ih =>
    intro p k h hk
    obtain ⟨h1, h2, h3⟩ := h
    cases k with
    | zero => simpa using h1
    | succ k =>
      have := ih a k h3 (by simpa using hk)
      simp only [List.getD_cons_succ]
      omega
theorem far_cell {w : World} {p q : Addr} (hp : p.block ≠ q.block) (u : Value) (v : Unit) : (w.setCell q u).cell? p = w.cell? p := World.cell?_of_block (w := w) (Below.heap_setCell w q u p.block hp)
theorem hcutH_len (h : List Ser) (lo hi i : Int) : (cutH h lo hi i).length = h.length := by simp [cutH]
set_option maxHeartbeats 2000000 in
theorem refdo_k3 {T : Nat → Prop} {A : Option Addr} {S : List Ser} {c : Nat} {R : RecV} {m : RecM} {w : World} (hA : SersT T w A S) (hc : S.length ≤ c) (hk : HeadOk S) (hR : RecIn w R m) (hF : RecFit R) (h0 : recChk R = 0) (h1 : R.kind = 3) (hT : ∀ k, T k → k < w.heap.size) :
    Calls Tryz.prog 7 #[.slice A S.length c, .agg (recC R m).toArray] w (RefDone T w (doH S R).1 (doH S R).2) := by
  have hb1 := below_one w (.cells (recC R m).toArray 33)
  have hrz := Row.new w 33 (recC R m).toArray
  have HC := Lib.hid (refcheck_prog R m _ (hR.below hb1) hF)
  rw [h0] at HC
  have hdo : doH S R = (if (idsH S.length R.low R.high S R.ids).2 = 0 then idsH S.length R.low R.high S R.ids else (S, (idsH S.length R.low R.high S R.ids).2)) := by
    unfold doH
    rw [if_neg (by simpa using h0), if_neg (by rw [h1]; decide), if_neg (by rw [h1]; decide)]
  have hup : ∀ i, i < R.ids.length → 0 ≤ R.ids.getD i 0 := by
    rcases recChk_zero.1 h0 with ⟨e, _⟩ | ⟨e, _⟩ | ⟨_, _, _, hd⟩
    · rw [h1] at e; exact absurd e (by decide)
    · rw [h1] at e; exact absurd e (by decide)
    · intro i hi
      have := (hup_at R.ids (-1) i (pchk_zero.1 (delChk_zero.1 hd).1).2 hi)
      omega
  obtain ⟨D, hD⟩ : ∃ D, doH S R = D := ⟨_, rfl⟩
  rw [hD] at hdo ⊢
  clear hD
  have hids : R.ids.length ≤ 100000000000000 := by have := hF.ids; omega
  have HB := Lib.hid hb1
  have HA := Lib.hid hA
  have HCC := Lib.hid hc
  have HR := Lib.hid hR
  obtain ⟨kd, la, ro, ids, lo, hi⟩ := R
  obtain ⟨P, ca, Bb, cb, C, cc⟩ := m
  simp only [recC] at *
  subst h1
  obtain ⟨ps, hps, hat, _, hins⟩ := hA
  have hpl : ps.length = S.length := by rw [← hps, List.length_map]
  obtain ⟨z, hz⟩ : ∃ z, w.alloc (.cells #[.int .i64 3, .slice P la.length ca, .slice Bb ro.length cb, .slice C ids.length cc, .int .i64 lo, .int .i64 hi] 33) = z := ⟨_, rfl⟩
  rw [hz] at HC HB hrz
  have HZ := Lib.hid hz
  have HX := Lib.hid (fun (x : World) (hx : Below z.heap.size z x) => rec_cells (hrz.below hx hrz.lt) rfl)
  have HAT := Lib.hid hat
  have HINS := Lib.hid hins
  have HPL := Lib.hid hpl
  have HPS := Lib.hid hps
  have HKS := Lib.hid hk
  obtain ⟨n, hn⟩ : ∃ n, S.length = n := ⟨_, rfl⟩
  rw [hn] at hdo HPL HCC ⊢
  obtain ⟨L, hL⟩ : ∃ L, ids.length = L := ⟨_, rfl⟩
  have HL := Lib.hid hL
  rw [hL] at hids HX HZ HC ⊢
  have HDO := Lib.hid hdo
  have HN := Lib.hid hn
  have HUP := Lib.hid hup
  have h256 : n ≤ 256 := by rw [← hn]; exact hk.few
  clear hc hR hF hb1 h0 hz hrz hat hins hps hpl hn hdo hup hk hL
  go_enter Tryz.func7, Tryz.ntmps7
  go_upto_region 1 with fail
  rw [HZ.out]
  obtain ⟨x0, x1, x2, x3, x4, x5⟩ := HX.out _ (Below.refl _ _)
  go_wp2_with fail
  refine HC.out.mono ?_
  rintro e w2 ⟨rfl, hb2⟩
  clear x0 x1 x2 x3 x4 x5
  have HB2 := Lib.hid hb2
  have HW2 := Lib.hid (HB.out.trans (hb2.mono HB.out.size))
  have HO2 := Lib.hid (show (w2.alloc (.cells #[] 65)).ownsRow w2.heap.size 65 2 (.slice (some ⟨w2.heap.size, 0, none⟩) 0 0) ([] : List SPl).length (([] : List SPl).flatMap spE) from ⟨rfl, .inr ⟨w2.heap.size, 0, #[], rfl, Nat.le_refl _, Row.new w2 _ _, Nat.le_refl _, by simp [maxLen], by simp, by simp⟩⟩)
  have HA2 := Lib.hid (At.alloc (At.below HAT.out HW2.out) (.cells #[] 65))
  have HPV := Lib.hid (show Value.slice A n c = Value.slice A ps.length c by rw [HPL.out])
  clear hb2
  go_upto_region 5 with (at_builtin; refine hdapp_sers rfl (.tmp 18) (.tmp 19) rfl w2.heap.size _ [] rfl HO2.out A ps c HPV.out HA2.out (by have := HPL.out; simp only [List.length_nil]; omega) (by simp) ?_; intro v3 w3 ho3 hb3 hg3; rw [List.nil_append, List.length_nil, Nat.zero_add] at ho3; have HO3 := Lib.hid ho3; have HB3 := Lib.hid ((below_one w2 (.cells #[] 65)).trans hb3); clear ho3 hb3 hg3)
  obtain ⟨x0, x1, x2, x3, x4, x5⟩ := HX.out w3 (HB2.out.trans (HB3.out.mono HB2.out.size))
  have HW3 := Lib.hid (HW2.out.trans (HB3.out.mono HW2.out.size))
  have HZ3 := Lib.hid (HB2.out.trans (HB3.out.mono HB2.out.size))
  have HOUT := Lib.hid (show OutAt (fun k => T k ∨ w.heap.size ≤ k) w2.heap.size w3 v3 n S from ⟨ps, HPS.out, HPL.out, by rw [← HPL.out]; exact HO3.out, fun x hx => by
    refine ((HINS.out x hx).move HW3.out.size fun k hl _ => HW3.out.block k hl).mono fun k hk => ⟨.inl hk, fun e => ?_⟩
    have q1 := (World.ownsRow.lt HO3.out k e).1
    have q2 := hT k hk
    have q3 := HW2.out.size
    omega⟩)
  go_wp2_with fail
  go_loopw [11] (fun i wr => ∃ (k : Nat) (h' : List Ser), k ≤ L ∧ i = .int .i64 (k : Int) ∧ OutAt (fun k => T k ∨ w.heap.size ≤ k) w2.heap.size wr v3 n h' ∧ idsH n lo hi h' (ids.drop k) = idsH n lo hi S ids ∧ (∀ s ∈ h', s.2.length ≤ 65536) ∧ h'.length = n ∧ Below w.heap.size w wr ∧ Below z.heap.size z wr) (fun i _ => L - (intOf i).toNat)
  case atStart => exact ⟨0, S, Nat.zero_le _, rfl, HOUT.out, rfl, (fun s hs => by obtain ⟨i, hi, rfl⟩ := List.getElem_of_mem hs; have := (hdlens HKS.out hi).1; rwa [show S.getD i ser0 = S[i] by simp [List.getD_eq_getElem?_getD, hi]] at this), HN.out, HW3.out, HZ3.out⟩
  case round =>
    obtain ⟨k, h', hk, rfl, ho, he, h6, hlen, hbr, hbz⟩ := hrel
    obtain ⟨x0, x1, x2, x3, x4, x5⟩ := HX.out wr hbz
    by_cases hlt : k < L
    · have i1 : decide ((k : Int) < (L : Int)) = true := decide_eq_true (by omega)
      have i2 : (k : Int) < (L : Int) := by omega
      have hkl : k < ids.length := by rw [HL.out]; exact hlt
      obtain ⟨b, o, rfl, hb, gz⟩ := HR.out.ids.at_ hkl
      have g0 := (hbr.cell (p := ⟨b, o + k, none⟩) hb).trans gz
      have hst := hidsH_cons n lo hi h' hkl
      have hup := HUP.out k hkl
      have HK := Lib.hid (show k + 1 ≤ L from hlt)
      generalize ids.getD k 0 = x at *
      by_cases e9 : (n : Int) ≤ x
      · have d1 : decide ((n : Int) ≤ x) = true := decide_eq_true e9
        rw [if_pos e9, he] at hst
        have hd := HDO.out
        rw [hst, if_neg (show ¬ (9 : Int) = 0 by decide)] at hd
        subst hd
        have HBR := Lib.hid hbr
        clear e9 hst he h6 hlen hbr hbz ho
        go_wp2_with fail
        go_ret2
        have := refDone_same (E := 9) HA.out (by rw [HN.out]; exact HCC.out) HBR.out
        rw [HN.out] at this
        exact this
      · have d1 : decide ((n : Int) ≤ x) = false := decide_eq_false e9
        rw [if_neg e9] at hst
        obtain ⟨i, rfl⟩ : ∃ i : Nat, x = (i : Int) := ⟨x.toNat, by omega⟩
        have hin : i < n := by omega
        have j1 : (i : Int) < (n : Int) := by omega
        obtain ⟨g, cg, mm, hv, hbg, hgl, c0, c1, f1, hsin⟩ := ho.at_ hin
        subst hv
        have h6i : (h'.getD i ser0).2.length ≤ 65536 := h6 _ (ser_at (by omega))
        have HE := Lib.hid (show idsH n lo hi (cutH h' lo hi (i : Int)) (ids.drop (k + 1)) = idsH n lo hi S ids by rw [← hst]; exact he)
        have HO := Lib.hid ho
        have H6 := Lib.hid h6
        have HLEN := Lib.hid hlen
        have HBR := Lib.hid hbr
        have HBZ := Lib.hid hbz
        have hdef : cutH h' lo hi (i : Int) = h'.set i ((h'.getD i ser0).1, (h'.getD i ser0).2.filter (outB lo hi)) := rfl
        have HDEF := Lib.hid hdef
        have hsm := hsin.samples
        dsimp only at hsm
        have HGB := Lib.hid (show w.heap.size ≤ g ∧ z.heap.size ≤ g from ⟨Nat.le_trans HW2.out.size hbg, Nat.le_trans HB2.out.size hbg⟩)
        have hxl : w.heap.size < wr.heap.size := by have := HX.out wr hbz; have q := HB.out.size; have q2 := hbz.size; have q3 : z.heap.size = w.heap.size + 1 := by rw [← HZ.out]; simp
                                                    omega
        have HCEL := Lib.hid (fun (y : World) (hy : Below wr.heap.size wr y) => And.intro ((hy.cell (p := ⟨g, i * 2 + 1, none⟩) hgl).trans c1) ((hy.frozen (p := ⟨g, i * 2 + 1, none⟩) hgl).trans f1))
        have HS0 := Lib.hid (fun (y : World) (hy : Below wr.heap.size wr y) => And.intro ((hy.cell (p := ⟨w.heap.size, 3, none⟩) hxl).trans x3) (And.intro ((hy.cell (p := ⟨w.heap.size, 4, none⟩) hxl).trans x4) (And.intro ((hy.cell (p := ⟨w.heap.size, 5, none⟩) hxl).trans x5) ((hy.cell (p := ⟨b, o + k, none⟩) (Nat.lt_of_lt_of_le hb hbr.size)).trans g0))))
        have HNE := Lib.hid (show w.heap.size ≠ g ∧ b ≠ g from by
          have q1 := HB2.out.size
          have q3 : z.heap.size = w.heap.size + 1 := by rw [← HZ.out]; simp
          omega)
        have HBD := Lib.hid (show Below wr.heap.size wr wr.drew from (Below.refl _ _).drew)
        generalize hs0 : h'.getD i ser0 = s0 at *
        have HSE := Lib.hid hs0
        clear hs0
        have EW := Lib.hid (fun args w => (show (callFunc 29 args).run Tryz.prog w = .ok (.enter 29 args) w from enters_of Tryz.func29 (by kernel_rfl) rfl args w))
        have HWO := Lib.hid (fun (y : World) (hy : Below wr.heap.size wr y) => hdwithout_ref mm.sa s0.2 mm.sc lo hi y (hsm.below hy) (by omega))
        clear hst he h6 hlen hbr hbz ho hdef hsin hsm e9 hup
        go_upto_region 32 with fail
        -- REGION
        refine wp_region_held_drew (S := fun w' => w'.cell? ⟨w.heap.size, 3, none⟩ = some (.slice (some ⟨b, o, none⟩) L cc) ∧ w'.cell? ⟨w.heap.size, 4, none⟩ = some (.int .i64 lo) ∧ w'.cell? ⟨w.heap.size, 5, none⟩ = some (.int .i64 hi) ∧ w'.cell? ⟨b, o + k, none⟩ = some (.int .i64 (i : Int))) (by kernel_rfl) ?_ (fun hHeld => ?_)
        · exact HS0.out _ HBD.out
        refine wpAnyH_take (i := 0) (oi := { dst := some 115, op := Go.Op.move (Go.Operand.tmp 7), type := 27, pos := "ref.go:79", after := #[], guard := none }) (v := ?_) rfl (by kernel_rfl) (by kernel_rfl) (by kernel_rfl) (fun _ _ _ h => h) (Or.inl ⟨by rfl, ?_⟩) (by assumption) ?_
        rotate_left 1
        · (intro w hSw; (try dsimp only at hSw); go_simp; try with_reducible rfl)
        try simp only [Act.put, List.setIfInBounds_toArray, List.set_cons_zero, List.set_cons_succ]
        refine wpAnyH_take (i := 1) (oi := { dst := some 116, op := Go.Op.fieldAddr 33 (Go.Operand.tmp 3) 3, type := 0, pos := "ref.go:79", after := #[], guard := none }) (v := ?_) rfl (by kernel_rfl) (by kernel_rfl) (by kernel_rfl) (fun _ _ _ h => h) (Or.inl ⟨by rfl, ?_⟩) (by assumption) ?_
        rotate_left 1
        · (intro w hSw; (try dsimp only at hSw); go_simp; try with_reducible rfl)
        try simp only [Act.put, List.setIfInBounds_toArray, List.set_cons_zero, List.set_cons_succ]
        refine wpAnyH_take (i := 2) (oi := { dst := some 117, op := Go.Op.load 31 (Go.Operand.tmp 116), type := 31, pos := "ref.go:79", after := #[{ on := 1, ground := Go.Ground.data }], guard := none }) (v := ?_) rfl (by kernel_rfl) (by kernel_rfl) (by kernel_rfl) (fun _ _ _ h => h) (Or.inl ⟨by rfl, ?_⟩) (by assumption) ?_
        rotate_left 1
        · (intro w hSw; (try dsimp only at hSw); go_simp; try with_reducible rfl)
        try simp only [Act.put, List.setIfInBounds_toArray, List.set_cons_zero, List.set_cons_succ]
        refine wpAnyH_take (i := 3) (oi := { dst := some 118, op := Go.Op.move (Go.Operand.tmp 11), type := 3, pos := "ref.go:79", after := #[], guard := none }) (v := ?_) rfl (by kernel_rfl) (by kernel_rfl) (by kernel_rfl) (fun _ _ _ h => h) (Or.inl ⟨by rfl, ?_⟩) (by assumption) ?_
        rotate_left 1
        · (intro w hSw; (try dsimp only at hSw); go_simp; try with_reducible rfl)
        try simp only [Act.put, List.setIfInBounds_toArray, List.set_cons_zero, List.set_cons_succ]
        refine wpAnyH_take (i := 4) (oi := { dst := some 119, op := Go.Op.indexAddr 31 (Go.Operand.tmp 117) (Go.Operand.tmp 118), type := 0, pos := "ref.go:79", after := #[{ on := 2, ground := Go.Ground.data }, { on := 3, ground := Go.Ground.data }], guard := none }) (v := ?_) rfl (by kernel_rfl) (by kernel_rfl) (by kernel_rfl) (fun _ _ _ h => h) (Or.inl ⟨by rfl, ?_⟩) (by assumption) ?_
        rotate_left 1
        · (intro w hSw; (try dsimp only at hSw); go_simp; try with_reducible rfl)
        try simp only [Act.put, List.setIfInBounds_toArray, List.set_cons_zero, List.set_cons_succ]
        refine wpAnyH_take (i := 5) (oi := { dst := some 120, op := Go.Op.load 3 (Go.Operand.tmp 119), type := 3, pos := "ref.go:79", after := #[{ on := 4, ground := Go.Ground.data }], guard := none }) (v := ?_) rfl (by kernel_rfl) (by kernel_rfl) (by kernel_rfl) (fun _ _ _ h => h) (Or.inl ⟨by rfl, ?_⟩) (by assumption) ?_
        rotate_left 1
        · (intro w hSw; (try dsimp only at hSw); go_simp; try with_reducible rfl)
        try simp only [Act.put, List.setIfInBounds_toArray, List.set_cons_zero, List.set_cons_succ]
        refine wpAnyH_take (i := 6) (oi := { dst := some 121, op := Go.Op.move (Go.Operand.tmp 7), type := 27, pos := "ref.go:79", after := #[], guard := none }) (v := ?_) rfl (by kernel_rfl) (by kernel_rfl) (by kernel_rfl) (fun _ _ _ h => h) (Or.inl ⟨by rfl, ?_⟩) (by assumption) ?_
        rotate_left 1
        · (intro w hSw; (try dsimp only at hSw); go_simp; try with_reducible rfl)
        try simp only [Act.put, List.setIfInBounds_toArray, List.set_cons_zero, List.set_cons_succ]
        refine wpAnyH_take (i := 7) (oi := { dst := some 122, op := Go.Op.fieldAddr 33 (Go.Operand.tmp 3) 3, type := 0, pos := "ref.go:79", after := #[], guard := none }) (v := ?_) rfl (by kernel_rfl) (by kernel_rfl) (by kernel_rfl) (fun _ _ _ h => h) (Or.inl ⟨by rfl, ?_⟩) (by assumption) ?_
        rotate_left 1
        · (intro w hSw; (try dsimp only at hSw); go_simp; try with_reducible rfl)
        try simp only [Act.put, List.setIfInBounds_toArray, List.set_cons_zero, List.set_cons_succ]
        refine wpAnyH_take (i := 8) (oi := { dst := some 123, op := Go.Op.load 31 (Go.Operand.tmp 122), type := 31, pos := "ref.go:79", after := #[{ on := 7, ground := Go.Ground.data }], guard := none }) (v := ?_) rfl (by kernel_rfl) (by kernel_rfl) (by kernel_rfl) (fun _ _ _ h => h) (Or.inl ⟨by rfl, ?_⟩) (by assumption) ?_
        rotate_left 1
        · (intro w hSw; (try dsimp only at hSw); go_simp; try with_reducible rfl)
        try simp only [Act.put, List.setIfInBounds_toArray, List.set_cons_zero, List.set_cons_succ]
        refine wpAnyH_take (i := 9) (oi := { dst := some 124, op := Go.Op.move (Go.Operand.tmp 11), type := 3, pos := "ref.go:79", after := #[], guard := none }) (v := ?_) rfl (by kernel_rfl) (by kernel_rfl) (by kernel_rfl) (fun _ _ _ h => h) (Or.inl ⟨by rfl, ?_⟩) (by assumption) ?_
        rotate_left 1
        · (intro w hSw; (try dsimp only at hSw); go_simp; try with_reducible rfl)
        try simp only [Act.put, List.setIfInBounds_toArray, List.set_cons_zero, List.set_cons_succ]
        refine wpAnyH_take (i := 10) (oi := { dst := some 125, op := Go.Op.indexAddr 31 (Go.Operand.tmp 123) (Go.Operand.tmp 124), type := 0, pos := "ref.go:79", after := #[{ on := 8, ground := Go.Ground.data }, { on := 9, ground := Go.Ground.data }], guard := none }) (v := ?_) rfl (by kernel_rfl) (by kernel_rfl) (by kernel_rfl) (fun _ _ _ h => h) (Or.inl ⟨by rfl, ?_⟩) (by assumption) ?_
        rotate_left 1
        · (intro w hSw; (try dsimp only at hSw); go_simp; try with_reducible rfl)
        try simp only [Act.put, List.setIfInBounds_toArray, List.set_cons_zero, List.set_cons_succ]
        refine wpAnyH_take (i := 11) (oi := { dst := some 126, op := Go.Op.load 3 (Go.Operand.tmp 125), type := 3, pos := "ref.go:79", after := #[{ on := 10, ground := Go.Ground.data }], guard := none }) (v := ?_) rfl (by kernel_rfl) (by kernel_rfl) (by kernel_rfl) (fun _ _ _ h => h) (Or.inl ⟨by rfl, ?_⟩) (by assumption) ?_
        rotate_left 1
        · (intro w hSw; (try dsimp only at hSw); go_simp; try with_reducible rfl)
        try simp only [Act.put, List.setIfInBounds_toArray, List.set_cons_zero, List.set_cons_succ]
        refine wpAnyH_take (i := 12) (oi := { dst := some 127, op := Go.Op.indexAddr 27 (Go.Operand.tmp 121) (Go.Operand.tmp 126), type := 0, pos := "ref.go:79", after := #[{ on := 6, ground := Go.Ground.data }, { on := 11, ground := Go.Ground.data }], guard := none }) (v := ?_) rfl (by kernel_rfl) (by kernel_rfl) (by kernel_rfl) (fun _ _ _ h => h) (Or.inl ⟨by rfl, ?_⟩) (by assumption) ?_
        rotate_left 1
        · (intro w hSw; (try dsimp only at hSw); go_simp; try with_reducible rfl)
        try simp only [Act.put, List.setIfInBounds_toArray, List.set_cons_zero, List.set_cons_succ]
        refine wpAnyH_take (i := 13) (oi := { dst := some 128, op := Go.Op.fieldAddr 65 (Go.Operand.tmp 127) 1, type := 0, pos := "ref.go:79", after := #[{ on := 12, ground := Go.Ground.data }], guard := none }) (v := ?_) rfl (by kernel_rfl) (by kernel_rfl) (by kernel_rfl) (fun _ _ _ h => h) (Or.inl ⟨by rfl, ?_⟩) (by assumption) ?_
        rotate_left 1
        · (intro w hSw; (try dsimp only at hSw); go_simp; try with_reducible rfl)
        try simp only [Act.put, List.setIfInBounds_toArray, List.set_cons_zero, List.set_cons_succ]
        refine wpAnyH_take (i := 15) (oi := { dst := some 130, op := Go.Op.fieldAddr 33 (Go.Operand.tmp 3) 4, type := 0, pos := "ref.go:79", after := #[], guard := none }) (v := ?_) rfl (by kernel_rfl) (by kernel_rfl) (by kernel_rfl) (fun _ _ _ h => h) (Or.inl ⟨by rfl, ?_⟩) (by assumption) ?_
        rotate_left 1
        · (intro w hSw; (try dsimp only at hSw); go_simp; try with_reducible rfl)
        try simp only [Act.put, List.setIfInBounds_toArray, List.set_cons_zero, List.set_cons_succ]
        refine wpAnyH_take (i := 16) (oi := { dst := some 131, op := Go.Op.load 3 (Go.Operand.tmp 130), type := 3, pos := "ref.go:79", after := #[{ on := 15, ground := Go.Ground.data }], guard := none }) (v := ?_) rfl (by kernel_rfl) (by kernel_rfl) (by kernel_rfl) (fun _ _ _ h => h) (Or.inl ⟨by rfl, ?_⟩) (by assumption) ?_
        rotate_left 1
        · (intro w hSw; (try dsimp only at hSw); go_simp; try with_reducible rfl)
        try simp only [Act.put, List.setIfInBounds_toArray, List.set_cons_zero, List.set_cons_succ]
        refine wpAnyH_take (i := 17) (oi := { dst := some 132, op := Go.Op.fieldAddr 33 (Go.Operand.tmp 3) 5, type := 0, pos := "ref.go:79", after := #[], guard := none }) (v := ?_) rfl (by kernel_rfl) (by kernel_rfl) (by kernel_rfl) (fun _ _ _ h => h) (Or.inl ⟨by rfl, ?_⟩) (by assumption) ?_
        rotate_left 1
        · (intro w hSw; (try dsimp only at hSw); go_simp; try with_reducible rfl)
        try simp only [Act.put, List.setIfInBounds_toArray, List.set_cons_zero, List.set_cons_succ]
        refine wpAnyH_take (i := 18) (oi := { dst := some 133, op := Go.Op.load 3 (Go.Operand.tmp 132), type := 3, pos := "ref.go:79", after := #[{ on := 17, ground := Go.Ground.data }], guard := none }) (v := ?_) rfl (by kernel_rfl) (by kernel_rfl) (by kernel_rfl) (fun _ _ _ h => h) (Or.inl ⟨by rfl, ?_⟩) (by assumption) ?_
        rotate_left 1
        · (intro w hSw; (try dsimp only at hSw); go_simp; try with_reducible rfl)
        try simp only [Act.put, List.setIfInBounds_toArray, List.set_cons_zero, List.set_cons_succ]
        refine wpAnyH_ready (rs := [14]) (by kernel_rfl) (by simp) ?_
        refine AllReadyH.cons (o := { dst := some 129, op := Go.Op.load 50 (Go.Operand.tmp 128), type := 50, pos := "ref.go:79", after := #[{ on := 13, ground := Go.Ground.data }], guard := none }) rfl (fun K hK => ?_) AllReadyH.nil
        go_simp
        refine hK.out _ _ ?_ (fun hHeld => ?_)
        · exact HS0.out _ HBD.out
        clear hK K
        try simp only [Act.put, List.setIfInBounds_toArray, List.set_cons_zero, List.set_cons_succ]
        refine wpAnyH_ready (rs := [19]) (by kernel_rfl) (by simp) ?_
        refine AllReadyH.cons (o := { dst := some 134, op := Go.Op.call { callee := Go.Callee.value (Go.Operand.func 29), args := #[Go.Operand.tmp 129, Go.Operand.tmp 131, Go.Operand.tmp 133], argTypes := #[50, 3, 3] }, type := 50, pos := "ref.go:79", after := #[{ on := 14, ground := Go.Ground.data }, { on := 16, ground := Go.Ground.data }, { on := 18, ground := Go.Ground.data }], guard := none }) rfl (fun K hK => ?_) AllReadyH.nil
        go_simp
        go_at_call 29
        refine (HWO.out _ HBD.out).mono ?_
        rintro e w5 ⟨v5, rfl, ho5, hb5⟩
        obtain ⟨P5, c5, hv5, _⟩ := owns_slice ho5
        subst hv5
        have hbw : Below wr.heap.size wr w5 := HBD.out.trans hb5
        obtain ⟨y1, yf⟩ := HCEL.out _ hbw
        have HS5 := Lib.hid (HS0.out _ hbw)
        have HS6 := Lib.hid (show ∀ u, (w5.setCell ⟨g, i * 2 + 1, none⟩ u).cell? ⟨w.heap.size, 3, none⟩ = some (.slice (some ⟨b, o, none⟩) L cc) ∧ (w5.setCell ⟨g, i * 2 + 1, none⟩ u).cell? ⟨w.heap.size, 4, none⟩ = some (.int .i64 lo) ∧ (w5.setCell ⟨g, i * 2 + 1, none⟩ u).cell? ⟨w.heap.size, 5, none⟩ = some (.int .i64 hi) ∧ (w5.setCell ⟨g, i * 2 + 1, none⟩ u).cell? ⟨b, o + k, none⟩ = some (.int .i64 (i : Int)) from fun u => ⟨(far_cell (p := ⟨w.heap.size, 3, none⟩) (q := ⟨g, i * 2 + 1, none⟩) HNE.out.1 _ ()).trans HS5.out.1, (far_cell (p := ⟨w.heap.size, 4, none⟩) (q := ⟨g, i * 2 + 1, none⟩) HNE.out.1 _ ()).trans HS5.out.2.1, (far_cell (p := ⟨w.heap.size, 5, none⟩) (q := ⟨g, i * 2 + 1, none⟩) HNE.out.1 _ ()).trans HS5.out.2.2.1, (far_cell (p := ⟨b, o + k, none⟩) (q := ⟨g, i * 2 + 1, none⟩) HNE.out.2 _ ()).trans HS5.out.2.2.2⟩)
        have HP5 := Lib.hid (OutAt.put (HO.out.below hbw) hin rfl ho5 (fun k hk => .inr (Nat.le_trans HBR.out.size hk)))
        have HB5 := Lib.hid ((HBR.out.trans (hbw.mono HBR.out.size)).setCell (p := ⟨g, i * 2 + 1, none⟩) HGB.out.1 (.slice P5 (s0.2.filter (outB lo hi)).length c5))
        have HZ5 := Lib.hid ((HBZ.out.trans (hbw.mono HBZ.out.size)).setCell (p := ⟨g, i * 2 + 1, none⟩) HGB.out.2 (.slice P5 (s0.2.filter (outB lo hi)).length c5))
        refine hK.out _ _ ?_ (fun hHeld => ?_)
        · exact HS5.out
        clear hK K ho5 hb5 hbw
        try simp only [Act.put, List.setIfInBounds_toArray, List.set_cons_zero, List.set_cons_succ]
        refine wpAnyH_take (i := 20) (oi := { dst := some 135, op := Go.Op.indexAddr 27 (Go.Operand.tmp 115) (Go.Operand.tmp 120), type := 0, pos := "ref.go:79", after := #[{ on := 0, ground := Go.Ground.data }, { on := 5, ground := Go.Ground.data }, { on := 0, ground := Go.Ground.phase }, { on := 1, ground := Go.Ground.phase }, { on := 2, ground := Go.Ground.phase }, { on := 3, ground := Go.Ground.phase }, { on := 4, ground := Go.Ground.phase }, { on := 5, ground := Go.Ground.phase }, { on := 6, ground := Go.Ground.phase }, { on := 7, ground := Go.Ground.phase }, { on := 8, ground := Go.Ground.phase }, { on := 9, ground := Go.Ground.phase }, { on := 10, ground := Go.Ground.phase }, { on := 11, ground := Go.Ground.phase }, { on := 12, ground := Go.Ground.phase }, { on := 13, ground := Go.Ground.phase }, { on := 14, ground := Go.Ground.phase }, { on := 15, ground := Go.Ground.phase }, { on := 16, ground := Go.Ground.phase }, { on := 17, ground := Go.Ground.phase }, { on := 18, ground := Go.Ground.phase }, { on := 19, ground := Go.Ground.phase }], guard := none }) (v := ?_) rfl (by kernel_rfl) (by kernel_rfl) (by kernel_rfl) (fun _ _ _ h => h) (Or.inl ⟨by rfl, ?_⟩) (by assumption) ?_
        rotate_left 1
        · (intro w hSw; (try dsimp only at hSw); go_simp; try with_reducible rfl)
        try simp only [Act.put, List.setIfInBounds_toArray, List.set_cons_zero, List.set_cons_succ]
        refine wpAnyH_take (i := 21) (oi := { dst := some 136, op := Go.Op.fieldAddr 65 (Go.Operand.tmp 135) 1, type := 0, pos := "ref.go:79", after := #[{ on := 20, ground := Go.Ground.data }, { on := 0, ground := Go.Ground.phase }, { on := 1, ground := Go.Ground.phase }, { on := 2, ground := Go.Ground.phase }, { on := 3, ground := Go.Ground.phase }, { on := 4, ground := Go.Ground.phase }, { on := 5, ground := Go.Ground.phase }, { on := 6, ground := Go.Ground.phase }, { on := 7, ground := Go.Ground.phase }, { on := 8, ground := Go.Ground.phase }, { on := 9, ground := Go.Ground.phase }, { on := 10, ground := Go.Ground.phase }, { on := 11, ground := Go.Ground.phase }, { on := 12, ground := Go.Ground.phase }, { on := 13, ground := Go.Ground.phase }, { on := 14, ground := Go.Ground.phase }, { on := 15, ground := Go.Ground.phase }, { on := 16, ground := Go.Ground.phase }, { on := 17, ground := Go.Ground.phase }, { on := 18, ground := Go.Ground.phase }, { on := 19, ground := Go.Ground.phase }], guard := none }) (v := ?_) rfl (by kernel_rfl) (by kernel_rfl) (by kernel_rfl) (fun _ _ _ h => h) (Or.inl ⟨by rfl, ?_⟩) (by assumption) ?_
        rotate_left 1
        · (intro w hSw; (try dsimp only at hSw); go_simp; try with_reducible rfl)
        try simp only [Act.put, List.setIfInBounds_toArray, List.set_cons_zero, List.set_cons_succ]
        refine wpAnyH_ready (rs := [22]) (by kernel_rfl) (by simp) ?_
        refine AllReadyH.cons (o := { dst := none, op := Go.Op.store 50 (Go.Operand.tmp 136) (Go.Operand.tmp 134), type := 0, pos := "ref.go:79", after := #[{ on := 21, ground := Go.Ground.data }, { on := 19, ground := Go.Ground.data }, { on := 19, ground := Go.Ground.chain }, { on := 0, ground := Go.Ground.phase }, { on := 1, ground := Go.Ground.phase }, { on := 2, ground := Go.Ground.phase }, { on := 3, ground := Go.Ground.phase }, { on := 4, ground := Go.Ground.phase }, { on := 5, ground := Go.Ground.phase }, { on := 6, ground := Go.Ground.phase }, { on := 7, ground := Go.Ground.phase }, { on := 8, ground := Go.Ground.phase }, { on := 9, ground := Go.Ground.phase }, { on := 10, ground := Go.Ground.phase }, { on := 11, ground := Go.Ground.phase }, { on := 12, ground := Go.Ground.phase }, { on := 13, ground := Go.Ground.phase }, { on := 14, ground := Go.Ground.phase }, { on := 15, ground := Go.Ground.phase }, { on := 16, ground := Go.Ground.phase }, { on := 17, ground := Go.Ground.phase }, { on := 18, ground := Go.Ground.phase }, { on := 19, ground := Go.Ground.phase }], guard := none }) rfl (fun K hK => ?_) AllReadyH.nil
        go_simp
        refine hK.out _ _ ?_ (fun hHeld => ?_)
        · exact HS6.out _
        clear hK K
        try simp only [Act.put, List.setIfInBounds_toArray, List.set_cons_zero, List.set_cons_succ]
        refine wpAnyH_done (by kernel_rfl) ?_ _
        -- END
        go_wp2_with fail
        go_roundw
        case rel =>
          refine ⟨k + 1, cutH h' lo hi (i : Int), HK.out, by go_num, ?_, HE.out, ?_, by rw [hcutH_len]; exact HLEN.out, HB5.out, HZ5.out⟩
          · have := HP5.out
            rw [HSE.out] at this
            rw [HDEF.out]
            exact this
          · rw [HDEF.out]
            intro s hs
            rcases List.mem_or_eq_of_mem_set hs with hs | rfl
            · exact H6.out s hs
            · have := List.length_filter_le (outB lo hi) s0.2
              dsimp only
              omega
        case measure => simp [intOf]; omega
    · obtain rfl : k = L := by omega
      have i1 : decide ((k : Int) < (k : Int)) = false := decide_eq_false (by omega)
      rw [← HL.out, List.drop_length] at he
      have hd := HDO.out
      have he2 : idsH n lo hi S ids = (h', 0) := he.symm
      rw [he2, if_pos rfl] at hd
      subst hd
      have HBR := Lib.hid hbr
      have HO := Lib.hid ho
      clear he he2 h6 hlen hbr hbz ho
      go_wp2_with fail
      go_ret2
      exact HO.out.done HW2.out.size HBR.out
theorem hrowsH_cons (n : Nat) (h : List Ser) (m : Nat) {l : List Wrow} {k : Nat} (hk : k < l.length) : rowsH n h m (l.drop k) = if rowE n h m (l.getD k wrow0) = 0 then rowsH n (putH h (l.getD k wrow0)) (m + 1) (l.drop (k + 1)) else (h, rowE n h m (l.getD k wrow0)) := by
  have e : l.getD k wrow0 = l[k] := by simp [List.getD_eq_getElem?_getD, hk]
  rw [e, List.drop_eq_getElem_cons hk]
  rfl
theorem hcnt_all {h : List Ser} {q : Nat} (e : cntS h = q) : ∀ s ∈ h, s.2.length ≤ q := by
  subst e
  intro s hs
  obtain ⟨i, hi, rfl⟩ := List.getElem_of_mem hs
  have h1 := hcnt_step h hi
  have h2 := hcnt_take h (i + 1)
  rw [show h.getD i ser0 = h[i] by simp [List.getD_eq_getElem?_getD, hi]] at h1
  omega
theorem hsmps_far {w w' : World} {g : Nat} {t v : Int} {row : Option Nat} (h : Smps w (some ⟨g, 0, none⟩) [(t, v)]) (hg : w.grownBy w' row) (hne : row ≠ some g) : Smps w' (some ⟨g, 0, none⟩) [(t, v)] := by
  have hl := at_block h (by simp [smpE]) _ rfl
  exact at_move h hg.size (.inr fun ad e => by injection e with e; subst e; exact hg.block g hl (fun e' => hne e'.symm))
theorem hstep_app_smB {w : World} {ops : Array Oper} {o : Oper} {a : Act} {K : Act → World → Prop} {Q : Exit → Act → World → Prop} {E : Prop} (hgd : o.guard = none) (s y : Operand)
    (ho : o.op = .call { callee := .builtin .append, args := #[s, y], argTypes := #[50, 50] })
    (base : Nat) (v : Value) (x : List Smp) (hs : a.eval s = v) (hown : OwnS w base v x) (A : Option Addr) (l : List Smp) (c : Nat) (hy : a.eval y = .slice A l.length c) (hA : Smps w A l) (hn : (x.length + l.length) * 16 ≤ 140737488355328) (hbase : base ≤ w.heap.size)
    (h : ∀ v' w', OwnS w' base v' (x ++ l) → Below base w w' → w.grownBy w' v.ownBlock → K (a.put o.dst v') w') : if Region.wanted o (yielded ops a.tmps) = true then Oper.wp Tryz.prog o a w K Q else E := by
  obtain ⟨i0, hi, hz0, hz1, hz2⟩ := info_parts sample_info
  refine step_app_at hgd s y 50 ho base 68 i0 _ 2 16 Tryz.underlying50 hi hz0 hz1 hz2 rfl (by omega) v x.length (x.flatMap smpE) hs hown A l.length c (l.flatMap smpE) hy (flat_len smpE 2 smpE_len l) hA (smp_one l)
    (by simp only [maxLen]; omega) hn hbase ?_
  intro v' w' h1 h2 h3
  refine h v' w' ?_ h2 h3
  unfold OwnS
  rw [List.flatMap_append, List.length_append]
  exact h1
set_option maxHeartbeats 4000000 in
theorem refdo_k2 {T : Nat → Prop} {A : Option Addr} {S : List Ser} {c : Nat} {R : RecV} {m : RecM} {w : World} (hA : SersT T w A S) (hc : S.length ≤ c) (hk : HeadOk S) (hR : RecIn w R m) (hF : RecFit R) (h0 : recChk R = 0) (h1 : R.kind = 2) (hT : ∀ k, T k → k < w.heap.size) :
    Calls Tryz.prog 7 #[.slice A S.length c, .agg (recC R m).toArray] w (RefDone T w (doH S R).1 (doH S R).2) := by
  have hb1 := below_one w (.cells (recC R m).toArray 33)
  have hrz := Row.new w 33 (recC R m).toArray
  have HC := Lib.hid (refcheck_prog R m _ (hR.below hb1) hF)
  rw [h0] at HC
  have hdo : doH S R = (if (rowsH S.length S (cntS S) R.rows).2 = 0 then rowsH S.length S (cntS S) R.rows else (S, (rowsH S.length S (cntS S) R.rows).2)) := by
    unfold doH
    rw [if_neg (by simpa using h0), if_neg (by rw [h1]; decide), if_pos h1]
  have hup : ∀ i, i < R.rows.length → 0 ≤ (R.rows.getD i wrow0).1 := by
    rcases recChk_zero.1 h0 with ⟨e, _⟩ | ⟨_, _, _, _, _, hd⟩ | ⟨e, _⟩
    · rw [h1] at e; exact absurd e (by decide)
    · intro i hi
      have h3 := (rowsChk_zero.1 hd).2.2 _ (List.mem_of_getElem? (getD_some R.rows wrow0 hi))
      exact (wrowErr_zero.1 h3).1
    · rw [h1] at e; exact absurd e (by decide)
  obtain ⟨D, hD⟩ : ∃ D, doH S R = D := ⟨_, rfl⟩
  rw [hD] at hdo ⊢
  clear hD
  have hids : R.rows.length ≤ 100000000000000 := by have := hF.rows; omega
  have HB := Lib.hid hb1
  have HA := Lib.hid hA
  have HCC := Lib.hid hc
  have HR := Lib.hid hR
  obtain ⟨kd, la, ro, ids, lo, hi⟩ := R
  obtain ⟨P, ca, Bb, cb, C, cc⟩ := m
  simp only [recC] at *
  subst h1
  obtain ⟨ps, hps, hat, _, hins⟩ := hA
  have hpl : ps.length = S.length := by rw [← hps, List.length_map]
  obtain ⟨z, hz⟩ : ∃ z, w.alloc (.cells #[.int .i64 2, .slice P la.length ca, .slice Bb ro.length cb, .slice C ids.length cc, .int .i64 lo, .int .i64 hi] 33) = z := ⟨_, rfl⟩
  rw [hz] at HC HB hrz
  have HZ := Lib.hid hz
  have HX := Lib.hid (fun (x : World) (hx : Below z.heap.size z x) => rec_cells (hrz.below hx hrz.lt) rfl)
  have HAT := Lib.hid hat
  have HINS := Lib.hid hins
  have HPL := Lib.hid hpl
  have HPS := Lib.hid hps
  have HKS := Lib.hid hk
  obtain ⟨n, hn⟩ : ∃ n, S.length = n := ⟨_, rfl⟩
  rw [hn] at hdo HPL HCC ⊢
  obtain ⟨L, hL⟩ : ∃ L, ro.length = L := ⟨_, rfl⟩
  have HL := Lib.hid hL
  rw [hL] at hids HX HZ HC ⊢
  have HDO := Lib.hid hdo
  have HN := Lib.hid hn
  have HUP := Lib.hid hup
  have h256 : n ≤ 256 := by rw [← hn]; exact hk.few
  clear hc hR hF hb1 h0 hz hrz hat hins hps hpl hn hdo hup hk hL
  go_enter Tryz.func7, Tryz.ntmps7
  go_upto_region 1 with fail
  rw [HZ.out]
  obtain ⟨x0, x1, x2, x3, x4, x5⟩ := HX.out _ (Below.refl _ _)
  go_wp2_with fail
  refine HC.out.mono ?_
  rintro e w2 ⟨rfl, hb2⟩
  clear x0 x1 x2 x3 x4 x5
  have HB2 := Lib.hid hb2
  have HW2 := Lib.hid (HB.out.trans (hb2.mono HB.out.size))
  have HO2 := Lib.hid (show (w2.alloc (.cells #[] 65)).ownsRow w2.heap.size 65 2 (.slice (some ⟨w2.heap.size, 0, none⟩) 0 0) ([] : List SPl).length (([] : List SPl).flatMap spE) from ⟨rfl, .inr ⟨w2.heap.size, 0, #[], rfl, Nat.le_refl _, Row.new w2 _ _, Nat.le_refl _, by simp [maxLen], by simp, by simp⟩⟩)
  have HA2 := Lib.hid (At.alloc (At.below HAT.out HW2.out) (.cells #[] 65))
  have HPV := Lib.hid (show Value.slice A n c = Value.slice A ps.length c by rw [HPL.out])
  clear hb2
  go_upto_region 5 with (at_builtin; refine hdapp_sers rfl (.tmp 18) (.tmp 19) rfl w2.heap.size _ [] rfl HO2.out A ps c HPV.out HA2.out (by have := HPL.out; simp only [List.length_nil]; omega) (by simp) ?_; intro v3 w3 ho3 hb3 hg3; rw [List.nil_append, List.length_nil, Nat.zero_add] at ho3; have HO3 := Lib.hid ho3; have HB3 := Lib.hid ((below_one w2 (.cells #[] 65)).trans hb3); clear ho3 hb3 hg3)
  obtain ⟨x0, x1, x2, x3, x4, x5⟩ := HX.out w3 (HB2.out.trans (HB3.out.mono HB2.out.size))
  have HW3 := Lib.hid (HW2.out.trans (HB3.out.mono HW2.out.size))
  have HZ3 := Lib.hid (HB2.out.trans (HB3.out.mono HB2.out.size))
  have HOUT := Lib.hid (show OutAt (fun k => T k ∨ w.heap.size ≤ k) w2.heap.size w3 v3 n S from ⟨ps, HPS.out, HPL.out, by rw [← HPL.out]; exact HO3.out, fun x hx => by
    refine ((HINS.out x hx).move HW3.out.size fun k hl _ => HW3.out.block k hl).mono fun k hk => ⟨.inl hk, fun e => ?_⟩
    have q1 := (World.ownsRow.lt HO3.out k e).1
    have q2 := hT k hk
    have q3 := HW2.out.size
    omega⟩)
  have HCN := Lib.hid (fun (x : World) (hx : Below w.heap.size w x) => refcount_prog A S c x (HA.out.sers.below hx) (by rw [HN.out]; omega) HKS.out.all)
  rw [HN.out] at HCN
  obtain ⟨q0, hq0⟩ : ∃ q0, cntS S = q0 := ⟨_, rfl⟩
  have HQ0 := Lib.hid hq0
  have hdo2 := HDO.out
  rw [hq0] at HCN hdo2
  have HDO := Lib.hid hdo2
  clear hq0 hdo2
  go_wp2_with fail
  refine (HCN.out w3 HW3.out).mono ?_
  rintro e w4 ⟨rfl, hb4⟩
  have HW4 := Lib.hid (below_then HW3.out hb4)
  have HZ4 := Lib.hid (HZ3.out.trans (hb4.mono HZ3.out.size))
  have HOUT4 := Lib.hid (HOUT.out.below hb4)
  clear hb4 x0 x1 x2 x3 x4 x5
  go_wp2_with fail
  go_loopw [8, 9] (fun q i wr => ∃ (k m : Nat) (h' : List Ser), k ≤ L ∧ q = .int .i64 (m : Int) ∧ i = .int .i64 (k : Int) ∧ OutAt (fun k => T k ∨ w.heap.size ≤ k) w2.heap.size wr v3 n h' ∧ rowsH n h' m (ro.drop k) = rowsH n S q0 ro ∧ m ≤ 65536 ∧ (∀ s ∈ h', s.2.length ≤ m) ∧ h'.length = n ∧ Below w.heap.size w wr ∧ Below z.heap.size z wr) (fun _ i _ => L - (intOf i).toNat)
  case atStart => exact ⟨0, q0, S, Nat.zero_le _, rfl, rfl, HOUT4.out, rfl, by rw [← HQ0.out]; exact HKS.out.all, hcnt_all HQ0.out, HN.out, HW4.out, HZ4.out⟩
  case round =>
    obtain ⟨k, m, h', hk, rfl, rfl, ho, he, hm, h6, hlen, hbr, hbz⟩ := hrel
    obtain ⟨x0, x1, x2, x3, x4, x5⟩ := HX.out wr hbz
    by_cases hlt : k < L
    · have i1 : decide ((k : Int) < (L : Int)) = true := decide_eq_true (by omega)
      have i2 : (k : Int) < (L : Int) := by omega
      have hkl : k < ro.length := by rw [HL.out]; exact hlt
      obtain ⟨b, o, rfl, hb, gz⟩ := HR.out.rows.all (Nat.lt_of_le_of_lt (Nat.zero_le _) hkl)
      obtain ⟨r0, r1, r2⟩ := gz k hkl
      replace r0 := (hbr.cell (p := ⟨b, o + k * 3, none⟩) hb).trans r0
      replace r1 := (hbr.cell (p := ⟨b, o + k * 3 + 1, none⟩) hb).trans r1
      replace r2 := (hbr.cell (p := ⟨b, o + k * 3 + 2, none⟩) hb).trans r2
      have hst := hrowsH_cons n h' m hkl
      have hup := HUP.out k hkl
      have HK := Lib.hid (show k + 1 ≤ L from hlt)
      generalize ro.getD k wrow0 = x at *
      obtain ⟨xi, xt, xv⟩ := x
      dsimp only at r0 r1 r2 hup
      go_upto_region 18 with fail
      obtain ⟨wa, hwa⟩ : ∃ z, wr.alloc (.cells #[.int .i64 xi, .int .i64 xt, .int .i64 xv] 70) = z := ⟨_, rfl⟩
      rw [hwa]
      have hrw := Row.new wr 70 #[.int .i64 xi, .int .i64 xt, .int .i64 xv]
      have hab := below_one wr (.cells #[.int .i64 xi, .int .i64 xt, .int .i64 xv] 70)
      rw [hwa] at hrw hab
      have hwl := hrw.lt
      have HRW := Lib.hid (fun (y : World) (hy : Below wa.heap.size wa y) => And.intro ((hrw.below hy hwl).cell 0) (And.intro ((hrw.below hy hwl).cell 1) ((hrw.below hy hwl).cell 2)))
      have HBR := Lib.hid (hbr.trans (hab.mono hbr.size))
      have HBZ := Lib.hid (hbz.trans (hab.mono hbz.size))
      have HWL := Lib.hid hwl
      obtain ⟨z0, z1, z2⟩ := HRW.out _ (Below.refl _ _)
      by_cases e9 : (n : Int) ≤ xi
      · have d1 : decide ((n : Int) ≤ xi) = true := decide_eq_true e9
        rw [show rowE n h' m (xi, xt, xv) = 9 from by unfold rowE; exact if_pos e9, if_neg (by decide), he] at hst
        have hd := HDO.out
        rw [hst, if_neg (show ¬ (9 : Int) = 0 by decide)] at hd
        subst hd
        clear e9 hst he h6 hlen hbr hbz ho hwa hrw hab hwl r0 r1 r2
        go_wp2_with fail
        go_ret2
        have := refDone_same (E := 9) HA.out (by rw [HN.out]; exact HCC.out) HBR.out
        rw [HN.out] at this
        exact this
      have d1 : decide ((n : Int) ≤ xi) = false := decide_eq_false e9
      by_cases e3 : 65536 ≤ m
      · have d2 : decide ((65536 : Int) ≤ (m : Int)) = true := decide_eq_true (by omega)
        rw [show rowE n h' m (xi, xt, xv) = 3 from by unfold rowE; rw [if_neg e9]; exact if_pos e3, if_neg (by decide), he] at hst
        have hd := HDO.out
        rw [hst, if_neg (show ¬ (3 : Int) = 0 by decide)] at hd
        subst hd
        clear e9 hst he h6 hlen hbr hbz ho hwa hrw hab hwl r0 r1 r2
        go_wp2_with fail
        go_ret2
        have := refDone_same (E := 3) HA.out (by rw [HN.out]; exact HCC.out) HBR.out
        rw [HN.out] at this
        exact this
      have d2 : decide ((65536 : Int) ≤ (m : Int)) = false := decide_eq_false (by omega)
      obtain ⟨i, rfl⟩ : ∃ i : Nat, xi = (i : Int) := ⟨xi.toNat, by omega⟩
      have hin : i < n := by omega
      have j1 : (i : Int) < (n : Int) := by omega
      obtain ⟨g, cg, mm, hv, hbg, hgl, c0, c1, f1, hsin⟩ := ho.at_ hin
      subst hv
      have h6i : (h'.getD i ser0).2.length ≤ 65536 := by have := h6 _ (ser_at (S := h') (i := i) (by omega)); omega
      have HO := Lib.hid (ho.below hab)
      have HLEN := Lib.hid hlen
      have HH60 := Lib.hid h6
      have HSI := Lib.hid (fun (y : World) (hy : Below wa.heap.size wa y) => SerIn.below hsin (hab.trans (hy.mono hab.size)))
      have HGB := Lib.hid (show w.heap.size ≤ g ∧ z.heap.size ≤ g from ⟨Nat.le_trans HW2.out.size hbg, Nat.le_trans HB2.out.size hbg⟩)
      have HNE := Lib.hid (show wr.heap.size ≠ g by omega)
      have HCEL := Lib.hid (fun (y : World) (hy : Below wa.heap.size wa y) => And.intro (((hab.trans (hy.mono hab.size)).cell (p := ⟨g, i * 2 + 1, none⟩) hgl).trans c1) (((hab.trans (hy.mono hab.size)).frozen (p := ⟨g, i * 2 + 1, none⟩) hgl).trans f1))
      have HCEL0 := Lib.hid (fun (y : World) (hy : Below wa.heap.size wa y) => (((hab.trans (hy.mono hab.size)).cell (p := ⟨g, i * 2, none⟩) hgl).trans c0))
      have HBD := Lib.hid (show Below wa.heap.size wa wa.drew from (Below.refl _ _).drew)
      have HCE := Lib.hid (fun (y : World) (hy : Below wa.heap.size wa y) => show y.cell? ⟨wr.heap.size, 0, none⟩ = some (.int .i64 (i : Int)) ∧ y.cell? ⟨wr.heap.size, 1, none⟩ = some (.int .i64 xt) ∧ y.cell? ⟨wr.heap.size, 2, none⟩ = some (.int .i64 xv) from HRW.out y hy)
      have HCF := Lib.hid (fun (y : World) (hy : Below wa.heap.size wa y) (u : Value) => show (y.setCell ⟨g, i * 2 + 1, none⟩ u).cell? ⟨wr.heap.size, 0, none⟩ = some (.int .i64 (i : Int)) ∧ (y.setCell ⟨g, i * 2 + 1, none⟩ u).cell? ⟨wr.heap.size, 1, none⟩ = some (.int .i64 xt) ∧ (y.setCell ⟨g, i * 2 + 1, none⟩ u).cell? ⟨wr.heap.size, 2, none⟩ = some (.int .i64 xv) from
        ⟨(far_cell (p := ⟨wr.heap.size, 0, none⟩) (q := ⟨g, i * 2 + 1, none⟩) HNE.out _ ()).trans (HRW.out y hy).1, (far_cell (p := ⟨wr.heap.size, 1, none⟩) (q := ⟨g, i * 2 + 1, none⟩) HNE.out _ ()).trans (HRW.out y hy).2.1, (far_cell (p := ⟨wr.heap.size, 2, none⟩) (q := ⟨g, i * 2 + 1, none⟩) HNE.out _ ()).trans (HRW.out y hy).2.2⟩)
      have hdef : putH h' ((i : Int), xt, xv) = h'.set i ((h'.getD i ser0).1, (h'.getD i ser0).2 ++ [(xt, xv)]) := rfl
      generalize hs0 : h'.getD i ser0 = s0 at *
      have HSE := Lib.hid hs0
      have HDEF := Lib.hid hdef
      have HCE2 := Lib.hid (fun (y : World) (hy : Below wa.heap.size wa y) => show y.cell? ⟨wr.heap.size, 0, none⟩ = some (.int .i64 (i : Int)) ∧ y.cell? ⟨wr.heap.size, 1, none⟩ = some (.int .i64 xt) ∧ y.cell? ⟨wr.heap.size, 2, none⟩ = some (.int .i64 xv) ∧ y.cell? ⟨g, i * 2, none⟩ = some (.slice mm.la s0.1.length mm.lc) ∧ y.cell? ⟨g, i * 2 + 1, none⟩ = some (.slice mm.sa s0.2.length mm.sc) from ⟨(HRW.out y hy).1, (HRW.out y hy).2.1, (HRW.out y hy).2.2, HCEL0.out y hy, (HCEL.out y hy).1⟩)
      have HLA := Lib.hid (fun (y : World) (hy : Below wa.heap.size wa y) => show Calls Tryz.prog 28 #[.agg #[.slice mm.la s0.1.length mm.lc, .slice mm.sa s0.2.length mm.sc]] y fun e w' => e = .returned (.int .i64 (lastT s0)) ∧ Below y.heap.size y w' from reflast_prog (s0, mm) y (HSI.out y hy) (by dsimp only; omega))
      have HSX := Lib.hid (fun (y : World) (hy : Below wa.heap.size wa y) => show Smps y mm.sa s0.2 from (HSI.out y hy).samples)
      have HFT2 := Lib.hid (show (([] : List Smp).length + s0.2.length) * 16 ≤ 140737488355328 by simp only [List.length_nil]; omega)
      have HFT3 := Lib.hid (show (s0.2.length + [(xt, xv)].length) * 16 ≤ 140737488355328 by simp only [List.length_singleton]; omega)
      have hro : rowE n h' m ((i : Int), xt, xv) = if xt ≤ lastT s0 then 13 else 0 := by
        unfold rowE
        rw [if_neg e9, if_neg e3, ← hs0]
        rfl
      rw [hro] at hst
      have HM1 := Lib.hid (show m + 1 ≤ 65536 by omega)
      have HST := Lib.hid hst
      have HEE := Lib.hid he
      clear hs0 hdef hro hst e9 e3 he h6 hlen hbr hbz ho hwa hrw hab hwl r0 r1 r2 hsin c0 c1 f1 x0 x1 x2 x3 x4 x5
      go_upto_region 22 with fail
      -- REGION 22
      refine wp_region_held_drew (S := fun w' => w'.cell? ⟨wr.heap.size, 0, none⟩ = some (.int .i64 (i : Int)) ∧ w'.cell? ⟨wr.heap.size, 1, none⟩ = some (.int .i64 xt) ∧ w'.cell? ⟨wr.heap.size, 2, none⟩ = some (.int .i64 xv) ∧ w'.cell? ⟨g, i * 2, none⟩ = some (.slice mm.la s0.1.length mm.lc) ∧ w'.cell? ⟨g, i * 2 + 1, none⟩ = some (.slice mm.sa s0.2.length mm.sc)) (by kernel_rfl) ?_ (fun hHeld => ?_)
      · exact HCE2.out _ HBD.out
      refine wpAnyH_take (i := 0) (oi := { dst := some 68, op := Go.Op.fieldAddr 70 (Go.Operand.tmp 10) 1, type := 0, pos := "ref.go:67", after := #[], guard := none }) (v := ?_) rfl (by kernel_rfl) (by kernel_rfl) (by kernel_rfl) (fun _ _ _ h => h) (Or.inl ⟨by rfl, ?_⟩) (by assumption) ?_
      rotate_left 1
      · (intro w hSw; (try dsimp only at hSw); go_simp; try with_reducible rfl)
      try simp only [Act.put, List.setIfInBounds_toArray, List.set_cons_zero, List.set_cons_succ]
      refine wpAnyH_take (i := 1) (oi := { dst := some 69, op := Go.Op.fieldAddr 68 (Go.Operand.tmp 68) 0, type := 0, pos := "ref.go:67", after := #[{ on := 0, ground := Go.Ground.data }], guard := none }) (v := ?_) rfl (by kernel_rfl) (by kernel_rfl) (by kernel_rfl) (fun _ _ _ h => h) (Or.inl ⟨by rfl, ?_⟩) (by assumption) ?_
      rotate_left 1
      · (intro w hSw; (try dsimp only at hSw); go_simp; try with_reducible rfl)
      try simp only [Act.put, List.setIfInBounds_toArray, List.set_cons_zero, List.set_cons_succ]
      refine wpAnyH_take (i := 2) (oi := { dst := some 70, op := Go.Op.load 3 (Go.Operand.tmp 69), type := 3, pos := "ref.go:67", after := #[{ on := 1, ground := Go.Ground.data }], guard := none }) (v := ?_) rfl (by kernel_rfl) (by kernel_rfl) (by kernel_rfl) (fun _ _ _ h => h) (Or.inl ⟨by rfl, ?_⟩) (by assumption) ?_
      rotate_left 1
      · (intro w hSw; (try dsimp only at hSw); go_simp; try with_reducible rfl)
      try simp only [Act.put, List.setIfInBounds_toArray, List.set_cons_zero, List.set_cons_succ]
      refine wpAnyH_take (i := 3) (oi := { dst := some 71, op := Go.Op.move (Go.Operand.tmp 7), type := 27, pos := "ref.go:67", after := #[], guard := none }) (v := ?_) rfl (by kernel_rfl) (by kernel_rfl) (by kernel_rfl) (fun _ _ _ h => h) (Or.inl ⟨by rfl, ?_⟩) (by assumption) ?_
      rotate_left 1
      · (intro w hSw; (try dsimp only at hSw); go_simp; try with_reducible rfl)
      try simp only [Act.put, List.setIfInBounds_toArray, List.set_cons_zero, List.set_cons_succ]
      refine wpAnyH_take (i := 4) (oi := { dst := some 72, op := Go.Op.fieldAddr 70 (Go.Operand.tmp 10) 0, type := 0, pos := "ref.go:67", after := #[], guard := none }) (v := ?_) rfl (by kernel_rfl) (by kernel_rfl) (by kernel_rfl) (fun _ _ _ h => h) (Or.inl ⟨by rfl, ?_⟩) (by assumption) ?_
      rotate_left 1
      · (intro w hSw; (try dsimp only at hSw); go_simp; try with_reducible rfl)
      try simp only [Act.put, List.setIfInBounds_toArray, List.set_cons_zero, List.set_cons_succ]
      refine wpAnyH_take (i := 5) (oi := { dst := some 73, op := Go.Op.load 3 (Go.Operand.tmp 72), type := 3, pos := "ref.go:67", after := #[{ on := 4, ground := Go.Ground.data }], guard := none }) (v := ?_) rfl (by kernel_rfl) (by kernel_rfl) (by kernel_rfl) (fun _ _ _ h => h) (Or.inl ⟨by rfl, ?_⟩) (by assumption) ?_
      rotate_left 1
      · (intro w hSw; (try dsimp only at hSw); go_simp; try with_reducible rfl)
      try simp only [Act.put, List.setIfInBounds_toArray, List.set_cons_zero, List.set_cons_succ]
      refine wpAnyH_take (i := 6) (oi := { dst := some 74, op := Go.Op.indexAddr 27 (Go.Operand.tmp 71) (Go.Operand.tmp 73), type := 0, pos := "ref.go:67", after := #[{ on := 3, ground := Go.Ground.data }, { on := 5, ground := Go.Ground.data }], guard := none }) (v := ?_) rfl (by kernel_rfl) (by kernel_rfl) (by kernel_rfl) (fun _ _ _ h => h) (Or.inl ⟨by rfl, ?_⟩) (by assumption) ?_
      rotate_left 1
      · (intro w hSw; (try dsimp only at hSw); go_simp; try with_reducible rfl)
      try simp only [Act.put, List.setIfInBounds_toArray, List.set_cons_zero, List.set_cons_succ]
      refine wpAnyH_take (i := 7) (oi := { dst := some 75, op := Go.Op.load 65 (Go.Operand.tmp 74), type := 65, pos := "ref.go:67", after := #[{ on := 6, ground := Go.Ground.data }], guard := none }) (v := ?_) rfl (by kernel_rfl) (by kernel_rfl) (by kernel_rfl) (fun _ _ _ h => h) (Or.inl ⟨by rfl, ?_⟩) (by assumption) ?_
      rotate_left 1
      · (intro w hSw; (try dsimp only at hSw); go_simp; try with_reducible rfl)
      try simp only [Act.put, List.setIfInBounds_toArray, List.set_cons_zero, List.set_cons_succ]
      refine wpAnyH_ready (rs := [8]) (by kernel_rfl) (by simp) ?_
      refine AllReadyH.cons (o := { dst := some 76, op := Go.Op.call { callee := Go.Callee.value (Go.Operand.func 28), args := #[Go.Operand.tmp 75], argTypes := #[65] }, type := 3, pos := "ref.go:67", after := #[{ on := 7, ground := Go.Ground.data }], guard := none }) rfl (fun K hK => ?_) AllReadyH.nil
      go_simp
      go_at_call 28
      refine (HLA.out _ HBD.out).mono ?_
      rintro e w5 ⟨rfl, hb5⟩
      have HB5 := Lib.hid (HBD.out.trans hb5)
      clear hb5
      refine hK.out _ _ ?_ (fun hHeld => ?_)
      · exact HCE2.out _ HB5.out
      clear hK K
      try simp only [Act.put, List.setIfInBounds_toArray, List.set_cons_zero, List.set_cons_succ]
      refine wpAnyH_take (i := 9) (oi := { dst := some 77, op := Go.Op.binOp Go.BinOp.leq 3 (Go.Operand.tmp 70) (Go.Operand.tmp 76) 3, type := 4, pos := "ref.go:67", after := #[{ on := 2, ground := Go.Ground.data }, { on := 8, ground := Go.Ground.data }], guard := none }) (v := ?_) rfl (by kernel_rfl) (by kernel_rfl) (by kernel_rfl) (fun _ _ _ h => h) (Or.inl ⟨by rfl, ?_⟩) (by assumption) ?_
      rotate_left 1
      · (intro w hSw; (try dsimp only at hSw); go_simp; try with_reducible rfl)
      try simp only [Act.put, List.setIfInBounds_toArray, List.set_cons_zero, List.set_cons_succ]
      refine wpAnyH_done (by kernel_rfl) ?_ _
      -- END 22
      by_cases e13 : xt ≤ lastT s0
      · have d3 : decide (xt ≤ lastT s0) = true := decide_eq_true e13
        have hst := HST.out
        rw [if_pos e13, if_neg (show ¬ (13 : Int) = 0 by decide), HEE.out] at hst
        have hd := HDO.out
        rw [hst, if_neg (show ¬ (13 : Int) = 0 by decide)] at hd
        subst hd
        have HBR5 := Lib.hid (HBR.out.trans (HB5.out.mono HBR.out.size))
        clear hst
        go_wp2_with fail
        go_ret2
        have := refDone_same (E := 13) HA.out (by rw [HN.out]; exact HCC.out) HBR5.out
        rw [HN.out] at this
        exact this
      have d3 : decide (xt ≤ lastT s0) = false := decide_eq_false e13
      have hst := HST.out
      rw [if_neg e13, if_pos rfl, HEE.out] at hst
      have HE := Lib.hid hst.symm
      have HH6 := Lib.hid (show ∀ s ∈ putH h' ((i : Int), xt, xv), s.2.length ≤ m + 1 by
        rw [HDEF.out]
        intro s hs
        rcases List.mem_or_eq_of_mem_set hs with hs | rfl
        · have := HH60.out s hs
          omega
        · have := HH60.out s0 (by rw [← HSE.out]; exact ser_at (by rw [HLEN.out]; exact hin))
          simp only [List.length_append, List.length_singleton]
          omega)
      have HHL := Lib.hid (show (putH h' ((i : Int), xt, xv)).length = n by rw [HDEF.out, List.length_set]; exact HLEN.out)
      have HB6 := Lib.hid (show Below wa.heap.size wa w5.drew from HB5.out.drew)
      have HZ0 := Lib.hid (Below.refl w5.drew.heap.size w5.drew)
      have HFIN := Lib.hid (fun (y : World) (hy : Below wa.heap.size wa y) P c (hS : OwnS y w5.drew.heap.size (.slice P (s0.2 ++ [(xt, xv)]).length c) (s0.2 ++ [(xt, xv)])) => show OutAt (fun k => T k ∨ w.heap.size ≤ k) w2.heap.size (y.setCell ⟨g, i * 2 + 1, none⟩ (.slice P (s0.2 ++ [(xt, xv)]).length c)) (.slice (some ⟨g, 0, none⟩) n cg) n (putH h' ((i : Int), xt, xv)) ∧ Below w.heap.size w (y.setCell ⟨g, i * 2 + 1, none⟩ (.slice P (s0.2 ++ [(xt, xv)]).length c)) ∧ Below z.heap.size z (y.setCell ⟨g, i * 2 + 1, none⟩ (.slice P (s0.2 ++ [(xt, xv)]).length c)) from
        ⟨by
          have := OutAt.put (HO.out.below hy) hin rfl hS (fun k hk => .inr (Nat.le_trans (Nat.le_trans HBR.out.size HB6.out.size) hk))
          rw [HSE.out] at this
          rw [HDEF.out]
          exact this, (HBR.out.trans (hy.mono HBR.out.size)).setCell HGB.out.1 _, (HBZ.out.trans (hy.mono HBZ.out.size)).setCell HGB.out.2 _⟩)
      clear hst
      go_upto_region 24 with fail
      clear e13
      -- REGION 24
      refine wp_region_held_drew (S := fun w' => w'.cell? ⟨wr.heap.size, 0, none⟩ = some (.int .i64 (i : Int)) ∧ w'.cell? ⟨wr.heap.size, 1, none⟩ = some (.int .i64 xt) ∧ w'.cell? ⟨wr.heap.size, 2, none⟩ = some (.int .i64 xv)) (by kernel_rfl) ?_ (fun hHeld => ?_)
      · exact HCE.out _ HB6.out
      generalize w5.drew = wd at *
      refine wpAnyH_take (i := 0) (oi := { dst := some 79, op := Go.Op.move (Go.Operand.tmp 7), type := 27, pos := "ref.go:70", after := #[], guard := none }) (v := ?_) rfl (by kernel_rfl) (by kernel_rfl) (by kernel_rfl) (fun _ _ _ h => h) (Or.inl ⟨by rfl, ?_⟩) (by assumption) ?_
      rotate_left 1
      · (intro w hSw; (try dsimp only at hSw); go_simp; try with_reducible rfl)
      try simp only [Act.put, List.setIfInBounds_toArray, List.set_cons_zero, List.set_cons_succ]
      refine wpAnyH_take (i := 1) (oi := { dst := some 80, op := Go.Op.fieldAddr 70 (Go.Operand.tmp 10) 0, type := 0, pos := "ref.go:70", after := #[], guard := none }) (v := ?_) rfl (by kernel_rfl) (by kernel_rfl) (by kernel_rfl) (fun _ _ _ h => h) (Or.inl ⟨by rfl, ?_⟩) (by assumption) ?_
      rotate_left 1
      · (intro w hSw; (try dsimp only at hSw); go_simp; try with_reducible rfl)
      try simp only [Act.put, List.setIfInBounds_toArray, List.set_cons_zero, List.set_cons_succ]
      refine wpAnyH_take (i := 2) (oi := { dst := some 81, op := Go.Op.load 3 (Go.Operand.tmp 80), type := 3, pos := "ref.go:70", after := #[{ on := 1, ground := Go.Ground.data }], guard := none }) (v := ?_) rfl (by kernel_rfl) (by kernel_rfl) (by kernel_rfl) (fun _ _ _ h => h) (Or.inl ⟨by rfl, ?_⟩) (by assumption) ?_
      rotate_left 1
      · (intro w hSw; (try dsimp only at hSw); go_simp; try with_reducible rfl)
      try simp only [Act.put, List.setIfInBounds_toArray, List.set_cons_zero, List.set_cons_succ]
      refine wpAnyH_take (i := 4) (oi := { dst := some 83, op := Go.Op.move (Go.Operand.tmp 7), type := 27, pos := "ref.go:70", after := #[], guard := none }) (v := ?_) rfl (by kernel_rfl) (by kernel_rfl) (by kernel_rfl) (fun _ _ _ h => h) (Or.inl ⟨by rfl, ?_⟩) (by assumption) ?_
      rotate_left 1
      · (intro w hSw; (try dsimp only at hSw); go_simp; try with_reducible rfl)
      try simp only [Act.put, List.setIfInBounds_toArray, List.set_cons_zero, List.set_cons_succ]
      refine wpAnyH_take (i := 5) (oi := { dst := some 84, op := Go.Op.fieldAddr 70 (Go.Operand.tmp 10) 0, type := 0, pos := "ref.go:70", after := #[], guard := none }) (v := ?_) rfl (by kernel_rfl) (by kernel_rfl) (by kernel_rfl) (fun _ _ _ h => h) (Or.inl ⟨by rfl, ?_⟩) (by assumption) ?_
      rotate_left 1
      · (intro w hSw; (try dsimp only at hSw); go_simp; try with_reducible rfl)
      try simp only [Act.put, List.setIfInBounds_toArray, List.set_cons_zero, List.set_cons_succ]
      refine wpAnyH_take (i := 6) (oi := { dst := some 85, op := Go.Op.load 3 (Go.Operand.tmp 84), type := 3, pos := "ref.go:70", after := #[{ on := 5, ground := Go.Ground.data }], guard := none }) (v := ?_) rfl (by kernel_rfl) (by kernel_rfl) (by kernel_rfl) (fun _ _ _ h => h) (Or.inl ⟨by rfl, ?_⟩) (by assumption) ?_
      rotate_left 1
      · (intro w hSw; (try dsimp only at hSw); go_simp; try with_reducible rfl)
      try simp only [Act.put, List.setIfInBounds_toArray, List.set_cons_zero, List.set_cons_succ]
      refine wpAnyH_take (i := 7) (oi := { dst := some 86, op := Go.Op.indexAddr 27 (Go.Operand.tmp 83) (Go.Operand.tmp 85), type := 0, pos := "ref.go:70", after := #[{ on := 4, ground := Go.Ground.data }, { on := 6, ground := Go.Ground.data }], guard := none }) (v := ?_) rfl (by kernel_rfl) (by kernel_rfl) (by kernel_rfl) (fun _ _ _ h => h) (Or.inl ⟨by rfl, ?_⟩) (by assumption) ?_
      rotate_left 1
      · (intro w hSw; (try dsimp only at hSw); go_simp; try with_reducible rfl)
      try simp only [Act.put, List.setIfInBounds_toArray, List.set_cons_zero, List.set_cons_succ]
      refine wpAnyH_take (i := 8) (oi := { dst := some 87, op := Go.Op.fieldAddr 65 (Go.Operand.tmp 86) 1, type := 0, pos := "ref.go:70", after := #[{ on := 7, ground := Go.Ground.data }], guard := none }) (v := ?_) rfl (by kernel_rfl) (by kernel_rfl) (by kernel_rfl) (fun _ _ _ h => h) (Or.inl ⟨by rfl, ?_⟩) (by assumption) ?_
      rotate_left 1
      · (intro w hSw; (try dsimp only at hSw); go_simp; try with_reducible rfl)
      try simp only [Act.put, List.setIfInBounds_toArray, List.set_cons_zero, List.set_cons_succ]
      refine wpAnyH_take (i := 11) (oi := { dst := some 90, op := Go.Op.fieldAddr 70 (Go.Operand.tmp 10) 1, type := 0, pos := "ref.go:70", after := #[], guard := none }) (v := ?_) rfl (by kernel_rfl) (by kernel_rfl) (by kernel_rfl) (fun _ _ _ h => h) (Or.inl ⟨by rfl, ?_⟩) (by assumption) ?_
      rotate_left 1
      · (intro w hSw; (try dsimp only at hSw); go_simp; try with_reducible rfl)
      try simp only [Act.put, List.setIfInBounds_toArray, List.set_cons_zero, List.set_cons_succ]
      refine wpAnyH_take (i := 12) (oi := { dst := some 91, op := Go.Op.load 68 (Go.Operand.tmp 90), type := 68, pos := "ref.go:70", after := #[{ on := 11, ground := Go.Ground.data }], guard := none }) (v := ?_) rfl (by kernel_rfl) (by kernel_rfl) (by kernel_rfl) (fun _ _ _ h => h) (Or.inl ⟨by rfl, ?_⟩) (by assumption) ?_
      rotate_left 1
      · (intro w hSw; (try dsimp only at hSw); go_simp; try with_reducible rfl)
      try simp only [Act.put, List.setIfInBounds_toArray, List.set_cons_zero, List.set_cons_succ]
      refine wpAnyH_ready (rs := [3, 9, 13]) (by kernel_rfl) (by simp) ?_
      refine AllReadyH.cons (o := { dst := some 82, op := Go.Op.buildSlice 50 0 #[], type := 50, pos := "ref.go:70", after := #[], guard := none }) rfl (fun K hK => ?_) (AllReadyH.cons (o := { dst := some 88, op := Go.Op.load 50 (Go.Operand.tmp 87), type := 50, pos := "ref.go:70", after := #[{ on := 8, ground := Go.Ground.data }], guard := none }) rfl (fun K hK => ?_) (AllReadyH.cons (o := { dst := some 92, op := Go.Op.buildSlice 50 1 #[(0, Go.Operand.tmp 91)], type := 50, pos := "ref.go:70", after := #[{ on := 12, ground := Go.Ground.data }], guard := none }) rfl (fun K hK => ?_) AllReadyH.nil))
      · go_simp
        have HZ1 := Lib.hid (HZ0.out.alloc HZ0.out.size (.cells #[] 68))
        have HF3_1 := Lib.hid (owns_empty (base := wd.heap.size) (Row.new (wd) 68 #[]) HZ0.out.size)
        refine hK.out _ _ ?_ (fun hHeld => ?_)
        · exact HCE.out _ (HB6.out.trans (HZ1.out.mono HB6.out.size))
        clear hK K
        try simp only [Act.put, List.setIfInBounds_toArray, List.set_cons_zero, List.set_cons_succ]
        refine wpAnyH_ready (rs := [9, 13]) (by kernel_rfl) (by simp) ?_
        refine AllReadyH.cons (o := { dst := some 88, op := Go.Op.load 50 (Go.Operand.tmp 87), type := 50, pos := "ref.go:70", after := #[{ on := 8, ground := Go.Ground.data }], guard := none }) rfl (fun K hK => ?_) (AllReadyH.cons (o := { dst := some 92, op := Go.Op.buildSlice 50 1 #[(0, Go.Operand.tmp 91)], type := 50, pos := "ref.go:70", after := #[{ on := 12, ground := Go.Ground.data }], guard := none }) rfl (fun K hK => ?_) AllReadyH.nil)
        · have g9 := (HCEL.out _ (HB6.out.trans (HZ1.out.mono HB6.out.size))).1
          go_simp
          clear g9
          refine hK.out _ _ ?_ (fun hHeld => ?_)
          · exact HCE.out _ (HB6.out.trans (HZ1.out.mono HB6.out.size))
          clear hK K
          try simp only [Act.put, List.setIfInBounds_toArray, List.set_cons_zero, List.set_cons_succ]
          refine wpAnyH_ready (rs := [10, 13]) (by kernel_rfl) (by simp) ?_
          refine AllReadyH.cons (o := { dst := some 89, op := Go.Op.call { callee := Go.Callee.builtin Go.Builtin.append, args := #[Go.Operand.tmp 82, Go.Operand.tmp 88], argTypes := #[50, 50] }, type := 50, pos := "ref.go:70", after := #[{ on := 3, ground := Go.Ground.data }, { on := 9, ground := Go.Ground.data }], guard := none }) rfl (fun K hK => ?_) (AllReadyH.cons (o := { dst := some 92, op := Go.Op.buildSlice 50 1 #[(0, Go.Operand.tmp 91)], type := 50, pos := "ref.go:70", after := #[{ on := 12, ground := Go.Ground.data }], guard := none }) rfl (fun K hK => ?_) AllReadyH.nil)
          · refine hstep_app_smB rfl (.tmp 82) (.tmp 88) rfl wd.heap.size _ [] rfl HF3_1.out mm.sa s0.2 mm.sc rfl (HSX.out _ (HB6.out.trans (HZ1.out.mono HB6.out.size))) HFT2.out HZ1.out.size ?_
            intro v10 w10 ho10 hb10 hg10
            rw [List.nil_append] at ho10
            have HZ3 := Lib.hid (HZ1.out.trans hb10)
            have HF10_3 := Lib.hid ho10
            clear ho10 hb10 hg10
            refine hK.out _ _ ?_ (fun hHeld => ?_)
            · exact HCE.out _ (HB6.out.trans (HZ3.out.mono HB6.out.size))
            clear hK K
            try simp only [Act.put, List.setIfInBounds_toArray, List.set_cons_zero, List.set_cons_succ]
            refine wpAnyH_ready (rs := [13]) (by kernel_rfl) (by simp) ?_
            refine AllReadyH.cons (o := { dst := some 92, op := Go.Op.buildSlice 50 1 #[(0, Go.Operand.tmp 91)], type := 50, pos := "ref.go:70", after := #[{ on := 12, ground := Go.Ground.data }], guard := none }) rfl (fun K hK => ?_) AllReadyH.nil
            go_simp
            have HZ4 := Lib.hid (HZ3.out.alloc HZ3.out.size (.cells #[.int .i64 xt, .int .i64 xv] 68))
            have HF10_4 := Lib.hid (owns_below HF10_3.out (below_one _ (.cells #[.int .i64 xt, .int .i64 xv] 68)))
            have HF13_4 := Lib.hid (smps_cell (Row.new (w10) 68 #[.int .i64 xt, .int .i64 xv]))
            refine hK.out _ _ ?_ (fun hHeld => ?_)
            · exact HCE.out _ (HB6.out.trans (HZ4.out.mono HB6.out.size))
            clear hK K
            try simp only [Act.put, List.setIfInBounds_toArray, List.set_cons_zero, List.set_cons_succ]
            refine wpAnyH_ready (rs := [14]) (by kernel_rfl) (by simp) ?_
            refine AllReadyH.cons (o := { dst := some 93, op := Go.Op.call { callee := Go.Callee.builtin Go.Builtin.append, args := #[Go.Operand.tmp 89, Go.Operand.tmp 92], argTypes := #[50, 50] }, type := 50, pos := "ref.go:70", after := #[{ on := 10, ground := Go.Ground.data }, { on := 13, ground := Go.Ground.data }, { on := 10, ground := Go.Ground.chain }], guard := none }) rfl (fun K hK => ?_) AllReadyH.nil
            refine hstep_app_smB rfl (.tmp 89) (.tmp 92) rfl wd.heap.size _ s0.2 rfl HF10_4.out (some ⟨(w10).heap.size, 0, none⟩) [(xt, xv)] 1 rfl HF13_4.out HFT3.out HZ4.out.size ?_
            intro v14 w14 ho14 hb14 hg14
            obtain ⟨P14, c14, hv14, _⟩ := owns_slice ho14
            subst hv14
            have HBE := Lib.hid (HB6.out.trans ((HZ4.out.trans hb14).mono HB6.out.size))
            have HO14 := Lib.hid ho14
            clear ho14 hb14 hg14
            refine hK.out _ _ ?_ (fun hHeld => ?_)
            · exact HCE.out _ HBE.out
            clear hK K
            try simp only [Act.put, List.setIfInBounds_toArray, List.set_cons_zero, List.set_cons_succ]
            refine wpAnyH_take (i := 15) (oi := { dst := some 94, op := Go.Op.indexAddr 27 (Go.Operand.tmp 79) (Go.Operand.tmp 81), type := 0, pos := "ref.go:70", after := #[{ on := 0, ground := Go.Ground.data }, { on := 2, ground := Go.Ground.data }, { on := 0, ground := Go.Ground.phase }, { on := 1, ground := Go.Ground.phase }, { on := 2, ground := Go.Ground.phase }, { on := 3, ground := Go.Ground.phase }, { on := 4, ground := Go.Ground.phase }, { on := 5, ground := Go.Ground.phase }, { on := 6, ground := Go.Ground.phase }, { on := 7, ground := Go.Ground.phase }, { on := 8, ground := Go.Ground.phase }, { on := 9, ground := Go.Ground.phase }, { on := 10, ground := Go.Ground.phase }, { on := 11, ground := Go.Ground.phase }, { on := 12, ground := Go.Ground.phase }, { on := 13, ground := Go.Ground.phase }, { on := 14, ground := Go.Ground.phase }], guard := none }) (v := ?_) rfl (by kernel_rfl) (by kernel_rfl) (by kernel_rfl) (fun _ _ _ h => h) (Or.inl ⟨by rfl, ?_⟩) (by assumption) ?_
            rotate_left 1
            · (intro w hSw; (try dsimp only at hSw); go_simp; try with_reducible rfl)
            try simp only [Act.put, List.setIfInBounds_toArray, List.set_cons_zero, List.set_cons_succ]
            refine wpAnyH_take (i := 16) (oi := { dst := some 95, op := Go.Op.fieldAddr 65 (Go.Operand.tmp 94) 1, type := 0, pos := "ref.go:70", after := #[{ on := 15, ground := Go.Ground.data }, { on := 0, ground := Go.Ground.phase }, { on := 1, ground := Go.Ground.phase }, { on := 2, ground := Go.Ground.phase }, { on := 3, ground := Go.Ground.phase }, { on := 4, ground := Go.Ground.phase }, { on := 5, ground := Go.Ground.phase }, { on := 6, ground := Go.Ground.phase }, { on := 7, ground := Go.Ground.phase }, { on := 8, ground := Go.Ground.phase }, { on := 9, ground := Go.Ground.phase }, { on := 10, ground := Go.Ground.phase }, { on := 11, ground := Go.Ground.phase }, { on := 12, ground := Go.Ground.phase }, { on := 13, ground := Go.Ground.phase }, { on := 14, ground := Go.Ground.phase }], guard := none }) (v := ?_) rfl (by kernel_rfl) (by kernel_rfl) (by kernel_rfl) (fun _ _ _ h => h) (Or.inl ⟨by rfl, ?_⟩) (by assumption) ?_
            rotate_left 1
            · (intro w hSw; (try dsimp only at hSw); go_simp; try with_reducible rfl)
            try simp only [Act.put, List.setIfInBounds_toArray, List.set_cons_zero, List.set_cons_succ]
            obtain ⟨y1, yf⟩ := HCEL.out _ HBE.out
            refine wpAnyH_ready (rs := [17]) (by kernel_rfl) (by simp) ?_
            refine AllReadyH.cons (o := { dst := none, op := Go.Op.store 50 (Go.Operand.tmp 95) (Go.Operand.tmp 93), type := 0, pos := "ref.go:70", after := #[{ on := 16, ground := Go.Ground.data }, { on := 14, ground := Go.Ground.data }, { on := 14, ground := Go.Ground.chain }, { on := 0, ground := Go.Ground.phase }, { on := 1, ground := Go.Ground.phase }, { on := 2, ground := Go.Ground.phase }, { on := 3, ground := Go.Ground.phase }, { on := 4, ground := Go.Ground.phase }, { on := 5, ground := Go.Ground.phase }, { on := 6, ground := Go.Ground.phase }, { on := 7, ground := Go.Ground.phase }, { on := 8, ground := Go.Ground.phase }, { on := 9, ground := Go.Ground.phase }, { on := 10, ground := Go.Ground.phase }, { on := 11, ground := Go.Ground.phase }, { on := 12, ground := Go.Ground.phase }, { on := 13, ground := Go.Ground.phase }, { on := 14, ground := Go.Ground.phase }], guard := none }) rfl (fun K hK => ?_) AllReadyH.nil
            go_simp
            refine hK.out _ _ ?_ (fun hHeld => ?_)
            · exact HCF.out _ HBE.out _
            clear hK K y1 yf
            try simp only [Act.put, List.setIfInBounds_toArray, List.set_cons_zero, List.set_cons_succ]
            refine wpAnyH_done (by kernel_rfl) ?_ _
            obtain ⟨f1, f2, f3⟩ := HFIN.out _ HBE.out P14 c14 HO14.out
            rw [show (s0.2 ++ [(xt, xv)]).length = s0.2.length + 1 by simp] at f1 f2 f3
            have HF1 := Lib.hid f1
            have HF2 := Lib.hid f2
            have HF3 := Lib.hid f3
            clear f1 f2 f3
            go_wp2_with fail
            go_roundw
            case rel => exact ⟨k + 1, m + 1, putH h' ((i : Int), xt, xv), HK.out, by go_num, by go_num, HF1.out, HE.out, HM1.out, HH6.out, HHL.out, HF2.out, HF3.out⟩
            case measure => simp [intOf]; omega
          · go_simp
            have HZ5 := Lib.hid (HZ1.out.alloc HZ1.out.size (.cells #[.int .i64 xt, .int .i64 xv] 68))
            have HF3_5 := Lib.hid (owns_below HF3_1.out (below_one _ (.cells #[.int .i64 xt, .int .i64 xv] 68)))
            have HF13_5 := Lib.hid (smps_cell (Row.new ((wd).alloc (.cells #[] 68)) 68 #[.int .i64 xt, .int .i64 xv]))
            rw [show ((wd).alloc (.cells #[] 68)).heap.size = wd.heap.size + 1 from by simp] at HF13_5
            have HN5 := Lib.hid (show (wd.heap.size + 1 : Nat) ≠ (wd).heap.size from by simp)
            refine hK.out _ _ ?_ (fun hHeld => ?_)
            · exact HCE.out _ (HB6.out.trans (HZ5.out.mono HB6.out.size))
            clear hK K
            try simp only [Act.put, List.setIfInBounds_toArray, List.set_cons_zero, List.set_cons_succ]
            refine wpAnyH_ready (rs := [10]) (by kernel_rfl) (by simp) ?_
            refine AllReadyH.cons (o := { dst := some 89, op := Go.Op.call { callee := Go.Callee.builtin Go.Builtin.append, args := #[Go.Operand.tmp 82, Go.Operand.tmp 88], argTypes := #[50, 50] }, type := 50, pos := "ref.go:70", after := #[{ on := 3, ground := Go.Ground.data }, { on := 9, ground := Go.Ground.data }], guard := none }) rfl (fun K hK => ?_) AllReadyH.nil
            refine hstep_app_smB rfl (.tmp 82) (.tmp 88) rfl wd.heap.size _ [] rfl HF3_5.out mm.sa s0.2 mm.sc rfl (HSX.out _ (HB6.out.trans (HZ5.out.mono HB6.out.size))) HFT2.out HZ5.out.size ?_
            intro v10 w10 ho10 hb10 hg10
            rw [List.nil_append] at ho10
            have HZ6 := Lib.hid (HZ5.out.trans hb10)
            have HF13_6 := Lib.hid (show Smps w10 (some ⟨wd.heap.size + 1, 0, none⟩) [(xt, xv)] from hsmps_far HF13_5.out hg10 (fun e => HN5.out (by injection e with e; exact e.symm)))
            have HF10_6 := Lib.hid ho10
            clear ho10 hb10 hg10
            refine hK.out _ _ ?_ (fun hHeld => ?_)
            · exact HCE.out _ (HB6.out.trans (HZ6.out.mono HB6.out.size))
            clear hK K
            try simp only [Act.put, List.setIfInBounds_toArray, List.set_cons_zero, List.set_cons_succ]
            refine wpAnyH_ready (rs := [14]) (by kernel_rfl) (by simp) ?_
            refine AllReadyH.cons (o := { dst := some 93, op := Go.Op.call { callee := Go.Callee.builtin Go.Builtin.append, args := #[Go.Operand.tmp 89, Go.Operand.tmp 92], argTypes := #[50, 50] }, type := 50, pos := "ref.go:70", after := #[{ on := 10, ground := Go.Ground.data }, { on := 13, ground := Go.Ground.data }, { on := 10, ground := Go.Ground.chain }], guard := none }) rfl (fun K hK => ?_) AllReadyH.nil
            refine hstep_app_smB rfl (.tmp 89) (.tmp 92) rfl wd.heap.size _ s0.2 rfl HF10_6.out (some ⟨wd.heap.size + 1, 0, none⟩) [(xt, xv)] 1 rfl HF13_6.out HFT3.out HZ6.out.size ?_
            intro v14 w14 ho14 hb14 hg14
            obtain ⟨P14, c14, hv14, _⟩ := owns_slice ho14
            subst hv14
            have HBE := Lib.hid (HB6.out.trans ((HZ6.out.trans hb14).mono HB6.out.size))
            have HO14 := Lib.hid ho14
            clear ho14 hb14 hg14
            refine hK.out _ _ ?_ (fun hHeld => ?_)
            · exact HCE.out _ HBE.out
            clear hK K
            try simp only [Act.put, List.setIfInBounds_toArray, List.set_cons_zero, List.set_cons_succ]
            refine wpAnyH_take (i := 15) (oi := { dst := some 94, op := Go.Op.indexAddr 27 (Go.Operand.tmp 79) (Go.Operand.tmp 81), type := 0, pos := "ref.go:70", after := #[{ on := 0, ground := Go.Ground.data }, { on := 2, ground := Go.Ground.data }, { on := 0, ground := Go.Ground.phase }, { on := 1, ground := Go.Ground.phase }, { on := 2, ground := Go.Ground.phase }, { on := 3, ground := Go.Ground.phase }, { on := 4, ground := Go.Ground.phase }, { on := 5, ground := Go.Ground.phase }, { on := 6, ground := Go.Ground.phase }, { on := 7, ground := Go.Ground.phase }, { on := 8, ground := Go.Ground.phase }, { on := 9, ground := Go.Ground.phase }, { on := 10, ground := Go.Ground.phase }, { on := 11, ground := Go.Ground.phase }, { on := 12, ground := Go.Ground.phase }, { on := 13, ground := Go.Ground.phase }, { on := 14, ground := Go.Ground.phase }], guard := none }) (v := ?_) rfl (by kernel_rfl) (by kernel_rfl) (by kernel_rfl) (fun _ _ _ h => h) (Or.inl ⟨by rfl, ?_⟩) (by assumption) ?_
            rotate_left 1
            · (intro w hSw; (try dsimp only at hSw); go_simp; try with_reducible rfl)
            try simp only [Act.put, List.setIfInBounds_toArray, List.set_cons_zero, List.set_cons_succ]
            refine wpAnyH_take (i := 16) (oi := { dst := some 95, op := Go.Op.fieldAddr 65 (Go.Operand.tmp 94) 1, type := 0, pos := "ref.go:70", after := #[{ on := 15, ground := Go.Ground.data }, { on := 0, ground := Go.Ground.phase }, { on := 1, ground := Go.Ground.phase }, { on := 2, ground := Go.Ground.phase }, { on := 3, ground := Go.Ground.phase }, { on := 4, ground := Go.Ground.phase }, { on := 5, ground := Go.Ground.phase }, { on := 6, ground := Go.Ground.phase }, { on := 7, ground := Go.Ground.phase }, { on := 8, ground := Go.Ground.phase }, { on := 9, ground := Go.Ground.phase }, { on := 10, ground := Go.Ground.phase }, { on := 11, ground := Go.Ground.phase }, { on := 12, ground := Go.Ground.phase }, { on := 13, ground := Go.Ground.phase }, { on := 14, ground := Go.Ground.phase }], guard := none }) (v := ?_) rfl (by kernel_rfl) (by kernel_rfl) (by kernel_rfl) (fun _ _ _ h => h) (Or.inl ⟨by rfl, ?_⟩) (by assumption) ?_
            rotate_left 1
            · (intro w hSw; (try dsimp only at hSw); go_simp; try with_reducible rfl)
            try simp only [Act.put, List.setIfInBounds_toArray, List.set_cons_zero, List.set_cons_succ]
            obtain ⟨y1, yf⟩ := HCEL.out _ HBE.out
            refine wpAnyH_ready (rs := [17]) (by kernel_rfl) (by simp) ?_
            refine AllReadyH.cons (o := { dst := none, op := Go.Op.store 50 (Go.Operand.tmp 95) (Go.Operand.tmp 93), type := 0, pos := "ref.go:70", after := #[{ on := 16, ground := Go.Ground.data }, { on := 14, ground := Go.Ground.data }, { on := 14, ground := Go.Ground.chain }, { on := 0, ground := Go.Ground.phase }, { on := 1, ground := Go.Ground.phase }, { on := 2, ground := Go.Ground.phase }, { on := 3, ground := Go.Ground.phase }, { on := 4, ground := Go.Ground.phase }, { on := 5, ground := Go.Ground.phase }, { on := 6, ground := Go.Ground.phase }, { on := 7, ground := Go.Ground.phase }, { on := 8, ground := Go.Ground.phase }, { on := 9, ground := Go.Ground.phase }, { on := 10, ground := Go.Ground.phase }, { on := 11, ground := Go.Ground.phase }, { on := 12, ground := Go.Ground.phase }, { on := 13, ground := Go.Ground.phase }, { on := 14, ground := Go.Ground.phase }], guard := none }) rfl (fun K hK => ?_) AllReadyH.nil
            go_simp
            refine hK.out _ _ ?_ (fun hHeld => ?_)
            · exact HCF.out _ HBE.out _
            clear hK K y1 yf
            try simp only [Act.put, List.setIfInBounds_toArray, List.set_cons_zero, List.set_cons_succ]
            refine wpAnyH_done (by kernel_rfl) ?_ _
            obtain ⟨f1, f2, f3⟩ := HFIN.out _ HBE.out P14 c14 HO14.out
            rw [show (s0.2 ++ [(xt, xv)]).length = s0.2.length + 1 by simp] at f1 f2 f3
            have HF1 := Lib.hid f1
            have HF2 := Lib.hid f2
            have HF3 := Lib.hid f3
            clear f1 f2 f3
            go_wp2_with fail
            go_roundw
            case rel => exact ⟨k + 1, m + 1, putH h' ((i : Int), xt, xv), HK.out, by go_num, by go_num, HF1.out, HE.out, HM1.out, HH6.out, HHL.out, HF2.out, HF3.out⟩
            case measure => simp [intOf]; omega
        · go_simp
          have HZ7 := Lib.hid (HZ1.out.alloc HZ1.out.size (.cells #[.int .i64 xt, .int .i64 xv] 68))
          have HF3_7 := Lib.hid (owns_below HF3_1.out (below_one _ (.cells #[.int .i64 xt, .int .i64 xv] 68)))
          have HF13_7 := Lib.hid (smps_cell (Row.new ((wd).alloc (.cells #[] 68)) 68 #[.int .i64 xt, .int .i64 xv]))
          rw [show ((wd).alloc (.cells #[] 68)).heap.size = wd.heap.size + 1 from by simp] at HF13_7
          have HN7 := Lib.hid (show (wd.heap.size + 1 : Nat) ≠ (wd).heap.size from by simp)
          refine hK.out _ _ ?_ (fun hHeld => ?_)
          · exact HCE.out _ (HB6.out.trans (HZ7.out.mono HB6.out.size))
          clear hK K
          try simp only [Act.put, List.setIfInBounds_toArray, List.set_cons_zero, List.set_cons_succ]
          refine wpAnyH_ready (rs := [9]) (by kernel_rfl) (by simp) ?_
          refine AllReadyH.cons (o := { dst := some 88, op := Go.Op.load 50 (Go.Operand.tmp 87), type := 50, pos := "ref.go:70", after := #[{ on := 8, ground := Go.Ground.data }], guard := none }) rfl (fun K hK => ?_) AllReadyH.nil
          have g9 := (HCEL.out _ (HB6.out.trans (HZ7.out.mono HB6.out.size))).1
          go_simp
          clear g9
          refine hK.out _ _ ?_ (fun hHeld => ?_)
          · exact HCE.out _ (HB6.out.trans (HZ7.out.mono HB6.out.size))
          clear hK K
          try simp only [Act.put, List.setIfInBounds_toArray, List.set_cons_zero, List.set_cons_succ]
          refine wpAnyH_ready (rs := [10]) (by kernel_rfl) (by simp) ?_
          refine AllReadyH.cons (o := { dst := some 89, op := Go.Op.call { callee := Go.Callee.builtin Go.Builtin.append, args := #[Go.Operand.tmp 82, Go.Operand.tmp 88], argTypes := #[50, 50] }, type := 50, pos := "ref.go:70", after := #[{ on := 3, ground := Go.Ground.data }, { on := 9, ground := Go.Ground.data }], guard := none }) rfl (fun K hK => ?_) AllReadyH.nil
          refine hstep_app_smB rfl (.tmp 82) (.tmp 88) rfl wd.heap.size _ [] rfl HF3_7.out mm.sa s0.2 mm.sc rfl (HSX.out _ (HB6.out.trans (HZ7.out.mono HB6.out.size))) HFT2.out HZ7.out.size ?_
          intro v10 w10 ho10 hb10 hg10
          rw [List.nil_append] at ho10
          have HZ9 := Lib.hid (HZ7.out.trans hb10)
          have HF13_9 := Lib.hid (show Smps w10 (some ⟨wd.heap.size + 1, 0, none⟩) [(xt, xv)] from hsmps_far HF13_7.out hg10 (fun e => HN7.out (by injection e with e; exact e.symm)))
          have HF10_9 := Lib.hid ho10
          clear ho10 hb10 hg10
          refine hK.out _ _ ?_ (fun hHeld => ?_)
          · exact HCE.out _ (HB6.out.trans (HZ9.out.mono HB6.out.size))
          clear hK K
          try simp only [Act.put, List.setIfInBounds_toArray, List.set_cons_zero, List.set_cons_succ]
          refine wpAnyH_ready (rs := [14]) (by kernel_rfl) (by simp) ?_
          refine AllReadyH.cons (o := { dst := some 93, op := Go.Op.call { callee := Go.Callee.builtin Go.Builtin.append, args := #[Go.Operand.tmp 89, Go.Operand.tmp 92], argTypes := #[50, 50] }, type := 50, pos := "ref.go:70", after := #[{ on := 10, ground := Go.Ground.data }, { on := 13, ground := Go.Ground.data }, { on := 10, ground := Go.Ground.chain }], guard := none }) rfl (fun K hK => ?_) AllReadyH.nil
          refine hstep_app_smB rfl (.tmp 89) (.tmp 92) rfl wd.heap.size _ s0.2 rfl HF10_9.out (some ⟨wd.heap.size + 1, 0, none⟩) [(xt, xv)] 1 rfl HF13_9.out HFT3.out HZ9.out.size ?_
          intro v14 w14 ho14 hb14 hg14
          obtain ⟨P14, c14, hv14, _⟩ := owns_slice ho14
          subst hv14
          have HBE := Lib.hid (HB6.out.trans ((HZ9.out.trans hb14).mono HB6.out.size))
          have HO14 := Lib.hid ho14
          clear ho14 hb14 hg14
          refine hK.out _ _ ?_ (fun hHeld => ?_)
          · exact HCE.out _ HBE.out
          clear hK K
          try simp only [Act.put, List.setIfInBounds_toArray, List.set_cons_zero, List.set_cons_succ]
          refine wpAnyH_take (i := 15) (oi := { dst := some 94, op := Go.Op.indexAddr 27 (Go.Operand.tmp 79) (Go.Operand.tmp 81), type := 0, pos := "ref.go:70", after := #[{ on := 0, ground := Go.Ground.data }, { on := 2, ground := Go.Ground.data }, { on := 0, ground := Go.Ground.phase }, { on := 1, ground := Go.Ground.phase }, { on := 2, ground := Go.Ground.phase }, { on := 3, ground := Go.Ground.phase }, { on := 4, ground := Go.Ground.phase }, { on := 5, ground := Go.Ground.phase }, { on := 6, ground := Go.Ground.phase }, { on := 7, ground := Go.Ground.phase }, { on := 8, ground := Go.Ground.phase }, { on := 9, ground := Go.Ground.phase }, { on := 10, ground := Go.Ground.phase }, { on := 11, ground := Go.Ground.phase }, { on := 12, ground := Go.Ground.phase }, { on := 13, ground := Go.Ground.phase }, { on := 14, ground := Go.Ground.phase }], guard := none }) (v := ?_) rfl (by kernel_rfl) (by kernel_rfl) (by kernel_rfl) (fun _ _ _ h => h) (Or.inl ⟨by rfl, ?_⟩) (by assumption) ?_
          rotate_left 1
          · (intro w hSw; (try dsimp only at hSw); go_simp; try with_reducible rfl)
          try simp only [Act.put, List.setIfInBounds_toArray, List.set_cons_zero, List.set_cons_succ]
          refine wpAnyH_take (i := 16) (oi := { dst := some 95, op := Go.Op.fieldAddr 65 (Go.Operand.tmp 94) 1, type := 0, pos := "ref.go:70", after := #[{ on := 15, ground := Go.Ground.data }, { on := 0, ground := Go.Ground.phase }, { on := 1, ground := Go.Ground.phase }, { on := 2, ground := Go.Ground.phase }, { on := 3, ground := Go.Ground.phase }, { on := 4, ground := Go.Ground.phase }, { on := 5, ground := Go.Ground.phase }, { on := 6, ground := Go.Ground.phase }, { on := 7, ground := Go.Ground.phase }, { on := 8, ground := Go.Ground.phase }, { on := 9, ground := Go.Ground.phase }, { on := 10, ground := Go.Ground.phase }, { on := 11, ground := Go.Ground.phase }, { on := 12, ground := Go.Ground.phase }, { on := 13, ground := Go.Ground.phase }, { on := 14, ground := Go.Ground.phase }], guard := none }) (v := ?_) rfl (by kernel_rfl) (by kernel_rfl) (by kernel_rfl) (fun _ _ _ h => h) (Or.inl ⟨by rfl, ?_⟩) (by assumption) ?_
          rotate_left 1
          · (intro w hSw; (try dsimp only at hSw); go_simp; try with_reducible rfl)
          try simp only [Act.put, List.setIfInBounds_toArray, List.set_cons_zero, List.set_cons_succ]
          obtain ⟨y1, yf⟩ := HCEL.out _ HBE.out
          refine wpAnyH_ready (rs := [17]) (by kernel_rfl) (by simp) ?_
          refine AllReadyH.cons (o := { dst := none, op := Go.Op.store 50 (Go.Operand.tmp 95) (Go.Operand.tmp 93), type := 0, pos := "ref.go:70", after := #[{ on := 16, ground := Go.Ground.data }, { on := 14, ground := Go.Ground.data }, { on := 14, ground := Go.Ground.chain }, { on := 0, ground := Go.Ground.phase }, { on := 1, ground := Go.Ground.phase }, { on := 2, ground := Go.Ground.phase }, { on := 3, ground := Go.Ground.phase }, { on := 4, ground := Go.Ground.phase }, { on := 5, ground := Go.Ground.phase }, { on := 6, ground := Go.Ground.phase }, { on := 7, ground := Go.Ground.phase }, { on := 8, ground := Go.Ground.phase }, { on := 9, ground := Go.Ground.phase }, { on := 10, ground := Go.Ground.phase }, { on := 11, ground := Go.Ground.phase }, { on := 12, ground := Go.Ground.phase }, { on := 13, ground := Go.Ground.phase }, { on := 14, ground := Go.Ground.phase }], guard := none }) rfl (fun K hK => ?_) AllReadyH.nil
          go_simp
          refine hK.out _ _ ?_ (fun hHeld => ?_)
          · exact HCF.out _ HBE.out _
          clear hK K y1 yf
          try simp only [Act.put, List.setIfInBounds_toArray, List.set_cons_zero, List.set_cons_succ]
          refine wpAnyH_done (by kernel_rfl) ?_ _
          obtain ⟨f1, f2, f3⟩ := HFIN.out _ HBE.out P14 c14 HO14.out
          rw [show (s0.2 ++ [(xt, xv)]).length = s0.2.length + 1 by simp] at f1 f2 f3
          have HF1 := Lib.hid f1
          have HF2 := Lib.hid f2
          have HF3 := Lib.hid f3
          clear f1 f2 f3
          go_wp2_with fail
          go_roundw
          case rel => exact ⟨k + 1, m + 1, putH h' ((i : Int), xt, xv), HK.out, by go_num, by go_num, HF1.out, HE.out, HM1.out, HH6.out, HHL.out, HF2.out, HF3.out⟩
          case measure => simp [intOf]; omega
      · have g9 := (HCEL.out _ (HB6.out.trans (HZ0.out.mono HB6.out.size))).1
        go_simp
        clear g9
        refine hK.out _ _ ?_ (fun hHeld => ?_)
        · exact HCE.out _ (HB6.out.trans (HZ0.out.mono HB6.out.size))
        clear hK K
        try simp only [Act.put, List.setIfInBounds_toArray, List.set_cons_zero, List.set_cons_succ]
        refine wpAnyH_ready (rs := [3, 13]) (by kernel_rfl) (by simp) ?_
        refine AllReadyH.cons (o := { dst := some 82, op := Go.Op.buildSlice 50 0 #[], type := 50, pos := "ref.go:70", after := #[], guard := none }) rfl (fun K hK => ?_) (AllReadyH.cons (o := { dst := some 92, op := Go.Op.buildSlice 50 1 #[(0, Go.Operand.tmp 91)], type := 50, pos := "ref.go:70", after := #[{ on := 12, ground := Go.Ground.data }], guard := none }) rfl (fun K hK => ?_) AllReadyH.nil)
        · go_simp
          have HZ11 := Lib.hid (HZ0.out.alloc HZ0.out.size (.cells #[] 68))
          have HF3_11 := Lib.hid (owns_empty (base := wd.heap.size) (Row.new (wd) 68 #[]) HZ0.out.size)
          refine hK.out _ _ ?_ (fun hHeld => ?_)
          · exact HCE.out _ (HB6.out.trans (HZ11.out.mono HB6.out.size))
          clear hK K
          try simp only [Act.put, List.setIfInBounds_toArray, List.set_cons_zero, List.set_cons_succ]
          refine wpAnyH_ready (rs := [10, 13]) (by kernel_rfl) (by simp) ?_
          refine AllReadyH.cons (o := { dst := some 89, op := Go.Op.call { callee := Go.Callee.builtin Go.Builtin.append, args := #[Go.Operand.tmp 82, Go.Operand.tmp 88], argTypes := #[50, 50] }, type := 50, pos := "ref.go:70", after := #[{ on := 3, ground := Go.Ground.data }, { on := 9, ground := Go.Ground.data }], guard := none }) rfl (fun K hK => ?_) (AllReadyH.cons (o := { dst := some 92, op := Go.Op.buildSlice 50 1 #[(0, Go.Operand.tmp 91)], type := 50, pos := "ref.go:70", after := #[{ on := 12, ground := Go.Ground.data }], guard := none }) rfl (fun K hK => ?_) AllReadyH.nil)
          · refine hstep_app_smB rfl (.tmp 82) (.tmp 88) rfl wd.heap.size _ [] rfl HF3_11.out mm.sa s0.2 mm.sc rfl (HSX.out _ (HB6.out.trans (HZ11.out.mono HB6.out.size))) HFT2.out HZ11.out.size ?_
            intro v10 w10 ho10 hb10 hg10
            rw [List.nil_append] at ho10
            have HZ12 := Lib.hid (HZ11.out.trans hb10)
            have HF10_12 := Lib.hid ho10
            clear ho10 hb10 hg10
            refine hK.out _ _ ?_ (fun hHeld => ?_)
            · exact HCE.out _ (HB6.out.trans (HZ12.out.mono HB6.out.size))
            clear hK K
            try simp only [Act.put, List.setIfInBounds_toArray, List.set_cons_zero, List.set_cons_succ]
            refine wpAnyH_ready (rs := [13]) (by kernel_rfl) (by simp) ?_
            refine AllReadyH.cons (o := { dst := some 92, op := Go.Op.buildSlice 50 1 #[(0, Go.Operand.tmp 91)], type := 50, pos := "ref.go:70", after := #[{ on := 12, ground := Go.Ground.data }], guard := none }) rfl (fun K hK => ?_) AllReadyH.nil
            go_simp
            have HZ13 := Lib.hid (HZ12.out.alloc HZ12.out.size (.cells #[.int .i64 xt, .int .i64 xv] 68))
            have HF10_13 := Lib.hid (owns_below HF10_12.out (below_one _ (.cells #[.int .i64 xt, .int .i64 xv] 68)))
            have HF13_13 := Lib.hid (smps_cell (Row.new (w10) 68 #[.int .i64 xt, .int .i64 xv]))
            refine hK.out _ _ ?_ (fun hHeld => ?_)
            · exact HCE.out _ (HB6.out.trans (HZ13.out.mono HB6.out.size))
            clear hK K
            try simp only [Act.put, List.setIfInBounds_toArray, List.set_cons_zero, List.set_cons_succ]
            refine wpAnyH_ready (rs := [14]) (by kernel_rfl) (by simp) ?_
            refine AllReadyH.cons (o := { dst := some 93, op := Go.Op.call { callee := Go.Callee.builtin Go.Builtin.append, args := #[Go.Operand.tmp 89, Go.Operand.tmp 92], argTypes := #[50, 50] }, type := 50, pos := "ref.go:70", after := #[{ on := 10, ground := Go.Ground.data }, { on := 13, ground := Go.Ground.data }, { on := 10, ground := Go.Ground.chain }], guard := none }) rfl (fun K hK => ?_) AllReadyH.nil
            refine hstep_app_smB rfl (.tmp 89) (.tmp 92) rfl wd.heap.size _ s0.2 rfl HF10_13.out (some ⟨(w10).heap.size, 0, none⟩) [(xt, xv)] 1 rfl HF13_13.out HFT3.out HZ13.out.size ?_
            intro v14 w14 ho14 hb14 hg14
            obtain ⟨P14, c14, hv14, _⟩ := owns_slice ho14
            subst hv14
            have HBE := Lib.hid (HB6.out.trans ((HZ13.out.trans hb14).mono HB6.out.size))
            have HO14 := Lib.hid ho14
            clear ho14 hb14 hg14
            refine hK.out _ _ ?_ (fun hHeld => ?_)
            · exact HCE.out _ HBE.out
            clear hK K
            try simp only [Act.put, List.setIfInBounds_toArray, List.set_cons_zero, List.set_cons_succ]
            refine wpAnyH_take (i := 15) (oi := { dst := some 94, op := Go.Op.indexAddr 27 (Go.Operand.tmp 79) (Go.Operand.tmp 81), type := 0, pos := "ref.go:70", after := #[{ on := 0, ground := Go.Ground.data }, { on := 2, ground := Go.Ground.data }, { on := 0, ground := Go.Ground.phase }, { on := 1, ground := Go.Ground.phase }, { on := 2, ground := Go.Ground.phase }, { on := 3, ground := Go.Ground.phase }, { on := 4, ground := Go.Ground.phase }, { on := 5, ground := Go.Ground.phase }, { on := 6, ground := Go.Ground.phase }, { on := 7, ground := Go.Ground.phase }, { on := 8, ground := Go.Ground.phase }, { on := 9, ground := Go.Ground.phase }, { on := 10, ground := Go.Ground.phase }, { on := 11, ground := Go.Ground.phase }, { on := 12, ground := Go.Ground.phase }, { on := 13, ground := Go.Ground.phase }, { on := 14, ground := Go.Ground.phase }], guard := none }) (v := ?_) rfl (by kernel_rfl) (by kernel_rfl) (by kernel_rfl) (fun _ _ _ h => h) (Or.inl ⟨by rfl, ?_⟩) (by assumption) ?_
            rotate_left 1
            · (intro w hSw; (try dsimp only at hSw); go_simp; try with_reducible rfl)
            try simp only [Act.put, List.setIfInBounds_toArray, List.set_cons_zero, List.set_cons_succ]
            refine wpAnyH_take (i := 16) (oi := { dst := some 95, op := Go.Op.fieldAddr 65 (Go.Operand.tmp 94) 1, type := 0, pos := "ref.go:70", after := #[{ on := 15, ground := Go.Ground.data }, { on := 0, ground := Go.Ground.phase }, { on := 1, ground := Go.Ground.phase }, { on := 2, ground := Go.Ground.phase }, { on := 3, ground := Go.Ground.phase }, { on := 4, ground := Go.Ground.phase }, { on := 5, ground := Go.Ground.phase }, { on := 6, ground := Go.Ground.phase }, { on := 7, ground := Go.Ground.phase }, { on := 8, ground := Go.Ground.phase }, { on := 9, ground := Go.Ground.phase }, { on := 10, ground := Go.Ground.phase }, { on := 11, ground := Go.Ground.phase }, { on := 12, ground := Go.Ground.phase }, { on := 13, ground := Go.Ground.phase }, { on := 14, ground := Go.Ground.phase }], guard := none }) (v := ?_) rfl (by kernel_rfl) (by kernel_rfl) (by kernel_rfl) (fun _ _ _ h => h) (Or.inl ⟨by rfl, ?_⟩) (by assumption) ?_
            rotate_left 1
            · (intro w hSw; (try dsimp only at hSw); go_simp; try with_reducible rfl)
            try simp only [Act.put, List.setIfInBounds_toArray, List.set_cons_zero, List.set_cons_succ]
            obtain ⟨y1, yf⟩ := HCEL.out _ HBE.out
            refine wpAnyH_ready (rs := [17]) (by kernel_rfl) (by simp) ?_
            refine AllReadyH.cons (o := { dst := none, op := Go.Op.store 50 (Go.Operand.tmp 95) (Go.Operand.tmp 93), type := 0, pos := "ref.go:70", after := #[{ on := 16, ground := Go.Ground.data }, { on := 14, ground := Go.Ground.data }, { on := 14, ground := Go.Ground.chain }, { on := 0, ground := Go.Ground.phase }, { on := 1, ground := Go.Ground.phase }, { on := 2, ground := Go.Ground.phase }, { on := 3, ground := Go.Ground.phase }, { on := 4, ground := Go.Ground.phase }, { on := 5, ground := Go.Ground.phase }, { on := 6, ground := Go.Ground.phase }, { on := 7, ground := Go.Ground.phase }, { on := 8, ground := Go.Ground.phase }, { on := 9, ground := Go.Ground.phase }, { on := 10, ground := Go.Ground.phase }, { on := 11, ground := Go.Ground.phase }, { on := 12, ground := Go.Ground.phase }, { on := 13, ground := Go.Ground.phase }, { on := 14, ground := Go.Ground.phase }], guard := none }) rfl (fun K hK => ?_) AllReadyH.nil
            go_simp
            refine hK.out _ _ ?_ (fun hHeld => ?_)
            · exact HCF.out _ HBE.out _
            clear hK K y1 yf
            try simp only [Act.put, List.setIfInBounds_toArray, List.set_cons_zero, List.set_cons_succ]
            refine wpAnyH_done (by kernel_rfl) ?_ _
            obtain ⟨f1, f2, f3⟩ := HFIN.out _ HBE.out P14 c14 HO14.out
            rw [show (s0.2 ++ [(xt, xv)]).length = s0.2.length + 1 by simp] at f1 f2 f3
            have HF1 := Lib.hid f1
            have HF2 := Lib.hid f2
            have HF3 := Lib.hid f3
            clear f1 f2 f3
            go_wp2_with fail
            go_roundw
            case rel => exact ⟨k + 1, m + 1, putH h' ((i : Int), xt, xv), HK.out, by go_num, by go_num, HF1.out, HE.out, HM1.out, HH6.out, HHL.out, HF2.out, HF3.out⟩
            case measure => simp [intOf]; omega
          · go_simp
            have HZ14 := Lib.hid (HZ11.out.alloc HZ11.out.size (.cells #[.int .i64 xt, .int .i64 xv] 68))
            have HF3_14 := Lib.hid (owns_below HF3_11.out (below_one _ (.cells #[.int .i64 xt, .int .i64 xv] 68)))
            have HF13_14 := Lib.hid (smps_cell (Row.new ((wd).alloc (.cells #[] 68)) 68 #[.int .i64 xt, .int .i64 xv]))
            rw [show ((wd).alloc (.cells #[] 68)).heap.size = wd.heap.size + 1 from by simp] at HF13_14
            have HN14 := Lib.hid (show (wd.heap.size + 1 : Nat) ≠ (wd).heap.size from by simp)
            refine hK.out _ _ ?_ (fun hHeld => ?_)
            · exact HCE.out _ (HB6.out.trans (HZ14.out.mono HB6.out.size))
            clear hK K
            try simp only [Act.put, List.setIfInBounds_toArray, List.set_cons_zero, List.set_cons_succ]
            refine wpAnyH_ready (rs := [10]) (by kernel_rfl) (by simp) ?_
            refine AllReadyH.cons (o := { dst := some 89, op := Go.Op.call { callee := Go.Callee.builtin Go.Builtin.append, args := #[Go.Operand.tmp 82, Go.Operand.tmp 88], argTypes := #[50, 50] }, type := 50, pos := "ref.go:70", after := #[{ on := 3, ground := Go.Ground.data }, { on := 9, ground := Go.Ground.data }], guard := none }) rfl (fun K hK => ?_) AllReadyH.nil
            refine hstep_app_smB rfl (.tmp 82) (.tmp 88) rfl wd.heap.size _ [] rfl HF3_14.out mm.sa s0.2 mm.sc rfl (HSX.out _ (HB6.out.trans (HZ14.out.mono HB6.out.size))) HFT2.out HZ14.out.size ?_
            intro v10 w10 ho10 hb10 hg10
            rw [List.nil_append] at ho10
            have HZ15 := Lib.hid (HZ14.out.trans hb10)
            have HF13_15 := Lib.hid (show Smps w10 (some ⟨wd.heap.size + 1, 0, none⟩) [(xt, xv)] from hsmps_far HF13_14.out hg10 (fun e => HN14.out (by injection e with e; exact e.symm)))
            have HF10_15 := Lib.hid ho10
            clear ho10 hb10 hg10
            refine hK.out _ _ ?_ (fun hHeld => ?_)
            · exact HCE.out _ (HB6.out.trans (HZ15.out.mono HB6.out.size))
            clear hK K
            try simp only [Act.put, List.setIfInBounds_toArray, List.set_cons_zero, List.set_cons_succ]
            refine wpAnyH_ready (rs := [14]) (by kernel_rfl) (by simp) ?_
            refine AllReadyH.cons (o := { dst := some 93, op := Go.Op.call { callee := Go.Callee.builtin Go.Builtin.append, args := #[Go.Operand.tmp 89, Go.Operand.tmp 92], argTypes := #[50, 50] }, type := 50, pos := "ref.go:70", after := #[{ on := 10, ground := Go.Ground.data }, { on := 13, ground := Go.Ground.data }, { on := 10, ground := Go.Ground.chain }], guard := none }) rfl (fun K hK => ?_) AllReadyH.nil
            refine hstep_app_smB rfl (.tmp 89) (.tmp 92) rfl wd.heap.size _ s0.2 rfl HF10_15.out (some ⟨wd.heap.size + 1, 0, none⟩) [(xt, xv)] 1 rfl HF13_15.out HFT3.out HZ15.out.size ?_
            intro v14 w14 ho14 hb14 hg14
            obtain ⟨P14, c14, hv14, _⟩ := owns_slice ho14
            subst hv14
            have HBE := Lib.hid (HB6.out.trans ((HZ15.out.trans hb14).mono HB6.out.size))
            have HO14 := Lib.hid ho14
            clear ho14 hb14 hg14
            refine hK.out _ _ ?_ (fun hHeld => ?_)
            · exact HCE.out _ HBE.out
            clear hK K
            try simp only [Act.put, List.setIfInBounds_toArray, List.set_cons_zero, List.set_cons_succ]
            refine wpAnyH_take (i := 15) (oi := { dst := some 94, op := Go.Op.indexAddr 27 (Go.Operand.tmp 79) (Go.Operand.tmp 81), type := 0, pos := "ref.go:70", after := #[{ on := 0, ground := Go.Ground.data }, { on := 2, ground := Go.Ground.data }, { on := 0, ground := Go.Ground.phase }, { on := 1, ground := Go.Ground.phase }, { on := 2, ground := Go.Ground.phase }, { on := 3, ground := Go.Ground.phase }, { on := 4, ground := Go.Ground.phase }, { on := 5, ground := Go.Ground.phase }, { on := 6, ground := Go.Ground.phase }, { on := 7, ground := Go.Ground.phase }, { on := 8, ground := Go.Ground.phase }, { on := 9, ground := Go.Ground.phase }, { on := 10, ground := Go.Ground.phase }, { on := 11, ground := Go.Ground.phase }, { on := 12, ground := Go.Ground.phase }, { on := 13, ground := Go.Ground.phase }, { on := 14, ground := Go.Ground.phase }], guard := none }) (v := ?_) rfl (by kernel_rfl) (by kernel_rfl) (by kernel_rfl) (fun _ _ _ h => h) (Or.inl ⟨by rfl, ?_⟩) (by assumption) ?_
            rotate_left 1
            · (intro w hSw; (try dsimp only at hSw); go_simp; try with_reducible rfl)
            try simp only [Act.put, List.setIfInBounds_toArray, List.set_cons_zero, List.set_cons_succ]
            refine wpAnyH_take (i := 16) (oi := { dst := some 95, op := Go.Op.fieldAddr 65 (Go.Operand.tmp 94) 1, type := 0, pos := "ref.go:70", after := #[{ on := 15, ground := Go.Ground.data }, { on := 0, ground := Go.Ground.phase }, { on := 1, ground := Go.Ground.phase }, { on := 2, ground := Go.Ground.phase }, { on := 3, ground := Go.Ground.phase }, { on := 4, ground := Go.Ground.phase }, { on := 5, ground := Go.Ground.phase }, { on := 6, ground := Go.Ground.phase }, { on := 7, ground := Go.Ground.phase }, { on := 8, ground := Go.Ground.phase }, { on := 9, ground := Go.Ground.phase }, { on := 10, ground := Go.Ground.phase }, { on := 11, ground := Go.Ground.phase }, { on := 12, ground := Go.Ground.phase }, { on := 13, ground := Go.Ground.phase }, { on := 14, ground := Go.Ground.phase }], guard := none }) (v := ?_) rfl (by kernel_rfl) (by kernel_rfl) (by kernel_rfl) (fun _ _ _ h => h) (Or.inl ⟨by rfl, ?_⟩) (by assumption) ?_
            rotate_left 1
            · (intro w hSw; (try dsimp only at hSw); go_simp; try with_reducible rfl)
            try simp only [Act.put, List.setIfInBounds_toArray, List.set_cons_zero, List.set_cons_succ]
            obtain ⟨y1, yf⟩ := HCEL.out _ HBE.out
            refine wpAnyH_ready (rs := [17]) (by kernel_rfl) (by simp) ?_
            refine AllReadyH.cons (o := { dst := none, op := Go.Op.store 50 (Go.Operand.tmp 95) (Go.Operand.tmp 93), type := 0, pos := "ref.go:70", after := #[{ on := 16, ground := Go.Ground.data }, { on := 14, ground := Go.Ground.data }, { on := 14, ground := Go.Ground.chain }, { on := 0, ground := Go.Ground.phase }, { on := 1, ground := Go.Ground.phase }, { on := 2, ground := Go.Ground.phase }, { on := 3, ground := Go.Ground.phase }, { on := 4, ground := Go.Ground.phase }, { on := 5, ground := Go.Ground.phase }, { on := 6, ground := Go.Ground.phase }, { on := 7, ground := Go.Ground.phase }, { on := 8, ground := Go.Ground.phase }, { on := 9, ground := Go.Ground.phase }, { on := 10, ground := Go.Ground.phase }, { on := 11, ground := Go.Ground.phase }, { on := 12, ground := Go.Ground.phase }, { on := 13, ground := Go.Ground.phase }, { on := 14, ground := Go.Ground.phase }], guard := none }) rfl (fun K hK => ?_) AllReadyH.nil
            go_simp
            refine hK.out _ _ ?_ (fun hHeld => ?_)
            · exact HCF.out _ HBE.out _
            clear hK K y1 yf
            try simp only [Act.put, List.setIfInBounds_toArray, List.set_cons_zero, List.set_cons_succ]
            refine wpAnyH_done (by kernel_rfl) ?_ _
            obtain ⟨f1, f2, f3⟩ := HFIN.out _ HBE.out P14 c14 HO14.out
            rw [show (s0.2 ++ [(xt, xv)]).length = s0.2.length + 1 by simp] at f1 f2 f3
            have HF1 := Lib.hid f1
            have HF2 := Lib.hid f2
            have HF3 := Lib.hid f3
            clear f1 f2 f3
            go_wp2_with fail
            go_roundw
            case rel => exact ⟨k + 1, m + 1, putH h' ((i : Int), xt, xv), HK.out, by go_num, by go_num, HF1.out, HE.out, HM1.out, HH6.out, HHL.out, HF2.out, HF3.out⟩
            case measure => simp [intOf]; omega
        · go_simp
          have HZ16 := Lib.hid (HZ0.out.alloc HZ0.out.size (.cells #[.int .i64 xt, .int .i64 xv] 68))
          have HF13_16 := Lib.hid (smps_cell (Row.new (wd) 68 #[.int .i64 xt, .int .i64 xv]))
          refine hK.out _ _ ?_ (fun hHeld => ?_)
          · exact HCE.out _ (HB6.out.trans (HZ16.out.mono HB6.out.size))
          clear hK K
          try simp only [Act.put, List.setIfInBounds_toArray, List.set_cons_zero, List.set_cons_succ]
          refine wpAnyH_ready (rs := [3]) (by kernel_rfl) (by simp) ?_
          refine AllReadyH.cons (o := { dst := some 82, op := Go.Op.buildSlice 50 0 #[], type := 50, pos := "ref.go:70", after := #[], guard := none }) rfl (fun K hK => ?_) AllReadyH.nil
          go_simp
          have HZ17 := Lib.hid (HZ16.out.alloc HZ16.out.size (.cells #[] 68))
          have HF13_17 := Lib.hid (show Smps (((wd).alloc (.cells #[.int .i64 xt, .int .i64 xv] 68)).alloc (.cells #[] 68)) (some ⟨(wd).heap.size, 0, none⟩) [(xt, xv)] from At.alloc HF13_16.out (.cells #[] 68))
          have HF3_17 := Lib.hid (owns_empty (base := wd.heap.size) (Row.new ((wd).alloc (.cells #[.int .i64 xt, .int .i64 xv] 68)) 68 #[]) HZ16.out.size)
          rw [show ((wd).alloc (.cells #[.int .i64 xt, .int .i64 xv] 68)).heap.size = wd.heap.size + 1 from by simp] at HF3_17
          have HN17 := Lib.hid (show ((wd).heap.size : Nat) ≠ wd.heap.size + 1 from by simp)
          refine hK.out _ _ ?_ (fun hHeld => ?_)
          · exact HCE.out _ (HB6.out.trans (HZ17.out.mono HB6.out.size))
          clear hK K
          try simp only [Act.put, List.setIfInBounds_toArray, List.set_cons_zero, List.set_cons_succ]
          refine wpAnyH_ready (rs := [10]) (by kernel_rfl) (by simp) ?_
          refine AllReadyH.cons (o := { dst := some 89, op := Go.Op.call { callee := Go.Callee.builtin Go.Builtin.append, args := #[Go.Operand.tmp 82, Go.Operand.tmp 88], argTypes := #[50, 50] }, type := 50, pos := "ref.go:70", after := #[{ on := 3, ground := Go.Ground.data }, { on := 9, ground := Go.Ground.data }], guard := none }) rfl (fun K hK => ?_) AllReadyH.nil
          refine hstep_app_smB rfl (.tmp 82) (.tmp 88) rfl wd.heap.size _ [] rfl HF3_17.out mm.sa s0.2 mm.sc rfl (HSX.out _ (HB6.out.trans (HZ17.out.mono HB6.out.size))) HFT2.out HZ17.out.size ?_
          intro v10 w10 ho10 hb10 hg10
          rw [List.nil_append] at ho10
          have HZ18 := Lib.hid (HZ17.out.trans hb10)
          have HF13_18 := Lib.hid (show Smps w10 (some ⟨(wd).heap.size, 0, none⟩) [(xt, xv)] from hsmps_far HF13_17.out hg10 (fun e => HN17.out (by injection e with e; exact e.symm)))
          have HF10_18 := Lib.hid ho10
          clear ho10 hb10 hg10
          refine hK.out _ _ ?_ (fun hHeld => ?_)
          · exact HCE.out _ (HB6.out.trans (HZ18.out.mono HB6.out.size))
          clear hK K
          try simp only [Act.put, List.setIfInBounds_toArray, List.set_cons_zero, List.set_cons_succ]
          refine wpAnyH_ready (rs := [14]) (by kernel_rfl) (by simp) ?_
          refine AllReadyH.cons (o := { dst := some 93, op := Go.Op.call { callee := Go.Callee.builtin Go.Builtin.append, args := #[Go.Operand.tmp 89, Go.Operand.tmp 92], argTypes := #[50, 50] }, type := 50, pos := "ref.go:70", after := #[{ on := 10, ground := Go.Ground.data }, { on := 13, ground := Go.Ground.data }, { on := 10, ground := Go.Ground.chain }], guard := none }) rfl (fun K hK => ?_) AllReadyH.nil
          refine hstep_app_smB rfl (.tmp 89) (.tmp 92) rfl wd.heap.size _ s0.2 rfl HF10_18.out (some ⟨(wd).heap.size, 0, none⟩) [(xt, xv)] 1 rfl HF13_18.out HFT3.out HZ18.out.size ?_
          intro v14 w14 ho14 hb14 hg14
          obtain ⟨P14, c14, hv14, _⟩ := owns_slice ho14
          subst hv14
          have HBE := Lib.hid (HB6.out.trans ((HZ18.out.trans hb14).mono HB6.out.size))
          have HO14 := Lib.hid ho14
          clear ho14 hb14 hg14
          refine hK.out _ _ ?_ (fun hHeld => ?_)
          · exact HCE.out _ HBE.out
          clear hK K
          try simp only [Act.put, List.setIfInBounds_toArray, List.set_cons_zero, List.set_cons_succ]
          refine wpAnyH_take (i := 15) (oi := { dst := some 94, op := Go.Op.indexAddr 27 (Go.Operand.tmp 79) (Go.Operand.tmp 81), type := 0, pos := "ref.go:70", after := #[{ on := 0, ground := Go.Ground.data }, { on := 2, ground := Go.Ground.data }, { on := 0, ground := Go.Ground.phase }, { on := 1, ground := Go.Ground.phase }, { on := 2, ground := Go.Ground.phase }, { on := 3, ground := Go.Ground.phase }, { on := 4, ground := Go.Ground.phase }, { on := 5, ground := Go.Ground.phase }, { on := 6, ground := Go.Ground.phase }, { on := 7, ground := Go.Ground.phase }, { on := 8, ground := Go.Ground.phase }, { on := 9, ground := Go.Ground.phase }, { on := 10, ground := Go.Ground.phase }, { on := 11, ground := Go.Ground.phase }, { on := 12, ground := Go.Ground.phase }, { on := 13, ground := Go.Ground.phase }, { on := 14, ground := Go.Ground.phase }], guard := none }) (v := ?_) rfl (by kernel_rfl) (by kernel_rfl) (by kernel_rfl) (fun _ _ _ h => h) (Or.inl ⟨by rfl, ?_⟩) (by assumption) ?_
          rotate_left 1
          · (intro w hSw; (try dsimp only at hSw); go_simp; try with_reducible rfl)
          try simp only [Act.put, List.setIfInBounds_toArray, List.set_cons_zero, List.set_cons_succ]
          refine wpAnyH_take (i := 16) (oi := { dst := some 95, op := Go.Op.fieldAddr 65 (Go.Operand.tmp 94) 1, type := 0, pos := "ref.go:70", after := #[{ on := 15, ground := Go.Ground.data }, { on := 0, ground := Go.Ground.phase }, { on := 1, ground := Go.Ground.phase }, { on := 2, ground := Go.Ground.phase }, { on := 3, ground := Go.Ground.phase }, { on := 4, ground := Go.Ground.phase }, { on := 5, ground := Go.Ground.phase }, { on := 6, ground := Go.Ground.phase }, { on := 7, ground := Go.Ground.phase }, { on := 8, ground := Go.Ground.phase }, { on := 9, ground := Go.Ground.phase }, { on := 10, ground := Go.Ground.phase }, { on := 11, ground := Go.Ground.phase }, { on := 12, ground := Go.Ground.phase }, { on := 13, ground := Go.Ground.phase }, { on := 14, ground := Go.Ground.phase }], guard := none }) (v := ?_) rfl (by kernel_rfl) (by kernel_rfl) (by kernel_rfl) (fun _ _ _ h => h) (Or.inl ⟨by rfl, ?_⟩) (by assumption) ?_
          rotate_left 1
          · (intro w hSw; (try dsimp only at hSw); go_simp; try with_reducible rfl)
          try simp only [Act.put, List.setIfInBounds_toArray, List.set_cons_zero, List.set_cons_succ]
          obtain ⟨y1, yf⟩ := HCEL.out _ HBE.out
          refine wpAnyH_ready (rs := [17]) (by kernel_rfl) (by simp) ?_
          refine AllReadyH.cons (o := { dst := none, op := Go.Op.store 50 (Go.Operand.tmp 95) (Go.Operand.tmp 93), type := 0, pos := "ref.go:70", after := #[{ on := 16, ground := Go.Ground.data }, { on := 14, ground := Go.Ground.data }, { on := 14, ground := Go.Ground.chain }, { on := 0, ground := Go.Ground.phase }, { on := 1, ground := Go.Ground.phase }, { on := 2, ground := Go.Ground.phase }, { on := 3, ground := Go.Ground.phase }, { on := 4, ground := Go.Ground.phase }, { on := 5, ground := Go.Ground.phase }, { on := 6, ground := Go.Ground.phase }, { on := 7, ground := Go.Ground.phase }, { on := 8, ground := Go.Ground.phase }, { on := 9, ground := Go.Ground.phase }, { on := 10, ground := Go.Ground.phase }, { on := 11, ground := Go.Ground.phase }, { on := 12, ground := Go.Ground.phase }, { on := 13, ground := Go.Ground.phase }, { on := 14, ground := Go.Ground.phase }], guard := none }) rfl (fun K hK => ?_) AllReadyH.nil
          go_simp
          refine hK.out _ _ ?_ (fun hHeld => ?_)
          · exact HCF.out _ HBE.out _
          clear hK K y1 yf
          try simp only [Act.put, List.setIfInBounds_toArray, List.set_cons_zero, List.set_cons_succ]
          refine wpAnyH_done (by kernel_rfl) ?_ _
          obtain ⟨f1, f2, f3⟩ := HFIN.out _ HBE.out P14 c14 HO14.out
          rw [show (s0.2 ++ [(xt, xv)]).length = s0.2.length + 1 by simp] at f1 f2 f3
          have HF1 := Lib.hid f1
          have HF2 := Lib.hid f2
          have HF3 := Lib.hid f3
          clear f1 f2 f3
          go_wp2_with fail
          go_roundw
          case rel => exact ⟨k + 1, m + 1, putH h' ((i : Int), xt, xv), HK.out, by go_num, by go_num, HF1.out, HE.out, HM1.out, HH6.out, HHL.out, HF2.out, HF3.out⟩
          case measure => simp [intOf]; omega
      · go_simp
        have HZ19 := Lib.hid (HZ0.out.alloc HZ0.out.size (.cells #[.int .i64 xt, .int .i64 xv] 68))
        have HF13_19 := Lib.hid (smps_cell (Row.new (wd) 68 #[.int .i64 xt, .int .i64 xv]))
        refine hK.out _ _ ?_ (fun hHeld => ?_)
        · exact HCE.out _ (HB6.out.trans (HZ19.out.mono HB6.out.size))
        clear hK K
        try simp only [Act.put, List.setIfInBounds_toArray, List.set_cons_zero, List.set_cons_succ]
        refine wpAnyH_ready (rs := [3, 9]) (by kernel_rfl) (by simp) ?_
        refine AllReadyH.cons (o := { dst := some 82, op := Go.Op.buildSlice 50 0 #[], type := 50, pos := "ref.go:70", after := #[], guard := none }) rfl (fun K hK => ?_) (AllReadyH.cons (o := { dst := some 88, op := Go.Op.load 50 (Go.Operand.tmp 87), type := 50, pos := "ref.go:70", after := #[{ on := 8, ground := Go.Ground.data }], guard := none }) rfl (fun K hK => ?_) AllReadyH.nil)
        · go_simp
          have HZ20 := Lib.hid (HZ19.out.alloc HZ19.out.size (.cells #[] 68))
          have HF13_20 := Lib.hid (show Smps (((wd).alloc (.cells #[.int .i64 xt, .int .i64 xv] 68)).alloc (.cells #[] 68)) (some ⟨(wd).heap.size, 0, none⟩) [(xt, xv)] from At.alloc HF13_19.out (.cells #[] 68))
          have HF3_20 := Lib.hid (owns_empty (base := wd.heap.size) (Row.new ((wd).alloc (.cells #[.int .i64 xt, .int .i64 xv] 68)) 68 #[]) HZ19.out.size)
          rw [show ((wd).alloc (.cells #[.int .i64 xt, .int .i64 xv] 68)).heap.size = wd.heap.size + 1 from by simp] at HF3_20
          have HN20 := Lib.hid (show ((wd).heap.size : Nat) ≠ wd.heap.size + 1 from by simp)
          refine hK.out _ _ ?_ (fun hHeld => ?_)
          · exact HCE.out _ (HB6.out.trans (HZ20.out.mono HB6.out.size))
          clear hK K
          try simp only [Act.put, List.setIfInBounds_toArray, List.set_cons_zero, List.set_cons_succ]
          refine wpAnyH_ready (rs := [9]) (by kernel_rfl) (by simp) ?_
          refine AllReadyH.cons (o := { dst := some 88, op := Go.Op.load 50 (Go.Operand.tmp 87), type := 50, pos := "ref.go:70", after := #[{ on := 8, ground := Go.Ground.data }], guard := none }) rfl (fun K hK => ?_) AllReadyH.nil
          have g9 := (HCEL.out _ (HB6.out.trans (HZ20.out.mono HB6.out.size))).1
          go_simp
          clear g9
          refine hK.out _ _ ?_ (fun hHeld => ?_)
          · exact HCE.out _ (HB6.out.trans (HZ20.out.mono HB6.out.size))
          clear hK K
          try simp only [Act.put, List.setIfInBounds_toArray, List.set_cons_zero, List.set_cons_succ]
          refine wpAnyH_ready (rs := [10]) (by kernel_rfl) (by simp) ?_
          refine AllReadyH.cons (o := { dst := some 89, op := Go.Op.call { callee := Go.Callee.builtin Go.Builtin.append, args := #[Go.Operand.tmp 82, Go.Operand.tmp 88], argTypes := #[50, 50] }, type := 50, pos := "ref.go:70", after := #[{ on := 3, ground := Go.Ground.data }, { on := 9, ground := Go.Ground.data }], guard := none }) rfl (fun K hK => ?_) AllReadyH.nil
          refine hstep_app_smB rfl (.tmp 82) (.tmp 88) rfl wd.heap.size _ [] rfl HF3_20.out mm.sa s0.2 mm.sc rfl (HSX.out _ (HB6.out.trans (HZ20.out.mono HB6.out.size))) HFT2.out HZ20.out.size ?_
          intro v10 w10 ho10 hb10 hg10
          rw [List.nil_append] at ho10
          have HZ22 := Lib.hid (HZ20.out.trans hb10)
          have HF13_22 := Lib.hid (show Smps w10 (some ⟨(wd).heap.size, 0, none⟩) [(xt, xv)] from hsmps_far HF13_20.out hg10 (fun e => HN20.out (by injection e with e; exact e.symm)))
          have HF10_22 := Lib.hid ho10
          clear ho10 hb10 hg10
          refine hK.out _ _ ?_ (fun hHeld => ?_)
          · exact HCE.out _ (HB6.out.trans (HZ22.out.mono HB6.out.size))
          clear hK K
          try simp only [Act.put, List.setIfInBounds_toArray, List.set_cons_zero, List.set_cons_succ]
          refine wpAnyH_ready (rs := [14]) (by kernel_rfl) (by simp) ?_
          refine AllReadyH.cons (o := { dst := some 93, op := Go.Op.call { callee := Go.Callee.builtin Go.Builtin.append, args := #[Go.Operand.tmp 89, Go.Operand.tmp 92], argTypes := #[50, 50] }, type := 50, pos := "ref.go:70", after := #[{ on := 10, ground := Go.Ground.data }, { on := 13, ground := Go.Ground.data }, { on := 10, ground := Go.Ground.chain }], guard := none }) rfl (fun K hK => ?_) AllReadyH.nil
          refine hstep_app_smB rfl (.tmp 89) (.tmp 92) rfl wd.heap.size _ s0.2 rfl HF10_22.out (some ⟨(wd).heap.size, 0, none⟩) [(xt, xv)] 1 rfl HF13_22.out HFT3.out HZ22.out.size ?_
          intro v14 w14 ho14 hb14 hg14
          obtain ⟨P14, c14, hv14, _⟩ := owns_slice ho14
          subst hv14
          have HBE := Lib.hid (HB6.out.trans ((HZ22.out.trans hb14).mono HB6.out.size))
          have HO14 := Lib.hid ho14
          clear ho14 hb14 hg14
          refine hK.out _ _ ?_ (fun hHeld => ?_)
          · exact HCE.out _ HBE.out
          clear hK K
          try simp only [Act.put, List.setIfInBounds_toArray, List.set_cons_zero, List.set_cons_succ]
          refine wpAnyH_take (i := 15) (oi := { dst := some 94, op := Go.Op.indexAddr 27 (Go.Operand.tmp 79) (Go.Operand.tmp 81), type := 0, pos := "ref.go:70", after := #[{ on := 0, ground := Go.Ground.data }, { on := 2, ground := Go.Ground.data }, { on := 0, ground := Go.Ground.phase }, { on := 1, ground := Go.Ground.phase }, { on := 2, ground := Go.Ground.phase }, { on := 3, ground := Go.Ground.phase }, { on := 4, ground := Go.Ground.phase }, { on := 5, ground := Go.Ground.phase }, { on := 6, ground := Go.Ground.phase }, { on := 7, ground := Go.Ground.phase }, { on := 8, ground := Go.Ground.phase }, { on := 9, ground := Go.Ground.phase }, { on := 10, ground := Go.Ground.phase }, { on := 11, ground := Go.Ground.phase }, { on := 12, ground := Go.Ground.phase }, { on := 13, ground := Go.Ground.phase }, { on := 14, ground := Go.Ground.phase }], guard := none }) (v := ?_) rfl (by kernel_rfl) (by kernel_rfl) (by kernel_rfl) (fun _ _ _ h => h) (Or.inl ⟨by rfl, ?_⟩) (by assumption) ?_
          rotate_left 1
          · (intro w hSw; (try dsimp only at hSw); go_simp; try with_reducible rfl)
          try simp only [Act.put, List.setIfInBounds_toArray, List.set_cons_zero, List.set_cons_succ]
          refine wpAnyH_take (i := 16) (oi := { dst := some 95, op := Go.Op.fieldAddr 65 (Go.Operand.tmp 94) 1, type := 0, pos := "ref.go:70", after := #[{ on := 15, ground := Go.Ground.data }, { on := 0, ground := Go.Ground.phase }, { on := 1, ground := Go.Ground.phase }, { on := 2, ground := Go.Ground.phase }, { on := 3, ground := Go.Ground.phase }, { on := 4, ground := Go.Ground.phase }, { on := 5, ground := Go.Ground.phase }, { on := 6, ground := Go.Ground.phase }, { on := 7, ground := Go.Ground.phase }, { on := 8, ground := Go.Ground.phase }, { on := 9, ground := Go.Ground.phase }, { on := 10, ground := Go.Ground.phase }, { on := 11, ground := Go.Ground.phase }, { on := 12, ground := Go.Ground.phase }, { on := 13, ground := Go.Ground.phase }, { on := 14, ground := Go.Ground.phase }], guard := none }) (v := ?_) rfl (by kernel_rfl) (by kernel_rfl) (by kernel_rfl) (fun _ _ _ h => h) (Or.inl ⟨by rfl, ?_⟩) (by assumption) ?_
          rotate_left 1
          · (intro w hSw; (try dsimp only at hSw); go_simp; try with_reducible rfl)
          try simp only [Act.put, List.setIfInBounds_toArray, List.set_cons_zero, List.set_cons_succ]
          obtain ⟨y1, yf⟩ := HCEL.out _ HBE.out
          refine wpAnyH_ready (rs := [17]) (by kernel_rfl) (by simp) ?_
          refine AllReadyH.cons (o := { dst := none, op := Go.Op.store 50 (Go.Operand.tmp 95) (Go.Operand.tmp 93), type := 0, pos := "ref.go:70", after := #[{ on := 16, ground := Go.Ground.data }, { on := 14, ground := Go.Ground.data }, { on := 14, ground := Go.Ground.chain }, { on := 0, ground := Go.Ground.phase }, { on := 1, ground := Go.Ground.phase }, { on := 2, ground := Go.Ground.phase }, { on := 3, ground := Go.Ground.phase }, { on := 4, ground := Go.Ground.phase }, { on := 5, ground := Go.Ground.phase }, { on := 6, ground := Go.Ground.phase }, { on := 7, ground := Go.Ground.phase }, { on := 8, ground := Go.Ground.phase }, { on := 9, ground := Go.Ground.phase }, { on := 10, ground := Go.Ground.phase }, { on := 11, ground := Go.Ground.phase }, { on := 12, ground := Go.Ground.phase }, { on := 13, ground := Go.Ground.phase }, { on := 14, ground := Go.Ground.phase }], guard := none }) rfl (fun K hK => ?_) AllReadyH.nil
          go_simp
          refine hK.out _ _ ?_ (fun hHeld => ?_)
          · exact HCF.out _ HBE.out _
          clear hK K y1 yf
          try simp only [Act.put, List.setIfInBounds_toArray, List.set_cons_zero, List.set_cons_succ]
          refine wpAnyH_done (by kernel_rfl) ?_ _
          obtain ⟨f1, f2, f3⟩ := HFIN.out _ HBE.out P14 c14 HO14.out
          rw [show (s0.2 ++ [(xt, xv)]).length = s0.2.length + 1 by simp] at f1 f2 f3
          have HF1 := Lib.hid f1
          have HF2 := Lib.hid f2
          have HF3 := Lib.hid f3
          clear f1 f2 f3
          go_wp2_with fail
          go_roundw
          case rel => exact ⟨k + 1, m + 1, putH h' ((i : Int), xt, xv), HK.out, by go_num, by go_num, HF1.out, HE.out, HM1.out, HH6.out, HHL.out, HF2.out, HF3.out⟩
          case measure => simp [intOf]; omega
        · have g9 := (HCEL.out _ (HB6.out.trans (HZ19.out.mono HB6.out.size))).1
          go_simp
          clear g9
          refine hK.out _ _ ?_ (fun hHeld => ?_)
          · exact HCE.out _ (HB6.out.trans (HZ19.out.mono HB6.out.size))
          clear hK K
          try simp only [Act.put, List.setIfInBounds_toArray, List.set_cons_zero, List.set_cons_succ]
          refine wpAnyH_ready (rs := [3]) (by kernel_rfl) (by simp) ?_
          refine AllReadyH.cons (o := { dst := some 82, op := Go.Op.buildSlice 50 0 #[], type := 50, pos := "ref.go:70", after := #[], guard := none }) rfl (fun K hK => ?_) AllReadyH.nil
          go_simp
          have HZ24 := Lib.hid (HZ19.out.alloc HZ19.out.size (.cells #[] 68))
          have HF13_24 := Lib.hid (show Smps (((wd).alloc (.cells #[.int .i64 xt, .int .i64 xv] 68)).alloc (.cells #[] 68)) (some ⟨(wd).heap.size, 0, none⟩) [(xt, xv)] from At.alloc HF13_19.out (.cells #[] 68))
          have HF3_24 := Lib.hid (owns_empty (base := wd.heap.size) (Row.new ((wd).alloc (.cells #[.int .i64 xt, .int .i64 xv] 68)) 68 #[]) HZ19.out.size)
          rw [show ((wd).alloc (.cells #[.int .i64 xt, .int .i64 xv] 68)).heap.size = wd.heap.size + 1 from by simp] at HF3_24
          have HN24 := Lib.hid (show ((wd).heap.size : Nat) ≠ wd.heap.size + 1 from by simp)
          refine hK.out _ _ ?_ (fun hHeld => ?_)
          · exact HCE.out _ (HB6.out.trans (HZ24.out.mono HB6.out.size))
          clear hK K
          try simp only [Act.put, List.setIfInBounds_toArray, List.set_cons_zero, List.set_cons_succ]
          refine wpAnyH_ready (rs := [10]) (by kernel_rfl) (by simp) ?_
          refine AllReadyH.cons (o := { dst := some 89, op := Go.Op.call { callee := Go.Callee.builtin Go.Builtin.append, args := #[Go.Operand.tmp 82, Go.Operand.tmp 88], argTypes := #[50, 50] }, type := 50, pos := "ref.go:70", after := #[{ on := 3, ground := Go.Ground.data }, { on := 9, ground := Go.Ground.data }], guard := none }) rfl (fun K hK => ?_) AllReadyH.nil
          refine hstep_app_smB rfl (.tmp 82) (.tmp 88) rfl wd.heap.size _ [] rfl HF3_24.out mm.sa s0.2 mm.sc rfl (HSX.out _ (HB6.out.trans (HZ24.out.mono HB6.out.size))) HFT2.out HZ24.out.size ?_
          intro v10 w10 ho10 hb10 hg10
          rw [List.nil_append] at ho10
          have HZ25 := Lib.hid (HZ24.out.trans hb10)
          have HF13_25 := Lib.hid (show Smps w10 (some ⟨(wd).heap.size, 0, none⟩) [(xt, xv)] from hsmps_far HF13_24.out hg10 (fun e => HN24.out (by injection e with e; exact e.symm)))
          have HF10_25 := Lib.hid ho10
          clear ho10 hb10 hg10
          refine hK.out _ _ ?_ (fun hHeld => ?_)
          · exact HCE.out _ (HB6.out.trans (HZ25.out.mono HB6.out.size))
          clear hK K
          try simp only [Act.put, List.setIfInBounds_toArray, List.set_cons_zero, List.set_cons_succ]
          refine wpAnyH_ready (rs := [14]) (by kernel_rfl) (by simp) ?_
          refine AllReadyH.cons (o := { dst := some 93, op := Go.Op.call { callee := Go.Callee.builtin Go.Builtin.append, args := #[Go.Operand.tmp 89, Go.Operand.tmp 92], argTypes := #[50, 50] }, type := 50, pos := "ref.go:70", after := #[{ on := 10, ground := Go.Ground.data }, { on := 13, ground := Go.Ground.data }, { on := 10, ground := Go.Ground.chain }], guard := none }) rfl (fun K hK => ?_) AllReadyH.nil
          refine hstep_app_smB rfl (.tmp 89) (.tmp 92) rfl wd.heap.size _ s0.2 rfl HF10_25.out (some ⟨(wd).heap.size, 0, none⟩) [(xt, xv)] 1 rfl HF13_25.out HFT3.out HZ25.out.size ?_
          intro v14 w14 ho14 hb14 hg14
          obtain ⟨P14, c14, hv14, _⟩ := owns_slice ho14
          subst hv14
          have HBE := Lib.hid (HB6.out.trans ((HZ25.out.trans hb14).mono HB6.out.size))
          have HO14 := Lib.hid ho14
          clear ho14 hb14 hg14
          refine hK.out _ _ ?_ (fun hHeld => ?_)
          · exact HCE.out _ HBE.out
          clear hK K
          try simp only [Act.put, List.setIfInBounds_toArray, List.set_cons_zero, List.set_cons_succ]
          refine wpAnyH_take (i := 15) (oi := { dst := some 94, op := Go.Op.indexAddr 27 (Go.Operand.tmp 79) (Go.Operand.tmp 81), type := 0, pos := "ref.go:70", after := #[{ on := 0, ground := Go.Ground.data }, { on := 2, ground := Go.Ground.data }, { on := 0, ground := Go.Ground.phase }, { on := 1, ground := Go.Ground.phase }, { on := 2, ground := Go.Ground.phase }, { on := 3, ground := Go.Ground.phase }, { on := 4, ground := Go.Ground.phase }, { on := 5, ground := Go.Ground.phase }, { on := 6, ground := Go.Ground.phase }, { on := 7, ground := Go.Ground.phase }, { on := 8, ground := Go.Ground.phase }, { on := 9, ground := Go.Ground.phase }, { on := 10, ground := Go.Ground.phase }, { on := 11, ground := Go.Ground.phase }, { on := 12, ground := Go.Ground.phase }, { on := 13, ground := Go.Ground.phase }, { on := 14, ground := Go.Ground.phase }], guard := none }) (v := ?_) rfl (by kernel_rfl) (by kernel_rfl) (by kernel_rfl) (fun _ _ _ h => h) (Or.inl ⟨by rfl, ?_⟩) (by assumption) ?_
          rotate_left 1
          · (intro w hSw; (try dsimp only at hSw); go_simp; try with_reducible rfl)
          try simp only [Act.put, List.setIfInBounds_toArray, List.set_cons_zero, List.set_cons_succ]
          refine wpAnyH_take (i := 16) (oi := { dst := some 95, op := Go.Op.fieldAddr 65 (Go.Operand.tmp 94) 1, type := 0, pos := "ref.go:70", after := #[{ on := 15, ground := Go.Ground.data }, { on := 0, ground := Go.Ground.phase }, { on := 1, ground := Go.Ground.phase }, { on := 2, ground := Go.Ground.phase }, { on := 3, ground := Go.Ground.phase }, { on := 4, ground := Go.Ground.phase }, { on := 5, ground := Go.Ground.phase }, { on := 6, ground := Go.Ground.phase }, { on := 7, ground := Go.Ground.phase }, { on := 8, ground := Go.Ground.phase }, { on := 9, ground := Go.Ground.phase }, { on := 10, ground := Go.Ground.phase }, { on := 11, ground := Go.Ground.phase }, { on := 12, ground := Go.Ground.phase }, { on := 13, ground := Go.Ground.phase }, { on := 14, ground := Go.Ground.phase }], guard := none }) (v := ?_) rfl (by kernel_rfl) (by kernel_rfl) (by kernel_rfl) (fun _ _ _ h => h) (Or.inl ⟨by rfl, ?_⟩) (by assumption) ?_
          rotate_left 1
          · (intro w hSw; (try dsimp only at hSw); go_simp; try with_reducible rfl)
          try simp only [Act.put, List.setIfInBounds_toArray, List.set_cons_zero, List.set_cons_succ]
          obtain ⟨y1, yf⟩ := HCEL.out _ HBE.out
          refine wpAnyH_ready (rs := [17]) (by kernel_rfl) (by simp) ?_
          refine AllReadyH.cons (o := { dst := none, op := Go.Op.store 50 (Go.Operand.tmp 95) (Go.Operand.tmp 93), type := 0, pos := "ref.go:70", after := #[{ on := 16, ground := Go.Ground.data }, { on := 14, ground := Go.Ground.data }, { on := 14, ground := Go.Ground.chain }, { on := 0, ground := Go.Ground.phase }, { on := 1, ground := Go.Ground.phase }, { on := 2, ground := Go.Ground.phase }, { on := 3, ground := Go.Ground.phase }, { on := 4, ground := Go.Ground.phase }, { on := 5, ground := Go.Ground.phase }, { on := 6, ground := Go.Ground.phase }, { on := 7, ground := Go.Ground.phase }, { on := 8, ground := Go.Ground.phase }, { on := 9, ground := Go.Ground.phase }, { on := 10, ground := Go.Ground.phase }, { on := 11, ground := Go.Ground.phase }, { on := 12, ground := Go.Ground.phase }, { on := 13, ground := Go.Ground.phase }, { on := 14, ground := Go.Ground.phase }], guard := none }) rfl (fun K hK => ?_) AllReadyH.nil
          go_simp
          refine hK.out _ _ ?_ (fun hHeld => ?_)
          · exact HCF.out _ HBE.out _
          clear hK K y1 yf
          try simp only [Act.put, List.setIfInBounds_toArray, List.set_cons_zero, List.set_cons_succ]
          refine wpAnyH_done (by kernel_rfl) ?_ _
          obtain ⟨f1, f2, f3⟩ := HFIN.out _ HBE.out P14 c14 HO14.out
          rw [show (s0.2 ++ [(xt, xv)]).length = s0.2.length + 1 by simp] at f1 f2 f3
          have HF1 := Lib.hid f1
          have HF2 := Lib.hid f2
          have HF3 := Lib.hid f3
          clear f1 f2 f3
          go_wp2_with fail
          go_roundw
          case rel => exact ⟨k + 1, m + 1, putH h' ((i : Int), xt, xv), HK.out, by go_num, by go_num, HF1.out, HE.out, HM1.out, HH6.out, HHL.out, HF2.out, HF3.out⟩
          case measure => simp [intOf]; omega
      -- END 24
    · obtain rfl : k = L := by omega
      have i1 : decide ((k : Int) < (k : Int)) = false := decide_eq_false (by omega)
      rw [← HL.out, List.drop_length] at he
      have hd := HDO.out
      have he2 : rowsH n S q0 ro = (h', 0) := he.symm
      rw [he2, if_pos rfl] at hd
      subst hd
      have HBR := Lib.hid hbr
      have HO := Lib.hid ho
      clear he he2 h6 hlen hbr hbz ho
      go_wp2_with fail
      go_ret2
      exact HO.out.done HW2.out.size HBR.out
end Go.Proofs.YtpcjnagdanmdpaaGreat

namespace Go.Proofs.YtpcjnagdanmdpaaGreat
open Go.RowKit Go.Maps
open Ch
theorem refdo_prog {T : Nat → Prop} {A : Option Addr} {S : List Ser} {c : Nat} {R : RecV} {m : RecM} {w : World} (hA : SersT T w A S) (hc : S.length ≤ c) (hk : HeadOk S) (hR : RecIn w R m) (hF : RecFit R) (hT : ∀ k, T k → k < w.heap.size) :
    Calls Tryz.prog 7 #[.slice A S.length c, .agg (recC R m).toArray] w (RefDone T w (doH S R).1 (doH S R).2) := by
  by_cases h0 : recChk R = 0
  · rcases recChk_zero.1 h0 with ⟨e, _⟩ | ⟨e, _⟩ | ⟨e, _⟩
    · exact refdo_k1 hA hc hk hR hF h0 e
    · exact refdo_k2 hA hc hk hR hF h0 e hT
    · exact refdo_k3 hA hc hk hR hF h0 e hT
  · have h := refdo_bad hA hc hR hF h0
    have e : doH S R = (S, recChk R) := by unfold doH; rw [if_pos h0]
    rw [e]
    exact h
end Go.Proofs.YtpcjnagdanmdpaaGreat
