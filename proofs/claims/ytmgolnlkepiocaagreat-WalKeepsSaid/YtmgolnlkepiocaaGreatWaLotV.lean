/- In one text, written by lotify.py: WaWhole, WaKept, WaSteps. -/
import Derived.Test.YtmgolnlkepiocaaGreatWaOf
import Derived.Test.YtmgolnlkepiocaaGreatWaLotJ
import Derived.Test.YtmgolnlkepiocaaGreatWaLotU
import Derived.Test.YtmgolnlkepiocaaGreatWaLotT
import Derived.Test.YtmgolnlkepiocaaGreatWaLotO
import Derived.Test.YtmgolnlkepiocaaGreatWaLotR
import Derived.Test.YtmgolnlkepiocaaGreatWaLotS
import Derived.Test.YtmgolnlkepiocaaGreatDkNew
namespace Go.Proofs.YtmgolnlkepiocaaGreat
open Go.RowKit Go.Maps
set_option linter.unusedVariables false

/-- No slice of a record lies below a block. -/
def Above (base : Nat) (x : Pl) : Prop := ∀ k, k < base → Apart k x
theorem OwnRec.above {w : World} {base : Nat} {R : RecV} {m : RecM} (h : OwnRec w base R m) : Above base (R, m) := by
  intro k hk
  have key : ∀ {A : Option Addr} {n c e sz : Nat} {ys : List Value}, w.ownsRow base e sz (.slice A n c) n ys → ∀ ad, A = some ad → ad.block ≠ k := by
    intro A n c e sz ys h1 ad ha hk2
    rcases h1.2 with ⟨e1, _⟩ | ⟨g, cap, cur, e1, hg, _⟩
    · injection e1 with e1 _ _; rw [e1] at ha; cases ha
    · injection e1 with e1 _ _
      rw [e1] at ha
      injection ha with ha
      subst ha
      simp only at hk2
      omega
  exact ⟨fun ad ha => .inl (key h.labels ad ha), fun ad ha => .inl (key h.rows ad ha), fun ad ha => .inl (key h.ids ad ha)⟩
theorem alloc_size1 (w : World) (o : Obj) : (w.alloc o).heap.size = w.heap.size + 1 := by simp
theorem Above.lower {b b' : Nat} {x : Pl} (h : Above b x) (hb : b' ≤ b) : Above b' x := fun k hk => h k (by omega)
theorem wh_inv {b : List UInt8} {a : Nat} {qs : List RecV} {p : Nat} (h : WH b a qs p) : (qs = [] ∧ p = a ∧ ∃ x n e, FG b a x n e ∧ e ≠ 0) ∨ (qs = [] ∧ p = a ∧ ∃ x n, FG b a x n 0 ∧ ∀ r, ¬ IsRec x r) ∨ ∃ r n rs, qs = r :: rs ∧ FG b a (recL r) n 0 ∧ recChk r = 0 ∧ WH b n rs p := by
  cases h with
  | stop a x n e h he => exact .inl ⟨rfl, rfl, x, n, e, h, he⟩
  | odd a x n h hx => exact .inr (.inl ⟨rfl, rfl, x, n, h, hx⟩)
  | next a r n rs p h hr k => exact .inr (.inr ⟨r, n, rs, rfl, h, hr, k⟩)
def WholeTold (w : World) (rs : List RecV) (p : Nat) (e : Ending) (w' : World) : Prop := ∃ v ps, e = .returned (.tuple #[v, .int .i64 (p : Int)]) ∧ ps.map Prod.fst = rs ∧ OwnR w' w.heap.size v ps ∧ (∀ x ∈ ps, Above w.heap.size x) ∧ Below w.heap.size w w'
set_option maxRecDepth 20000 in
set_option maxHeartbeats 1000000 in
theorem whole_prog {b : List UInt8} {rs : List RecV} {p : Nat} (h : WH b 0 rs p) (A : Option Addr) (c : Nat) (w : World) (hA : Bys w A b) (hlc : b.length ≤ c) (hl : b.length ≤ 1000000000) :
    Calls Tryz.prog 41 #[.slice A b.length c] w (WholeTold w rs p) := by
  have HA := Lib.hid hA
  have HH := Lib.hid h
  have HL := Lib.hid hl
  have HLC := Lib.hid hlc
  clear h hA hl hlc
  go_enter Tryz.func41, Tryz.ntmps41
  go_wp2_with fail
  go_loopw [4, 5] (fun u4 u5 wr => ∃ (a : Nat) (ps : List Pl) (qs : List RecV), u5 = .int .i64 (a : Int) ∧ a ≤ b.length ∧ WH b a qs p ∧ ps.map Prod.fst ++ qs = rs ∧ ps.length ≤ a ∧ OwnR wr w.heap.size u4 ps ∧ (∀ x ∈ ps, Above w.heap.size x) ∧ Below w.heap.size w wr) (fun _ u5 _ => b.length - (intOf u5).toNat)
  case atStart => exact ⟨0, [], rs, rfl, Nat.zero_le _, HH.out, rfl, Nat.le_refl _, ownr_nil _ _, fun x (hx : x ∈ ([] : List Pl)) => (nomatch hx), Below.refl _ _⟩
  case round =>
    obtain ⟨a, ps, qs, rfl, ha, hh, hq, hpl, ho, hab, hbr⟩ := hrel
    have HO := Lib.hid ho
    have HAB := Lib.hid hab
    have HBR := Lib.hid hbr
    have HQ := Lib.hid hq
    have HPL := Lib.hid hpl
    have hS := hbr.size
    have HS := Lib.hid hS
    obtain ⟨P1, d1, hv1, _, _⟩ := ownr_slice ho
    generalize hpn : ps.length = pn at hv1
    have HPN := Lib.hid hpn
    subst hv1
    rcases wh_inv hh with ⟨rfl, hpa, x, n, e, hg, he⟩ | ⟨rfl, hpa, x, n, hg, hx⟩ | ⟨R, n, rs2, rfl, hg, hr, k⟩
    · clear hh
      have HG := Lib.hid (get_prog A b c a x n e wr (HA.out.below hbr) HLC.out (by have := HL.out; omega) ha hg)
      have i1 : ((e : Int) != 0) = true := bne_iff_ne.2 (by omega)
      have i2 : ((e : Int) == 0) = false := beq_eq_false_iff_ne.2 (by omega)
      have HPA := Lib.hid hpa
      clear hpa
      clear hg he ho hab hbr hq hpl hS hpn
      go_wp2_with (go_at_call 71; refine HG.out.mono ?_; rintro e' w2 ⟨v, rfl, hv, hb2⟩
                   obtain ⟨Q, q, hvq, _, _, _, _⟩ := own_cap hv
                   generalize x.length = xl at hvq
                   subst hvq
                   have HB2 := Lib.hid hb2
                   clear hv hb2)
      go_ret2
      exact ⟨_, ps, by rw [HPA.out]; rfl, by rw [← HQ.out, List.append_nil], ownr_below HO.out HB2.out, HAB.out, HBR.out.trans (HB2.out.mono HS.out)⟩
    · clear hh
      have HG := Lib.hid (get_prog A b c a x n 0 wr (HA.out.below hbr) HLC.out (by have := HL.out; omega) ha hg)
      have HX := Lib.hid hx
      have HXL := Lib.hid (show x.length ≤ 140737488355328 by
        have h1 := fg_cov hg
        have h2 : (frameL x).length ≤ b.length := by rw [h1, List.length_take, List.length_drop]; omega
        rw [frameL_length] at h2
        have := HL.out
        omega)
      have HPA := Lib.hid hpa
      clear hpa
      clear hg hx ho hab hbr hq hpl hS hpn
      go_wp2_with (first
        | (go_at_call 71; refine HG.out.mono ?_; rintro e' w2 ⟨v, rfl, hv, hb2⟩
           obtain ⟨Q, q, hvq, hQ, _, hqc, _⟩ := own_cap hv
           have HQ2 := Lib.hid hQ
           have HQC := Lib.hid hqc
           subst hvq
           have HB2 := Lib.hid hb2
           clear hv hb2 hQ hqc)
        | (go_at_call 22; refine (of_no HX.out Q q _ HQ2.out HQC.out HXL.out).mono ?_; rintro e' w3 ⟨rfl, hb3⟩
           have HB3 := Lib.hid (below_then HB2.out hb3)
           clear hb3))
      go_ret2
      exact ⟨_, ps, by rw [HPA.out]; rfl, by rw [← HQ.out, List.append_nil], ownr_below HO.out (HB3.out.alloc HB3.out.size _), HAB.out, HBR.out.trans ((HB3.out.alloc HB3.out.size _).mono HS.out)⟩
    · clear hh
      have HG := Lib.hid (get_prog A b c a (recL R) n 0 wr (HA.out.below hbr) HLC.out (by have := HL.out; omega) ha hg)
      obtain ⟨g1, g2, g3⟩ := fg_next hg rfl
      have hlt : a < n := by omega
      have HOX := Lib.hid (fun P d W (hP : Bys W P (recL R)) (hd : (recL R).length ≤ d) => of_yes ⟨hr, rfl⟩ P d W hP hd (by have := recL_len hr; omega))
      have HK := Lib.hid k
      have HLT := Lib.hid hlt
      have HG2 := Lib.hid g2
      clear hg hr k ho hab hbr hq hpl hS hpn g1 g2 g3 hlt
      generalize recL R = rl at *
      have HREL := Lib.hid (fun m => show ps.map Prod.fst ++ [R] = (ps ++ [((R, m) : Pl)]).map Prod.fst by simp)
      obtain ⟨kd, la, ro, ids, lo, hi⟩ := R
      simp only [recC] at HOX
      go_wp2_with (first
        | (go_at_call 71; refine HG.out.mono ?_; rintro e' w2 ⟨v, rfl, hv, hb2⟩
           obtain ⟨Q, q, hvq, hQ, _, hqc, _⟩ := own_cap hv
           have HQ2 := Lib.hid hQ
           have HQC := Lib.hid hqc
           subst hvq
           have HB2 := Lib.hid hb2
           clear hv hb2 hQ hqc)
        | (go_at_call 22; refine (HOX.out Q q _ HQ2.out HQC.out).mono ?_; rintro e' w3 ⟨m, rfl, ho3, hb3⟩
           obtain ⟨A1, ca, B1, cb, C1, cc⟩ := m
           simp only [] at *
           have hb3' := below_then HB2.out hb3
           have HB3 := Lib.hid (hb3'.alloc hb3'.size (.cells #[.int .i64 kd, .slice A1 la.length ca, .slice B1 ro.length cb, .slice C1 ids.length cc, .int .i64 lo, .int .i64 hi] 47))
           have HOR := Lib.hid ((ho3.lower (Nat.le_trans HS.out HB2.out.size)).below (below_one w3 (.cells #[.int .i64 kd, .slice A1 la.length ca, .slice B1 ro.length cb, .slice C1 ids.length cc, .int .i64 lo, .int .i64 hi] 47)))
           obtain ⟨q0, q1, q2, q3, q4, q5⟩ := rec_cells (Row.new w3 47 #[.int .i64 kd, .slice A1 la.length ca, .slice B1 ro.length cb, .slice C1 ids.length cc, .int .i64 lo, .int .i64 hi]) rfl
           clear hb3 ho3 hb3')
        | (at_builtin; refine app_rec rfl (.tmp 30) (.tmp 32) rfl w.heap.size _ ps rfl (ownr_below HO.out HB3.out) ⟨kd, la, ro, ids, lo, hi⟩ ⟨A1, ca, B1, cb, C1, cc⟩ HOR.out.in_ (HOR.out.apart (ownr_below HO.out HB3.out).row) 1 (by rw [alloc_size1]; rfl) (by have := HPL.out; have := HL.out; have := HG2.out; have := HLT.out; omega) (Nat.le_trans HS.out HB3.out.size) ?_
           intro v5 w5 ho5 hb5 _ _
           have HO5 := Lib.hid ho5
           have HB5 := Lib.hid ((HBR.out.trans (HB3.out.mono HS.out)).trans hb5)
           clear ho5 hb5))
      go_roundw
      case rel => exact ⟨n, ps ++ [(⟨kd, la, ro, ids, lo, hi⟩, ⟨A1, ca, B1, cb, C1, cc⟩)], rs2, rfl, HG2.out, HK.out, by rw [← HQ.out, ← HREL.out, List.append_assoc]; rfl, by rw [List.length_append]; have := HPL.out; have := HLT.out; simp; omega, HO5.out, fun x hx => by
        rcases List.mem_append.1 hx with hx | hx
        · exact HAB.out x hx
        · obtain rfl := List.mem_singleton.1 hx
          exact HOR.out.above, HB5.out⟩
      case measure => have := HLT.out; have := HG2.out; simp [intOf]; omega
end Go.Proofs.YtmgolnlkepiocaaGreat

namespace Go.Proofs.YtmgolnlkepiocaaGreat
open Go.RowKit Go.Maps Dk
set_option linter.unusedVariables false

/-- No slice of a record lies in S. -/
def FarP (S : Nat → Prop) (x : Pl) : Prop := ∀ k, S k → Apart k x
theorem Above.far {S : Nat → Prop} {b : Nat} {x : Pl} (h : Above b x) (hS : ∀ k, S k → k < b) : FarP S x := fun k hk => h k (hS k hk)
theorem RecIn.kept {S : Nat → Prop} {w w' : World} {R : RecV} {m : RecM} (h : RecIn w R m) (hK : Kept S w w') (hf : FarP S (R, m)) : RecIn w' R m := by
  have key : ∀ {α : Type} (f : α → List Value) (n : Nat) (hf : ∀ x, (f x).length = n + 1) (A : Option Addr) (l : List α), At w A (l.flatMap f) → (∀ k, S k → ∀ ad, A = some ad → ad.block ≠ k ∨ l = []) → At w' A (l.flatMap f) := by
    intro α f n hf A l hA hk
    refine at_move hA hK.size ?_
    by_cases h0 : l = []
    · exact .inl ((flat_nil f n hf).2 h0)
    · refine .inr fun ad e => hK.block _ (at_block hA (fun h => h0 ((flat_nil f n hf).1 h)) ad e) fun hs => ?_
      rcases hk _ hs ad e with h1 | h1
      · exact h1 rfl
      · exact h0 h1
  exact ⟨key lblE 1 lblE_len _ _ h.labels fun k hk => (hf k hk).1, key wrowE 2 wrowE_len _ _ h.rows fun k hk => (hf k hk).2.1, key intE 0 intE_len _ _ h.ids fun k hk => (hf k hk).2.2, h.lc, h.rc, h.ic⟩
/-- An own row of records that lies apart from S, the records' slices too. -/
structure Keeps (S : Nat → Prop) (w : World) (base : Nat) (v : Value) (ps : List Pl) : Prop where
  own : OwnR w base v ps
  far : Far S v
  each : ∀ x ∈ ps, FarP S x
section
variable {S T : Nat → Prop} {w w' : World} {base : Nat} {v : Value} {ps : List Pl}
theorem Keeps.kept (h : Keeps S w base v ps) (hK : Kept S w w') : Keeps S w' base v ps := ⟨⟨rows_kept h.own.row hK h.far, fun x hx => (h.own.each x hx).kept hK (h.each x hx), h.own.apart⟩, h.far, h.each⟩
theorem Keeps.below (h : Keeps S w base v ps) (hb : Below w.heap.size w w') : Keeps S w' base v ps := ⟨ownr_below h.own hb, h.far, h.each⟩
theorem Keeps.lower {base' : Nat} (h : Keeps S w base v ps) (hb : base' ≤ base) : Keeps S w base' v ps := ⟨ownr_lower h.own hb, h.far, h.each⟩
/-- What is new is far. -/
theorem Keeps.new (h : Keeps S w base v ps) (hT : ∀ k, T k → S k ∨ w.heap.size ≤ k) : Keeps T w base v ps :=
  ⟨h.own, fun k hk ht => (hT k ht).elim (h.far k hk) (fun hge => by have := (World.ownsRow.lt h.own.row k hk).2; omega), fun x hx k hk => (hT k hk).elim (h.each x hx k) (fun hge => (h.own.each x hx).apart_new hge)⟩
theorem Keeps.mono (h : Keeps S w base v ps) (hT : ∀ k, T k → S k) : Keeps T w base v ps := ⟨h.own, fun k hk ht => h.far k hk (hT k ht), fun x hx k hk => h.each x hx k (hT k hk)⟩
theorem keeps_nil (S : Nat → Prop) (w : World) (base : Nat) : Keeps S w base (.slice none 0 0) [] := ⟨ownr_nil _ _, fun k (hk : none = some k) => (nomatch hk), fun x (hx : x ∈ ([] : List Pl)) => (nomatch hx)⟩
theorem keeps_of (h : OwnR w base v ps) (ha : ∀ x ∈ ps, Above base x) (hS : ∀ k, S k → k < base) : Keeps S w base v ps :=
  ⟨h, fun k hk hs => by have := (World.ownsRow.lt h.row k hk).1; have := hS k hs; omega, fun x hx => (ha x hx).far hS⟩
end
theorem bys_take {w : World} {A : Option Addr} {b : List UInt8} (h : Bys w A b) (p : Nat) : Bys w A (b.take p) := by
  rcases h with rfl | ⟨g, o, rfl, hlt, hc⟩
  · exact .inl (by simp)
  · refine .inr ⟨g, o, rfl, hlt, fun i hi => ?_⟩
    rw [List.length_take] at hi
    rw [hc i (by omega), List.getD_eq_getElem?_getD, List.getD_eq_getElem?_getD, List.getElem?_take_of_lt (by omega)]
theorem bys_stay {S : Nat → Prop} {w w' : World} {P : Option Addr} {x : List UInt8} (h : Bys w P x) (hK : Kept S w w') (hS : ∀ ad, P = some ad → ad.block < w.heap.size → ¬ S ad.block) : Bys w' P x := by
  rcases h with rfl | ⟨b, o, rfl, hlt, hc⟩
  · exact .inl rfl
  · exact bys_move (.inr ⟨b, o, rfl, hlt, hc⟩) hK.size (.inr fun ad e => by
      injection e with e
      subst e
      exact hK.block b hlt (hS _ rfl hlt))
/-- One call of a disk behind others. -/
theorem after_step {S : Nat → Prop} {w w1 w2 : World} {X : Nat} {d d2 : Dsk} (h : After S w X d w1) (k : After (fun k => S k ∨ w.heap.size ≤ k) w1 X d2 w2) : After S w X d2 w2 :=
  ⟨k.1.mono fun i hi => hi.elim id (fun hge => .inr (Nat.le_trans h.2.size hge)), h.2.trans k.2 fun i hi => hi⟩
theorem row_kept {S : Nat → Prop} {w w' : World} {g : Nat} {t : TypeId} {cs : Array Value} (h : Row w g t cs) (hK : Kept S w w') (hg : ¬ S g) : Row w' g t cs := row_move h (hK.block g h.lt hg)
/-- Changes one behind the other, up to the first error. -/
def runF : Dsk → List (Dsk → Dsk × Int) → Dsk × Int
  | d, [] => (d, 0)
  | d, f :: r => if (f d).2 = 0 then runF (f d).1 r else f d
theorem runC_F : ∀ (cs : List Chg) (d : Dsk), runC d cs = runF d (cs.map fun c d => chg d c) := by
  intro cs
  induction cs with
  | nil => intro d; rfl
  | cons c r ih => intro d; rw [runC, List.map_cons, runF, ih]
theorem mendD_F (d : Dsk) (name part : List UInt8) : mendD d name part = runF d (sweepD :: (mendC name part).map fun c d => chg d c) := by
  unfold mendD
  rw [runF, runC_F]
theorem readD_none {d : Dsk} {name : List UInt8} (h : (readD d name).2 ≠ 0) : (readD d name).1 = [] := by
  unfold readD at h ⊢
  split
  · rfl
  · split
    · rfl
    · split
      · rfl
      · rename_i n hn hd
        rw [if_neg (by assumption), hn] at h
        simp only [if_neg hd] at h
        exact absurd rfl h
theorem ok_runC : ∀ (cs : List Chg) (N : Nat) (d : Dsk), Ok N d → (∀ c ∈ cs, 1 ≤ c.1 ∧ c.1 ≤ 6) → Ok (N + cs.length) (runC d cs).1 := by
  intro cs
  induction cs with
  | nil => intro N d h _; exact h
  | cons c r ih =>
    intro N d h hc
    have h1 := ok_change h c.1 c.2.1 c.2.2.1 c.2.2.2 (hc c (by simp))
    rw [runC]
    split
    · have := ih (N + 1) _ h1 fun x hx => hc x (List.mem_cons_of_mem _ hx)
      exact this.mono (by simp; omega)
    · exact h1.mono (by simp)
theorem ok_open {N : Nat} {d : Dsk} (h : Ok N d) (name : List UInt8) (p : Nat) : Ok (N + 6) (openD d name p).1 := by
  unfold openD
  split
  · exact h.mono (by omega)
  · split
    · exact (ok_runC (beginC name) N d h (by intro c hc; simp [beginC] at hc; rcases hc with rfl | rfl <;> simp)).mono (by simp [beginC])
    · split
      · exact h.mono (by omega)
      · split
        · unfold mendD
          have h1 : Ok (N + 1) (sweepD d).1 := ok_change h 4 tmpN [] [] (by decide)
          split
          · exact (ok_runC (mendC name _) (N + 1) _ h1 (by intro c hc; simp [mendC] at hc; rcases hc with rfl | rfl | rfl | rfl | rfl <;> simp)).mono (by simp [mendC])
          · exact h1.mono (by omega)
        · exact h.mono (by omega)
end Go.Proofs.YtmgolnlkepiocaaGreat

namespace Go.Proofs.YtmgolnlkepiocaaGreat
open Go.RowKit Go.Maps Dk
set_option linter.unusedVariables false

theorem tmpS_list : strL tmpS = tmpN := rfl
section
variable {S : Nat → Prop} {w : World} {X : Nat} {d : Dsk} {g b s : Nat}
theorem create_step (hg : Row w g 23 #[.pointer (some ⟨X, 0, none⟩)]) (h : DiskAt S w X d) (hF : Fine d) (hq : Few d) :
    Calls Tryz.prog 77 #[.pointer (some ⟨g, 0, none⟩)] w fun e w' => e = .returned (.int .i64 (chg d (1, tmpN, [], [])).2) ∧ After S w X (chg d (1, tmpN, [], [])).1 w' := by
  have HC := Lib.hid (create_prog h hF hq tmpS [] [] (by decide))
  have c0 : w.cell? ⟨g, 0, none⟩ = some (.pointer (some ⟨X, 0, none⟩)) := hg.cell 0
  clear hg h hF hq
  go_enter Tryz.func77, Tryz.ntmps77
  go_wp2_with fail
  refine HC.out.mono ?_
  rintro e w1 ⟨rfl, ha⟩
  have HA := Lib.hid ha
  clear ha
  go_wp2
  go_ret
  exact ⟨rfl, HA.out⟩
theorem create_begin (s : ByteArray) (hs : s.size ≤ 281474976710656) (hg : Row w g 23 #[.pointer (some ⟨X, 0, none⟩)]) (hb : Row w b 9 #[.string s]) (h : DiskAt S w X d) (hF : Fine d) (hq : Few d) :
    Calls Tryz.prog 72 #[.pointer (some ⟨g, 0, none⟩), .pointer (some ⟨b, 0, none⟩)] w fun e w' => e = .returned (.int .i64 (chg d (1, strL s, [], [])).2) ∧ After S w X (chg d (1, strL s, [], [])).1 w' := by
  have HC := Lib.hid (create_prog h hF hq s [] [] hs)
  have c0 : w.cell? ⟨g, 0, none⟩ = some (.pointer (some ⟨X, 0, none⟩)) := hg.cell 0
  have c1 : w.cell? ⟨b, 0, none⟩ = some (.string s) := hb.cell 0
  clear hg hb h hF hq
  go_enter Tryz.func72, Tryz.ntmps72
  go_wp2_with fail
  refine HC.out.mono ?_
  rintro e w1 ⟨rfl, ha⟩
  have HA := Lib.hid ha
  clear ha
  go_wp2
  go_ret
  exact ⟨rfl, HA.out⟩
theorem append_step (A : Option Addr) (l : List UInt8) (c : Nat) (hl : l.length ≤ 281474976710656) (hg : Row w g 23 #[.pointer (some ⟨X, 0, none⟩)]) (hb : Row w b 48 #[.slice A l.length c]) (hA : Bys w A l) (h : DiskAt S w X d) (hF : Fine d) (hq : Few d) :
    Calls Tryz.prog 78 #[.pointer (some ⟨g, 0, none⟩), .pointer (some ⟨b, 0, none⟩)] w fun e w' => e = .returned (.int .i64 (chg d (2, tmpN, [], l)).2) ∧ After S w X (chg d (2, tmpN, [], l)).1 w' := by
  have HC := Lib.hid (append_prog h hF hq tmpS [] A l c (by decide) hA hl)
  have c0 : w.cell? ⟨g, 0, none⟩ = some (.pointer (some ⟨X, 0, none⟩)) := hg.cell 0
  have c1 : w.cell? ⟨b, 0, none⟩ = some (.slice A l.length c) := hb.cell 0
  clear hg hb h hF hq hA hl
  go_enter Tryz.func78, Tryz.ntmps78
  go_wp2_with fail
  refine HC.out.mono ?_
  rintro e w1 ⟨rfl, ha⟩
  have HA := Lib.hid ha
  clear ha
  go_wp2
  go_ret
  exact ⟨rfl, HA.out⟩
theorem sync_step (hg : Row w g 23 #[.pointer (some ⟨X, 0, none⟩)]) (h : DiskAt S w X d) (hF : Fine d) (hq : Few d) :
    Calls Tryz.prog 79 #[.pointer (some ⟨g, 0, none⟩)] w fun e w' => e = .returned (.int .i64 (chg d (5, tmpN, [], [])).2) ∧ After S w X (chg d (5, tmpN, [], [])).1 w' := by
  have HC := Lib.hid (sync_prog h hF hq tmpS [] [] (by decide))
  have c0 : w.cell? ⟨g, 0, none⟩ = some (.pointer (some ⟨X, 0, none⟩)) := hg.cell 0
  clear hg h hF hq
  go_enter Tryz.func79, Tryz.ntmps79
  go_wp2_with fail
  refine HC.out.mono ?_
  rintro e w1 ⟨rfl, ha⟩
  have HA := Lib.hid ha
  clear ha
  go_wp2
  go_ret
  exact ⟨rfl, HA.out⟩
theorem rename_step (s : ByteArray) (hs : s.size ≤ 281474976710656) (hg : Row w g 23 #[.pointer (some ⟨X, 0, none⟩)]) (hb : Row w b 9 #[.string s]) (h : DiskAt S w X d) (hF : Fine d) (hq : Few d) :
    Calls Tryz.prog 80 #[.pointer (some ⟨g, 0, none⟩), .pointer (some ⟨b, 0, none⟩)] w fun e w' => e = .returned (.int .i64 (chg d (3, tmpN, strL s, [])).2) ∧ After S w X (chg d (3, tmpN, strL s, [])).1 w' := by
  have HC := Lib.hid (rename_prog h hF hq tmpS s [] (by decide) hs)
  have c0 : w.cell? ⟨g, 0, none⟩ = some (.pointer (some ⟨X, 0, none⟩)) := hg.cell 0
  have c1 : w.cell? ⟨b, 0, none⟩ = some (.string s) := hb.cell 0
  clear hg hb h hF hq
  go_enter Tryz.func80, Tryz.ntmps80
  go_wp2_with fail
  refine HC.out.mono ?_
  rintro e w1 ⟨rfl, ha⟩
  have HA := Lib.hid ha
  clear ha
  go_wp2
  go_ret
  exact ⟨rfl, HA.out⟩
theorem sweep_prog (h : DiskAt S w X d) (hF : Fine d) (hq : Few d) :
    Calls Tryz.prog 76 #[.pointer (some ⟨X, 0, none⟩)] w fun e w' => e = .returned (.int .i64 (sweepD d).2) ∧ After S w X (sweepD d).1 w' := by
  have HC := Lib.hid (remove_prog h hF hq tmpS [] [] (by decide))
  rw [tmpS_list] at HC
  unfold sweepD
  clear h hF hq
  generalize change d 4 tmpN [] [] = q at *
  obtain ⟨d', E⟩ := q
  simp only at HC ⊢
  by_cases h9 : E = 9
  · subst h9
    rw [if_pos rfl]
    go_enter Tryz.func76, Tryz.ntmps76
    go_wp2_with fail
    refine HC.out.mono ?_
    rintro e w1 ⟨rfl, ha⟩
    have HA := Lib.hid ha
    clear ha
    go_wp2
    go_ret
    exact ⟨rfl, HA.out⟩
  · rw [if_neg h9]
    have i1 : (E != 9) = true := bne_iff_ne.2 h9
    have i2 : (E == 9) = false := beq_eq_false_iff_ne.2 h9
    clear h9
    go_enter Tryz.func76, Tryz.ntmps76
    go_wp2_with fail
    refine HC.out.mono ?_
    rintro e w1 ⟨rfl, ha⟩
    have HA := Lib.hid ha
    clear ha
    go_wp2
    go_ret
    exact ⟨rfl, HA.out⟩
theorem sweep_step (hg : Row w g 23 #[.pointer (some ⟨X, 0, none⟩)]) (h : DiskAt S w X d) (hF : Fine d) (hq : Few d) :
    Calls Tryz.prog 75 #[.pointer (some ⟨g, 0, none⟩)] w fun e w' => e = .returned (.int .i64 (sweepD d).2) ∧ After S w X (sweepD d).1 w' := by
  have HC := Lib.hid (sweep_prog h hF hq)
  have c0 : w.cell? ⟨g, 0, none⟩ = some (.pointer (some ⟨X, 0, none⟩)) := hg.cell 0
  clear hg h hF hq
  go_enter Tryz.func75, Tryz.ntmps75
  go_wp2_with fail
  refine HC.out.mono ?_
  rintro e w1 ⟨rfl, ha⟩
  have HA := Lib.hid ha
  clear ha
  go_wp2
  go_ret
  exact ⟨rfl, HA.out⟩
end
def beginF (b1 b2 X : Nat) : Array Value := #[.func (.func 72) #[] #[.pointer (some ⟨b1, 0, none⟩), .pointer (some ⟨b2, 0, none⟩)], .func (.func 74) #[.pointer (some ⟨X, 0, none⟩)] #[]]
def mendF (b1 b2 b3 X : Nat) : Array Value := #[.func (.func 75) #[] #[.pointer (some ⟨b1, 0, none⟩)], .func (.func 77) #[] #[.pointer (some ⟨b1, 0, none⟩)], .func (.func 78) #[] #[.pointer (some ⟨b1, 0, none⟩), .pointer (some ⟨b3, 0, none⟩)],
  .func (.func 79) #[] #[.pointer (some ⟨b1, 0, none⟩)], .func (.func 80) #[] #[.pointer (some ⟨b1, 0, none⟩), .pointer (some ⟨b2, 0, none⟩)], .func (.func 74) #[.pointer (some ⟨X, 0, none⟩)] #[]]
theorem begin_prog (X : Nat) (s : ByteArray) (w : World) :
    Calls Tryz.prog 42 #[.pointer (some ⟨X, 0, none⟩), .string s] w fun e w' => e = .returned (.slice (some ⟨w.heap.size + 2, 0, none⟩) 2 2) ∧ Row w' w.heap.size 23 #[.pointer (some ⟨X, 0, none⟩)] ∧ Row w' (w.heap.size + 1) 9 #[.string s] ∧ Row w' (w.heap.size + 2) 107 (beginF w.heap.size (w.heap.size + 1) X) ∧ Below w.heap.size w w' := by
  have hmf : ∀ (fn : Fn) (first cap : Array Value) (w : World), (Instr.makeFunc fn first cap).run Tryz.prog w = .ok (.func fn first cap) w := fun _ _ _ _ => rfl
  have HB := Lib.hid (((Below.refl w.heap.size w).alloc (Nat.le_refl _) (.cells #[.pointer (some ⟨X, 0, none⟩)] 23)).alloc (by simp) (.cells #[.string s] 9) |>.alloc (by simp; omega) (.cells (beginF w.heap.size (w.heap.size + 1) X) 107))
  have H1 := Lib.hid (((Row.new w 23 #[.pointer (some ⟨X, 0, none⟩)]).alloc (.cells #[.string s] 9)).alloc (.cells (beginF w.heap.size (w.heap.size + 1) X) 107))
  have H2 := Lib.hid (Row.alloc (show Row ((w.alloc (.cells #[.pointer (some ⟨X, 0, none⟩)] 23)).alloc (.cells #[.string s] 9)) (w.heap.size + 1) 9 #[.string s] from heap_alloc2_new w _ _) (.cells (beginF w.heap.size (w.heap.size + 1) X) 107))
  have H3 := Lib.hid (show Row (((w.alloc (.cells #[.pointer (some ⟨X, 0, none⟩)] 23)).alloc (.cells #[.string s] 9)).alloc (.cells (beginF w.heap.size (w.heap.size + 1) X) 107)) (w.heap.size + 2) 107 (beginF w.heap.size (w.heap.size + 1) X) by have := Row.new ((w.alloc (.cells #[.pointer (some ⟨X, 0, none⟩)] 23)).alloc (.cells #[.string s] 9)) 107 (beginF w.heap.size (w.heap.size + 1) X); simpa using this)
  go_enter Tryz.func42, Tryz.ntmps42
  go_wp2_with fail
  go_ret
  exact ⟨rfl, H1.out, H2.out, H3.out, HB.out⟩
theorem mend_prog (X : Nat) (s : ByteArray) (A : Option Addr) (n c : Nat) (w : World) :
    Calls Tryz.prog 43 #[.pointer (some ⟨X, 0, none⟩), .string s, .slice A n c] w fun e w' => e = .returned (.slice (some ⟨w.heap.size + 3, 0, none⟩) 6 6) ∧ Row w' w.heap.size 23 #[.pointer (some ⟨X, 0, none⟩)] ∧ Row w' (w.heap.size + 1) 9 #[.string s] ∧ Row w' (w.heap.size + 2) 48 #[.slice A n c] ∧
      Row w' (w.heap.size + 3) 107 (mendF w.heap.size (w.heap.size + 1) (w.heap.size + 2) X) ∧ Below w.heap.size w w' := by
  have hmf : ∀ (fn : Fn) (first cap : Array Value) (w : World), (Instr.makeFunc fn first cap).run Tryz.prog w = .ok (.func fn first cap) w := fun _ _ _ _ => rfl
  have HB := Lib.hid (((Below.refl w.heap.size w).alloc (Nat.le_refl _) (.cells #[.pointer (some ⟨X, 0, none⟩)] 23)).alloc (by simp) (.cells #[.string s] 9) |>.alloc (by simp; omega) (.cells #[.slice A n c] 48) |>.alloc (by simp; omega) (.cells (mendF w.heap.size (w.heap.size + 1) (w.heap.size + 2) X) 107))
  have H1 := Lib.hid ((((Row.new w 23 #[.pointer (some ⟨X, 0, none⟩)]).alloc (.cells #[.string s] 9)).alloc (.cells #[.slice A n c] 48)).alloc (.cells (mendF w.heap.size (w.heap.size + 1) (w.heap.size + 2) X) 107))
  have H2 := Lib.hid ((Row.alloc (show Row ((w.alloc (.cells #[.pointer (some ⟨X, 0, none⟩)] 23)).alloc (.cells #[.string s] 9)) (w.heap.size + 1) 9 #[.string s] from heap_alloc2_new w _ _) (.cells #[.slice A n c] 48)).alloc (.cells (mendF w.heap.size (w.heap.size + 1) (w.heap.size + 2) X) 107))
  have H3 := Lib.hid (Row.alloc (show Row (((w.alloc (.cells #[.pointer (some ⟨X, 0, none⟩)] 23)).alloc (.cells #[.string s] 9)).alloc (.cells #[.slice A n c] 48)) (w.heap.size + 2) 48 #[.slice A n c] by have := Row.new ((w.alloc (.cells #[.pointer (some ⟨X, 0, none⟩)] 23)).alloc (.cells #[.string s] 9)) 48 #[.slice A n c]; simpa using this) (.cells (mendF w.heap.size (w.heap.size + 1) (w.heap.size + 2) X) 107))
  have H4 := Lib.hid (show Row ((((w.alloc (.cells #[.pointer (some ⟨X, 0, none⟩)] 23)).alloc (.cells #[.string s] 9)).alloc (.cells #[.slice A n c] 48)).alloc (.cells (mendF w.heap.size (w.heap.size + 1) (w.heap.size + 2) X) 107)) (w.heap.size + 3) 107 (mendF w.heap.size (w.heap.size + 1) (w.heap.size + 2) X) by have := Row.new (((w.alloc (.cells #[.pointer (some ⟨X, 0, none⟩)] 23)).alloc (.cells #[.string s] 9)).alloc (.cells #[.slice A n c] 48)) 107 (mendF w.heap.size (w.heap.size + 1) (w.heap.size + 2) X); simpa using this)
  go_enter Tryz.func43, Tryz.ntmps43
  go_wp2_with fail
  go_ret
  exact ⟨rfl, H1.out, H2.out, H3.out, H4.out, HB.out⟩
end Go.Proofs.YtmgolnlkepiocaaGreat
