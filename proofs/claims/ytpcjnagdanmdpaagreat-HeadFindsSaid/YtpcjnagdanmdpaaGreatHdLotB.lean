/- In one text, written by lotify.py: HdBegin, HdPush, HdGrowM. -/
import Derived.Test.YtpcjnagdanmdpaaGreatHdLotA
import Derived.Test.YtpcjnagdanmdpaaGreatHdLotG
import Derived.Test.YtpcjnagdanmdpaaGreatHdLotH
namespace Go.Proofs.YtpcjnagdanmdpaaGreat
open Go.RowKit Go.Maps
open Ch
set_option linter.unusedVariables false
set_option linter.unusedSimpArgs false
set_option maxRecDepth 100000
section
variable {S : Nat → Prop} {w w' w1 w2 : World} {X : Nat} {p : Plc} {h h' : List Ser} {c : Int}
theorem IdsAt.drew {b : Nat} {ls : List (List Lbl)} (h : IdsAt w b ls) : IdsAt w.drew b ls := h
theorem begin_there (hi : HeadIn w X p h c) (hk : HeadOk h) {l : List Lbl} (hl : lbChk l = 0) (A : Option Addr) (ca : Nat) (hA : Lbls w A l) (h0 : 0 ≤ idH h l) :
    Calls Tryz.prog 23 #[.pointer (some ⟨X, 0, none⟩), .slice A l.length ca] w fun e w' => e = .returned (.int .i64 10) ∧ Below w.heap.size w w' := by
  have HP := Lib.hid (print_prog A l ca w hA (by have := (lbChk_ok.1 hl).1; omega) (by have := right_cost hl; omega))
  have HI := Lib.hid (fun w' (hb : Below w.heap.size w w') => (hi.below hb).cells)
  have HL := Lib.hid (fun w' (hb : Below w.heap.size w w') => ids_look (hi.below hb).ids hk hl)
  have h1 : decide (0 ≤ idH h l) = true := decide_eq_true h0
  rw [h1, if_pos h0] at HL
  generalize idH h l = I at *
  clear hi hk hl hA h1
  go_enter Tryz.func23, Tryz.ntmps23
  go_wp2_with fail
  refine HP.out.mono ?_
  rintro e w2 ⟨rfl, hb2⟩
  obtain ⟨P, cc, _, _, x0, x1, _⟩ := HI.out _ hb2
  have hlk := HL.out _ hb2
  have HB2 := Lib.hid hb2
  clear hb2
  go_wp2_with fail
  go_ret
  exact ⟨rfl, HB2.out⟩
theorem begin_big (hi : HeadIn w X p h c) (hk : HeadOk h) {l : List Lbl} (hl : lbChk l = 0) (A : Option Addr) (ca : Nat) (hA : Lbls w A l) (h0 : ¬ 0 ≤ idH h l) (h256 : 256 ≤ h.length) :
    Calls Tryz.prog 23 #[.pointer (some ⟨X, 0, none⟩), .slice A l.length ca] w fun e w' => e = .returned (.int .i64 3) ∧ Below w.heap.size w w' := by
  have HP := Lib.hid (print_prog A l ca w hA (by have := (lbChk_ok.1 hl).1; omega) (by have := right_cost hl; omega))
  have HI := Lib.hid (fun w' (hb : Below w.heap.size w w') => (hi.below hb).cells)
  have HL := Lib.hid (fun w' (hb : Below w.heap.size w w') => ids_look (hi.below hb).ids hk hl)
  have h1 : decide (0 ≤ idH h l) = false := decide_eq_false h0
  rw [h1, if_neg h0] at HL
  have q1 : decide ((256 : Int) ≤ (h.length : Int)) = true := decide_eq_true (by omega)
  generalize h.length = n at *
  clear hi hk hl hA h1
  go_enter Tryz.func23, Tryz.ntmps23
  go_wp2_with fail
  refine HP.out.mono ?_
  rintro e w2 ⟨rfl, hb2⟩
  obtain ⟨P, cc, _, _, x0, x1, _⟩ := HI.out _ hb2
  have hlk := HL.out _ hb2
  have HB2 := Lib.hid hb2
  clear hb2
  go_wp2_with fail
  go_ret
  exact ⟨rfl, HB2.out⟩
theorem begin_fin {w3 w4 w5 : World} {l : List Lbl} {P P4 P5 : Option Addr} {cc c4 c5 n : Nat} (hi : HeadIn w X p h (cntS h : Int)) (hS : ∀ k, Foot X p h.length k → S k) (hb2 : Below w.heap.size w w2) (hI3 : IdsAt w3 p.mb (blSets (h ++ [(l, [])]))) (ht3 : w2.drew.mapTurned w3 p.mb)
    (hb4 : Below w3.drew.heap.size w3.drew w4) (ho4 : OwnL w4 w3.drew.heap.size (.slice P4 l.length c4) l)
    (happ : AppP ((w4.alloc (.cells #[.slice P4 l.length c4, .slice none 0 0] 77)).alloc (.cells #[ptrV w4.heap.size] 74)) (.slice P n cc) n w4.heap.size (ptrs p.fb n) (.slice P5 (n + 1) c5) w5) (hn : h.length = n) (hpv : p.sv = .slice P h.length cc) :
    After S w X (h ++ [(l, [])]) (w5.setCell ⟨X, 0, none⟩ (.slice P5 (n + 1) c5)) := by
  have hsvb : p.sv.ownBlock = (Value.slice P n cc).ownBlock := by rw [hpv]; cases P <;> rfl
  have hb34 : Below w3.heap.size w3 w4 := ⟨hb4.os, hb4.tape, hb4.output, hb4.size, hb4.block⟩
  have k3 : Kept (fun k => k = X ∨ k = p.mb ∨ p.sv.ownBlock = some k) w w3 := (Kept.below hb2.drew).trans (Kept.turned (S := fun k => k = X ∨ k = p.mb ∨ p.sv.ownBlock = some k) ht3 (.inr (.inl rfl))) fun i hi => .inl hi
  have hi3l : w.heap.size ≤ w3.heap.size := k3.size
  obtain ⟨h2, h3, h4⟩ := happ
  -- from the world ahead of the append on
  obtain ⟨W, hW⟩ : ∃ W, (w4.alloc (.cells #[.slice P4 l.length c4, .slice none 0 0] 77)).alloc (.cells #[ptrV w4.heap.size] 74) = W := ⟨_, rfl⟩
  have hb36 : Below w3.heap.size w3 W := by rw [← hW]; exact (hb34.alloc hb34.size _).alloc (Nat.le_trans hb34.size (by simp)) _
  have hg6 : Row W w4.heap.size 77 #[.slice P4 l.length c4, .slice none 0 0] := by rw [← hW]; exact (Row.new w4 _ _).alloc _
  have hl6 : OwnL W 0 (.slice P4 l.length c4) l := by rw [← hW]; exact ownl_lower (ownl_below (ownl_below ho4 (below_one _ _)) (below_one _ _)) (Nat.zero_le _)
  have hlb : ∀ q, (Value.slice P4 l.length c4).ownBlock = some q → w.heap.size ≤ q := fun q hq => Nat.le_trans hi3l (World.ownsRow.lt ho4 q hq).1
  rw [hW] at h3 h4
  have hx3 : Row w3 X 59 #[p.sv, .map (some p.mb), .int .i64 (cntS h : Int)] := grown_row (hi.row.below hb2.drew hi.row.lt) ht3.grown (fun e => by injection e with e; exact hi.tx.mp hi.tm e)
  have hx6 : Row W X 59 #[p.sv, .map (some p.mb), .int .i64 (cntS h : Int)] := hx3.below hb36 hx3.lt
  have hsb : ∀ k, p.sv.ownBlock = some k → Ty W k 74 := fun k hk => by
    obtain ⟨cs, hcs⟩ := hi.tp hk
    have hlt := (World.ownsRow.lt hi.sers k hk).2
    refine ⟨cs, ?_⟩
    rw [hb36.block k (Nat.lt_of_lt_of_le hlt hi3l), ht3.grown.block k (Nat.lt_of_lt_of_le hlt hb2.size) (fun e => by injection e with e; exact (hi.tp hk).mp hi.tm e)]
    exact (hb2.drew.block k hlt).trans hcs
  have hx7 : Row w5 X 59 #[p.sv, .map (some p.mb), .int .i64 (cntS h : Int)] := grown_row hx6 h3 (fun e => by rw [← hsvb] at e; exact (ty_row hx6).ne (hsb X e.symm) (by decide) rfl)
  have k67 : Kept (fun k => k = X ∨ p.sv.ownBlock = some k) W (w5.setCell ⟨X, 0, none⟩ (.slice P5 (n + 1) c5)) := (Kept.grown (S := fun k => k = X ∨ p.sv.ownBlock = some k) h3 (fun k hk => .inr (by rw [hsvb]; exact hk))).set (p := ⟨X, 0, none⟩) (.inl (.inl rfl)) _
  have hm6 : p.mb < W.heap.size := Nat.lt_of_lt_of_le hI3.lt hb36.size
  have hmp : ¬ (p.mb = X ∨ p.sv.ownBlock = some p.mb) := by
    rintro (e | e)
    · exact hi.tx.mp hi.tm e.symm
    · exact (hi.tp e).mp hi.tm rfl
  have K : Kept (fun k => k = X ∨ k = p.mb ∨ p.sv.ownBlock = some k) w (w5.setCell ⟨X, 0, none⟩ (.slice P5 (n + 1) c5)) :=
    (k3.trans (Kept.below (S := fun k => k = X ∨ k = p.mb ∨ p.sv.ownBlock = some k) hb36) fun i hi => .inl hi).trans k67 fun i hi => .inl (hi.imp id .inr)
  have hin := hi.with_new K (l := l) (sv' := .slice P5 (n + 1) c5) (lv := .slice P4 l.length c4) (g := w4.heap.size) (hx7.setAt 0 _) ?_ ?_ ?_ ?_ ?_
  · refine ⟨⟨plcNew p h.length (.slice P5 (n + 1) c5) w4.heap.size (.slice P4 l.length c4), ?_, fun k hk => ?_⟩, K.mono ?_⟩
    · rw [cntS_app]
      exact hin
    · rw [show (h ++ [(l, ([] : List Smp))]).length = h.length + 1 by simp] at hk
      refine (foot_new (B := w.heap.size) ?_ (Nat.le_trans hi3l hb34.size) hlb hk).imp (hS k) id
      rcases h4 with e | e
      · exact .inl (e.trans hsvb.symm)
      · exact .inr ⟨_, e, Nat.le_trans hi3l hb36.size⟩
    · rintro k (e | e | e)
      · exact hS k (.inl e)
      · exact hS k (.inr (.inl e))
      · exact hS k (.inr (.inr (.inl e)))
  · exact hI3.block ((k67.block _ hm6 hmp).trans (hb36.block _ hI3.lt))
  · rw [hn]
    exact rows_setFar h2 hx7 (by decide) 0 _
  · exact Nat.le_trans hi3l hb34.size
  · refine row_move hg6 (k67.block _ hg6.lt ?_)
    rintro (e | e)
    · exact (ty_row hg6).ne (ty_row hx6) (by decide) e
    · exact (ty_row hg6).ne (hsb _ e) (by decide) rfl
  · refine ownl_move hl6 fun k hk => k67.block k (World.ownsRow.lt hl6 k hk).2 ?_
    rintro (e | e)
    · exact (ty_own hl6 hk).ne (ty_row hx6) (by decide) e
    · exact (ty_own hl6 hk).ne (hsb _ e) (by decide) rfl
set_option maxHeartbeats 1000000 in
theorem begin_ok (hi : HeadIn w X p h (cntS h : Int)) (hS : ∀ k, Foot X p h.length k → S k) (hk : HeadOk h) {l : List Lbl} (hl : lbChk l = 0) (A : Option Addr) (ca : Nat) (hA : Lbls w A l) (h0 : ¬ 0 ≤ idH h l) (h256 : ¬ 256 ≤ h.length) :
    Calls Tryz.prog 23 #[.pointer (some ⟨X, 0, none⟩), .slice A l.length ca] w fun e w' => e = .returned (.int .i64 0) ∧ After S w X (h ++ [(l, [])]) w' := by
  have HP := Lib.hid (print_prog A l ca w hA (by have := (lbChk_ok.1 hl).1; omega) (by have := right_cost hl; omega))
  have HI := Lib.hid (fun w' (hb : Below w.heap.size w w') => hi.below hb)
  have HL := Lib.hid (fun w' (hb : Below w.heap.size w w') => ids_look (hi.below hb).ids hk hl)
  have HST := Lib.hid (fun w' (hb : Below w.heap.size w w') => ids_store (hi.below hb).ids.drew hk hl (by omega) (by omega))
  have h1 : decide (0 ≤ idH h l) = false := decide_eq_false h0
  rw [h1, if_neg h0] at HL
  have q1 : decide ((256 : Int) ≤ (h.length : Int)) = false := decide_eq_false (by omega)
  obtain ⟨n, hn⟩ : ∃ n, h.length = n := ⟨_, rfl⟩
  have HN := Lib.hid hn
  rw [hn] at q1
  have HH := Lib.hid hi
  have HS := Lib.hid hS
  have HNE := Lib.hid (hi.tx.mp hi.tm)
  clear hi h1
  go_enter Tryz.func23, Tryz.ntmps23
  go_wp2_with fail
  refine HP.out.mono ?_
  rintro e w2 ⟨rfl, hb2⟩
  obtain ⟨P, cc, hpv, _, x0, x1, _⟩ := (HI.out _ hb2).cells
  obtain ⟨w3, hst, hI3, ht3⟩ := HST.out _ hb2
  rw [HN.out] at x0 hst
  have hlk := HL.out _ hb2
  have HB2 := Lib.hid hb2
  have HI3 := Lib.hid hI3
  have HT3 := Lib.hid ht3
  clear hb2 hI3 ht3
  go_wp2_with fail
  go_region
  have hX3 : Row w3 X 59 #[p.sv, .map (some p.mb), .int .i64 (cntS h : Int)] := grown_row (HI.out _ HB2.out.drew).row HT3.out.grown (fun e => by injection e with e; exact HNE.out e)
  have x3 : w3.cell? ⟨X, 0, none⟩ = some (.slice P n cc) := by rw [hX3.cell 0, ← HN.out, ← hpv]; rfl
  have HX3 := Lib.hid hX3
  have HO3 := Lib.hid (show w3.ownsRow 0 74 1 (.slice P n cc) n (ptrs p.fb n) from by
    have := (HI.out _ HB2.out.drew).sers
    rw [HN.out, hpv, HN.out] at this
    exact rows_move (w := w2.drew) this fun k hk => HT3.out.grown.block k (World.ownsRow.lt this k hk).2 (fun e => by
      injection e with e
      subst e
      obtain ⟨es, ck, hm⟩ := (HI.out _ HB2.out.drew).ids.map
      rcases this.2 with ⟨e2, _⟩ | ⟨g, cap, cur, e2, _, hh, _⟩
      · rw [e2] at hk; cases hk
      · rw [e2] at hk
        simp only [Value.ownBlock, Option.some.injEq] at hk
        subst hk
        rw [hm] at hh
        cases hh))
  have HA3 := Lib.hid (show Lbls w3 A l from at_turned (hA.below HB2.out.drew) HT3.out)
  have HCL3 := Lib.hid (fun w' (hb : Below w3.heap.size w3 w') => ixclone_prog A l ca w' (HA3.out.below hb) (by have := (lbChk_ok.1 hl).1; omega))
  clear hX3 hst hlk x0 x1 hA
  have HLT := Lib.hid (show l.length * 32 ≤ 140737488355328 by have := (lbChk_ok.1 hl).1; omega)
  have HXL := Lib.hid (HX3.out.lt)
  have hXl := HXL.out
  have eg : (callFunc 40 #[.slice A l.length ca]).run Tryz.prog w3.drew = .ok (.enter 40 #[.slice A l.length ca]) w3.drew := enters_of Tryz.func40 (by kernel_rfl) rfl _ _
  have HN1 := Lib.hid (show n ≤ 1000 by omega)
  go_upto_region 8 with fail
  go_region_law (first
    | (refine step_call rfl 40 [.tmp 41] #[24] #[.slice A l.length ca] rfl rfl eg (HCL3.out _ ((Below.refl _ _).drew)) ?_
       rintro e w4 ⟨v4, rfl, ho4, hb4⟩
       obtain ⟨P4, c4, hv4, _⟩ := ownl_slice ho4
       subst hv4
       refine ⟨_, rfl, ?_⟩
       have hX4 := HX3.out.drew.below hb4 hXl
       have y0 : w4.cell? ⟨X, 0, none⟩ = some (.slice P n cc) := by rw [hX4.cell 0, ← HN.out, ← hpv]; rfl
       have hX5 := hX4.alloc (.cells #[.slice P4 l.length c4, .slice none 0 0] 77)
       have y1 : (w4.alloc (.cells #[.slice P4 l.length c4, .slice none 0 0] 77)).cell? ⟨X, 0, none⟩ = some (.slice P n cc) := by rw [hX5.cell 0, ← HN.out, ← hpv]; rfl
       have HO4 := Lib.hid ho4
       have HB4 := Lib.hid hb4
       have HR5 := Lib.hid (show Row ((w4.alloc (.cells #[.slice P4 l.length c4, .slice none 0 0] 77)).alloc (.cells #[ptrV w4.heap.size] 74)) (w4.heap.size + 1) 74 #[ptrV w4.heap.size] by
         have := Row.new (w4.alloc (.cells #[.slice P4 l.length c4, .slice none 0 0] 77)) 74 #[ptrV w4.heap.size]
         rwa [show (w4.alloc (.cells #[.slice P4 l.length c4, .slice none 0 0] 77)).heap.size = w4.heap.size + 1 by simp] at this)
       have HO5 := Lib.hid (rows_below (rows_below (rows_below (rows_drew HO3.out) hb4) (below_one w4 (.cells #[.slice P4 l.length c4, .slice none 0 0] 77))) (below_one _ (.cells #[ptrV w4.heap.size] 74)))
       have y2 : ((w4.alloc (.cells #[.slice P4 l.length c4, .slice none 0 0] 77)).alloc (.cells #[.pointer (some ⟨w4.heap.size, 0, none⟩)] 74)).cell? ⟨X, 0, none⟩ = some (.slice P n cc) := by rw [(hX5.alloc (.cells #[.pointer (some ⟨w4.heap.size, 0, none⟩)] 74)).cell 0, ← HN.out, ← hpv]; rfl
       have HX6 := Lib.hid (hX5.alloc (.cells #[ptrV w4.heap.size] 74))
       clear ho4 hb4 hX4 hX5)
    | (refine step_app_ptr rfl (.tmp 40) (.tmp 45) rfl (.slice P n cc) n _ rfl HO5.out w4.heap.size (w4.heap.size + 1) 1 rfl HR5.out HN1.out ?_
       intro v5 w5 happ
       obtain ⟨P5, c5, hv5, _⟩ := rows_slice happ.1
       subst hv5
       have hX7 := grown_row HX6.out happ.2.1 (fun e => rows_ne HX6.out HO5.out (by decide) e.symm)
       have z0 : w5.cell? ⟨X, 0, none⟩ = some (.slice P n cc) := by rw [hX7.cell 0, ← HN.out, ← hpv]; rfl
       have f0 := hX7.frozen 0
       have HAP := Lib.hid happ
       clear happ hX7))
  all_goals
    go_wp2_with fail
    go_ret
    exact ⟨rfl, begin_fin HH.out HS.out HB2.out HI3.out HT3.out HB4.out HO4.out HAP.out HN.out hpv⟩
end
section
variable {S : Nat → Prop} {w w' w1 w2 : World} {X : Nat} {p : Plc} {h h' : List Ser} {c c' : Int}
def rowV (x : Wrow) : Value := .agg #[.int .i64 x.1, .int .i64 x.2.1, .int .i64 x.2.2]
theorem row_far {w : World} {g b : Nat} {t t' : TypeId} {cs cs' : Array Value} (h : Row w g t cs) (h' : Row w b t' cs') (ht : t ≠ t') : g ≠ b := (ty_row h).ne (ty_row h') ht
theorem push_none (hi : HeadIn w X p h c) (x : Wrow) (h0 : x.1 < 0 ∨ (h.length : Int) ≤ x.1) :
    Calls Tryz.prog 56 #[.pointer (some ⟨X, 0, none⟩), rowV x] w fun e w' => e = .returned (.int .i64 9) ∧ Below w.heap.size w w' := by
  have hb := below_one w (.cells #[.int .i64 x.1, .int .i64 x.2.1, .int .i64 x.2.2] 70)
  have hr := Row.new w 70 #[.int .i64 x.1, .int .i64 x.2.1, .int .i64 x.2.2]
  have b0 := hr.cell 0
  have HA := Lib.hid (hdat_no (hi.below hb) x.1 h0)
  have HB := Lib.hid hb
  unfold rowV
  obtain ⟨id, t, v⟩ := x
  simp only at *
  clear hi hb hr h0
  go_enter Tryz.func56, Tryz.ntmps56
  go_wp2_with (go_at_call 39; refine HA.out.mono ?_; rintro e w2 ⟨rfl, rfl⟩)
  go_ret
  exact ⟨rfl, HB.out⟩
theorem push_big (hi : HeadIn w X p h c) (x : Wrow) (i : Nat) (hx : x.1 = (i : Int)) (hl : i < h.length) (hc : 65536 ≤ c) :
    Calls Tryz.prog 56 #[.pointer (some ⟨X, 0, none⟩), rowV x] w fun e w' => e = .returned (.int .i64 3) ∧ Below w.heap.size w w' := by
  have hb := below_one w (.cells #[.int .i64 x.1, .int .i64 x.2.1, .int .i64 x.2.2] 70)
  have hr := Row.new w 70 #[.int .i64 x.1, .int .i64 x.2.1, .int .i64 x.2.2]
  have b0 := hr.cell 0
  obtain ⟨P, cc, _, _, _, _, x2, _⟩ := (hi.below hb).cells
  have HA := Lib.hid (hdat_yes (hi.below hb) i hl)
  have HB := Lib.hid hb
  have q := hd_eqnil w X
  have q1 : decide ((65536 : Int) ≤ c) = true := decide_eq_true hc
  unfold rowV
  obtain ⟨id, t, v⟩ := x
  simp only at *
  subst hx
  generalize p.fb i = g at *
  clear hi hb hr hc
  go_enter Tryz.func56, Tryz.ntmps56
  go_wp2_with (go_at_call 39; refine HA.out.mono ?_; rintro e w2 ⟨rfl, rfl⟩)
  go_ret
  exact ⟨rfl, HB.out⟩
theorem push_late (hi : HeadIn w X p h c) (hk : HeadOk h) (x : Wrow) (i : Nat) (hx : x.1 = (i : Int)) (hl : i < h.length) (hc : ¬ 65536 ≤ c) (ht : x.2.1 ≤ lastT (h.getD i ser0)) :
    Calls Tryz.prog 56 #[.pointer (some ⟨X, 0, none⟩), rowV x] w fun e w' => e = .returned (.int .i64 13) ∧ Below w.heap.size w w' := by
  have hb := below_one w (.cells #[.int .i64 x.1, .int .i64 x.2.1, .int .i64 x.2.2] 70)
  have hr := Row.new w 70 #[.int .i64 x.1, .int .i64 x.2.1, .int .i64 x.2.2]
  have b0 := hr.cell 0
  have b1 := hr.cell 1
  obtain ⟨P, cc, _, _, _, _, x2, _⟩ := (hi.below hb).cells
  have HA := Lib.hid (hdat_yes (hi.below hb) i hl)
  have HLS := Lib.hid (slast_prog ((hi.below hb).below ((Below.refl _ _).drew)) hl (by have := (hdlens hk hl).1; omega))
  have HB := Lib.hid hb
  have HR := Lib.hid hr
  have q1 : decide ((65536 : Int) ≤ c) = false := decide_eq_false hc
  have q2 : decide (x.2.1 ≤ lastT (h.getD i ser0)) = true := decide_eq_true ht
  unfold rowV
  obtain ⟨id, t, v⟩ := x
  simp only at *
  subst hx
  generalize lastT (h.getD i ser0) = T at *
  generalize p.fb i = g at *
  have c1 : (w.alloc (.cells #[.int .i64 (i : Int), .int .i64 t, .int .i64 v] 70)).cell? ⟨w.heap.size, 1, none⟩ = some (.int .i64 t) := b1
  clear hi hb hr hc ht b1
  go_enter Tryz.func56, Tryz.ntmps56
  go_wp2_with (go_at_call 39; refine HA.out.mono ?_; rintro e w2 ⟨rfl, rfl⟩)
  go_region_held3 (fun w' => w'.cell? ⟨w.heap.size, 1, none⟩ = some (.int .i64 t))
    (first | exact c1 | exact y1 | go_keep)
    (first | (go_at_call 41; refine HLS.out.mono ?_; rintro e w3 ⟨rfl, hb3⟩; have y1 : w3.cell? ⟨w.heap.size, 1, none⟩ = some (.int .i64 t) := (HR.out.drew.below hb3 HR.out.lt).cell 1; have HB3 := Lib.hid (HB.out.drew.trans (hb3.mono HB.out.drew.size)); clear hb3))
  all_goals
    go_wp2_with fail
    go_ret
    exact ⟨rfl, HB3.out⟩
/-- What a further sample makes of a head, and of memory. -/
theorem push_fin {W w5 : World} {t v : Int} {i n : Nat} {g sc sc6 : Nat} {Q Q6 : Option Addr} (hi : HeadIn w X p h c) (hS : ∀ k, Foot X p h.length k → S k) (hb : Below w.heap.size w W) (hl : i < h.length) (hg : p.fb i = g) (hsv : p.sm i = .slice Q (h.getD i ser0).2.length sc)
    (happ : AppS W (p.sm i) (h.getD i ser0).2 (t, v) (.slice Q6 n sc6) w5) :
    HeadIn ((w5.setCell ⟨g, 1, none⟩ (.slice Q6 n sc6)).setCell ⟨X, 2, none⟩ (.int .i64 c')) X (plcSm p i (.slice Q6 n sc6)) (h.set i ((h.getD i ser0).1, (h.getD i ser0).2 ++ [(t, v)])) c' ∧
      (∀ k, Foot X (plcSm p i (.slice Q6 n sc6)) h.length k → S k ∨ w.heap.size ≤ k) ∧ Kept S w ((w5.setCell ⟨g, 1, none⟩ (.slice Q6 n sc6)).setCell ⟨X, 2, none⟩ (.int .i64 c')) := by
  subst hg
  obtain ⟨h2, h3, h4⟩ := happ
  have hiW := hi.below hb
  have hx5 := grown_row hiW.row h3 (fun e => (hiW.ts hl e.symm).ne hiW.tx (by decide) rfl)
  have hs5 := grown_row (hiW.ser i hl) h3 (fun e => (hiW.ts hl e.symm).ne (hiW.tf hl) (by decide) rfl)
  have hne : X ≠ p.fb i := hi.tx.ne (hi.tf hl) (by decide)
  have K : Kept (fun k => k = X ∨ k = p.fb i ∨ (p.sm i).ownBlock = some k) w ((w5.setCell ⟨p.fb i, 1, none⟩ (.slice Q6 n sc6)).setCell ⟨X, 2, none⟩ (.int .i64 c')) :=
    (((Kept.below (S := fun k => k = X ∨ k = p.fb i ∨ (p.sm i).ownBlock = some k) hb).trans (Kept.grown (S := fun k => k = X ∨ k = p.fb i ∨ (p.sm i).ownBlock = some k) h3 (fun k hk => .inr (.inr hk))) fun i hi => .inl hi).set (p := ⟨p.fb i, 1, none⟩) (.inl (.inr (.inl rfl))) _).set (p := ⟨X, 2, none⟩) (.inl (.inl rfl)) _
  have hblk : (Value.slice Q6 n sc6).ownBlock = (p.sm i).ownBlock ∨ ∃ q, (Value.slice Q6 n sc6).ownBlock = some q ∧ w.heap.size ≤ q := h4.imp id fun e => ⟨_, e, hb.size⟩
  refine ⟨hi.with_smp hl K ?_ ?_ ?_ hblk, fun k hk => (foot_smp hl hblk hk).imp (hS k) id, K.mono ?_⟩
  · exact (hx5.setFar (p := ⟨p.fb i, 1, none⟩) hne _).setAt 2 _
  · exact (hs5.setAt 1 _).setFar (p := ⟨X, 2, none⟩) (Ne.symm hne) _
  · have h6 := rows_setFar h2 hs5 (by decide) 1 (.slice Q6 n sc6)
    exact rows_setFar h6 (hx5.setFar (p := ⟨p.fb i, 1, none⟩) hne _) (by decide) 2 _
  · rintro k (e | e | e)
    · exact hS k (.inl e)
    · exact hS k (.inr (.inr (.inr ⟨i, hl, .inl e⟩)))
    · exact hS k (.inr (.inr (.inr ⟨i, hl, .inr (.inr e)⟩)))
set_option maxHeartbeats 1000000 in
theorem push_ok (hi : HeadIn w X p h (cntS h : Int)) (hS : ∀ k, Foot X p h.length k → S k) (hk : HeadOk h) (x : Wrow) (i : Nat) (hx : x.1 = (i : Int)) (hl : i < h.length) (hc : cntS h < 65536) (ht : ¬ x.2.1 ≤ lastT (h.getD i ser0)) :
    Calls Tryz.prog 56 #[.pointer (some ⟨X, 0, none⟩), rowV x] w fun e w' => e = .returned (.int .i64 0) ∧ After S w X (putH h x) w' := by
  have hb := below_one w (.cells #[.int .i64 x.1, .int .i64 x.2.1, .int .i64 x.2.2] 70)
  have hr := Row.new w 70 #[.int .i64 x.1, .int .i64 x.2.1, .int .i64 x.2.2]
  have b0 := hr.cell 0
  have b1 := hr.cell 1
  obtain ⟨P, cc, _, _, _, _, x2, _⟩ := (hi.below hb).cells
  have HA := Lib.hid (hdat_yes (hi.below hb) i hl)
  have HLS := Lib.hid (slast_prog ((hi.below hb).below ((Below.refl _ _).drew)) hl (by have := (hdlens hk hl).1; omega))
  have HB := Lib.hid hb
  have HR := Lib.hid hr
  have q1 : decide ((65536 : Int) ≤ (cntS h : Int)) = false := decide_eq_false (by omega)
  have q2 : decide (x.2.1 ≤ lastT (h.getD i ser0)) = false := decide_eq_false ht
  have HSL := Lib.hid (hdlens hk hl).1
  have HH := Lib.hid hi
  have HS := Lib.hid hS
  have HL := Lib.hid hl
  have HPUT := Lib.hid (show ∀ (w' : World) (p' : Plc), HeadIn w' X p' (h.set i ((h.getD i ser0).1, (h.getD i ser0).2 ++ [(x.2.1, x.2.2)])) ((cntS h : Int) + 1) → (∀ k, Foot X p' h.length k → S k ∨ w.heap.size ≤ k) → Kept S w w' → After S w X (putH h x) w' from fun w' p' a1 a2 a3 => by
    have e1 : putH h x = h.set i ((h.getD i ser0).1, (h.getD i ser0).2 ++ [(x.2.1, x.2.2)]) := by unfold putH; rw [hx]; rfl
    have e2 := cntS_set (h := h) (i := i) ((h.getD i ser0).1, (h.getD i ser0).2 ++ [(x.2.1, x.2.2)]) hl
    rw [List.length_append] at e2
    have e3 : ((cntS (putH h x) : Nat) : Int) = (cntS h : Int) + 1 := by
      rw [e1]
      have e4 : (h.getD i ([], [])).2.length = (h.getD i ser0).2.length := rfl
      simp only [List.length_singleton] at e2
      omega
    refine ⟨⟨p', by rw [e3, e1]; exact a1, fun k hk => a2 k ?_⟩, a3⟩
    rw [e1, List.length_set] at hk
    exact hk)
  unfold rowV
  obtain ⟨id, t, v⟩ := x
  simp only at *
  subst hx
  generalize lastT (h.getD i ser0) = T at *
  obtain ⟨g, hg⟩ : ∃ g, p.fb i = g := ⟨_, rfl⟩
  rw [hg] at HA HLS
  have HG := Lib.hid hg
  have hw1 : IntKind.i64.wrap ((cntS h : Int) + 1) = (cntS h : Int) + 1 := by
    rw [show (cntS h : Int) + 1 = ((cntS h + 1 : Nat) : Int) by omega]
    exact IntWalk.i64_in _ (by omega)
  generalize hcs : (cntS h : Int) = C at *
  have c1 : (w.alloc (.cells #[.int .i64 (i : Int), .int .i64 t, .int .i64 v] 70)).cell? ⟨w.heap.size, 1, none⟩ = some (.int .i64 t) := b1
  clear hi hS hb hr hc ht b1 hl hg hcs
  go_enter Tryz.func56, Tryz.ntmps56
  go_wp2_with (go_at_call 39; refine HA.out.mono ?_; rintro e w2 ⟨rfl, rfl⟩)
  go_region_held3 (fun w' => w'.cell? ⟨w.heap.size, 1, none⟩ = some (.int .i64 t))
    (first | exact c1 | exact y1 | go_keep)
    (first | (go_at_call 41; refine HLS.out.mono ?_; rintro e w3 ⟨rfl, hb3⟩; have HR3 := Lib.hid (HR.out.drew.below hb3 HR.out.lt); have y1 : w3.cell? ⟨w.heap.size, 1, none⟩ = some (.int .i64 t) := HR3.out.cell 1; have HB3 := Lib.hid (HB.out.drew.trans (hb3.mono HB.out.drew.size)); clear hb3))
  all_goals
    clear x2
    have hi3 := HH.out.below HB3.out
    obtain ⟨L, lc, Q, sc, _, hsv, _, _, _, s1, _, _⟩ := hi3.series HL.out
    obtain ⟨_, _, _, _, _, _, x2, _⟩ := hi3.cells
    have HSV := Lib.hid hsv
    have HOS := Lib.hid (hi3.smps i HL.out)
    have HHX := Lib.hid hi3
    rw [HG.out] at s1
    have y2 : w3.cell? ⟨w.heap.size, 2, none⟩ = some (.int .i64 v) := HR3.out.cell 2
    have hb4 := below_one w3 (.cells #[.int .i64 t, .int .i64 v] 68)
    have hgl : g < w3.heap.size := by
      have := (hi3.ser i HL.out).lt
      rwa [HG.out] at this
    have z1 : (w3.alloc (.cells #[.int .i64 t, .int .i64 v] 68)).cell? ⟨g, 1, none⟩ = some (.slice Q (h.getD i ser0).2.length sc) := (hb4.cell hgl).trans s1
    have HO4 := Lib.hid (show OwnS (w3.alloc (.cells #[.int .i64 t, .int .i64 v] 68)) 0 (.slice Q (h.getD i ser0).2.length sc) (h.getD i ser0).2 by rw [← hsv]; exact owns_below (hi3.smps i HL.out) hb4)
    have HR4 := Lib.hid (Row.new w3 68 #[.int .i64 t, .int .i64 v])
    have HB4 := Lib.hid (HB3.out.trans (hb4.mono HB3.out.size))
    have HSN := Lib.hid (show (h.getD i ser0).2.length ≤ 1000000 by have := HSL.out; omega)
    have HG4 := Lib.hid (show Row (w3.alloc (.cells #[.int .i64 t, .int .i64 v] 68)) g 77 #[p.lv i, .slice Q (h.getD i ser0).2.length sc] by
      have := (hi3.below hb4).ser i HL.out
      rw [HG.out, hsv] at this
      exact this)
    have HX4 := Lib.hid ((hi3.below hb4).row)
    generalize hsm : (h.getD i ser0).2 = sm at *
    have HSM := Lib.hid hsm
    generalize hsn : sm.length = sn at *
    have HSN2 := Lib.hid hsn
    clear hi3 hsv hb4 hsm hsn
    go_upto_region 8 with fail
    go_region_law (first
      | (refine step_app_smp rfl (.tmp 35) (.tmp 38) rfl (.slice Q sn sc) sm rfl HO4.out t v w3.heap.size 1 rfl HR4.out (by rw [HSN2.out]; exact HSN.out) ?_
         rintro v5 w5 ⟨p1, p2, p3⟩
         have happ : AppS (w3.alloc (.cells #[.int .i64 t, .int .i64 v] 68)) (.slice Q sn sc) sm (t, v) v5 w5 := ⟨p1, ⟨p2.os, p2.tape, p2.output, p2.size, p2.block⟩, p3⟩
         clear p1 p2 p3
         obtain ⟨Q6, sc6, hv6, _⟩ := owns_slice happ.1
         generalize hn6 : (sm ++ [(t, v)]).length = n6 at hv6
         subst hv6
         have hG5 := grown_row HG4.out happ.2.1 (fun e => rows_ne HG4.out HO4.out (by decide) e.symm)
         have u1 : w5.cell? ⟨g, 1, none⟩ = some (.slice Q sn sc) := hG5.cell 1
         have f1 := hG5.frozen 1
         have hX5 := grown_row HX4.out happ.2.1 (fun e => rows_ne HX4.out HO4.out (by decide) e.symm)
         have hX6 := hX5.setFar (p := ⟨g, 1, none⟩) (row_far hX5 hG5 (by decide)) (.slice Q6 n6 sc6)
         have u2 : (w5.setCell ⟨g, 1, none⟩ (.slice Q6 n6 sc6)).cell? ⟨X, 2, none⟩ = some (.int .i64 C) := hX6.cell 2
         have f2 := hX6.frozen 2
         have HAP := Lib.hid happ
         clear happ hG5 hX5 hX6 hn6))
    all_goals
      go_wp2_with fail
      go_ret
      refine ⟨rfl, ?_⟩
      have hfin := push_fin (c' := C + 1) HH.out HS.out HB4.out HL.out HG.out (by rw [HSM.out, HSN2.out]; exact HSV.out) (by rw [HSM.out, HSV.out]; exact HAP.out)
      rw [HSM.out] at hfin
      exact HPUT.out _ _ hfin.1 hfin.2.1 hfin.2.2
end
end Go.Proofs.YtpcjnagdanmdpaaGreat

namespace Go.Proofs.YtpcjnagdanmdpaaGreat
open Ch
set_option linter.unusedVariables false
set_option linter.unusedSimpArgs false
def putsH (h : List Ser) (rows : List Wrow) : List Ser := rows.foldl putH h
theorem putH_len (h : List Ser) (x : Wrow) : (putH h x).length = h.length := by unfold putH; rw [List.length_set]
theorem putsH_len : ∀ (rows : List Wrow) (h : List Ser), (putsH h rows).length = h.length := by
  intro rows
  induction rows with
  | nil => intro h; rfl
  | cons x r ih => intro h; show (putsH (putH h x) r).length = _; rw [ih, putH_len]
theorem putsH_snoc (h : List Ser) (rows : List Wrow) (x : Wrow) : putsH h (rows ++ [x]) = putH (putsH h rows) x := by simp [putsH]
/-- How many of these rows are the series i's. -/
def cntI (i : Nat) (rows : List Wrow) : Nat := (rows.filter fun x => decide (x.1.toNat = i)).length
theorem cntI_cons (i : Nat) (x : Wrow) (r : List Wrow) : cntI i (x :: r) = (if x.1.toNat = i then 1 else 0) + cntI i r := by
  unfold cntI
  rw [List.filter_cons]
  by_cases e : x.1.toNat = i
  · simp [e]; omega
  · simp [e]
theorem cntI_drop (k j : Nat) (rows : List Wrow) : cntI k (rows.drop j) ≤ cntI k rows := by
  have e : cntI k rows = cntI k (rows.take j ++ rows.drop j) := by rw [List.take_append_drop]
  rw [e]
  unfold cntI
  rw [List.filter_append, List.length_append]
  omega
theorem putH_get (h : List Ser) (x : Wrow) (i : Nat) (hx : x.1.toNat < h.length) : ((putH h x).getD i ser0).1 = (h.getD i ser0).1 ∧ ((putH h x).getD i ser0).2 = (h.getD i ser0).2 ++ (if x.1.toNat = i then [(x.2.1, x.2.2)] else []) := by
  unfold putH
  by_cases e : x.1.toNat = i
  · subst e
    rw [if_pos rfl]
    have : ∀ s : Ser, (h.set x.1.toNat s).getD x.1.toNat ser0 = s := fun s => by simp [List.getD_eq_getElem?_getD, hx]
    rw [this]
    exact ⟨rfl, rfl⟩
  · rw [if_neg e, List.append_nil]
    have : ∀ s : Ser, (h.set x.1.toNat s).getD i ser0 = h.getD i ser0 := fun s => by
      rw [List.getD_eq_getElem?_getD, List.getElem?_set_ne e, ← List.getD_eq_getElem?_getD]
    rw [this]
    exact ⟨rfl, rfl⟩
theorem putsH_get : ∀ (rows : List Wrow) (h : List Ser), (∀ x ∈ rows, x.1.toNat < h.length) → ∀ i, ((putsH h rows).getD i ser0).1 = (h.getD i ser0).1 ∧ ∃ q, ((putsH h rows).getD i ser0).2 = (h.getD i ser0).2 ++ q ∧ q.length = cntI i rows := by
  intro rows
  induction rows with
  | nil => intro h _ i; exact ⟨rfl, [], by simp [putsH], rfl⟩
  | cons x r ih =>
    intro h hx i
    obtain ⟨g1, g2⟩ := putH_get h x i (hx x (by simp))
    obtain ⟨k1, q, k2, k3⟩ := ih (putH h x) (fun y hy => by rw [putH_len]; exact hx y (by simp [hy])) i
    refine ⟨k1.trans g1, (if x.1.toNat = i then [(x.2.1, x.2.2)] else []) ++ q, ?_, ?_⟩
    · show ((putsH (putH h x) r).getD i ser0).2 = _
      rw [k2, g2, List.append_assoc]
    · rw [List.length_append, k3, cntI_cons]
      split <;> rfl
/-- Of each series so many samples. -/
def tkH (h : List Ser) (L : Nat → Nat) : List Ser := (List.range h.length).map fun i => ((h.getD i ser0).1, (h.getD i ser0).2.take (L i))
theorem tkH_len (h : List Ser) (L : Nat → Nat) : (tkH h L).length = h.length := by simp [tkH]
theorem tkH_get (h : List Ser) (L : Nat → Nat) {i : Nat} (hi : i < h.length) : (tkH h L).getD i ser0 = ((h.getD i ser0).1, (h.getD i ser0).2.take (L i)) := by
  unfold tkH
  rw [List.getD_eq_getElem?_getD, List.getElem?_map, List.getElem?_range hi]
  rfl
theorem ext_ser {a b : List Ser} (hl : a.length = b.length) (h : ∀ i, i < a.length → a.getD i ser0 = b.getD i ser0) : a = b := by
  apply List.ext_getElem hl
  intro i h1 h2
  have := h i h1
  simpa [List.getD_eq_getElem?_getD, h1, h2] using this
theorem tkH_all {h : List Ser} {L : Nat → Nat} (hL : ∀ i, i < h.length → (h.getD i ser0).2.length ≤ L i) : tkH h L = h := by
  refine ext_ser (tkH_len _ _) fun i hi => ?_
  rw [tkH_len] at hi
  rw [tkH_get _ _ hi, List.take_of_length_le (hL i hi)]
/-- One sample of the series k less. -/
theorem tkH_pop {h : List Ser} {L M : Nat → Nat} {k : Nat} (hk : k < h.length) (h1 : L k = M k + 1) (h2 : ∀ i, i ≠ k → L i = M i) (h3 : L k ≤ (h.getD k ser0).2.length) :
    tkH h M = (tkH h L).set k (((tkH h L).getD k ser0).1, ((tkH h L).getD k ser0).2.take (((tkH h L).getD k ser0).2.length - 1)) ∧ 0 < ((tkH h L).getD k ser0).2.length := by
  rw [tkH_get _ _ hk]
  have hlen : ((h.getD k ser0).2.take (L k)).length = L k := by rw [List.length_take]; omega
  refine ⟨ext_ser (by rw [tkH_len, List.length_set, tkH_len]) fun i hi => ?_, by simp only [hlen]; omega⟩
  rw [tkH_len] at hi
  rw [tkH_get _ _ hi]
  by_cases e : i = k
  · subst e
    have : ∀ s : Ser, ((tkH h L).set i s).getD i ser0 = s := fun s => by simp [List.getD_eq_getElem?_getD, tkH_len, hi]
    rw [this]
    simp only [hlen, List.take_take]
    rw [show min (L i - 1) (L i) = M i by omega]
  · have : ∀ s : Ser, ((tkH h L).set k s).getD i ser0 = (tkH h L).getD i ser0 := fun s => by
      rw [List.getD_eq_getElem?_getD, List.getElem?_set_ne (fun e2 => e e2.symm), ← List.getD_eq_getElem?_getD]
    rw [this, tkH_get _ _ hi, h2 i e]
/-- How many samples each series has when the first j rows are taken off again. -/
def lenR (h : List Ser) (rows : List Wrow) (j : Nat) (i : Nat) : Nat := (h.getD i ser0).2.length + cntI i (rows.drop j)
theorem tk_start {h : List Ser} {rows : List Wrow} (hx : ∀ x ∈ rows, x.1.toNat < h.length) : tkH (putsH h rows) (lenR h rows 0) = putsH h rows := by
  refine tkH_all fun i _ => ?_
  obtain ⟨_, q, k2, k3⟩ := putsH_get rows h hx i
  rw [k2, List.length_append, k3]
  exact Nat.le_refl _
theorem tk_end {h : List Ser} {rows : List Wrow} (hx : ∀ x ∈ rows, x.1.toNat < h.length) : tkH (putsH h rows) (lenR h rows rows.length) = h := by
  refine ext_ser (by rw [tkH_len, putsH_len]) fun i hi => ?_
  rw [tkH_len] at hi
  obtain ⟨k1, q, k2, k3⟩ := putsH_get rows h hx i
  rw [tkH_get _ _ hi, k1, k2]
  unfold lenR
  rw [List.drop_length]
  simp [cntI]
theorem tk_step {h : List Ser} {rows : List Wrow} (hx : ∀ x ∈ rows, x.1.toNat < h.length) {j : Nat} (hj : j < rows.length) :
    tkH (putsH h rows) (lenR h rows (j + 1)) = (tkH (putsH h rows) (lenR h rows j)).set (rows.getD j wrow0).1.toNat (((tkH (putsH h rows) (lenR h rows j)).getD (rows.getD j wrow0).1.toNat ser0).1, ((tkH (putsH h rows) (lenR h rows j)).getD (rows.getD j wrow0).1.toNat ser0).2.take (((tkH (putsH h rows) (lenR h rows j)).getD (rows.getD j wrow0).1.toNat ser0).2.length - 1)) ∧
      0 < ((tkH (putsH h rows) (lenR h rows j)).getD (rows.getD j wrow0).1.toNat ser0).2.length := by
  have hd : rows.drop j = rows.getD j wrow0 :: rows.drop (j + 1) := by
    rw [List.getD_eq_getElem?_getD, List.getElem?_eq_getElem hj]
    exact List.drop_eq_getElem_cons hj
  have hm : rows.getD j wrow0 ∈ rows := by
    rw [List.getD_eq_getElem?_getD, List.getElem?_eq_getElem hj]
    exact List.getElem_mem hj
  have hlt := hx _ hm
  refine tkH_pop (by rw [putsH_len]; exact hlt) ?_ (fun i hi => ?_) ?_
  · unfold lenR
    rw [hd, cntI_cons, if_pos rfl]
    omega
  · unfold lenR
    rw [hd, cntI_cons, if_neg (fun e => hi e.symm)]
    omega
  · obtain ⟨_, q, k2, k3⟩ := putsH_get rows h hx (rows.getD j wrow0).1.toNat
    rw [k2, List.length_append, k3]
    unfold lenR
    have := cntI_drop (rows.getD j wrow0).1.toNat j rows
    omega
end Go.Proofs.YtpcjnagdanmdpaaGreat
