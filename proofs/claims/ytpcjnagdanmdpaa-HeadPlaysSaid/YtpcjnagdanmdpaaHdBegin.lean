/- A head's begin: a further series. -/
import Derived.Test.YtpcjnagdanmdpaaHdLotA
import Derived.Test.YtpcjnagdanmdpaaHdLotG
namespace Go.Proofs.Ytpcjnagdanmdpaa
open Go.RowKit Go.Maps
open Ch
set_option linter.unusedVariables false
set_option linter.unusedSimpArgs false
set_option maxRecDepth 100000
section
variable {S : Nat → Prop} {w w' w1 w2 : World} {X : Nat} {p : Plc} {h h' : List Ser} {c : Int}
theorem IdsAt.drew {b : Nat} {ls : List (List Lbl)} (h : IdsAt w b ls) : IdsAt w.drew b ls := h
theorem begin_there (hi : HeadIn w X p h c) (hk : HeadOk h) {l : List Lbl} (hl : lbChk l = 0) (A : Option Addr) (ca : Nat) (hA : Lbls w A l) (h0 : 0 ≤ idH h l) :
    Calls Try.prog 22 #[.pointer (some ⟨X, 0, none⟩), .slice A l.length ca] w fun e w' => e = .returned (.int .i64 10) ∧ Below w.heap.size w w' := by
  have HP := Lib.hid (print_prog A l ca w hA (by have := (lbChk_ok.1 hl).1; omega) (by have := right_cost hl; omega))
  have HI := Lib.hid (fun w' (hb : Below w.heap.size w w') => (hi.below hb).cells)
  have HL := Lib.hid (fun w' (hb : Below w.heap.size w w') => ids_look (hi.below hb).ids hk hl)
  have h1 : decide (0 ≤ idH h l) = true := decide_eq_true h0
  rw [h1, if_pos h0] at HL
  generalize idH h l = I at *
  clear hi hk hl hA h1
  go_enter Try.func22, Try.ntmps22
  go_wp2_with fail
  refine HP.out.mono ?_
  rintro e w2 ⟨rfl, hb2⟩
  obtain ⟨P, cc, _, _, x0, x1, _⟩ := HI.out _ hb2
  have hlk := HL.out _ hb2
  have HB2 := Lib.hid hb2
  clear hb2
  go_wp2_with fail
  go_ret
  exact ⟨rfl, HB2.out⟩
theorem begin_big (hi : HeadIn w X p h c) (hk : HeadOk h) {l : List Lbl} (hl : lbChk l = 0) (A : Option Addr) (ca : Nat) (hA : Lbls w A l) (h0 : ¬ 0 ≤ idH h l) (h256 : 256 ≤ h.length) :
    Calls Try.prog 22 #[.pointer (some ⟨X, 0, none⟩), .slice A l.length ca] w fun e w' => e = .returned (.int .i64 3) ∧ Below w.heap.size w w' := by
  have HP := Lib.hid (print_prog A l ca w hA (by have := (lbChk_ok.1 hl).1; omega) (by have := right_cost hl; omega))
  have HI := Lib.hid (fun w' (hb : Below w.heap.size w w') => (hi.below hb).cells)
  have HL := Lib.hid (fun w' (hb : Below w.heap.size w w') => ids_look (hi.below hb).ids hk hl)
  have h1 : decide (0 ≤ idH h l) = false := decide_eq_false h0
  rw [h1, if_neg h0] at HL
  have q1 : decide ((256 : Int) ≤ (h.length : Int)) = true := decide_eq_true (by omega)
  generalize h.length = n at *
  clear hi hk hl hA h1
  go_enter Try.func22, Try.ntmps22
  go_wp2_with fail
  refine HP.out.mono ?_
  rintro e w2 ⟨rfl, hb2⟩
  obtain ⟨P, cc, _, _, x0, x1, _⟩ := HI.out _ hb2
  have hlk := HL.out _ hb2
  have HB2 := Lib.hid hb2
  clear hb2
  go_wp2_with fail
  go_ret
  exact ⟨rfl, HB2.out⟩
theorem begin_fin {w3 w4 w5 : World} {l : List Lbl} {P P4 P5 : Option Addr} {cc c4 c5 n : Nat} (hi : HeadIn w X p h (cntS h : Int)) (hS : ∀ k, Foot X p h.length k → S k) (hb2 : Below w.heap.size w w2) (hI3 : IdsAt w3 p.mb (blSets (h ++ [(l, [])]))) (ht3 : w2.drew.mapTurned w3 p.mb)
    (hb4 : Below w3.drew.heap.size w3.drew w4) (ho4 : OwnL w4 w3.drew.heap.size (.slice P4 l.length c4) l)
    (happ : AppP ((w4.alloc (.cells #[.slice P4 l.length c4, .slice none 0 0] 74)).alloc (.cells #[ptrV w4.heap.size] 71)) (.slice P n cc) n w4.heap.size (ptrs p.fb n) (.slice P5 (n + 1) c5) w5) (hn : h.length = n) (hpv : p.sv = .slice P h.length cc) :
    After S w X (h ++ [(l, [])]) (w5.setCell ⟨X, 0, none⟩ (.slice P5 (n + 1) c5)) := by
  have hsvb : p.sv.ownBlock = (Value.slice P n cc).ownBlock := by rw [hpv]; cases P <;> rfl
  have hb34 : Below w3.heap.size w3 w4 := ⟨hb4.os, hb4.tape, hb4.output, hb4.size, hb4.block⟩
  have k3 : Kept (fun k => k = X ∨ k = p.mb ∨ p.sv.ownBlock = some k) w w3 := (Kept.below hb2.drew).trans (Kept.turned (S := fun k => k = X ∨ k = p.mb ∨ p.sv.ownBlock = some k) ht3 (.inr (.inl rfl))) fun i hi => .inl hi
  have hi3l : w.heap.size ≤ w3.heap.size := k3.size
  obtain ⟨h2, h3, h4⟩ := happ
  -- from the world ahead of the append on
  obtain ⟨W, hW⟩ : ∃ W, (w4.alloc (.cells #[.slice P4 l.length c4, .slice none 0 0] 74)).alloc (.cells #[ptrV w4.heap.size] 71) = W := ⟨_, rfl⟩
  have hb36 : Below w3.heap.size w3 W := by rw [← hW]; exact (hb34.alloc hb34.size _).alloc (Nat.le_trans hb34.size (by simp)) _
  have hg6 : Row W w4.heap.size 74 #[.slice P4 l.length c4, .slice none 0 0] := by rw [← hW]; exact (Row.new w4 _ _).alloc _
  have hl6 : OwnL W 0 (.slice P4 l.length c4) l := by rw [← hW]; exact ownl_lower (ownl_below (ownl_below ho4 (below_one _ _)) (below_one _ _)) (Nat.zero_le _)
  have hlb : ∀ q, (Value.slice P4 l.length c4).ownBlock = some q → w.heap.size ≤ q := fun q hq => Nat.le_trans hi3l (World.ownsRow.lt ho4 q hq).1
  rw [hW] at h3 h4
  have hx3 : Row w3 X 53 #[p.sv, .map (some p.mb), .int .i64 (cntS h : Int)] := grown_row (hi.row.below hb2.drew hi.row.lt) ht3.grown (fun e => by injection e with e; exact hi.tx.mp hi.tm e)
  have hx6 : Row W X 53 #[p.sv, .map (some p.mb), .int .i64 (cntS h : Int)] := hx3.below hb36 hx3.lt
  have hsb : ∀ k, p.sv.ownBlock = some k → Ty W k 71 := fun k hk => by
    obtain ⟨cs, hcs⟩ := hi.tp hk
    have hlt := (World.ownsRow.lt hi.sers k hk).2
    refine ⟨cs, ?_⟩
    rw [hb36.block k (Nat.lt_of_lt_of_le hlt hi3l), ht3.grown.block k (Nat.lt_of_lt_of_le hlt hb2.size) (fun e => by injection e with e; exact (hi.tp hk).mp hi.tm e)]
    exact (hb2.drew.block k hlt).trans hcs
  have hx7 : Row w5 X 53 #[p.sv, .map (some p.mb), .int .i64 (cntS h : Int)] := grown_row hx6 h3 (fun e => by rw [← hsvb] at e; exact (ty_row hx6).ne (hsb X e.symm) (by decide) rfl)
  have k67 : Kept (fun k => k = X ∨ p.sv.ownBlock = some k) W (w5.setCell ⟨X, 0, none⟩ (.slice P5 (n + 1) c5)) := (Kept.grown (S := fun k => k = X ∨ p.sv.ownBlock = some k) h3 (fun k hk => .inr (by rw [hsvb]; exact hk))).set (p := ⟨X, 0, none⟩) (.inl (.inl rfl)) _
  have hm6 : p.mb < W.heap.size := Nat.lt_of_lt_of_le hI3.lt hb36.size
  have hmp : ¬ (p.mb = X ∨ p.sv.ownBlock = some p.mb) := by
    rintro (e | e)
    · exact hi.tx.mp hi.tm e.symm
    · exact (hi.tp e).mp hi.tm rfl
  have K : Kept (fun k => k = X ∨ k = p.mb ∨ p.sv.ownBlock = some k) w (w5.setCell ⟨X, 0, none⟩ (.slice P5 (n + 1) c5)) :=
    (k3.trans (Kept.below (S := fun k => k = X ∨ k = p.mb ∨ p.sv.ownBlock = some k) hb36) fun i hi => .inl hi).trans k67 fun i hi => .inl (hi.imp id .inr)
  have hin := hi.with_new K (l := l) (sv' := .slice P5 (n + 1) c5) (lv := .slice P4 l.length c4) (g := w4.heap.size) (hx7.setAt 0 _) ?_ ?_ ?_ ?_ ?_
  · refine ⟨⟨plcNew p h.length (.slice P5 (n + 1) c5) w4.heap.size (.slice P4 l.length c4), ?_, fun k hk => ?_⟩, K.mono ?_⟩
    · rw [cntS_app]
      exact hin
    · rw [show (h ++ [(l, ([] : List Smp))]).length = h.length + 1 by simp] at hk
      refine (foot_new (B := w.heap.size) ?_ (Nat.le_trans hi3l hb34.size) hlb hk).imp (hS k) id
      rcases h4 with e | e
      · exact .inl (e.trans hsvb.symm)
      · exact .inr ⟨_, e, Nat.le_trans hi3l hb36.size⟩
    · rintro k (e | e | e)
      · exact hS k (.inl e)
      · exact hS k (.inr (.inl e))
      · exact hS k (.inr (.inr (.inl e)))
  · exact hI3.block ((k67.block _ hm6 hmp).trans (hb36.block _ hI3.lt))
  · rw [hn]
    exact rows_setFar h2 hx7 (by decide) 0 _
  · exact Nat.le_trans hi3l hb34.size
  · refine row_move hg6 (k67.block _ hg6.lt ?_)
    rintro (e | e)
    · exact (ty_row hg6).ne (ty_row hx6) (by decide) e
    · exact (ty_row hg6).ne (hsb _ e) (by decide) rfl
  · refine ownl_move hl6 fun k hk => k67.block k (World.ownsRow.lt hl6 k hk).2 ?_
    rintro (e | e)
    · exact (ty_own hl6 hk).ne (ty_row hx6) (by decide) e
    · exact (ty_own hl6 hk).ne (hsb _ e) (by decide) rfl
set_option maxHeartbeats 1000000 in
theorem begin_ok (hi : HeadIn w X p h (cntS h : Int)) (hS : ∀ k, Foot X p h.length k → S k) (hk : HeadOk h) {l : List Lbl} (hl : lbChk l = 0) (A : Option Addr) (ca : Nat) (hA : Lbls w A l) (h0 : ¬ 0 ≤ idH h l) (h256 : ¬ 256 ≤ h.length) :
    Calls Try.prog 22 #[.pointer (some ⟨X, 0, none⟩), .slice A l.length ca] w fun e w' => e = .returned (.int .i64 0) ∧ After S w X (h ++ [(l, [])]) w' := by
  have HP := Lib.hid (print_prog A l ca w hA (by have := (lbChk_ok.1 hl).1; omega) (by have := right_cost hl; omega))
  have HI := Lib.hid (fun w' (hb : Below w.heap.size w w') => hi.below hb)
  have HL := Lib.hid (fun w' (hb : Below w.heap.size w w') => ids_look (hi.below hb).ids hk hl)
  have HST := Lib.hid (fun w' (hb : Below w.heap.size w w') => ids_store (hi.below hb).ids.drew hk hl (by omega) (by omega))
  have h1 : decide (0 ≤ idH h l) = false := decide_eq_false h0
  rw [h1, if_neg h0] at HL
  have q1 : decide ((256 : Int) ≤ (h.length : Int)) = false := decide_eq_false (by omega)
  obtain ⟨n, hn⟩ : ∃ n, h.length = n := ⟨_, rfl⟩
  have HN := Lib.hid hn
  rw [hn] at q1
  have HH := Lib.hid hi
  have HS := Lib.hid hS
  have HNE := Lib.hid (hi.tx.mp hi.tm)
  clear hi h1
  go_enter Try.func22, Try.ntmps22
  go_wp2_with fail
  refine HP.out.mono ?_
  rintro e w2 ⟨rfl, hb2⟩
  obtain ⟨P, cc, hpv, _, x0, x1, _⟩ := (HI.out _ hb2).cells
  obtain ⟨w3, hst, hI3, ht3⟩ := HST.out _ hb2
  rw [HN.out] at x0 hst
  have hlk := HL.out _ hb2
  have HB2 := Lib.hid hb2
  have HI3 := Lib.hid hI3
  have HT3 := Lib.hid ht3
  clear hb2 hI3 ht3
  go_wp2_with fail
  go_region
  have hX3 : Row w3 X 53 #[p.sv, .map (some p.mb), .int .i64 (cntS h : Int)] := grown_row (HI.out _ HB2.out.drew).row HT3.out.grown (fun e => by injection e with e; exact HNE.out e)
  have x3 : w3.cell? ⟨X, 0, none⟩ = some (.slice P n cc) := by rw [hX3.cell 0, ← HN.out, ← hpv]; rfl
  have HX3 := Lib.hid hX3
  have HO3 := Lib.hid (show w3.ownsRow 0 71 1 (.slice P n cc) n (ptrs p.fb n) from by
    have := (HI.out _ HB2.out.drew).sers
    rw [HN.out, hpv, HN.out] at this
    exact rows_move (w := w2.drew) this fun k hk => HT3.out.grown.block k (World.ownsRow.lt this k hk).2 (fun e => by
      injection e with e
      subst e
      obtain ⟨es, ck, hm⟩ := (HI.out _ HB2.out.drew).ids.map
      rcases this.2 with ⟨e2, _⟩ | ⟨g, cap, cur, e2, _, hh, _⟩
      · rw [e2] at hk; cases hk
      · rw [e2] at hk
        simp only [Value.ownBlock, Option.some.injEq] at hk
        subst hk
        rw [hm] at hh
        cases hh))
  have HA3 := Lib.hid (show Lbls w3 A l from at_turned (hA.below HB2.out.drew) HT3.out)
  have HCL3 := Lib.hid (fun w' (hb : Below w3.heap.size w3 w') => ixclone_prog A l ca w' (HA3.out.below hb) (by have := (lbChk_ok.1 hl).1; omega))
  clear hX3 hst hlk x0 x1 hA
  have HLT := Lib.hid (show l.length * 32 ≤ 140737488355328 by have := (lbChk_ok.1 hl).1; omega)
  have HXL := Lib.hid (HX3.out.lt)
  have hXl := HXL.out
  have eg : (callFunc 31 #[.slice A l.length ca]).run Try.prog w3.drew = .ok (.enter 31 #[.slice A l.length ca]) w3.drew := enters_of Try.func31 (by kernel_rfl) rfl _ _
  have HN1 := Lib.hid (show n ≤ 1000 by omega)
  go_upto_region 8 with fail
  go_region_law (first
    | (refine step_call rfl 31 [.tmp 41] #[26] #[.slice A l.length ca] rfl rfl eg (HCL3.out _ ((Below.refl _ _).drew)) ?_
       rintro e w4 ⟨v4, rfl, ho4, hb4⟩
       obtain ⟨P4, c4, hv4, _⟩ := ownl_slice ho4
       subst hv4
       refine ⟨_, rfl, ?_⟩
       have hX4 := HX3.out.drew.below hb4 hXl
       have y0 : w4.cell? ⟨X, 0, none⟩ = some (.slice P n cc) := by rw [hX4.cell 0, ← HN.out, ← hpv]; rfl
       have hX5 := hX4.alloc (.cells #[.slice P4 l.length c4, .slice none 0 0] 74)
       have y1 : (w4.alloc (.cells #[.slice P4 l.length c4, .slice none 0 0] 74)).cell? ⟨X, 0, none⟩ = some (.slice P n cc) := by rw [hX5.cell 0, ← HN.out, ← hpv]; rfl
       have HO4 := Lib.hid ho4
       have HB4 := Lib.hid hb4
       have HR5 := Lib.hid (show Row ((w4.alloc (.cells #[.slice P4 l.length c4, .slice none 0 0] 74)).alloc (.cells #[ptrV w4.heap.size] 71)) (w4.heap.size + 1) 71 #[ptrV w4.heap.size] by
         have := Row.new (w4.alloc (.cells #[.slice P4 l.length c4, .slice none 0 0] 74)) 71 #[ptrV w4.heap.size]
         rwa [show (w4.alloc (.cells #[.slice P4 l.length c4, .slice none 0 0] 74)).heap.size = w4.heap.size + 1 by simp] at this)
       have HO5 := Lib.hid (rows_below (rows_below (rows_below (rows_drew HO3.out) hb4) (below_one w4 (.cells #[.slice P4 l.length c4, .slice none 0 0] 74))) (below_one _ (.cells #[ptrV w4.heap.size] 71)))
       have y2 : ((w4.alloc (.cells #[.slice P4 l.length c4, .slice none 0 0] 74)).alloc (.cells #[.pointer (some ⟨w4.heap.size, 0, none⟩)] 71)).cell? ⟨X, 0, none⟩ = some (.slice P n cc) := by rw [(hX5.alloc (.cells #[.pointer (some ⟨w4.heap.size, 0, none⟩)] 71)).cell 0, ← HN.out, ← hpv]; rfl
       have HX6 := Lib.hid (hX5.alloc (.cells #[ptrV w4.heap.size] 71))
       clear ho4 hb4 hX4 hX5)
    | (refine step_app_ptr rfl (.tmp 40) (.tmp 45) rfl (.slice P n cc) n _ rfl HO5.out w4.heap.size (w4.heap.size + 1) 1 rfl HR5.out HN1.out ?_
       intro v5 w5 happ
       obtain ⟨P5, c5, hv5, _⟩ := rows_slice happ.1
       subst hv5
       have hX7 := grown_row HX6.out happ.2.1 (fun e => rows_ne HX6.out HO5.out (by decide) e.symm)
       have z0 : w5.cell? ⟨X, 0, none⟩ = some (.slice P n cc) := by rw [hX7.cell 0, ← HN.out, ← hpv]; rfl
       have f0 := hX7.frozen 0
       have HAP := Lib.hid happ
       clear happ hX7))
  all_goals
    go_wp2_with fail
    go_ret
    exact ⟨rfl, begin_fin HH.out HS.out HB2.out HI3.out HT3.out HB4.out HO4.out HAP.out HN.out hpv⟩
end
end Go.Proofs.Ytpcjnagdanmdpaa
