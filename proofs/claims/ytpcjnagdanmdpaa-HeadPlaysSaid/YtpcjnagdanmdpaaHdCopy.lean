/- A head's copy: all its blocks are new. (The library's maps.Clone is laid in ShelfG as hd_clone.) -/
import Derived.Test.YtpcjnagdanmdpaaHdLotF
namespace Go.Proofs.Ytpcjnagdanmdpaa
open Go.RowKit Go.Maps
open Ch
set_option linter.unusedVariables false
set_option linter.unusedSimpArgs false
set_option maxRecDepth 100000
def plcCp (p : Plc) (n : Nat) (sv : Value) (g : Nat) (lv sm : Value) : Plc :=
  { mb := p.mb, sv := sv, fb := fun i => if i = n then g else p.fb i, lv := fun i => if i = n then lv else p.lv i, sm := fun i => if i = n then sm else p.sm i }
/-- A head's copy while it is made: k of its series are there. -/
structure CopyIn (w : World) (B Y : Nat) (p : Plc) (h : List Ser) (k : Nat) (c : Int) : Prop where
  row : Row w Y 53 #[p.sv, .map (some p.mb), .int .i64 c]
  ids : IdsAt w p.mb (blSets h)
  sers : w.ownsRow 0 71 1 p.sv k (ptrs p.fb k)
  ser : ∀ i, i < k → Row w (p.fb i) 74 #[p.lv i, p.sm i]
  labs : ∀ i, i < k → OwnL w B (p.lv i) (h.getD i ser0).1
  smps : ∀ i, i < k → OwnS w B (p.sm i) (h.getD i ser0).2
  fbs : ∀ i j, i < k → j < k → i ≠ j → p.fb i ≠ p.fb j
  sms : ∀ i j, i < k → j < k → i ≠ j → ∀ q, (p.sm i).ownBlock = some q → (p.sm j).ownBlock ≠ some q
  low : B ≤ Y ∧ B ≤ p.mb ∧ (∀ q, p.sv.ownBlock = some q → B ≤ q) ∧ ∀ i, i < k → B ≤ p.fb i
section
variable {w w' : World} {B X Y k : Nat} {p : Plc} {h : List Ser} {c : Int}
theorem CopyIn.done (hi : CopyIn w B Y p h h.length c) : HeadIn w Y p h c ∧ ∀ q, Foot Y p h.length q → B ≤ q := by
  refine ⟨⟨hi.row, hi.ids, hi.sers, hi.ser, fun i hl => ownl_lower (hi.labs i hl) (Nat.zero_le _), fun i hl => owns_lower (hi.smps i hl) (Nat.zero_le _), hi.fbs, hi.sms⟩, ?_⟩
  rintro q (rfl | rfl | hq | ⟨i, hl, rfl | hq | hq⟩)
  · exact hi.low.1
  · exact hi.low.2.1
  · exact hi.low.2.2.1 q hq
  · exact hi.low.2.2.2 i hl
  · exact (World.ownsRow.lt (hi.labs i hl) q hq).1
  · exact (World.ownsRow.lt (hi.smps i hl) q hq).1
theorem CopyIn.step (hi : CopyIn w B Y p h k c) (K : Kept (fun q => q = Y ∨ p.sv.ownBlock = some q) w w') {sv' lv sm : Value} {g : Nat} (hB : B ≤ w.heap.size)
    (hrow : Row w' Y 53 #[sv', .map (some p.mb), .int .i64 c]) (hsv : w'.ownsRow 0 71 1 sv' (k + 1) (ptrs p.fb k ++ [ptrV g])) (hsb : ∀ q, sv'.ownBlock = some q → B ≤ q)
    (hg : w.heap.size ≤ g) (hgr : Row w' g 74 #[lv, sm]) (hlv : OwnL w' w.heap.size lv (h.getD k ser0).1) (hsm : OwnS w' w.heap.size sm (h.getD k ser0).2) : CopyIn w' B Y (plcCp p k sv' g lv sm) h (k + 1) c := by
  have cse : ∀ i, i < k + 1 → (i < k ∧ i ≠ k) ∨ i = k := fun i hi => by omega
  have tx : Ty w Y 53 := ty_row hi.row
  have tm := hi.ids.map
  have tp : ∀ q, p.sv.ownBlock = some q → Ty w q 71 := fun q hq => ty_own hi.sers hq
  have ff : ∀ i, i < k → ¬ (p.fb i = Y ∨ p.sv.ownBlock = some (p.fb i)) := by
    rintro i h1 (e | e)
    · exact (ty_row (hi.ser i h1)).ne tx (by decide) e
    · exact (ty_row (hi.ser i h1)).ne (tp _ e) (by decide) rfl
  have fl : ∀ i, i < k → ∀ q, (p.lv i).ownBlock = some q → ¬ (q = Y ∨ p.sv.ownBlock = some q) := by
    rintro i h1 q hq (e | e)
    · exact (ty_own (hi.labs i h1) hq).ne tx (by decide) e
    · exact (ty_own (hi.labs i h1) hq).ne (tp _ e) (by decide) rfl
  have fs : ∀ i, i < k → ∀ q, (p.sm i).ownBlock = some q → ¬ (q = Y ∨ p.sv.ownBlock = some q) := by
    rintro i h1 q hq (e | e)
    · exact (ty_own (hi.smps i h1) hq).ne tx (by decide) e
    · exact (ty_own (hi.smps i h1) hq).ne (tp _ e) (by decide) rfl
  refine ⟨hrow, ?_, ?_, fun i hl => ?_, fun i hl => ?_, fun i hl => ?_, fun i j hl hm hne => ?_, fun i j hl hm hne q hq => ?_, hi.low.1, hi.low.2.1, hsb, fun i hl => ?_⟩
  · refine hi.ids.block (K.block _ hi.ids.lt ?_)
    rintro (e | e)
    · exact tx.mp tm e.symm
    · exact (tp _ e).mp tm rfl
  · show w'.ownsRow 0 _ 1 sv' _ _
    rw [ptrs_snoc]
    simp only [plcCp, if_pos]
    rw [show ptrs (fun i => if i = k then g else p.fb i) k = ptrs p.fb k from ptrs_congr fun i hl => if_neg (by omega)]
    exact hsv
  · rcases cse i hl with ⟨h1, h2⟩ | rfl
    · simp only [plcCp, if_neg h2]
      exact row_move (hi.ser i h1) (K.block _ (hi.ser i h1).lt (ff i h1))
    · simp only [plcCp, if_pos]
      exact hgr
  · rcases cse i hl with ⟨h1, h2⟩ | rfl
    · simp only [plcCp, if_neg h2]
      exact ownl_move (hi.labs i h1) fun q hq => K.block q (World.ownsRow.lt (hi.labs i h1) q hq).2 (fl i h1 q hq)
    · simp only [plcCp, if_pos]
      exact ownl_lower hlv hB
  · rcases cse i hl with ⟨h1, h2⟩ | rfl
    · simp only [plcCp, if_neg h2]
      exact owns_move (hi.smps i h1) fun q hq => K.block q (World.ownsRow.lt (hi.smps i h1) q hq).2 (fs i h1 q hq)
    · simp only [plcCp, if_pos]
      exact owns_lower hsm hB
  · rcases cse i hl with ⟨h1, h2⟩ | rfl <;> rcases cse j hm with ⟨h3, h4⟩ | rfl
    · simp only [plcCp, if_neg h2, if_neg h4]
      exact hi.fbs i j h1 h3 hne
    · simp only [plcCp, if_neg h2, if_pos]
      have := (hi.ser i h1).lt
      omega
    · simp only [plcCp, if_neg h4, if_pos]
      have := (hi.ser j h3).lt
      omega
    · exact absurd rfl hne
  · rcases cse i hl with ⟨h1, h2⟩ | rfl <;> rcases cse j hm with ⟨h3, h4⟩ | rfl
    · simp only [plcCp, if_neg h2] at hq
      simp only [plcCp, if_neg h4]
      exact hi.sms i j h1 h3 hne q hq
    · simp only [plcCp, if_neg h2] at hq
      simp only [plcCp, if_pos]
      intro e
      have q1 := (World.ownsRow.lt (hi.smps i h1) q hq).2
      have q2 := (World.ownsRow.lt hsm q e).1
      omega
    · simp only [plcCp, if_pos] at hq
      simp only [plcCp, if_neg h4]
      intro e
      have q1 := (World.ownsRow.lt (hi.smps j h3) q e).2
      have q2 := (World.ownsRow.lt hsm q hq).1
      omega
    · exact absurd rfl hne
  · rcases cse i hl with ⟨h1, h2⟩ | rfl
    · simp only [plcCp, if_neg h2]
      exact hi.low.2.2.2 i h1
    · simp only [plcCp, if_pos]
      omega
/-- One series more, behind the two copies and the two new blocks. -/
theorem CopyIn.more {w5 w6 : World} {P P4 P5 P6 : Option Addr} {cc c4 c5 c6 l1 l2 : Nat} (hi : CopyIn w B Y p h k c) (hB : B ≤ w.heap.size) (hpv : p.sv = .slice P k cc) (hb : Below w.heap.size w w5)
    (ho4 : OwnL w5 w.heap.size (.slice P4 l1 c4) (h.getD k ser0).1) (ho5 : OwnS w5 w.heap.size (.slice P5 l2 c5) (h.getD k ser0).2)
    (happ : AppP ((w5.alloc (.cells #[.slice P4 l1 c4, .slice P5 l2 c5] 74)).alloc (.cells #[ptrV w5.heap.size] 71)) (.slice P k cc) k w5.heap.size (ptrs p.fb k) (.slice P6 (k + 1) c6) w6) :
    ∃ p', CopyIn (w6.setCell ⟨Y, 0, none⟩ (.slice P6 (k + 1) c6)) B Y p' h (k + 1) c ∧ p'.sv = .slice P6 (k + 1) c6 ∧ Below B w (w6.setCell ⟨Y, 0, none⟩ (.slice P6 (k + 1) c6)) := by
  obtain ⟨h2, h3, h4⟩ := happ
  obtain ⟨W, hW⟩ : ∃ W, (w5.alloc (.cells #[.slice P4 l1 c4, .slice P5 l2 c5] 74)).alloc (.cells #[ptrV w5.heap.size] 71) = W := ⟨_, rfl⟩
  have hbW : Below w.heap.size w W := by rw [← hW]; exact (hb.alloc hb.size _).alloc (Nat.le_trans hb.size (by simp)) _
  have hg6 : Row W w5.heap.size 74 #[.slice P4 l1 c4, .slice P5 l2 c5] := by rw [← hW]; exact (Row.new w5 _ _).alloc _
  have hl6 : OwnL W w.heap.size (.slice P4 l1 c4) (h.getD k ser0).1 := by rw [← hW]; exact ownl_below (ownl_below ho4 (below_one _ _)) (below_one _ _)
  have hs6 : OwnS W w.heap.size (.slice P5 l2 c5) (h.getD k ser0).2 := by rw [← hW]; exact owns_below (owns_below ho5 (below_one _ _)) (below_one _ _)
  rw [hW] at h3 h4
  have hsvb : p.sv.ownBlock = (Value.slice P k cc).ownBlock := by rw [hpv]
  have hx6 : Row W Y 53 #[p.sv, .map (some p.mb), .int .i64 c] := hi.row.below hbW hi.row.lt
  have hsb : ∀ q, p.sv.ownBlock = some q → Ty W q 71 := fun q hq => ty_own (rows_below hi.sers hbW) hq
  have hx7 : Row w6 Y 53 #[p.sv, .map (some p.mb), .int .i64 c] := grown_row hx6 h3 (fun e => by rw [← hsvb] at e; exact (ty_row hx6).ne (hsb Y e.symm) (by decide) rfl)
  have k67 : Kept (fun q => q = Y ∨ p.sv.ownBlock = some q) W (w6.setCell ⟨Y, 0, none⟩ (.slice P6 (k + 1) c6)) := (Kept.grown (S := fun q => q = Y ∨ p.sv.ownBlock = some q) h3 (fun q hq => .inr (by rw [hsvb]; exact hq))).set (p := ⟨Y, 0, none⟩) (.inl (.inl rfl)) _
  have K : Kept (fun q => q = Y ∨ p.sv.ownBlock = some q) w (w6.setCell ⟨Y, 0, none⟩ (.slice P6 (k + 1) c6)) := (Kept.below hbW).trans k67 fun i hi => .inl hi
  refine ⟨_, hi.step K (sv' := .slice P6 (k + 1) c6) (lv := .slice P4 l1 c4) (sm := .slice P5 l2 c5) (g := w5.heap.size) hB (hx7.setAt 0 _) ?_ ?_ hb.size ?_ ?_ ?_, rfl, ?_⟩
  · exact rows_setFar h2 hx7 (by decide) 0 _
  · intro q hq
    rcases h4 with e | e
    · exact hi.low.2.2.1 q (by rw [hsvb, ← e]; exact hq)
    · rw [hq] at e
      injection e with e
      have := hbW.size
      omega
  · refine row_move hg6 (k67.block _ hg6.lt ?_)
    rintro (e | e)
    · exact (ty_row hg6).ne (ty_row hx6) (by decide) e
    · exact (ty_row hg6).ne (hsb _ e) (by decide) rfl
  · refine ownl_move hl6 fun q hq => k67.block q (World.ownsRow.lt hl6 q hq).2 ?_
    rintro (e | e)
    · exact (ty_own hl6 hq).ne (ty_row hx6) (by decide) e
    · exact (ty_own hl6 hq).ne (hsb _ e) (by decide) rfl
  · refine owns_move hs6 fun q hq => k67.block q (World.ownsRow.lt hs6 q hq).2 ?_
    rintro (e | e)
    · exact (ty_own hs6 hq).ne (ty_row hx6) (by decide) e
    · exact (ty_own hs6 hq).ne (hsb _ e) (by decide) rfl
  · refine K.to_below ?_ hB
    rintro q (e | e)
    · rw [e]; exact hi.low.1
    · exact hi.low.2.2.1 q e
set_option maxHeartbeats 8000000 in
theorem hdcopy_prog {S : Nat → Prop} {w : World} {X : Nat} {h : List Ser} (hi0 : HeadAt S w X h) (hk : HeadOk h) :
    Calls Try.prog 11 #[.pointer (some ⟨X, 0, none⟩)] w fun e w' => ∃ Y, e = .returned (.pointer (some ⟨Y, 0, none⟩)) ∧ HeadAt (fun k => w.heap.size ≤ k) w' Y h ∧ Below w.heap.size w w' := by
  obtain ⟨p, hi, _⟩ := hi0
  obtain ⟨P, cc, _, hcc, x0, x1, x2, hall⟩ := hi.cells
  have q := hd_eqnil w X
  obtain ⟨es, ck, hmb⟩ := hi.ids.map
  have HI := Lib.hid (fun w' (hb : Below w.heap.size w w') => hi.below hb)
  have HK := Lib.hid hk
  have EL := Lib.hid (fun args w => (show (callFunc 31 args).run Try.prog w = .ok (.enter 31 args) w from enters_of Try.func31 (by kernel_rfl) rfl args w))
  have ES := Lib.hid (fun args w => (show (callFunc 32 args).run Try.prog w = .ok (.enter 32 args) w from enters_of Try.func32 (by kernel_rfl) rfl args w))
  have HCM := Lib.hid (AnyW.maps_Clone Try.hd_clone p.mb es ck w.drew hmb)
  have HMB := Lib.hid hmb
  obtain ⟨n, hn⟩ : ∃ n, h.length = n := ⟨_, rfl⟩
  have HN := Lib.hid hn
  have HALL := Lib.hid hall
  rw [hn] at x0 hcc
  have hX := hi.row.lt
  have HC0 := Lib.hid (fun (x : World) (hx : Below w.heap.size w x) => And.intro ((hx.cell (p := ⟨X, 0, none⟩) hX).trans x0) (And.intro ((hx.cell (p := ⟨X, 1, none⟩) hX).trans x1) ((hx.cell (p := ⟨X, 2, none⟩) hX).trans x2)))
  have hn256 : n ≤ 256 := by have := hk.few; rw [hn] at this; exact this
  obtain ⟨c, hcq⟩ : ∃ c, (cntS h : Int) = c := ⟨_, rfl⟩
  have HCQ := Lib.hid hcq
  rw [hcq] at x2 HI HC0
  clear hi hall hn hmb hcq
  go_enter Try.func11, Try.ntmps11
  go_upto_region 3 with fail
  go_region_held3 (fun w' => w'.cell? ⟨X, 1, none⟩ = some (.map (some p.mb)) ∧ w'.cell? ⟨X, 2, none⟩ = some (.int .i64 c))
    (first | with_reducible assumption | go_keep)
    (first
      | (go_at_call 30
         refine HCM.out.mono ?_
         rintro e w3 ⟨rfl, hw3⟩
         have hb3 : Below w.heap.size w w3 := by rw [hw3]; exact (Below.refl _ _).drew.alloc (Nat.le_refl _) _
         have k1 := (HC0.out w3 hb3).2.1
         have k2 := (HC0.out w3 hb3).2.2
         have HW3 := Lib.hid hw3
         have HB3 := Lib.hid hb3
         clear hw3 hb3))
  have HIDS := Lib.hid (show IdsAt w3 w.heap.size (blSets h) from (HI.out _ (Below.refl _ _)).ids.block (by rw [HW3.out, HMB.out]; exact heap_alloc_new w.drew _))
  obtain ⟨w4, hw4⟩ : ∃ z, w3.alloc (.cells #[.slice none 0 0, .map (some w.heap.size), .int .i64 c] 53) = z := ⟨_, rfl⟩
  rw [hw4]
  have hb4 : Below w.heap.size w w4 := by rw [← hw4]; exact HB3.out.alloc HB3.out.size _
  have HCI := Lib.hid (show CopyIn w4 w.heap.size w3.heap.size { mb := w.heap.size, sv := .slice none 0 0, fb := fun _ => 0, lv := fun _ => .slice none 0 0, sm := fun _ => .slice none 0 0 } h 0 c from by
    refine ⟨?_, ?_, ⟨rfl, .inl ⟨rfl, rfl⟩⟩, fun i hi => absurd hi (Nat.not_lt_zero i), fun i hi => absurd hi (Nat.not_lt_zero i), fun i hi => absurd hi (Nat.not_lt_zero i), fun i j hi => absurd hi (Nat.not_lt_zero i), fun i j hi => absurd hi (Nat.not_lt_zero i), ⟨HB3.out.size, Nat.le_refl _, fun q hq => (by cases hq), fun i hi => absurd hi (Nat.not_lt_zero i)⟩⟩
    · rw [← hw4]
      exact Row.new w3 _ _
    · rw [← hw4]
      exact HIDS.out.block (Below.heap_alloc _ _ _ HIDS.out.lt))
  have y0 := (HC0.out w4 hb4).1
  have HB4 := Lib.hid hb4
  obtain ⟨Y, hY⟩ : ∃ Y, w3.heap.size = Y := ⟨_, rfl⟩
  rw [hY] at HCI ⊢
  clear hb4 hw4 k1 k2 x1 x2 hY
  go_wp2_with fail
  go_loopw [24] (fun i wr => ∃ (k : Nat) (p' : Plc), k ≤ n ∧ i = .int .i64 (k : Int) ∧ CopyIn wr w.heap.size Y p' h k c ∧ Below w.heap.size w wr) (fun i _ => n - (intOf i).toNat)
  case atStart => exact ⟨0, _, Nat.zero_le _, rfl, HCI.out, HB4.out⟩
  case round =>
    obtain ⟨k, p', hkn, rfl, ci, hbr⟩ := hrel
    by_cases hlt : k < n
    · have i1 : decide ((k : Int) < (n : Int)) = true := decide_eq_true (by omega)
      have i3 : (k : Int) < (n : Int) := by omega
      have hkl : k < h.length := by rw [HN.out]; exact hlt
      obtain ⟨b, rfl, hb, hc⟩ := HALL.out (by omega)
      have g0 := (hbr.cell (p := ⟨b, k, none⟩) hb).trans (hc k hkl)
      obtain ⟨L, lc, Q, sc, _, _, _, _, s0, s1, hL, hS⟩ := (HI.out _ hbr).series hkl
      obtain ⟨P1, cc1, hpv, hcc1, _, _⟩ := rows_slice ci.sers
      have hYr := ci.row
      rw [hpv] at hYr
      have hlen := hdlens HK.out hkl
      have hgl := ((HI.out _ hbr).ser k hkl).lt
      have HMORE := Lib.hid (fun w5 w6 P4 P5 P6 c4 c5 c6 hb ho4 ho5 happ => CopyIn.more (w5 := w5) (w6 := w6) (P4 := P4) (P5 := P5) (P6 := P6) (c4 := c4) (c5 := c5) (c6 := c6) (l1 := (h.getD k ser0).1.length) (l2 := (h.getD k ser0).2.length) ci hbr.size hpv hb ho4 ho5 happ)
      have HJ := Lib.hid (show k + 1 ≤ n from hlt)
      have HN1 := Lib.hid (show k ≤ 1000 by have := HK.out.few; omega)
      have HSV := Lib.hid (show wr.ownsRow 0 71 1 (.slice P1 k cc1) k (ptrs p'.fb k) by rw [← hpv]; exact ci.sers)
      generalize p.fb k = g at *
      generalize (h.getD k ser0).1 = ls at *
      generalize (h.getD k ser0).2 = ss at *
      have HCL := Lib.hid (fun (x : World) (hx : Below wr.heap.size wr x) => ixclone_prog L ls lc x (hL.below hx) (by omega))
      have HCS := Lib.hid (fun (x : World) (hx : Below wr.heap.size wr x) => hclone_prog Q ss sc x (hS.below hx) (by omega))
      have HYR := Lib.hid hYr
      have v0 : wr.cell? ⟨Y, 0, none⟩ = some (.slice P1 k cc1) := hYr.cell 0
      have HBR := Lib.hid hbr
      clear hlen hL hS hbr hc ci hYr hpv
      go_upto_region 7 with fail
      go_region_law (first
        | (refine step_call rfl 31 [.tmp 36] #[26] #[.slice L ls.length lc] rfl rfl (EL.out _ _) (HCL.out _ (Below.refl _ _).drew) ?_
           rintro e w4 ⟨v4, rfl, ho4, hb4⟩
           obtain ⟨P4, c4, hv4, _⟩ := ownl_slice ho4
           subst hv4
           refine ⟨_, rfl, ?_⟩
           have t1 := (hb4.cell (p := ⟨g, 1, none⟩) hgl).trans s1
           have v1 := (HYR.out.drew.below hb4 HYR.out.lt).cell 0
           have HO4 := Lib.hid ho4
           have HB4 := Lib.hid (show Below wr.heap.size wr w4 from (Below.refl _ _).drew.trans hb4)
           clear ho4 hb4)
        | (refine step_call rfl 32 [.tmp 41] #[45] #[.slice Q ss.length sc] rfl rfl (ES.out _ _) (HCS.out _ HB4.out) ?_
           rintro e w5 ⟨v5, rfl, ho5, hb5⟩
           obtain ⟨P5, c5, hv5, _⟩ := owns_slice ho5
           subst hv5
           refine ⟨_, rfl, ?_⟩
           have HB5 := Lib.hid (below_then HB4.out hb5)
           have HL5 := Lib.hid (show OwnL w5 wr.heap.size (.slice P4 ls.length c4) ls from ownl_below HO4.out hb5)
           have HS5 := Lib.hid (owns_lower ho5 HB4.out.size)
           have HY5 := Lib.hid (HYR.out.below HB5.out HYR.out.lt)
           have v2 := HY5.out.cell 0
           have v3 := (HY5.out.alloc (.cells #[.slice P4 ls.length c4, .slice P5 ss.length c5] 74)).cell 0
           have HY6 := Lib.hid ((HY5.out.alloc (.cells #[.slice P4 ls.length c4, .slice P5 ss.length c5] 74)).alloc (.cells #[ptrV w5.heap.size] 71))
           have v4 := ((HY5.out.alloc (.cells #[.slice P4 ls.length c4, .slice P5 ss.length c5] 74)).alloc (.cells #[.pointer (some ⟨w5.heap.size, 0, none⟩)] 71)).cell 0
           have HR6 := Lib.hid (show Row ((w5.alloc (.cells #[.slice P4 ls.length c4, .slice P5 ss.length c5] 74)).alloc (.cells #[ptrV w5.heap.size] 71)) (w5.heap.size + 1) 71 #[ptrV w5.heap.size] by
             have := Row.new (w5.alloc (.cells #[.slice P4 ls.length c4, .slice P5 ss.length c5] 74)) 71 #[ptrV w5.heap.size]
             rwa [show (w5.alloc (.cells #[.slice P4 ls.length c4, .slice P5 ss.length c5] 74)).heap.size = w5.heap.size + 1 by simp] at this)
           have HO6 := Lib.hid (rows_below (rows_below (rows_below HSV.out HB5.out) (below_one w5 (.cells #[.slice P4 ls.length c4, .slice P5 ss.length c5] 74))) (below_one _ (.cells #[ptrV w5.heap.size] 71)))
           clear ho5 hb5)
        | (refine step_app_ptr rfl (.tmp 32) (.tmp 45) rfl (.slice P1 k cc1) k _ rfl HO6.out w5.heap.size (w5.heap.size + 1) 1 rfl HR6.out HN1.out ?_
           intro v6 w6 happ
           obtain ⟨P6, c6, hv6, _⟩ := rows_slice happ.1
           subst hv6
           have hY7 := grown_row HY6.out happ.2.1 (fun e => rows_ne HY6.out HO6.out (by decide) e.symm)
           have z0 := hY7.cell 0
           have f0 := hY7.frozen 0
           have HAP := Lib.hid happ
           clear happ hY7))
      all_goals
        go_wp2_with fail
        obtain ⟨p2, ci2, _, hb2⟩ := HMORE.out w5 w6 P4 P5 P6 c4 c5 c6 HB5.out HL5.out HS5.out HAP.out
        have HCI2 := Lib.hid ci2
        have HB2 := Lib.hid (HBR.out.trans hb2)
        clear ci2 hb2
        go_roundw
        case rel => exact ⟨k + 1, p2, HJ.out, by go_num, HCI2.out, HB2.out⟩
        case measure => simp [intOf]; omega
    · obtain rfl : k = n := by omega
      have i1 : decide ((k : Int) < (k : Int)) = false := decide_eq_false (by omega)
      rw [← HN.out] at ci
      obtain ⟨d1, d2⟩ := ci.done
      have HD1 := Lib.hid d1
      have HD2 := Lib.hid d2
      have HBR := Lib.hid hbr
      clear ci hbr d1 d2
      go_wp2_with fail
      go_ret
      exact ⟨Y, rfl, ⟨p', by rw [HCQ.out]; exact HD1.out, HD2.out⟩, HBR.out⟩
end
end Go.Proofs.Ytpcjnagdanmdpaa
