/- A head's remove: the samples of some series whose times are from low to high are taken out. -/
import Derived.Test.YtpcjnagdanmdpaaHdDel
namespace Go.Proofs.Ytpcjnagdanmdpaa
open Go.RowKit Go.Maps
open Ch
set_option linter.unusedVariables false
set_option linter.unusedSimpArgs false
set_option maxRecDepth 100000
/-! ### DeleteFunc of a head's own row -/
theorem hindexf_nil (F : Value) (c : Nat) (w : World) : Calls Try.prog 76 #[.slice none 0 c, F] w fun e w' => e = .returned (.int .i64 (-1)) ∧ w' = w := by
  go_enter Try.func76, Try.ntmps76
  go_wp2_with fail
  go_loopw [8] (fun i wr => i = .int .i64 0 ∧ wr = w) (fun i _ => 0 - (intOf i).toNat)
  case atStart => exact ⟨rfl, rfl⟩
  case round =>
    obtain ⟨rfl, rfl⟩ := hrel
    go_wp2_with fail
    go_ret
    exact ⟨rfl, rfl⟩
theorem hdeletef_nil (F : Value) (c : Nat) (w : World) : Calls Try.prog 54 #[.slice none 0 c, F] w fun e w' => e = .returned (.slice none 0 c) ∧ w' = w := by
  have H := hindexf_nil F c
  go_enter Try.func54, Try.ntmps54
  go_wp2_with (go_at_call 76; refine (H _).mono ?_; rintro e w2 ⟨rfl, rfl⟩)
  go_ret
  exact ⟨rfl, rfl⟩
section
variable {S T : Nat → Prop} {w w' w1 w2 : World} {X : Nat} {p : Plc} {h h' : List Ser} {c c' : Int}
/-- The block of a row at an address. -/
def blkOf (Q : Option Addr) (k : Nat) : Prop := ∃ ad, Q = some ad ∧ ad.block = k
theorem hdel_own {Lb Hb sc : Nat} {lo hi : Int} {Q : Option Addr} {l : List Smp} (hL : Row w Lb 3 #[.int .i64 lo]) (hH : Row w Hb 3 #[.int .i64 hi]) (hO : OwnS w 0 (.slice Q l.length sc) l) (hl : l.length ≤ 1000000) :
    Calls Try.prog 54 #[.slice Q l.length sc, hdelF Lb Hb] w fun e w' => e = .returned (.slice Q (l.filter (outB lo hi)).length sc) ∧ OwnS w' 0 (.slice Q (l.filter (outB lo hi)).length sc) (l.filter (outB lo hi)) ∧ Kept (blkOf Q) w w' := by
  have hty := fun k (hk : (Value.slice Q l.length sc).ownBlock = some k) => ty_own hO hk
  rcases hO.2 with ⟨e, h0⟩ | ⟨g, cap, cur, e, h1, h2, h3, h4, h5, h6⟩
  · injection e with e1 e2 e3
    subst e1 e3
    obtain rfl : l = [] := List.length_eq_zero_iff.1 h0
    refine (hdeletef_nil _ _ w).mono ?_
    rintro e w' ⟨rfl, rfl⟩
    exact ⟨rfl, hO, Kept.refl _ _⟩
  · injection e with e1 e2 e3
    subst e1 e3
    have hR : hRowSm w g l (cur.toList.drop (l.length * 2)) := by
      unfold hRowSm
      rw [← h6, List.take_append_drop, Array.toArray_toList]
      exact h2
    have hN : (l.flatMap smpE ++ cur.toList.drop (l.length * 2)).length = sc * 2 := by
      rw [← h6, List.take_append_drop, Array.length_toList, h5]
    have hg := hty g rfl
    refine (hdeletef_prog (hL.cell 0) (hH.cell 0) hL.lt hH.lt ((ty_row hL).ne hg (by decide)) ((ty_row hH).ne hg (by decide)) hR hN hl h3).mono ?_
    rintro e w' ⟨rfl, ⟨rest, k1, k2⟩, k3⟩
    refine ⟨rfl, ⟨by rw [flat_len smpE 2 smpE_len], .inr ⟨g, sc, ((l.filter (outB lo hi)).flatMap smpE ++ rest).toArray, rfl, h1, k1, Nat.le_trans (List.length_filter_le _ _) h3, h4, by simpa using k2, ?_⟩⟩, k3.mono fun k hk => ⟨_, rfl, hk.symm⟩⟩
    rw [List.take_append_of_le_length (by rw [flat_len smpE 2 smpE_len]; exact Nat.le_refl _)]
    exact List.take_of_length_le (by rw [flat_len smpE 2 smpE_len]; exact Nat.le_refl _)
/-! ### ids -/
def cutsH (lo hi : Int) (h : List Ser) (ids : List Int) : List Ser := ids.foldl (fun h i => cutH h lo hi i) h
theorem cutH_len (h : List Ser) (lo hi i : Int) : (cutH h lo hi i).length = h.length := by unfold cutH; rw [List.length_set]
theorem cutsH_len (lo hi : Int) : ∀ (ids : List Int) (h : List Ser), (cutsH lo hi h ids).length = h.length := by
  intro ids
  induction ids with
  | nil => intro h; rfl
  | cons i r ih => intro h; show (cutsH lo hi (cutH h lo hi i) r).length = _; rw [ih, cutH_len]
theorem cutsH_snoc (lo hi : Int) (h : List Ser) (ids : List Int) (i : Int) : cutsH lo hi h (ids ++ [i]) = cutH (cutsH lo hi h ids) lo hi i := by simp [cutsH]
theorem idsH_all {m : Nat} {lo hi : Int} : ∀ (ids : List Int) (h : List Ser), (∀ i ∈ ids, i < (m : Int)) → idsH m lo hi h ids = (cutsH lo hi h ids, 0) := by
  intro ids
  induction ids with
  | nil => intro h _; rfl
  | cons i r ih =>
    intro h hx
    unfold idsH
    rw [if_neg (by have := hx i (by simp); omega), ih _ fun j hj => hx j (by simp [hj])]
    rfl
theorem idsH_some {m : Nat} {lo hi : Int} : ∀ (ids : List Int) (h : List Ser), (∃ i ∈ ids, (m : Int) ≤ i) → (idsH m lo hi h ids).2 = 9 := by
  intro ids
  induction ids with
  | nil => intro h ⟨i, hi, _⟩; cases hi
  | cons i r ih =>
    rintro h ⟨k, hk, hm⟩
    unfold idsH
    by_cases c1 : (m : Int) ≤ i
    · rw [if_pos c1]
    · rw [if_neg c1]
      rcases List.mem_cons.1 hk with rfl | hk
      · exact absurd hm c1
      · exact ih _ ⟨k, hk, hm⟩
theorem cut_rows {w5 : World} {i n sc : Nat} {Q : Option Addr} (hi : HeadIn w X p h c) (hl : i < h.length) (hsm : p.sm i = .slice Q n sc) (hK : Kept (blkOf Q) w w5) : Row w5 X 53 #[p.sv, .map (some p.mb), .int .i64 c] ∧ Row w5 (p.fb i) 74 #[p.lv i, p.sm i] := by
  have hbk : ∀ k, blkOf Q k → (p.sm i).ownBlock = some k := by
    rintro k ⟨ad, rfl, rfl⟩
    rw [hsm]
    rfl
  exact ⟨row_move hi.row (hK.block _ hi.row.lt fun e => (hi.ts hl (hbk _ e)).ne hi.tx (by decide) rfl), row_move (hi.ser i hl) (hK.block _ (hi.ser i hl).lt fun e => (hi.ts hl (hbk _ e)).ne (hi.tf hl) (by decide) rfl)⟩
theorem HeadAt.drew (hi : HeadAt S w X h) : HeadAt S w.drew X h := hi.below (Below.refl _ _).drew
/-- Fewer samples of a series, and fewer in all. -/
theorem cut_fin {w5 : World} {lo hi : Int} {i g sc : Nat} {Q : Option Addr} (hi' : HeadIn w X p h (cntS h : Int)) (hS : ∀ k, Foot X p h.length k → S k) (hl : i < h.length) (hg : p.fb i = g) (hsm : p.sm i = .slice Q (h.getD i ser0).2.length sc)
    (hO : OwnS w5 0 (.slice Q ((h.getD i ser0).2.filter (outB lo hi)).length sc) ((h.getD i ser0).2.filter (outB lo hi))) (hK : Kept (blkOf Q) w w5)
    (hc : (cntS h : Int) - (((h.getD i ser0).2.length : Int) - (((h.getD i ser0).2.filter (outB lo hi)).length : Int)) = c') :
    HeadAt S ((w5.setCell ⟨g, 1, none⟩ (.slice Q ((h.getD i ser0).2.filter (outB lo hi)).length sc)).setCell ⟨X, 2, none⟩ (.int .i64 c')) X (cutH h lo hi (i : Int)) ∧
      Kept S w ((w5.setCell ⟨g, 1, none⟩ (.slice Q ((h.getD i ser0).2.filter (outB lo hi)).length sc)).setCell ⟨X, 2, none⟩ (.int .i64 c')) := by
  subst hg
  have hbk : ∀ k, blkOf Q k → (p.sm i).ownBlock = some k := by
    rintro k ⟨ad, rfl, rfl⟩
    rw [hsm]
    rfl
  have hne : X ≠ p.fb i := hi'.tx.ne (hi'.tf hl) (by decide)
  have nx : ¬ blkOf Q X := fun e => (hi'.ts hl (hbk _ e)).ne hi'.tx (by decide) rfl
  have nf : ¬ blkOf Q (p.fb i) := fun e => (hi'.ts hl (hbk _ e)).ne (hi'.tf hl) (by decide) rfl
  have hx5 := row_move hi'.row (hK.block _ hi'.row.lt nx)
  have hs5 := row_move (hi'.ser i hl) (hK.block _ (hi'.ser i hl).lt nf)
  have K : Kept (fun k => k = X ∨ k = p.fb i ∨ (p.sm i).ownBlock = some k) w ((w5.setCell ⟨p.fb i, 1, none⟩ (.slice Q ((h.getD i ser0).2.filter (outB lo hi)).length sc)).setCell ⟨X, 2, none⟩ (.int .i64 c')) :=
    ((Kept.mono (T := fun k => k = X ∨ k = p.fb i ∨ (p.sm i).ownBlock = some k) hK fun k hk => Or.inr (Or.inr (hbk k hk))).set (p := ⟨p.fb i, 1, none⟩) (.inl (.inr (.inl rfl))) _).set (p := ⟨X, 2, none⟩) (.inl (.inl rfl)) _
  have hown : (Value.slice Q ((h.getD i ser0).2.filter (outB lo hi)).length sc).ownBlock = (p.sm i).ownBlock := by rw [hsm]; cases Q <;> rfl
  have e1 : cutH h lo hi (i : Int) = h.set i ((h.getD i ser0).1, (h.getD i ser0).2.filter (outB lo hi)) := rfl
  have e2 := cntS_set (h := h) (i := i) ((h.getD i ser0).1, (h.getD i ser0).2.filter (outB lo hi)) hl
  have e3 : ((cntS (cutH h lo hi (i : Int)) : Nat) : Int) = c' := by
    rw [e1]
    have e4 : (h.getD i ([], [])).2.length = (h.getD i ser0).2.length := rfl
    simp only at e2
    omega
  have hin := hi'.with_smp (s' := .slice Q ((h.getD i ser0).2.filter (outB lo hi)).length sc) (l' := (h.getD i ser0).2.filter (outB lo hi)) (c' := c') hl K ?_ ?_ ?_ (.inl hown)
  · refine ⟨⟨_, by rw [e3, e1]; exact hin, fun k hk => ?_⟩, K.mono ?_⟩
    · rw [e1, List.length_set] at hk
      exact (foot_smp (B := k + 1) hl (.inl hown) hk).elim (hS k) fun h => by omega
    · rintro k (e | e | e)
      · exact hS k (.inl e)
      · exact hS k (.inr (.inr (.inr ⟨i, hl, .inl e⟩)))
      · exact hS k (.inr (.inr (.inr ⟨i, hl, .inr (.inr e)⟩)))
  · exact (hx5.setFar (p := ⟨p.fb i, 1, none⟩) hne _).setAt 2 _
  · exact (hs5.setAt 1 _).setFar (p := ⟨X, 2, none⟩) (Ne.symm hne) _
  · have h6 := rows_setFar hO hs5 (by decide) 1 (.slice Q ((h.getD i ser0).2.filter (outB lo hi)).length sc)
    exact rows_setFar h6 (hx5.setFar (p := ⟨p.fb i, 1, none⟩) hne _) (by decide) 2 _
set_option maxHeartbeats 2000000 in
theorem remove_no (hi : HeadAt S w X h) {ids : List Int} {A : Option Addr} {ca : Nat} (hA : Zi w A ids) (hx : ∀ i ∈ ids, 0 ≤ i) (hn : ids.length ≤ 100000) {lo hiT : Int} (hbad : ∃ i ∈ ids, (h.length : Int) ≤ i) :
    Calls Try.prog 24 #[.pointer (some ⟨X, 0, none⟩), .slice A ids.length ca, .int .i64 lo, .int .i64 hiT] w fun e w' => e = .returned (.int .i64 9) ∧ Below w.heap.size w w' := by
  obtain ⟨p, hin, _⟩ := hi
  have hb2 : Below w.heap.size w ((w.alloc (.cells #[.int .i64 lo] 3)).alloc (.cells #[.int .i64 hiT] 3)) := ((Below.refl w.heap.size w).alloc (Nat.le_refl _) _).alloc (by simp) _
  have HYES := Lib.hid (fun i hl => hdat_yes (hin.below hb2) i hl)
  have HNO := Lib.hid (fun i hl => hdat_no (hin.below hb2) i hl)
  have HA := Lib.hid (hA.below hb2)
  have HB := Lib.hid hb2
  have HBAD := Lib.hid hbad
  have HX := Lib.hid hx
  obtain ⟨W, hW⟩ : ∃ W, ((w.alloc (.cells #[.int .i64 lo] 3)).alloc (.cells #[.int .i64 hiT] 3)) = W := ⟨_, rfl⟩
  rw [hW] at HYES HNO HA HB
  obtain ⟨n, hnn⟩ : ∃ n, ids.length = n := ⟨_, rfl⟩
  have HN := Lib.hid hnn
  rw [hnn] at hn ⊢
  clear hin hA hx hbad hb2 hnn
  go_enter Try.func24, Try.ntmps24
  go_wp2_with fail
  go_loopw [20] (fun a wr => ∃ j : Nat, j ≤ n ∧ a = .int .i64 (j : Int) ∧ (∀ i ∈ ids.take j, i < (h.length : Int)) ∧ wr = W) (fun a _ => n - (intOf a).toNat)
  case atStart => exact ⟨0, Nat.zero_le _, rfl, fun i hi => by simp at hi, by first | rfl | trivial⟩
  case round =>
    obtain ⟨j, hj, rfl, hfirst, rfl⟩ := hrel
    by_cases hlt : j < n
    · have i1 : decide ((j : Int) < (n : Int)) = true := decide_eq_true (by omega)
      have i2 : (j : Int) < (n : Int) := by omega
      have hjr : j < ids.length := by rw [HN.out]; exact hlt
      obtain ⟨b, o, rfl, hb, g0⟩ := HA.out.at_ hjr
      have hmem : ids.getD j 0 ∈ ids := by
        rw [List.getD_eq_getElem?_getD, List.getElem?_eq_getElem hjr]
        exact List.getElem_mem hjr
      have h0 := HX.out _ hmem
      have htk : ids.take (j + 1) = ids.take j ++ [ids.getD j 0] := by
        rw [List.take_add_one, List.getElem?_eq_getElem hjr, List.getD_eq_getElem?_getD, List.getElem?_eq_getElem hjr]
        rfl
      by_cases hm : (h.length : Int) ≤ ids.getD j 0
      · have HC := Lib.hid (HNO.out (ids.getD j 0) (.inr hm))
        generalize ids.getD j 0 = id at *
        clear hfirst hmem htk hm h0
        go_wp2_with (go_at_call 40; refine HC.out.mono ?_; rintro e w2 ⟨rfl, rfl⟩)
        go_ret
        exact ⟨rfl, HB.out⟩
      · obtain ⟨k, hk⟩ : ∃ k : Nat, ids.getD j 0 = (k : Int) := ⟨(ids.getD j 0).toNat, by omega⟩
        have HC := Lib.hid (HYES.out k (by omega))
        have HF := Lib.hid (show ∀ i ∈ ids.take (j + 1), i < (h.length : Int) from fun i hi => by
          rw [htk] at hi
          rcases List.mem_append.1 hi with hi | hi
          · exact hfirst i hi
          · rw [List.mem_singleton.1 hi]; omega)
        rw [hk] at g0
        generalize p.fb k = g at *
        clear hfirst hmem htk hm h0 hk
        go_wp2_with (go_at_call 40; refine HC.out.mono ?_; rintro e w2 ⟨rfl, rfl⟩)
        go_roundw
        case rel => exact ⟨j + 1, hlt, by go_num, HF.out, by first | rfl | trivial⟩
        case measure => simp [intOf]; omega
    · exfalso
      obtain ⟨i, hi, hm⟩ := HBAD.out
      have : i ∈ ids.take j := by rw [List.take_of_length_le (by rw [HN.out]; omega)]; exact hi
      have := hfirst i this
      omega
set_option maxHeartbeats 4000000 in
theorem remove_ok (hi : HeadAt S w X h) (hk : HeadOk h) {ids : List Int} {A : Option Addr} {ca : Nat} (hA : Zi w A ids) (hAS : ids ≠ [] → ∀ ad, A = some ad → ¬ S ad.block) (hn : ids.length ≤ 100000) {lo hiT : Int} (hx : ∀ i ∈ ids, 0 ≤ i ∧ i < (h.length : Int)) :
    Calls Try.prog 24 #[.pointer (some ⟨X, 0, none⟩), .slice A ids.length ca, .int .i64 lo, .int .i64 hiT] w fun e w' => e = .returned (.int .i64 0) ∧ After S w X (cutsH lo hiT h ids) w' := by
  have hmf : ∀ (fn : Fn) (first cap : Array Value) (w : World), (Instr.makeFunc fn first cap).run Try.prog w = .ok (.func fn first cap) w := fun _ _ _ _ => rfl
  obtain ⟨B, hB⟩ : ∃ B, w.heap.size = B := ⟨_, rfl⟩
  obtain ⟨T, hT⟩ : ∃ T : Nat → Prop, T = fun k => (S k ∧ k < B) ∨ B + 2 ≤ k := ⟨_, rfl⟩
  have hb2 : Below w.heap.size w ((w.alloc (.cells #[.int .i64 lo] 3)).alloc (.cells #[.int .i64 hiT] 3)) := ((Below.refl w.heap.size w).alloc (Nat.le_refl _) _).alloc (by simp) _
  have hL0 : Row ((w.alloc (.cells #[.int .i64 lo] 3)).alloc (.cells #[.int .i64 hiT] 3)) B 3 #[.int .i64 lo] := by rw [← hB]; exact (Row.new w _ _).alloc _
  have hH0 : Row ((w.alloc (.cells #[.int .i64 lo] 3)).alloc (.cells #[.int .i64 hiT] 3)) (B + 1) 3 #[.int .i64 hiT] := by
    have := Row.new (w.alloc (.cells #[.int .i64 lo] 3)) 3 #[.int .i64 hiT]
    rwa [show (w.alloc (.cells #[.int .i64 lo] 3)).heap.size = B + 1 by simp; exact hB] at this
  have hsz : B + 2 ≤ ((w.alloc (.cells #[.int .i64 lo] 3)).alloc (.cells #[.int .i64 hiT] 3)).heap.size := by simp; omega
  have hhd : HeadAt T ((w.alloc (.cells #[.int .i64 lo] 3)).alloc (.cells #[.int .i64 hiT] 3)) X h := (hi.within.below hb2).mono fun k hk => by rw [hT]; exact .inl ⟨hk.1, by rw [← hB]; exact hk.2⟩
  have hkp : Kept T w ((w.alloc (.cells #[.int .i64 lo] 3)).alloc (.cells #[.int .i64 hiT] 3)) := Kept.below hb2
  have HT0 := Lib.hid (show ∀ k, B ≤ k → k < B + 2 → ¬ T k from fun k h1 h2 h3 => by
    rw [hT] at h3
    rcases h3 with h3 | h3 <;> omega)
  have HT1 := Lib.hid (show ∀ k, B + 2 ≤ k → T k from fun k h1 => by rw [hT]; exact .inr h1)
  have HTA := Lib.hid (show ids ≠ [] → ∀ ad, A = some ad → ad.block < B → ¬ T ad.block from fun hne ad e h1 h3 => by
    rw [hT] at h3
    rcases h3 with h3 | h3
    · exact hAS hne ad e h3.1
    · omega)
  have HFIN := Lib.hid (show ∀ (w' : World) (h' : List Ser), HeadAt T w' X h' → Kept T w w' → After S w X h' w' from fun w' h' a1 a2 => by
    refine ⟨a1.mono fun k hk => ?_, a2.os, a2.tape, a2.output, a2.size, fun k h1 h2 => a2.block k h1 ?_⟩
    · rw [hT] at hk
      rcases hk with hk | hk
      · exact .inl hk.1
      · exact .inr (by omega)
    · intro h3
      rw [hT] at h3
      rcases h3 with h3 | h3
      · exact h2 h3.1
      · omega)
  obtain ⟨p, hin, _⟩ := hi
  have HYES := Lib.hid (fun i hl => hdat_yes (hin.below hb2) i hl)
  have HA := Lib.hid hA
  have HA2 := Lib.hid (hA.below hb2)
  have HX := Lib.hid hx
  have HOK := Lib.hid hk
  have HB := Lib.hid hB
  obtain ⟨W, hW⟩ : ∃ W, ((w.alloc (.cells #[.int .i64 lo] 3)).alloc (.cells #[.int .i64 hiT] 3)) = W := ⟨_, rfl⟩
  rw [hW] at HYES HA2 hhd hkp hsz hL0 hH0
  have HHD := Lib.hid hhd
  have HKP := Lib.hid hkp
  have HL0 := Lib.hid hL0
  have HH0 := Lib.hid hH0
  have HSZ := Lib.hid hsz
  have h256 := hk.few
  obtain ⟨n, hnn⟩ : ∃ n, ids.length = n := ⟨_, rfl⟩
  have HN := Lib.hid hnn
  rw [hnn] at hn ⊢
  clear hin hA hx hAS hk hT hb2 hnn hhd hkp hsz hL0 hH0
  go_enter Try.func24, Try.ntmps24
  go_wp2_with fail
  go_loopw [20] (fun a wr => ∃ j : Nat, j ≤ n ∧ a = .int .i64 (j : Int) ∧ wr = W) (fun a _ => n - (intOf a).toNat)
  case atStart => exact ⟨0, Nat.zero_le _, rfl, by first | rfl | trivial⟩
  case round =>
    obtain ⟨j, hj, rfl, rfl⟩ := hrel
    by_cases hlt : j < n
    · have i1 : decide ((j : Int) < (n : Int)) = true := decide_eq_true (by omega)
      have i2 : (j : Int) < (n : Int) := by omega
      have hjr : j < ids.length := by rw [HN.out]; exact hlt
      obtain ⟨b, o, rfl, hb, g0⟩ := HA2.out.at_ hjr
      have hmem : ids.getD j 0 ∈ ids := by
        rw [List.getD_eq_getElem?_getD, List.getElem?_eq_getElem hjr]
        exact List.getElem_mem hjr
      obtain ⟨h0, h1⟩ := HX.out _ hmem
      obtain ⟨k, hk⟩ : ∃ k : Nat, ids.getD j 0 = (k : Int) := ⟨(ids.getD j 0).toNat, by omega⟩
      have HC := Lib.hid (HYES.out k (by omega))
      rw [hk] at g0
      generalize p.fb k = g at *
      clear hmem h0 hk h1
      go_wp2_with (go_at_call 40; refine HC.out.mono ?_; rintro e w2 ⟨rfl, rfl⟩)
      go_roundw
      case rel => exact ⟨j + 1, hlt, by go_num, by first | rfl | trivial⟩
      case measure => simp [intOf]; omega
    · have i1 : decide ((j : Int) < (n : Int)) = false := decide_eq_false (by omega)
      have i2 : ¬ (j : Int) < (n : Int) := by omega
      go_wp2_with fail
      go_loopw [37] (fun a wr => ∃ q : Nat, q ≤ n ∧ a = .int .i64 (q : Int) ∧ Row wr B 3 #[.int .i64 lo] ∧ Row wr (B + 1) 3 #[.int .i64 hiT] ∧ HeadAt T wr X (cutsH lo hiT h (ids.take q)) ∧ HeadOk (cutsH lo hiT h (ids.take q)) ∧ Kept T w wr ∧ B + 2 ≤ wr.heap.size) (fun a _ => n - (intOf a).toNat)
      case atStart => exact ⟨0, Nat.zero_le _, rfl, HL0.out, HH0.out, HHD.out, HOK.out, HKP.out, HSZ.out⟩
      case round =>
        obtain ⟨q, hq, rfl, hL, hH, hhd, hok, hkp, hsz⟩ := hrel
        by_cases hlq : q < n
        · have i1 : decide ((q : Int) < (n : Int)) = true := decide_eq_true (by omega)
          have i2 : (q : Int) < (n : Int) := by omega
          have hjr : q < ids.length := by rw [HN.out]; exact hlq
          obtain ⟨b, o, hAe, hb, g0⟩ := HA.out.at_ hjr
          have hnT := HTA.out (fun e => by rw [e] at hjr; simp at hjr) _ hAe (by rw [← HB.out]; exact hb)
          have hbl := hkp.block b hb hnT
          subst hAe
          have mv : ∀ i, wr.cell? ⟨b, i, none⟩ = w.cell? ⟨b, i, none⟩ := fun i => World.cell?_of_block (w := w) hbl
          rw [← mv] at g0
          have hmem : ids.getD q 0 ∈ ids := by
            rw [List.getD_eq_getElem?_getD, List.getElem?_eq_getElem hjr]
            exact List.getElem_mem hjr
          have htk : ids.take (q + 1) = ids.take q ++ [ids.getD q 0] := by
            rw [List.take_add_one, List.getElem?_eq_getElem hjr, List.getD_eq_getElem?_getD, List.getElem?_eq_getElem hjr]
            rfl
          obtain ⟨h0, h1⟩ := HX.out _ hmem
          obtain ⟨k, hk⟩ : ∃ k : Nat, ids.getD q 0 = (k : Int) := ⟨(ids.getD q 0).toNat, by omega⟩
          have hstep : cutsH lo hiT h (ids.take (q + 1)) = cutH (cutsH lo hiT h (ids.take q)) lo hiT (k : Int) := by rw [htk, cutsH_snoc, hk]
          rw [hk] at g0
          have hlen := cutsH_len lo hiT (ids.take q) h
          obtain ⟨st, hst⟩ : ∃ st, cutsH lo hiT h (ids.take q) = st := ⟨_, rfl⟩
          rw [hst] at hhd hok hstep hlen
          have hkl : k < st.length := by omega
          have hok2 := (cutH_ok (lo := lo) (hi := hiT) hok (i := (k : Int)) (by omega) (by omega)).1
          rw [← hstep] at hok2
          have hle := (hdlens hok hkl).1
          obtain ⟨pr, hin, hf⟩ := hhd
          obtain ⟨P, cc, _, hcc, x0, _, _, hall⟩ := hin.cells
          obtain ⟨bp, rfl, hbp, hptr⟩ := hall (by omega)
          have p0 := hptr k hkl
          obtain ⟨L, lc, Q, sc, _, hsm, _, hsc, _, s1, _, _⟩ := hin.series hkl
          obtain ⟨g, hg⟩ : ∃ g, pr.fb k = g := ⟨_, rfl⟩
          rw [hg] at p0 s1
          have hO := hin.smps k hkl
          rw [hsm] at hO
          have HC := Lib.hid (hdel_own hL hH hO (by omega))
          have HROWS := Lib.hid (fun w5 hK => cut_rows (w5 := w5) hin hkl hsm hK)
          have HCF := Lib.hid (fun w5 c' hO hK hc => cut_fin (w5 := w5) (c' := c') (lo := lo) (hi := hiT) hin hf hkl hg hsm hO hK hc)
          have hfl := List.length_filter_le (outB lo hiT) (st.getD k ser0).2
          have hcnt := cntS_set (h := st) (i := k) ((st.getD k ser0).1, (st.getD k ser0).2.filter (outB lo hiT)) hkl
          have hall6 := hok.all
          rw [hg, hsm] at HROWS
          rw [← hstep] at HCF
          obtain ⟨sm, hsm2⟩ : ∃ sm, (st.getD k ser0).2 = sm := ⟨_, rfl⟩
          have e4 : (st.getD k ([], [])).2.length = (st.getD k ser0).2.length := rfl
          simp only [e4] at hcnt
          rw [hsm2] at HC HROWS HCF s1 hfl hcnt hle hsc
          obtain ⟨m0, hm0⟩ : ∃ m0, (sm.filter (outB lo hiT)).length = m0 := ⟨_, rfl⟩
          obtain ⟨n0, hn0⟩ : ∃ n0, sm.length = n0 := ⟨_, rfl⟩
          rw [hm0] at HC HCF hfl hcnt
          rw [hn0] at HC HROWS HCF s1 hfl hcnt hle hsc
          obtain ⟨C, hC⟩ : ∃ C, cntS st = C := ⟨_, rfl⟩
          rw [hC] at HROWS HCF hcnt hall6
          have w1 : IntKind.i64.wrap ((n0 : Int) - (m0 : Int)) = (n0 : Int) - (m0 : Int) := by
            rw [show ((n0 : Int) - (m0 : Int)) = ((n0 - m0 : Nat) : Int) by omega]
            exact IntWalk.i64_in _ (by omega)
          have w2 : IntKind.i64.wrap ((C : Int) - ((n0 : Int) - (m0 : Int))) = (C : Int) - ((n0 : Int) - (m0 : Int)) := by
            rw [show ((C : Int) - ((n0 : Int) - (m0 : Int))) = ((C - (n0 - m0) : Nat) : Int) by omega]
            exact IntWalk.i64_in _ (by omega)
          have e1 : (k : Int) < (h.length : Int) := by omega
          rw [hlen] at x0 hcc
          unfold hdelF at HC
          have HOK2 := Lib.hid hok2
          have HLQ := Lib.hid hlq
          have HL := Lib.hid hL
          have HH := Lib.hid hH
          have HKP2 := Lib.hid hkp
          have HSZ2 := Lib.hid hsz
          generalize h.length = hl at *
          clear hL hH hok hkp hsz hbl mv hmem htk h0 h1 hk hstep hlen hst hok2 hin hf hall hptr hsm hO hcnt hall6 hsm2 hm0 hn0 hC hnT e4 HHD HKP HSZ HL0 HH0
          go_wp2_with (go_at_call 54; refine HC.out.mono ?_; rintro e w5 ⟨rfl, ho5, hk5⟩; have hr5 := HROWS.out _ hk5; have d1 : w5.cell? ⟨g, 1, none⟩ = some (.slice Q n0 sc) := hr5.2.cell 1; have f1 := hr5.2.frozen 1; have hr6 := hr5.2.setAt 1 (.slice Q m0 sc); have d2 : (w5.setCell ⟨g, 1, none⟩ (.slice Q m0 sc)).cell? ⟨g, 1, none⟩ = some (.slice Q m0 sc) := hr6.cell 1; have hx6 := hr5.1.setFar (p := ⟨g, 1, none⟩) (row_far hr5.1 hr5.2 (by decide)) (.slice Q m0 sc); have d3 : (w5.setCell ⟨g, 1, none⟩ (.slice Q m0 sc)).cell? ⟨X, 2, none⟩ = some (.int .i64 (C : Int)) := hx6.cell 2; have f3 := hx6.frozen 2; have HO5 := Lib.hid ho5; have HK5 := Lib.hid hk5; clear ho5 hk5 hr5 hr6 hx6)
          go_region
          go_wp2_with fail
          go_roundw
          case rel =>
            have hfin := HCF.out w5 _ HO5.out HK5.out rfl
            have hkk : Kept T w ((w5.setCell ⟨g, 1, none⟩ (.slice Q m0 sc)).setCell ⟨X, 2, none⟩ (.int .i64 ((C : Int) - ((n0 : Int) - (m0 : Int))))) := HKP2.out.trans hfin.2 fun i hi => .inl hi
            exact ⟨q + 1, HLQ.out, by go_num, (row_move HL.out (hfin.2.block _ HL.out.lt (HT0.out _ (by omega) (by omega)))).drew, (row_move HH.out (hfin.2.block _ HH.out.lt (HT0.out _ (by omega) (by omega)))).drew, hfin.1.drew, HOK2.out, hkk.drew, Nat.le_trans HSZ2.out hfin.2.size⟩
          case measure => simp [intOf]; omega
        · have i3 : decide ((q : Int) < (n : Int)) = false := decide_eq_false (by omega)
          have i4 : ¬ (q : Int) < (n : Int) := by omega
          have hqe : ids.take q = ids := List.take_of_length_le (by rw [HN.out]; omega)
          rw [hqe] at hhd
          have HAF := Lib.hid (HFIN.out _ _ hhd hkp)
          clear hL hH hhd hok hkp hsz hqe
          go_wp2_with fail
          go_ret
          exact ⟨rfl, HAF.out⟩
end
end Go.Proofs.Ytpcjnagdanmdpaa
