/- What one matcher finds in an index, and what matchers find together. -/
import Derived.Test.YtojlcipphnegaaaGreatIxFind
import Derived.Test.YtojlcipphnegaaaGreatIxSort
import Derived.Test.YtojlcipphnegaaaGreatIxBytes
import Derived.Deep.RegionHeld3
import Derived.Deep.Cut
namespace Go.Proofs.YtojlcipphnegaaaGreat
open Go.RowKit Go.Maps
set_option linter.unusedVariables false
set_option maxRecDepth 100000

theorem asked_len (ss : List (List Lbl)) (m : Mt) : (askedL ss m).length ≤ ss.length + 1 := by
  unfold askedL
  split
  · simp
  · have := values_len ss m.2.1
    omega
theorem other_len (ss : List (List Lbl)) (m : Mt) (vs : List ByteArray) : (otherL ss m vs).length ≤ vs.length * ss.length := by
  unfold otherL
  induction vs with
  | nil => simp
  | cons v vs ih =>
    rw [List.flatMap_cons, List.length_append, List.length_cons, Nat.succ_mul]
    have : (if oddV m v = true then idsK ss ss.length (m.2.1, v) else []).length ≤ ss.length := by
      split
      · exact idsK_len _ _ _
      · simp
    omega
theorem other_next (ss : List (List Lbl)) (m : Mt) (vs : List ByteArray) {j : Nat} (h : j < vs.length) : otherL ss m (vs.take (j + 1)) = otherL ss m (vs.take j) ++ (if oddV m (vs.getD j txt0) = true then idsK ss ss.length (m.2.1, vs.getD j txt0) else []) := by
  unfold otherL
  rw [take_next h, List.flatMap_append, List.flatMap_cons, List.flatMap_nil, List.append_nil]
/-- append of a list of numbers to a row of its own, where a region draws its order. -/
theorem step_app_zs {w : World} {ops : Array Oper} {o : Oper} {a : Act} {K : Act → World → Prop} {Q : Exit → Act → World → Prop} {E : Prop} (hgd : o.guard = none) (s y : Operand)
    (ho : o.op = .call { callee := .builtin .append, args := #[s, y], argTypes := #[39, 39] })
    (base : Nat) (v : Value) (x : List Int) (hs : a.eval s = v) (hown : OwnZ w base v x) (A : Option Addr) (l : List Int) (c : Nat) (hy : a.eval y = .slice A l.length c) (hA : Zi w A l) (hn : (x.length + l.length) * 8 ≤ 140737488355328) (hbase : base ≤ w.heap.size)
    (h : ∀ v' w', OwnZ w' base v' (x ++ l) → Below base w w' → w.grownBy w' v.ownBlock → K (a.put o.dst v') w') :
    if Region.wanted o (yielded ops a.tmps) = true then Oper.wp Tryz.prog o a w K Q else E := by
  obtain ⟨i0, hi, hz0, hz1, hz2⟩ := info_parts zint_info
  refine step_app_at hgd s y 39 ho base 3 i0 _ 1 8 Tryz.underlying39 hi hz0 hz1 hz2 rfl (by omega) v x.length (x.flatMap intE) hs hown A l.length c (l.flatMap intE) hy (flat_len intE 1 intE_len l) hA (int_one l)
    (by simp only [maxLen]; omega) hn hbase ?_
  intro v' w' h1 h2 h3
  refine h v' w' ?_ h2 h3
  unfold OwnZ
  rw [List.flatMap_append, List.length_append]
  exact h1
theorem zi_of {w : World} {base n c : Nat} {P : Option Addr} {l : List Int} (h : OwnZ w base (.slice P n c) l) : Zi w P l := by
  obtain ⟨P', c', e, _, hT, _⟩ := ownz_slice h
  obtain ⟨rfl, _, _⟩ := Value.slice.inj e
  exact hT
def FitTold (w : World) (zs : List Int) (e : Ending) (w' : World) : Prop := ∃ v, e = .returned v ∧ OwnZ w' w.heap.size v zs ∧ Below w.heap.size w w'
set_option maxHeartbeats 4000000 in
theorem fitted_prog (X : Nat) (ss : List (List Lbl)) (base : Nat) (k : Int) (n v : ByteArray) (w : World) (hI : IdxAt w base X ss) (hr : ixChk ss = 0) (hn : n.size ≤ maxLen) (hv : v.size ≤ maxLen) :
    Calls Tryz.prog 39 #[.pointer (some ⟨X, 0, none⟩), .agg #[.int .i64 k, .string n, .string v]] w (FitTold w (findL ss [(k, n, v)])) := by
  obtain ⟨h256, _, hrr⟩ := ixChk_right hr
  have hB1 := below_one w (.cells #[.int .i64 k, .string n, .string v] 54)
  have hR := Row.new w 54 #[.int .i64 k, .string n, .string v]
  have hI1 := hI.below hB1
  have m0 := hR.cell 0
  have m1 := hR.cell 1
  have m2 := hR.cell 2
  have HF0 := Lib.hid (mfits_prog k n v none [] 0 (w.alloc (.cells #[.int .i64 k, .string n, .string v] 54)) (Lbls.nil _ _) (by simp))
  have HB1 := Lib.hid hB1
  have HR1 := Lib.hid hR
  have HI := Lib.hid (fun (x : World) (h : Below w.heap.size w x) => hI.below h)
  have HSZV := Lib.hid (fun s (hs : s ∈ askedL ss (k, n, v)) => (show s.size ≤ maxLen from by
    unfold askedL at hs
    split at hs
    · rw [List.mem_singleton.1 hs]; exact hv
    · obtain ⟨_, l, hl, e⟩ := (values_mem ss n s).1 hs
      have hne : (valOf l n).size ≠ 0 := by rw [e]; assumption
      have := label_sizes (hrr l hl) (valOf_in hne)
      rw [e] at this
      simp only at this
      simp only [maxLen]
      omega))
  have HSORT := Lib.hid (fun (zs : List Int) (h1 : zs.Perm (otherL ss (k, n, v) (askedL ss (k, n, v)))) (h2 : zs.Pairwise (· ≤ ·)) => other_sorted hrr (k, n, v) h1 h2)
  have HODD := Lib.hid (odd_right (ss := ss) h256 (k, n, v))
  have HALLR := Lib.hid (all_right (n := ss.length) h256)
  have HOF := Lib.hid (fun h => odd_find (ss := ss) (k, n, v) h)
  have HLF := Lib.hid (fun h => less_find (ss := ss) h256 (k, n, v) h)
  have HAL := Lib.hid (asked_len ss (k, n, v))
  have HOL := Lib.hid (other_len ss (k, n, v))
  have HON := Lib.hid (fun j h => other_next ss (k, n, v) (askedL ss (k, n, v)) (j := j) h)
  have HIDS := Lib.hid (fun p => ids_all hrr p ss.length (Nat.le_refl _))
  have HRC := Lib.hid hr
  have H256 := Lib.hid h256
  clear hI hI1 hB1 hR hr hrr hv
  cases hE : mfits (k, n, v) []
  all_goals
    rw [hE] at HF0
    have HE := Lib.hid hE
    clear hE
    go_enter Tryz.func39, Tryz.ntmps39
    go_upto_region 3 with (first | (go_at_call 67; refine HF0.out.mono ?_; rintro e w2 ⟨rfl, hb2⟩; have HB2 := Lib.hid hb2; clear hb2))
    have hR2 := HR1.out.below HB2.out HR1.out.lt
    have HR2 := Lib.hid hR2
    have HBB2 := Lib.hid (below_then HB1.out HB2.out)
    have HAS := Lib.hid (asked_prog X ss base k n v w2 (HI.out _ HBB2.out) HRC.out)
    have q0 := hR2.cell 0
    have q1 := hR2.cell 1
    have q2 := hR2.cell 2
    clear m0 m1 m2 hR2 HF0 HR1 HB1 HB2
    obtain ⟨B, hB⟩ : ∃ B, w.heap.size = B := ⟨_, rfl⟩
    have HBEQ := Lib.hid hB
    rw [hB] at HR2 HBB2 q0 q1 q2
    try rw [hB]
    clear hB
    have hbz2 : B ≤ w2.heap.size := by have := HBB2.out.size; have := HBEQ.out; omega
    go_wp2_with (first | (go_at_call 68; refine HAS.out.mono ?_; rintro e w3 ⟨v3, rfl, ho3, hb3⟩; obtain ⟨P3, c3, hv3, hc3, _, _⟩ := owntx_slice ho3; subst hv3; have HO3 := Lib.hid (rows_lower ho3 hbz2); have HB3 := Lib.hid hb3; clear ho3 hb3))
    have HR3 := Lib.hid (HR2.out.below HB3.out HR2.out.lt)
    have HBB3 := Lib.hid (HBB2.out.trans (HB3.out.mono hbz2))
    clear q0 q1 q2 HAS HR2 HBB2 HB3
    obtain ⟨vs, hvs⟩ : ∃ vs, askedL ss (k, n, v) = vs := ⟨_, rfl⟩
    rw [hvs] at HO3 HSZV HSORT HAL HON hc3
    try rw [hvs]
    clear hvs
    go_loopw [6, 17] (fun u i wr => ∃ j : Nat, j ≤ vs.length ∧ i = .int .i64 (j : Int) ∧ OwnZ wr B u (otherL ss (k, n, v) (vs.take j)) ∧ OwnTx wr B (.slice P3 vs.length c3) vs ∧ Row wr B 54 #[.int .i64 k, .string n, .string v] ∧ Below B w wr) (fun _ i _ => vs.length - (intOf i).toNat)
    case atStart => exact ⟨0, Nat.zero_le _, rfl, ownz_nil _ _, HO3.out, HR3.out, HBB3.out⟩
    case round =>
      obtain ⟨j, hj, rfl, hO, hT, hR, hB⟩ := hrel
      have HO := Lib.hid hO
      have HT := Lib.hid hT
      have HRW := Lib.hid hR
      have HB := Lib.hid hB
      have hbz : B ≤ wr.heap.size := by have := hB.size; have := HBEQ.out; omega
      have hvl : vs.length ≤ 257 := by have := HAL.out; have := H256.out; omega
      by_cases hlt : j < vs.length
      · obtain ⟨b1, o1, rfl, hb1, g0⟩ := (owntx_tx hT).at_ hlt
        have i1 : (j : Int) < (vs.length : Int) := by omega
        have hms : vs.getD j txt0 ∈ vs := by rw [getD_at hlt]; exact List.getElem_mem hlt
        have HNX := Lib.hid (HON.out j hlt)
        have HSZ := Lib.hid (HSZV.out _ hms)
        have q0 := hR.cell 0
        have q1 := hR.cell 1
        have q2 := hR.cell 2
        have HLO := Lib.hid (show (otherL ss (k, n, v) (vs.take j)).length ≤ 70000 from by
          have h1 := HOL.out (vs.take j)
          rw [List.length_take] at h1
          have h2 := HAL.out
          have h3 := H256.out
          have h4 : min j vs.length * ss.length ≤ 257 * 256 := Nat.mul_le_mul (by omega) h3
          omega)
        generalize vs.getD j txt0 = s at *
        have hA4 := below_one wr (.cells #[.string n, .string s] 35)
        have HF := Lib.hid (mfits_prog k n v (some ⟨wr.heap.size, 0, none⟩) [(n, s)] 1 (wr.alloc (.cells #[.string n, .string s] 35)) (lbls_cell (Row.new wr _ _)) (by simp))
        have HA4 := Lib.hid hA4
        clear hO hT hR hB hms hA4
        cases hF : mfits (k, n, v) [(n, s)]
        all_goals
          rw [hF] at HF
          first
            | (have hd : oddV (k, n, v) s = false := by
                show (mfits (k, n, v) [(n, s)] != mfits (k, n, v) []) = false
                rw [hF, HE.out]
                rfl
               have HN2 : Hid (otherL ss (k, n, v) (vs.take (j + 1)) = otherL ss (k, n, v) (vs.take j)) := Lib.hid (by rw [HNX.out, if_neg (by rw [hd]; simp), List.append_nil])
               clear hd hF
               go_wp2_with (first | (go_at_call 67; refine HF.out.mono ?_; rintro e w5 ⟨rfl, hb5⟩; have HB5 := Lib.hid (HA4.out.trans (hb5.mono HA4.out.size)); clear hb5))
               go_roundw
               case rel => exact ⟨j + 1, hlt, by go_num, by rw [HN2.out]; exact rows_below HO.out HB5.out, rows_below HT.out HB5.out, HRW.out.below HB5.out HRW.out.lt, HB.out.trans (HB5.out.mono hbz)⟩
               case measure => simp [intOf]; omega)
            | (have hd : oddV (k, n, v) s = true := by
                show (mfits (k, n, v) [(n, s)] != mfits (k, n, v) []) = true
                rw [hF, HE.out]
                rfl
               have HN2 : Hid (otherL ss (k, n, v) (vs.take (j + 1)) = otherL ss (k, n, v) (vs.take j) ++ idsK ss ss.length (n, s)) := Lib.hid (by rw [HNX.out, if_pos hd])
               clear hd hF
               go_upto_region 7 with (first | (go_at_call 67; refine HF.out.mono ?_; rintro e w5 ⟨rfl, hb5⟩; have HB5 := Lib.hid (HA4.out.trans (hb5.mono HA4.out.size)); clear hb5))
               have HBW5 := Lib.hid (HB.out.trans (HB5.out.mono hbz))
               obtain ⟨_, vX, M, _, hX5, _, hP5⟩ := HI.out w5 (by rw [HBEQ.out]; exact HBW5.out)
               obtain ⟨lv, hrun, hlo⟩ := post_look (show PostAt w5.drew base M (evsAt ss ss.length 0) from hP5) (show Sz (n, s) from ⟨hn, HSZ.out⟩)
               rw [HIDS.out] at hlo
               obtain ⟨PL, cL, hlv, _, hZL, _⟩ := ownz_slice hlo
               subst hlv
               have hrun2 : (Instr.lookup 65 (.map (some M)) (.agg #[.string n, .string s]) false).run Tryz.prog w5.drew = .ok (.slice PL (idsK ss ss.length (n, s)).length cL) w5.drew := hrun
               have HR5 := Lib.hid (show Row w5.drew B 54 #[.int .i64 k, .string n, .string v] from HRW.out.below HB5.out.drew HRW.out.lt)
               have HX5 := Lib.hid (show Row w5.drew X 67 #[vX, .map (some M)] from hX5)
               have HO5 : Hid (OwnZ w5.drew B u6 (otherL ss (k, n, v) (vs.take j))) := Lib.hid (rows_below HO.out HB5.out.drew)
               have HT5 : Hid (OwnTx w5.drew B (.slice (some ⟨b1, o1, none⟩) vs.length c3) vs) := Lib.hid (rows_below HT.out HB5.out.drew)
               have HZL := Lib.hid hZL
               have hbz5 : B ≤ w5.drew.heap.size := Nat.le_trans hbz HB5.out.size
               have HIL := Lib.hid (idsK_len ss ss.length (n, s))
               have sD : w5.drew.cell? ⟨X, 1, none⟩ = some (.map (some M)) ∧ w5.drew.cell? ⟨B, 1, none⟩ = some (.string n) := ⟨(HX5.out.cell 1).trans rfl, (HR5.out.cell 1).trans rfl⟩
               clear hrun hlo hZL hX5 hP5 g0 q0 q1 q2
               generalize idsK ss ss.length (n, s) = il at *
               go_region_held3 (fun w' => w'.cell? ⟨X, 1, none⟩ = some (.map (some M)) ∧ w'.cell? ⟨B, 1, none⟩ = some (.string n))
                 (first | with_reducible assumption | go_keep)
                 (first
                   | (refine step_app_zs rfl (.tmp 30) (.tmp 39) rfl B u6 _ rfl HO5.out PL il cL rfl HZL.out (by have := HLO.out; have := HIL.out; have := H256.out; omega) hbz5 ?_
                      intro v6 w6 ho6 hb6 hg6
                      have hiX : ∀ q, u6.ownBlock = some q → ∃ cs, Row w5.drew q 3 cs := fun q hq => ownz_block HO5.out hq
                      have hX6 : Row w6 X 67 #[vX, .map (some M)] := grown_row HX5.out hg6 (fun e => by obtain ⟨cs, hc⟩ := hiX _ e.symm; exact absurd (row_kind hc HX5.out) (by decide))
                      have hR6 : Row w6 B 54 #[.int .i64 k, .string n, .string v] := grown_row HR5.out hg6 (fun e => by obtain ⟨cs, hc⟩ := hiX _ e.symm; exact absurd (row_kind hc HR5.out) (by decide))
                      have HR6 := Lib.hid hR6
                      have HT6 : Hid (OwnTx w6 B (.slice (some ⟨b1, o1, none⟩) vs.length c3) vs) := Lib.hid (rows_move HT5.out fun q hq => hg6.block q (World.ownsRow.lt HT5.out q hq).2 (fun e => by
                        obtain ⟨cs, hc⟩ := hiX _ e.symm
                        obtain ⟨cs', hc'⟩ := rows_block HT5.out hq
                        exact absurd (row_kind hc hc') (by decide)))
                      have HO6 := Lib.hid ho6
                      have HB6 := Lib.hid ((HBW5.out.drew).trans hb6)
                      have s6 : w6.cell? ⟨X, 1, none⟩ = some (.map (some M)) ∧ w6.cell? ⟨B, 1, none⟩ = some (.string n) := ⟨(hX6.cell 1).trans rfl, (hR6.cell 1).trans rfl⟩
                      clear ho6 hb6 hg6 hiX hX6 hR6))
               all_goals
                 go_wp2_with fail
                 go_roundw
                 case rel => exact ⟨j + 1, hlt, by go_num, by rw [HN2.out]; exact HO6.out, HT6.out, HR6.out, HB6.out⟩
                 case measure => simp [intOf]; omega)
      · obtain rfl : j = vs.length := by omega
        rw [List.take_length] at HO
        have HSO := Lib.hid (sort_i HO.out (by
          have h1 := HOL.out vs
          have h2 := HAL.out
          have h3 := H256.out
          have h4 : vs.length * ss.length ≤ 257 * 256 := Nat.mul_le_mul (by omega) h3
          omega))
        have HOB := Lib.hid (fun q hq => (World.ownsRow.lt HO.out q hq).1)
        clear hO hT hR hB
        first
          | (have he : mfits (k, n, v) [] = false := by rw [HE.out]
             have HFIN := Lib.hid (HOF.out he)
             clear he
             go_wp2_with (first | (go_at_call 69; refine HSO.out.mono ?_; rintro e w7 ⟨rfl, us, ho7, hp7, hs7, hg7⟩; have HO7 := Lib.hid ho7; have HP7 := Lib.hid hp7; have HS7 := Lib.hid hs7; have HG7 := Lib.hid hg7; clear ho7 hp7 hs7 hg7))
             go_ret
             have e1 := HSORT.out _ HP7.out HS7.out
             refine ⟨_, rfl, ?_, by rw [HBEQ.out]; exact HB.out.grown HG7.out hbz (fun q hq => HOB.out q hq)⟩
             rw [HBEQ.out, ← HFIN.out, ← e1]
             exact HO7.out)
          | (have he : mfits (k, n, v) [] = true := by rw [HE.out]
             have HFIN := Lib.hid (HLF.out he)
             clear he
             go_upto_region 10 with (first | (go_at_call 69; refine HSO.out.mono ?_; rintro e w7 ⟨rfl, us, ho7, hp7, hs7, hg7⟩; have HO7 := Lib.hid ho7; have HP7 := Lib.hid hp7; have HS7 := Lib.hid hs7; have HG7 := Lib.hid hg7; clear ho7 hp7 hs7 hg7))
             have HB7 := Lib.hid (HB.out.grown HG7.out hbz (fun q hq => HOB.out q hq))
             have e1 := HSORT.out _ HP7.out HS7.out
             rw [e1] at HO7
             have hbz7 : B ≤ w7.heap.size := Nat.le_trans hbz HG7.out.size
             have HID := Lib.hid (ids_prog X ss base w7 (HI.out _ (by rw [HBEQ.out]; exact HB7.out)) H256.out)
             obtain ⟨PO, cO, hvO, hcO, _, _⟩ := ownz_slice HO7.out
             have HOL7 := Lib.hid (odd_len ss (k, n, v))
             obtain ⟨od, hod⟩ : ∃ od, oddL ss (k, n, v) = od := ⟨_, rfl⟩
             rw [hod] at HO7 HODD HFIN HOL7 hvO hcO
             have HALL := Lib.hid (show (allIds ss.length).length ≤ 256 from by unfold allIds; rw [List.length_map, List.length_range]; exact H256.out)
             obtain ⟨al, hal⟩ : ∃ al, allIds ss.length = al := ⟨_, rfl⟩
             rw [hal] at HID HALLR HFIN HALL
             clear e1 hod HSO hal
             subst hvO
             go_wp2_with (first
               | (go_at_call 71; refine HID.out.mono ?_; rintro e w8 ⟨v8, rfl, ho8, hb8⟩; obtain ⟨P8, c8, hv8, hc8, hZ8, _⟩ := ownz_slice ho8; subst hv8; have HZ8 := Lib.hid hZ8; have HB8 := Lib.hid hb8; have HO8 := Lib.hid (ownz_below HO7.out hb8); clear ho8 hZ8 hb8)
               | (go_at_call 70; refine (less_all P8 PO al od c8 cO w8 HZ8.out (zi_of HO8.out) (by have := HALL.out; omega) (by have := HOL7.out; have := H256.out; omega) hc8 hcO).mono ?_; rintro e w9 ⟨v9, rfl, ho9, hb9⟩; have HO9 := Lib.hid ho9; have HB9 := Lib.hid hb9; clear ho9 hb9))
             go_ret
             have e2 : refE al od = 0 := by unfold refE; rw [if_pos HALLR.out]; exact HODD.out
             have e3 : leV al od = lessL al od := if_pos e2
             have hO9 := HO9.out
             rw [e3, HFIN.out] at hO9
             have hbz8 : B ≤ w8.heap.size := Nat.le_trans hbz7 HB8.out.size
             exact ⟨_, rfl, by rw [HBEQ.out]; exact ownz_lower hO9 hbz8, by rw [HBEQ.out]; exact (HB7.out.trans (HB8.out.mono hbz7)).trans (HB9.out.mono hbz8)⟩)
end Go.Proofs.YtojlcipphnegaaaGreat
