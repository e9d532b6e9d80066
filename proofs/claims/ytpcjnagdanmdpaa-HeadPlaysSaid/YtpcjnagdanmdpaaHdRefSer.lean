/- The document's Series: those series that have a sample, in order of their labels. -/
import Derived.Test.YtpcjnagdanmdpaaHdLotS
namespace Go.Proofs.Ytpcjnagdanmdpaa
open Go.RowKit Go.Maps
open Ch
set_option linter.unusedVariables false
set_option linter.unusedSimpArgs false
set_option maxRecDepth 100000
theorem hplace_at (s : Ser) : ∀ (l : List Ser) (j : Nat), j ≤ l.length → (∀ i, i < j → cmpLs (l.getD i ser0).1 s.1 < 0) → (j = l.length ∨ ¬ cmpLs (l.getD j ser0).1 s.1 < 0) → placeH s l = l.take j ++ [s] ++ l.drop j := by
  intro l
  induction l with
  | nil => intro j hj _ _; obtain rfl : j = 0 := by simpa using hj
           rfl
  | cons a r ih =>
    intro j hj h1 h2
    unfold placeH
    cases j with
    | zero =>
      rcases h2 with h2 | h2
      · simp at h2
      · rw [if_neg (by simpa using h2)]
        rfl
    | succ j =>
      rw [if_pos (by simpa using h1 0 (by omega)), ih j (by simpa using hj) (fun i hi => by simpa using h1 (i + 1) (by omega)) (h2.imp (fun e => by simpa using e) (fun e => by simpa using e))]
      rfl
theorem hseriesF_step (out : List Ser) {S : List Ser} {k : Nat} (hk : k < S.length) : seriesF out (S.drop k) = if (S.getD k ser0).2.length = 0 then seriesF out (S.drop (k + 1)) else seriesF (placeH (S.getD k ser0) out) (S.drop (k + 1)) := by
  have e : S.getD k ser0 = S[k] := by simp [List.getD_eq_getElem?_getD, hk]
  rw [e, List.drop_eq_getElem_cons hk]
  rfl
/-- Parts of a row of series. -/
theorem hsers_take {w : World} {A : Option Addr} {qs : List SPl} (h : At w A (qs.flatMap spE)) (j : Nat) : At w A ((qs.take j).flatMap spE) := by
  have e : qs.flatMap spE = (qs.take j).flatMap spE ++ (qs.drop j).flatMap spE := by rw [← List.flatMap_append, List.take_append_drop]
  rcases h with h | ⟨b, o, rfl, hlt, hc⟩
  · rw [e] at h
    exact .inl (List.append_eq_nil_iff.1 h).1
  · rw [e] at hc
    refine .inr ⟨b, o, rfl, hlt, fun i u hi => hc i u ?_⟩
    rw [List.getElem?_append_left (List.getElem?_eq_some_iff.1 hi).1]
    exact hi
theorem hsers_drop {w : World} {A : Option Addr} {qs : List SPl} (h : At w A (qs.flatMap spE)) (j c : Nat) (hj : j ≤ qs.length) (hc : qs.length ≤ c) : At w (if c = j then A else A.map (·.add (j * 2))) ((qs.drop j).flatMap spE) := by
  have e : qs.flatMap spE = (qs.take j).flatMap spE ++ (qs.drop j).flatMap spE := by rw [← List.flatMap_append, List.take_append_drop]
  by_cases h0 : c = j
  · refine .inl ?_
    rw [List.drop_of_length_le (by omega)]
    rfl
  rw [if_neg h0]
  rcases h with h | ⟨b, o, rfl, hlt, hcell⟩
  · rw [e] at h
    exact .inl (List.append_eq_nil_iff.1 h).2
  · rw [e] at hcell
    refine .inr ⟨b, o + j * 2, ?_, hlt, fun i u hi => ?_⟩
    · show some (Addr.add ⟨b, o, none⟩ (j * 2)) = _
      rw [add_at]
    · have hl : ((qs.take j).flatMap spE).length = j * 2 := by rw [flat_len spE 2 spE_len, List.length_take, Nat.min_eq_left hj]
      have := hcell (j * 2 + i) u (by rw [List.getElem?_append_right (by omega), hl, show j * 2 + i - j * 2 = i by omega]; exact hi)
      rw [show o + j * 2 + i = o + (j * 2 + i) by omega]
      exact this
theorem hslice_h (W : World) (A : Option Addr) (n c j : Nat) (hj : j ≤ c) : (Instr.sliceAt 25 (.slice A n c) none (some (.int .i64 (j : Int))) none).run Try.prog W = .ok (.slice A j c) W := by
  have ht : Try.prog.underlying 25 = some (.slice (Try.prog.elem 25)) := by kernel_rfl
  have hs : (sizeOf (Try.prog.elem 25)).run Try.prog W = .ok 2 W := by kernel_rfl
  rw [run_sliceAt_slice W _ _ _ _ _ ht, run_slice_h W _ A n c ht .i64 (j : Int) (by omega) (by omega), hs]
  simp only [Result.andThen, sliced, Nat.zero_mul, Int.toNat_natCast, Nat.sub_zero]
  cases A with
  | none => simp
  | some ad => obtain ⟨b, o, e⟩ := ad; simp [Addr.add]
theorem hslice_l (W : World) (A : Option Addr) (n c j : Nat) (hj : j ≤ n) : (Instr.sliceAt 25 (.slice A n c) (some (.int .i64 (j : Int))) none none).run Try.prog W = .ok (.slice (if c = j then A else A.map (·.add (j * 2))) (n - j) (c - j)) W := by
  have ht : Try.prog.underlying 25 = some (.slice (Try.prog.elem 25)) := by kernel_rfl
  have hs : (sizeOf (Try.prog.elem 25)).run Try.prog W = .ok 2 W := by kernel_rfl
  rw [run_sliceAt_slice W _ _ _ _ _ ht, run_slice_l W _ A n c ht .i64 (j : Int) (by omega) (by omega), hs]
  simp only [Result.andThen, sliced, Int.toNat_natCast]
set_option maxHeartbeats 4000000 in
theorem refseries_prog (A : Option Addr) (S : List Ser) (c : Nat) (w : World) (hA : Sers w A S) (hl : S.length ≤ 1000) (hL : ∀ s ∈ S, s.1.length ≤ 1000000) :
    Calls Try.prog 33 #[.slice A S.length c] w fun e w' => ∃ B d, e = .returned (.slice B (seriesH S).length d) ∧ Sers w' B (seriesH S) ∧ Below w.heap.size w w' := by
  have HA := Lib.hid (fun (x : World) (hx : Below w.heap.size w x) => hA.below hx)
  have HLL := Lib.hid hL
  obtain ⟨n, hn⟩ : ∃ n, S.length = n := ⟨_, rfl⟩
  have HN := Lib.hid hn
  rw [hn] at hl ⊢
  clear hA hn hL
  go_enter Try.func33, Try.ntmps33
  go_wp2_with fail
  go_loopw [3, 4] (fun v i wr => ∃ (k : Nat) (qs : List SPl), k ≤ n ∧ i = .int .i64 (k : Int) ∧ wr.ownsRow w.heap.size 60 2 v qs.length (qs.flatMap spE) ∧ (∀ x ∈ qs, SerIn wr x ∧ x.1.1.length ≤ 1000000) ∧ qs.length ≤ k ∧ seriesF (qs.map (·.1)) (S.drop k) = seriesH S ∧ Below w.heap.size w wr) (fun _ i _ => n - (intOf i).toNat)
  case atStart => exact ⟨0, [], Nat.zero_le _, rfl, ⟨rfl, .inl ⟨rfl, rfl⟩⟩, (fun x hx => by cases hx), Nat.zero_le _, rfl, Below.refl _ _⟩
  case round =>
    obtain ⟨k, qs, hk, rfl, ho, hq, hqk, he, hbr⟩ := hrel
    have HB := Lib.hid hbr
    by_cases hlt : k < n
    · have i1 : decide ((k : Int) < (n : Int)) = true := decide_eq_true (by omega)
      have i2 : (k : Int) < (n : Int) := by omega
      have hkl : k < S.length := by rw [HN.out]; exact hlt
      obtain ⟨b, o, rfl, hb, hat⟩ := (HA.out wr hbr).all (by omega)
      obtain ⟨mm, g0, g1, hser⟩ := hat k hkl
      have hst := hseriesF_step (qs.map (·.1)) hkl
      have hsl := HLL.out _ (ser_at hkl)
      have HK := Lib.hid (show k + 1 ≤ n from hlt)
      generalize S.getD k ser0 = s at *
      obtain ⟨ls, ss⟩ := s
      dsimp only at g0 g1 hst hsl
      by_cases h0 : ss.length = 0
      · have HE := Lib.hid (show seriesF (qs.map (·.1)) (S.drop (k + 1)) = seriesH S by rw [← he, hst, if_pos h0])
        have d1 : decide (ss.length = 0) = true := decide_eq_true h0
        have d2 : ((ss.length : Int) == 0) = true := by rw [h0]; rfl
        have HO := Lib.hid ho
        have HQ := Lib.hid hq
        have HQK := Lib.hid hqk
        clear hat ho hq hqk he hst hbr h0 hser
        go_wp2_with fail
        go_roundw
        case rel => exact ⟨k + 1, qs, HK.out, by go_num, HO.out, HQ.out, Nat.le_succ_of_le HQK.out, HE.out, HB.out⟩
        case measure => simp [intOf]; omega
      · obtain ⟨wo, rfl⟩ : ∃ z, z = wr := ⟨_, rfl⟩
        have HE := Lib.hid (show seriesF (placeH (ls, ss) (qs.map (·.1))) (S.drop (k + 1)) = seriesH S by rw [← he, hst, if_neg h0])
        have d1 : decide (ss.length = 0) = false := decide_eq_false h0
        have d2 : ((ss.length : Int) == 0) = false := beq_eq_false_iff_ne.2 (by omega)
        have HPL := Lib.hid (fun j h1 h2 h3 => hplace_at (ls, ss) (qs.map (·.1)) j h1 h2 h3)
        have HCMP := Lib.hid (fun (x : World) P Q d f (l2 : List Lbl) (h1 : Lbls x P l2) (h2 : Lbls x Q ls) (h3 : l2.length ≤ 1000000) => compare_ref P Q l2 ls d f x h1 h2 (by omega) (by omega))
        obtain ⟨PV, dv, hv, hdv, hav, hpv⟩ := rows_slice ho
        subst hv
        have HSER := Lib.hid (fun (x : World) (hx : Below wo.heap.size wo x) => hser.below hx)
        have HQ := Lib.hid (fun (x : World) (hx : Below wo.heap.size wo x) y hy => (hq y hy).1.below hx)
        have HQL := Lib.hid (fun y hy => (hq y hy).2)
        have HAV := Lib.hid (fun (x : World) (hx : Below wo.heap.size wo x) => At.below hav hx)
        have HQK := Lib.hid hqk
        have HSL := Lib.hid hsl
        have HBL := Lib.hid hb
        obtain ⟨nq, hnq⟩ : ∃ nq, qs.length = nq := ⟨_, rfl⟩
        have HNQ := Lib.hid hnq
        rw [hnq] at hdv ⊢
        have HG := Lib.hid (fun (x : World) (hx : Below wo.heap.size wo x) => And.intro ((hx.cell (p := ⟨b, o + k * 2, none⟩) hb).trans g0) ((hx.cell (p := ⟨b, o + k * 2 + 1, none⟩) hb).trans g1))
        clear hat ho hq hqk he hst hbr h0 hser hav hpv hnq
        have HSQ := Lib.hid (show Sers wo PV (qs.map (·.1)) from ⟨qs, rfl, HAV.out _ (Below.refl _ _), fun x hx => HQ.out _ (Below.refl _ _) x hx⟩)
        have hql : (qs.map (·.1)).length = nq := by rw [List.length_map]; exact HNQ.out
        have HQM := Lib.hid hql
        have hnk : nq ≤ 1000 := by have := HQK.out; have := HNQ.out; omega
        clear hql
        go_upto_region 6 with fail
        go_wp2_with fail
        go_loopw [5] (fun i wi => ∃ j : Nat, j ≤ nq ∧ i = .int .i64 (j : Int) ∧ (∀ t, t < j → cmpLs ((qs.map (·.1)).getD t ser0).1 ls < 0) ∧ Below wo.heap.size wo wi) (fun i _ => nq - (intOf i).toNat)
        case atStart => exact ⟨0, Nat.zero_le _, rfl, fun t ht => absurd ht (Nat.not_lt_zero t), Below.refl _ _⟩
        case round =>
          obtain ⟨j, hj, rfl, hlow, hbi⟩ := hrel
          have HBI := Lib.hid hbi
          have HLOW := Lib.hid hlow
          have hcs : (j < nq ∧ cmpLs ((qs.map (·.1)).getD j ser0).1 ls < 0) ∨ j = nq ∨ (j < nq ∧ ¬ cmpLs ((qs.map (·.1)).getD j ser0).1 ls < 0) := by omega
          obtain ⟨g0, g1⟩ := HG.out _ hbi
          have j3 : (k : Int) < (n : Int) := i2
          clear hbi hlow
          rcases hcs with ⟨hjn, hE⟩ | hjn | ⟨hjn, hE⟩
          · have p1 : decide ((j : Int) < (nq : Int)) = true := decide_eq_true (by omega)
            have p2 : (j : Int) < (nq : Int) := by omega
            obtain ⟨pb, po, hPV, hpl, hat2⟩ := (HSQ.out.below HBI.out).all (by rw [HQM.out]; omega)
            subst hPV
            obtain ⟨m2, q0, q1, hs2⟩ := hat2 j (by rw [HQM.out]; exact hjn)
            have HLOW2 := Lib.hid (show ∀ t, t < j + 1 → cmpLs ((qs.map (·.1)).getD t ser0).1 ls < 0 from fun t ht => by
              rcases Nat.lt_or_ge t j with h1 | h1
              · exact HLOW.out t h1
              · obtain rfl : t = j := by omega
                exact hE)
            have hql : ((qs.map (·.1)).getD j ser0).1.length ≤ 1000000 := by
              have hm := ser_at (S := qs.map (·.1)) (i := j) (by rw [HQM.out]; exact hjn)
              obtain ⟨y, hy, e⟩ := List.mem_map.1 hm
              rw [← e]
              exact HQL.out y hy
            have HJN := Lib.hid (show j + 1 ≤ nq from hjn)
            have HC := Lib.hid (HCMP.out wr.drew m2.la mm.la m2.lc mm.lc _ (hs2.labels.below (Below.refl _ _).drew) ((HSER.out _ HBI.out).labels.below (Below.refl _ _).drew) hql)
            have e1 : decide (cmpLs ((qs.map (·.1)).getD j ser0).1 ls < 0) = true := decide_eq_true hE
            generalize ((qs.map (·.1)).getD j ser0).1.length = ln at *
            generalize cmpLs ((qs.map (·.1)).getD j ser0).1 ls = E at *
            clear hat2 hql hs2
            go_upto_region 7 with fail
            go_region_held3 (fun w' => w'.cell? ⟨pb, po + j * 2, none⟩ = some (.slice m2.la ln m2.lc) ∧ w'.cell? ⟨b, o + k * 2, none⟩ = some (.slice mm.la ls.length mm.lc))
              (first | with_reducible assumption | go_keep)
              (first
                | (go_at_call 59
                   refine HC.out.mono ?_
                   rintro e w6 ⟨rfl, hb6⟩
                   have hb6' : Below wr.heap.size wr w6 := (Below.refl _ _).drew.trans hb6
                   have k2 := (hb6'.cell (p := ⟨pb, po + j * 2, none⟩) hpl).trans q0
                   have k3 := (HG.out _ (HBI.out.trans (hb6'.mono HBI.out.size))).1
                   have HB6 := Lib.hid (HBI.out.trans (hb6'.mono HBI.out.size))
                   clear hb6 hb6'))
            go_wp2_with fail
            go_roundw
            case rel => exact ⟨j + 1, HJN.out, by go_num, HLOW2.out, HB6.out⟩
            case measure => simp [intOf]; omega
          · have p1 : decide ((j : Int) < (nq : Int)) = false := decide_eq_false (by omega)
            subst hjn
            clear g0 g1
            go_upto_region 7 with fail
            go_region
            go_upto_region 9 with fail
            have HBZ := Lib.hid (show Below wo.heap.size wo wr.drew from HBI.out.drew)
            have HSTOP := Lib.hid (show j = (qs.map (·.1)).length ∨ 0 ≤ cmpLs ((qs.map (·.1)).getD j ser0).1 ls from .inl HQM.out.symm)
            have HPQ := Lib.hid (show (qs.take j ++ [(((ls, ss), mm) : SPl)] ++ qs.drop j).map (·.1) = placeH (ls, ss) (qs.map (·.1)) by
              rw [HPL.out j (by rw [HQM.out]; omega) HLOW.out HSTOP.out]
              simp [List.map_take, List.map_drop])
            obtain ⟨wz, hwz⟩ : ∃ z, wr.drew = z := ⟨_, rfl⟩
            rw [hwz] at HBZ ⊢
            clear hwz
            -- TAIL B
            have HBW := Lib.hid (HB.out.trans (HBZ.out.mono HB.out.size))
            have HO9 := Lib.hid (show (wz.alloc (.cells #[] 60)).ownsRow wz.heap.size 60 2 (.slice (some ⟨wz.heap.size, 0, none⟩) 0 0) ([] : List SPl).length (([] : List SPl).flatMap spE) from ⟨rfl, .inr ⟨wz.heap.size, 0, #[], rfl, Nat.le_refl _, Row.new wz _ _, Nat.le_refl _, by simp [maxLen], by simp, by simp⟩⟩)
            have htk : (qs.take j).length = j := by rw [List.length_take, HNQ.out]; omega
            have hdr : (qs.drop j).length = j - j := by rw [List.length_drop, HNQ.out]
            obtain ⟨PD, hPD⟩ : ∃ P, (if dv = j then PV else (PV : Option Addr).map (·.add (j * 2))) = P := ⟨_, rfl⟩
            have hS1 := fun W => hslice_h W PV j dv j (by omega)
            have hS2 := fun W => hslice_l W PV j dv j (by omega)
            rw [hPD] at hS2
            have HA9 := Lib.hid (hsers_take (At.alloc (HAV.out wz HBZ.out) (.cells #[] 60)) j)
            have HAD := Lib.hid (fun (x : World) (hx : Below wo.heap.size wo x) => show At x PD ((qs.drop j).flatMap spE) by rw [← hPD]; exact hsers_drop (HAV.out x hx) j dv (by rw [HNQ.out]; omega) (by rw [HNQ.out]; omega))
            have HV1 := Lib.hid (show Value.slice PV j dv = Value.slice PV (qs.take j).length dv by rw [htk])
            have HV3 := Lib.hid (show Value.slice PD 0 (dv - j) = Value.slice PD (qs.drop j).length (dv - j) by rw [hdr]; simp)
            have HLT := Lib.hid (show (qs.take j).length ≤ 1000 ∧ (qs.take j ++ [(((ls, ss), mm) : SPl)]).length ≤ 1001 ∧ (qs.drop j).length ≤ 1000 by
              rw [List.length_append, htk, hdr, List.length_singleton]
              omega)
            have HLEN := Lib.hid (show (qs.take j ++ [(((ls, ss), mm) : SPl)] ++ qs.drop j).length ≤ k + 1 by
              rw [List.length_append, List.length_append, htk, hdr, List.length_singleton]
              have := HQK.out
              have := HNQ.out
              omega)
            clear htk hdr hPD
            go_upto_region 10 with (at_builtin
                                    refine hdapp_sers rfl (.tmp 40) (.tmp 43) rfl wz.heap.size _ [] rfl HO9.out PV (qs.take j) dv HV1.out HA9.out (by have := HLT.out.1; simp only [List.length_nil]; omega) (by simp) ?_
                                    intro v9 w9 ho9 hb9 hg9
                                    rw [List.nil_append, List.length_nil, Nat.zero_add] at ho9
                                    have HO10 := Lib.hid (rows_below ho9 (below_one w9 (.cells #[.slice mm.la ls.length mm.lc, .slice mm.sa ss.length mm.sc] 60)))
                                    have HB9 := Lib.hid ((below_one wz (.cells #[] 60)).trans hb9)
                                    clear ho9 hb9 hg9)
            have HB10 := Lib.hid (HBZ.out.trans (HB9.out.mono HBZ.out.size))
            obtain ⟨y0, y1⟩ := HG.out _ HB10.out
            have HA10 := Lib.hid (show At (w9.alloc (.cells #[.slice mm.la ls.length mm.lc, .slice mm.sa ss.length mm.sc] 60)) (some ⟨w9.heap.size, 0, none⟩) ([(((ls, ss), mm) : SPl)].flatMap spE) from At.row (Row.new w9 _ _))
            have HS10 := Lib.hid (show wz.heap.size ≤ (w9.alloc (.cells #[.slice mm.la ls.length mm.lc, .slice mm.sa ss.length mm.sc] 60)).heap.size from Nat.le_trans HB9.out.size (by simp))
            go_upto_region 11 with (at_builtin
                                    refine hdapp_sers rfl (.tmp 45) (.tmp 50) rfl wz.heap.size _ (qs.take j) rfl HO10.out (some ⟨w9.heap.size, 0, none⟩) [((ls, ss), mm)] 1 rfl HA10.out (by have := HLT.out.1; simp only [List.length_singleton]; omega) HS10.out ?_
                                    intro v10 w10 ho10 hb10 hg10
                                    rw [show (qs.take j).length + [(((ls, ss), mm) : SPl)].length = (qs.take j ++ [(((ls, ss), mm) : SPl)]).length by simp] at ho10
                                    have HO11 := Lib.hid ho10
                                    have HB11 := Lib.hid (HB9.out.trans (((below_one w9 (.cells #[.slice mm.la ls.length mm.lc, .slice mm.sa ss.length mm.sc] 60)).mono HB9.out.size).trans hb10))
                                    clear ho10 hb10 hg10)
            have HB12 := Lib.hid (HBZ.out.trans (HB11.out.mono HBZ.out.size))
            have HA11 := Lib.hid (HAD.out _ HB12.out)
            go_wp2_with (at_builtin
                         refine hdapp_sers rfl (.tmp 52) (.tmp 55) rfl wz.heap.size _ (qs.take j ++ [((ls, ss), mm)]) rfl HO11.out PD (qs.drop j) (dv - j) HV3.out HA11.out (by have := HLT.out; omega) HB11.out.size ?_
                         intro v11 w11 ho11 hb11 hg11
                         rw [← List.length_append] at ho11
                         have HO12 := Lib.hid (rows_lower ho11 (show w.heap.size ≤ wz.heap.size from HBW.out.size))
                         have HB13 := Lib.hid (HBZ.out.trans ((HB11.out.trans hb11).mono HBZ.out.size))
                         clear ho11 hb11 hg11)
            go_roundw
            case rel =>
              refine ⟨k + 1, qs.take j ++ [((ls, ss), mm)] ++ qs.drop j, HK.out, by go_num, HO12.out, fun x hx => ?_, HLEN.out, by rw [HPQ.out]; exact HE.out, HB.out.trans (HB13.out.mono HB.out.size)⟩
              rcases List.mem_append.1 hx with hx | hx
              · rcases List.mem_append.1 hx with hx | hx
                · exact ⟨HQ.out _ HB13.out x (List.mem_of_mem_take hx), HQL.out x (List.mem_of_mem_take hx)⟩
                · obtain rfl := List.mem_singleton.1 hx
                  exact ⟨HSER.out _ HB13.out, HSL.out⟩
              · exact ⟨HQ.out _ HB13.out x (List.mem_of_mem_drop hx), HQL.out x (List.mem_of_mem_drop hx)⟩
            case measure => simp [intOf]; omega
            -- END B
          · have p1 : decide ((j : Int) < (nq : Int)) = true := decide_eq_true (by omega)
            have p2 : (j : Int) < (nq : Int) := by omega
            obtain ⟨pb, po, hPV, hpl, hat2⟩ := (HSQ.out.below HBI.out).all (by rw [HQM.out]; omega)
            subst hPV
            obtain ⟨m2, q0, q1, hs2⟩ := hat2 j (by rw [HQM.out]; exact hjn)
            have HSTOP := Lib.hid (show j = (qs.map (·.1)).length ∨ 0 ≤ cmpLs ((qs.map (·.1)).getD j ser0).1 ls from .inr (by omega))
            have HPQ := Lib.hid (show (qs.take j ++ [(((ls, ss), mm) : SPl)] ++ qs.drop j).map (·.1) = placeH (ls, ss) (qs.map (·.1)) by
              rw [HPL.out j (by rw [HQM.out]; omega) HLOW.out HSTOP.out]
              simp [List.map_take, List.map_drop])
            have hql : ((qs.map (·.1)).getD j ser0).1.length ≤ 1000000 := by
              have hm := ser_at (S := qs.map (·.1)) (i := j) (by rw [HQM.out]; exact hjn)
              obtain ⟨y, hy, e⟩ := List.mem_map.1 hm
              rw [← e]
              exact HQL.out y hy
            have HC := Lib.hid (HCMP.out wr.drew m2.la mm.la m2.lc mm.lc _ (hs2.labels.below (Below.refl _ _).drew) ((HSER.out _ HBI.out).labels.below (Below.refl _ _).drew) hql)
            have e1 : decide (cmpLs ((qs.map (·.1)).getD j ser0).1 ls < 0) = false := decide_eq_false hE
            generalize ((qs.map (·.1)).getD j ser0).1.length = ln at *
            generalize cmpLs ((qs.map (·.1)).getD j ser0).1 ls = E at *
            clear hat2 hql hs2
            go_upto_region 7 with fail
            go_region_held3 (fun w' => w'.cell? ⟨pb, po + j * 2, none⟩ = some (.slice m2.la ln m2.lc) ∧ w'.cell? ⟨b, o + k * 2, none⟩ = some (.slice mm.la ls.length mm.lc))
              (first | with_reducible assumption | go_keep)
              (first
                | (go_at_call 59
                   refine HC.out.mono ?_
                   rintro e w6 ⟨rfl, hb6⟩
                   have hb6' : Below wr.heap.size wr w6 := (Below.refl _ _).drew.trans hb6
                   have k2 := (hb6'.cell (p := ⟨pb, po + j * 2, none⟩) hpl).trans q0
                   have k3 := (HG.out _ (HBI.out.trans (hb6'.mono HBI.out.size))).1
                   have HBZ := Lib.hid (HBI.out.trans (hb6'.mono HBI.out.size))
                   clear hb6 hb6'))
            go_upto_region 9 with fail
            -- TAIL C
            have HBW := Lib.hid (HB.out.trans (HBZ.out.mono HB.out.size))
            have HO9 := Lib.hid (show (w6.alloc (.cells #[] 60)).ownsRow w6.heap.size 60 2 (.slice (some ⟨w6.heap.size, 0, none⟩) 0 0) ([] : List SPl).length (([] : List SPl).flatMap spE) from ⟨rfl, .inr ⟨w6.heap.size, 0, #[], rfl, Nat.le_refl _, Row.new w6 _ _, Nat.le_refl _, by simp [maxLen], by simp, by simp⟩⟩)
            have htk : (qs.take j).length = j := by rw [List.length_take, HNQ.out]; omega
            have hdr : (qs.drop j).length = nq - j := by rw [List.length_drop, HNQ.out]
            obtain ⟨PD, hPD⟩ : ∃ P, (if dv = j then (some ⟨pb, po, none⟩) else ((some ⟨pb, po, none⟩) : Option Addr).map (·.add (j * 2))) = P := ⟨_, rfl⟩
            have hS1 := fun W => hslice_h W (some ⟨pb, po, none⟩) nq dv j (by omega)
            have hS2 := fun W => hslice_l W (some ⟨pb, po, none⟩) nq dv j (by omega)
            rw [hPD] at hS2
            have HA9 := Lib.hid (hsers_take (At.alloc (HAV.out w6 HBZ.out) (.cells #[] 60)) j)
            have HAD := Lib.hid (fun (x : World) (hx : Below wo.heap.size wo x) => show At x PD ((qs.drop j).flatMap spE) by rw [← hPD]; exact hsers_drop (HAV.out x hx) j dv (by rw [HNQ.out]; omega) (by rw [HNQ.out]; omega))
            have HV1 := Lib.hid (show Value.slice (some ⟨pb, po, none⟩) j dv = Value.slice (some ⟨pb, po, none⟩) (qs.take j).length dv by rw [htk])
            have HV3 := Lib.hid (show Value.slice PD (nq - j) (dv - j) = Value.slice PD (qs.drop j).length (dv - j) by rw [hdr])
            have HLT := Lib.hid (show (qs.take j).length ≤ 1000 ∧ (qs.take j ++ [(((ls, ss), mm) : SPl)]).length ≤ 1001 ∧ (qs.drop j).length ≤ 1000 by
              rw [List.length_append, htk, hdr, List.length_singleton]
              omega)
            have HLEN := Lib.hid (show (qs.take j ++ [(((ls, ss), mm) : SPl)] ++ qs.drop j).length ≤ k + 1 by
              rw [List.length_append, List.length_append, htk, hdr, List.length_singleton]
              have := HQK.out
              have := HNQ.out
              omega)
            clear htk hdr hPD
            go_upto_region 10 with (at_builtin
                                    refine hdapp_sers rfl (.tmp 40) (.tmp 43) rfl w6.heap.size _ [] rfl HO9.out (some ⟨pb, po, none⟩) (qs.take j) dv HV1.out HA9.out (by have := HLT.out.1; simp only [List.length_nil]; omega) (by simp) ?_
                                    intro v9 w9 ho9 hb9 hg9
                                    rw [List.nil_append, List.length_nil, Nat.zero_add] at ho9
                                    have HO10 := Lib.hid (rows_below ho9 (below_one w9 (.cells #[.slice mm.la ls.length mm.lc, .slice mm.sa ss.length mm.sc] 60)))
                                    have HB9 := Lib.hid ((below_one w6 (.cells #[] 60)).trans hb9)
                                    clear ho9 hb9 hg9)
            have HB10 := Lib.hid (HBZ.out.trans (HB9.out.mono HBZ.out.size))
            obtain ⟨y0, y1⟩ := HG.out _ HB10.out
            have HA10 := Lib.hid (show At (w9.alloc (.cells #[.slice mm.la ls.length mm.lc, .slice mm.sa ss.length mm.sc] 60)) (some ⟨w9.heap.size, 0, none⟩) ([(((ls, ss), mm) : SPl)].flatMap spE) from At.row (Row.new w9 _ _))
            have HS10 := Lib.hid (show w6.heap.size ≤ (w9.alloc (.cells #[.slice mm.la ls.length mm.lc, .slice mm.sa ss.length mm.sc] 60)).heap.size from Nat.le_trans HB9.out.size (by simp))
            go_upto_region 11 with (at_builtin
                                    refine hdapp_sers rfl (.tmp 45) (.tmp 50) rfl w6.heap.size _ (qs.take j) rfl HO10.out (some ⟨w9.heap.size, 0, none⟩) [((ls, ss), mm)] 1 rfl HA10.out (by have := HLT.out.1; simp only [List.length_singleton]; omega) HS10.out ?_
                                    intro v10 w10 ho10 hb10 hg10
                                    rw [show (qs.take j).length + [(((ls, ss), mm) : SPl)].length = (qs.take j ++ [(((ls, ss), mm) : SPl)]).length by simp] at ho10
                                    have HO11 := Lib.hid ho10
                                    have HB11 := Lib.hid (HB9.out.trans (((below_one w9 (.cells #[.slice mm.la ls.length mm.lc, .slice mm.sa ss.length mm.sc] 60)).mono HB9.out.size).trans hb10))
                                    clear ho10 hb10 hg10)
            have HB12 := Lib.hid (HBZ.out.trans (HB11.out.mono HBZ.out.size))
            have HA11 := Lib.hid (HAD.out _ HB12.out)
            go_wp2_with (at_builtin
                         refine hdapp_sers rfl (.tmp 52) (.tmp 55) rfl w6.heap.size _ (qs.take j ++ [((ls, ss), mm)]) rfl HO11.out PD (qs.drop j) (dv - j) HV3.out HA11.out (by have := HLT.out; omega) HB11.out.size ?_
                         intro v11 w11 ho11 hb11 hg11
                         rw [← List.length_append] at ho11
                         have HO12 := Lib.hid (rows_lower ho11 (show w.heap.size ≤ w6.heap.size from HBW.out.size))
                         have HB13 := Lib.hid (HBZ.out.trans ((HB11.out.trans hb11).mono HBZ.out.size))
                         clear ho11 hb11 hg11)
            go_roundw
            case rel =>
              refine ⟨k + 1, qs.take j ++ [((ls, ss), mm)] ++ qs.drop j, HK.out, by go_num, HO12.out, fun x hx => ?_, HLEN.out, by rw [HPQ.out]; exact HE.out, HB.out.trans (HB13.out.mono HB.out.size)⟩
              rcases List.mem_append.1 hx with hx | hx
              · rcases List.mem_append.1 hx with hx | hx
                · exact ⟨HQ.out _ HB13.out x (List.mem_of_mem_take hx), HQL.out x (List.mem_of_mem_take hx)⟩
                · obtain rfl := List.mem_singleton.1 hx
                  exact ⟨HSER.out _ HB13.out, HSL.out⟩
              · exact ⟨HQ.out _ HB13.out x (List.mem_of_mem_drop hx), HQL.out x (List.mem_of_mem_drop hx)⟩
            case measure => simp [intOf]; omega
            -- END C
    · obtain rfl : k = n := by omega
      have i1 : decide ((k : Int) < (k : Int)) = false := decide_eq_false (by omega)
      obtain ⟨PV, dv, hv, hdv, hav, hpv⟩ := rows_slice ho
      subst hv
      rw [← HN.out, List.drop_length] at he
      have he2 : qs.map (·.1) = seriesH S := he
      have hlen : qs.length = (seriesH S).length := by rw [← he2, List.length_map]
      rw [hlen]
      have HR := Lib.hid (show Sers wr PV (seriesH S) from ⟨qs, he2, hav, fun x hx => (hq x hx).1⟩)
      clear ho hq hqk he hbr hav hpv he2 hlen
      go_wp2_with fail
      go_ret
      exact ⟨_, _, rfl, HR.out, HB.out⟩
end Go.Proofs.Ytpcjnagdanmdpaa
