/- The parts of a right set, merged, are the set: what the program's Merge makes of them. -/
import Derived.Test.YtgiclapgilppgaaDoorLbMerge2
import Derived.Test.YtgiclapgilppgaaDoorLbLives
import Derived.Deep.Cut
import Derived.Carry
namespace Go.Proofs.YtgiclapgilppgaaDoor
open Go.RowKit Go.Maps
set_option linter.unusedVariables false

/-- The names rise. -/
def Up (l : List Lbl) : Prop := ∀ i j, i < j → j < l.length → cmpB (nmOf l i) (nmOf l j) = -1
theorem right_up {l : List Lbl} (h : lbChk l = 0) : Up l := by
  have h0 := (lbChk_ok.1 h).2
  have step : ∀ i, i + 1 < l.length → cmpB (nmOf l i) (nmOf l (i + 1)) = -1 := by
    intro i hi
    have h1 := (lbErrAt_zero.1 (h0 (i + 1) hi)).2.2.2 (by omega)
    rw [Nat.add_sub_cancel, le_cmp] at h1
    simp only [decide_eq_false_iff_not] at h1
    have h2 := cmpB_cmp.swap (nmOf l (i + 1)) (nmOf l i)
    have h3 := cmpB_cmp.rng (nmOf l i) (nmOf l (i + 1))
    omega
  intro i j hij
  induction j with
  | zero => omega
  | succ j ih =>
    intro hj
    rcases Nat.lt_or_ge i j with h1 | h1
    · have h2 := ih h1 (by omega)
      have h3 := step j hj
      have h4 := cmpB_cmp.strict (a := nmOf l i) (b := nmOf l j) (c := nmOf l (j + 1)) (by omega) (by omega)
      have h5 := cmpB_cmp.rng (nmOf l i) (nmOf l (j + 1))
      omega
    · rw [show i = j from by omega]; exact step j hj
/-- The names of the first k labels. -/
def takenN (l : List Lbl) (k : Nat) : List ByteArray := (l.take k).map (·.1)
theorem taken_no {l : List Lbl} (h : Up l) {k j : Nat} (hk : k ≤ j) (hj : j < l.length) : hasB (takenN l k) (nmOf l j) = false := by
  unfold hasB takenN
  rw [List.any_eq_false]
  intro x hx
  obtain ⟨y, hy, rfl⟩ := List.mem_map.1 hx
  obtain ⟨i, hi, e⟩ := List.mem_iff_getElem.1 hy
  rw [List.length_take] at hi
  rw [List.getElem_take] at e
  have h1 := h i j (by omega) hj
  have e2 : nmOf l i = y.1 := by
    unfold nmOf
    rw [List.getD_eq_getElem?_getD, List.getElem?_eq_getElem (by omega), Option.getD_some, e]
  rw [e2] at h1
  simp only [decide_eq_true_eq]
  intro e3
  rw [e3] at h1
  have := (cmpB_cmp.zero (nmOf l j) (nmOf l j)).2 rfl
  omega
theorem taken_succ (l : List Lbl) {k : Nat} (hk : k < l.length) : takenN l (k + 1) = takenN l k ++ [nmOf l k] := by
  unfold takenN
  rw [List.take_succ_eq_append_getElem hk, List.map_append]
  congr 1
  unfold nmOf
  rw [List.getD_eq_getElem?_getD, List.getElem?_eq_getElem hk]
  rfl
theorem taken_len (l : List Lbl) {k : Nat} (hk : k ≤ l.length) : (takenN l k).length = k := by
  unfold takenN
  rw [List.length_map, List.length_take, Nat.min_eq_left hk]
theorem taken_more (l : List Lbl) {k : Nat} (hk : k < l.length) (s : ByteArray) (h : hasB (takenN l (k + 1)) s = false) : hasB (takenN l k) s = false := by
  rw [taken_succ l hk] at h
  unfold hasB at *
  rw [List.any_append, Bool.or_eq_false_iff] at h
  exact h.1
/-- What stands behind place k. -/
theorem behind_k {l : List Lbl} (h : lbChk l = 0) {k : Nat} {y : Lbl} (hy : y ∈ l.drop k) : hasB (takenN l k) y.1 = false ∧ y.1.size ≤ maxLen ∧ (0 < k → cmpB (nmOf l (k - 1)) y.1 = -1) := by
  obtain ⟨i, hi, e⟩ := List.mem_iff_getElem.1 hy
  rw [List.length_drop] at hi
  rw [List.getElem_drop] at e
  have e2 : nmOf l (k + i) = y.1 := by
    unfold nmOf
    rw [List.getD_eq_getElem?_getD, List.getElem?_eq_getElem (by omega), Option.getD_some, e]
  have h2 := (nameB_size (lbErrAt_zero.1 ((lbChk_ok.1 h).2 (k + i) (by omega))).1).2
  refine ⟨by rw [← e2]; exact taken_no (right_up h) (by omega) (by omega), by rw [← e2]; simp only [maxLen]; omega, fun hk => ?_⟩
  rw [← e2]
  exact right_up h _ _ (by omega) (by omega)
theorem take_one (l : List Lbl) {k : Nat} (h : k < l.length) : l.take (k + 1) = l.take k ++ [(nmOf l k, vlOf l k)] := by
  rw [List.take_succ_eq_append_getElem h]
  congr 2
  unfold nmOf vlOf
  rw [List.getD_eq_getElem?_getD, List.getElem?_eq_getElem h]
  rfl
/-- The rest of a slice, one element on. -/
theorem lbls_tail {w : World} {b o : Nat} {x : Lbl} {r : List Lbl} (h : Lbls w (some ⟨b, o, none⟩) (x :: r)) : Lbls w (some ⟨b, o + 2, none⟩) r := by
  have := h.from 1 (by simp)
  simpa using this
theorem lbls_head {w : World} {A : Option Addr} {x : Lbl} {r : List Lbl} (h : Lbls w A (x :: r)) : ∃ b o, A = some ⟨b, o, none⟩ ∧ b < w.heap.size ∧ w.cell? ⟨b, o, none⟩ = some (.string x.1) ∧ w.cell? ⟨b, o + 1, none⟩ = some (.string x.2) := by
  obtain ⟨b, o, e, hb, h0, h1⟩ := h.at_ (i := 0) (by simp)
  exact ⟨b, o, e, hb, by simpa [nmOf] using h0, by simpa [vlOf] using h1⟩
/-- One of the two rests is empty: the other one is all of it. -/
theorem rest_all (p : Lbl → Bool) (r : List Lbl) (h : r.filter p = [] ∨ (r.filter fun x => !p x) = []) : r.filter p ++ (r.filter fun x => !p x) = r := by
  rcases h with h | h
  · rw [h, List.nil_append, List.filter_eq_self]
    intro x hx
    have := List.filter_eq_nil_iff.1 h x hx
    simpa using this
  · rw [h, List.append_nil, List.filter_eq_self]
    intro x hx
    have := List.filter_eq_nil_iff.1 h x hx
    simpa using this

def lenOf : Value → Nat
  | .slice _ n _ => n
  | _ => 0
set_option maxHeartbeats 2000000 in
set_option maxRecDepth 100000 in
theorem merge_parts (p : Lbl → Bool) (l : List Lbl) (h : lbChk l = 0) (A B : Option Addr) (ra0 rb0 : List Lbl) (hra : ra0 = l.filter p) (hrb : rb0 = l.filter fun x => !p x) (c d : Nat) (w : World) (hA : Lbls w A ra0) (hB : Lbls w B rb0) (hc : ra0.length ≤ c) (hd : rb0.length ≤ d) :
    Calls Tryd.prog 34 #[.slice A ra0.length c, .slice B rb0.length d] w fun e w' => ∃ v, e = .returned v ∧ OwnL w' w.heap.size v l ∧ Below w.heap.size w w' := by
  have h8 := (lbChk_ok.1 h).1
  have HA := Lib.hid hA
  have HB := Lib.hid hB
  have HRA := Lib.hid hra
  have HRB := Lib.hid hrb
  have HH := Lib.hid h
  have hM : ((w.alloc (.map #[] 0)).alloc (.cells #[.map (some w.heap.size)] 83)).heap[w.heap.size]? = some (.map #[] 0) := (heap_alloc_old _ _ (by simp)).trans (heap_alloc_new w _)
  have HS0 := Lib.hid (set_new hM)
  have HX0 := Lib.hid (row_at w (.map #[] 0) #[.map (some w.heap.size)] 83)
  have HB0 := Lib.hid ((below_one w (.map #[] 0)).alloc (by simp) (.cells #[.map (some w.heap.size)] 83))
  have HZ0 := Lib.hid (show ((w.alloc (.map #[] 0)).alloc (.cells #[.map (some w.heap.size)] 83)).heap.size = w.heap.size + 2 by simp)
  clear hA hB hra hrb h hM
  have hmm := @run_makeMap Tryd.prog
  go_enter Tryd.func34, Tryd.ntmps34
  go_wp2_with fail
  clear hmm
  go_loopw [0, 1, 5] (fun a b u wr => ∃ (k : Nat) (ra rb : List Lbl) (PA PB : Option Addr) (ca cb : Nat), k ≤ l.length ∧ a = .slice PA ra.length ca ∧ b = .slice PB rb.length cb ∧ ra.length ≤ ca ∧ rb.length ≤ cb ∧ ra = (l.drop k).filter p ∧ rb = (l.drop k).filter (fun x => !p x) ∧ Lbls w PA ra ∧ Lbls w PB rb ∧ OwnL wr (w.heap.size + 2) u (l.take k) ∧ Row wr (w.heap.size + 1) 83 #[.map (some w.heap.size)] ∧ SetN wr w.heap.size (takenN l k) ∧ w.heap.size + 2 ≤ wr.heap.size ∧ Below w.heap.size w wr) (fun a b _ _ => lenOf a + lenOf b)
  case atStart => exact ⟨0, ra0, rb0, A, B, c, d, Nat.zero_le _, rfl, rfl, hc, hd, by rw [HRA.out, List.drop_zero], by rw [HRB.out, List.drop_zero], HA.out, HB.out, ownl_nil _ _, HX0.out, HS0.out, Nat.le_of_eq HZ0.out.symm, HB0.out⟩
  case round =>
    obtain ⟨k, ra, rb, PA, PB, ca, cb, hk, rfl, rfl, hca, hcb, hra, hrb, hPA, hPB, ho, hX, hS, hsz, hbr⟩ := hrel
    by_cases hboth : ra ≠ [] ∧ rb ≠ []
    · obtain ⟨hne1, hne2⟩ := hboth
      have hkl : k < l.length := by
        rcases Nat.lt_or_ge k l.length with h1 | h1
        · exact h1
        · rw [List.drop_eq_nil_of_le h1] at hra; exact absurd hra hne1
      obtain ⟨n1, hn1⟩ : ∃ n1, ra.length = n1 + 1 := ⟨ra.length - 1, by have := List.length_pos_iff.2 hne1; omega⟩
      obtain ⟨n2, hn2⟩ : ∃ n2, rb.length = n2 + 1 := ⟨rb.length - 1, by have := List.length_pos_iff.2 hne2; omega⟩
      have hdrop := drop_at l hkl
      have hlen1 : ra.length ≤ 8 := by rw [hra]; have := List.length_filter_le p (l.drop k); rw [List.length_drop] at this; omega
      have hlen2 : rb.length ≤ 8 := by rw [hrb]; have := List.length_filter_le (fun x => !p x) (l.drop k); rw [List.length_drop] at this; omega
      obtain ⟨x1, r1, hra1⟩ := List.exists_cons_of_ne_nil hne1
      obtain ⟨y1, r2, hrb1⟩ := List.exists_cons_of_ne_nil hne2
      rw [hra1] at hPA
      rw [hrb1] at hPB
      obtain ⟨b1, o1, rfl, hb1, ga0, ga1⟩ := lbls_head hPA
      obtain ⟨b2, o2, rfl, hb2, gb0, gb1⟩ := lbls_head hPB
      have HPA := Lib.hid (show Lbls w (some ⟨b1, o1, none⟩) ra by rw [hra1]; exact hPA)
      have HPB := Lib.hid (show Lbls w (some ⟨b2, o2, none⟩) rb by rw [hrb1]; exact hPB)
      have HTA := Lib.hid (lbls_tail hPA)
      have HTB := Lib.hid (lbls_tail hPB)
      have hxm : x1 ∈ l.drop k := by have : x1 ∈ (l.drop k).filter p := by rw [← hra, hra1]; simp
                                     exact (List.mem_filter.1 this).1
      have hym : y1 ∈ l.drop k := by have : y1 ∈ (l.drop k).filter (fun x => !p x) := by rw [← hrb, hrb1]; simp
                                     exact (List.mem_filter.1 this).1
      obtain ⟨hyT, hys, _⟩ := behind_k HH.out hym
      obtain ⟨hxT, hxs, _⟩ := behind_k HH.out hxm
      have hr1 : r1.length = n1 := by rw [hra1, List.length_cons] at hn1; omega
      have hr2 : r2.length = n2 := by rw [hrb1, List.length_cons] at hn2; omega
      have HST := Lib.hid (stays_fn (w.heap.size + 1) w.heap.size (takenN l k) y1 wr hX (by omega) hS hyT hys)
      have HCL := Lib.hid (fun W (hW : Below w.heap.size w W) => (show W.cell? ⟨b1, o1, none⟩ = some (.string x1.1) ∧ W.cell? ⟨b1, o1 + 1, none⟩ = some (.string x1.2) ∧ W.cell? ⟨b2, o2, none⟩ = some (.string y1.1) ∧ W.cell? ⟨b2, o2 + 1, none⟩ = some (.string y1.2) from ⟨(hW.cell hb1).trans ga0, (hW.cell hb1).trans ga1, (hW.cell hb2).trans gb0, (hW.cell hb2).trans gb1⟩))
      have HX := Lib.hid hX
      have HS := Lib.hid hS
      have HO := Lib.hid ho
      have HBR := Lib.hid hbr
      have HTK := Lib.hid (taken_succ l hkl)
      have HTL := Lib.hid (taken_len l hk)
      have HT1 := Lib.hid (take_one l hkl)
      have i1 : decide ((0 : Int) < (n1 : Int) + 1) = true := decide_eq_true (by omega)
      have i2 : decide ((0 : Int) < (n2 : Int) + 1) = true := decide_eq_true (by omega)
      obtain ⟨c0, c1, d0, d1⟩ := HCL.out _ hbr
      rw [hn1] at hca hlen1
      rw [hn2] at hcb hlen2
      rw [hn1, hn2]
      clear hX hS ho hbr ga0 ga1 gb0 gb1 hPA hPB hne1 hne2 hyT hxT hxm hym
      cases hp : p (nmOf l k, vlOf l k)
      · have hfb : rb = (nmOf l k, vlOf l k) :: (l.drop (k + 1)).filter (fun x => !p x) := by rw [hrb, hdrop, List.filter_cons, if_pos (by simp [hp])]
        have hfa : ra = (l.drop (k + 1)).filter p := by rw [hra, hdrop, List.filter_cons, if_neg (by simp [hp])]
        have e1 : y1 = (nmOf l k, vlOf l k) ∧ r2 = (l.drop (k + 1)).filter (fun x => !p x) := by rw [hrb1] at hfb; injection hfb with e1 e2; exact ⟨e1, e2⟩
        obtain ⟨rfl, hr2e⟩ := e1
        have hxm2 : x1 ∈ l.drop (k + 1) := by
          have : x1 ∈ (l.drop (k + 1)).filter p := by rw [← hfa, hra1]; simp
          exact (List.mem_filter.1 this).1
        have hcmp := (behind_k HH.out hxm2).2.2 (by omega)
        rw [Nat.add_sub_cancel] at hcmp
        have hless : Op.bytesLess (nmOf l k).toList x1.1.toList = true := by
          rw [less_cmp, hcmp]; rfl
        have HF := Lib.hid (show ra = (l.drop (k + 1)).filter p ∧ r2 = (l.drop (k + 1)).filter (fun x => !p x) from ⟨hfa, hr2e⟩)
        clear hfa hfb hr2e hxm2 hcmp hra hrb hdrop hp
        go_upto_region 10 with (first | (go_at_call 59; refine HST.out.mono ?_; rintro e w2 ⟨rfl, hb2'⟩; have HB2 := Lib.hid (HBR.out.trans (hb2'.mono HBR.out.size)); have HX2 := Lib.hid (HX.out.below hb2' (Row.lt HX.out)); have HS2 := Lib.hid (HS.out.below (hb2'.block w.heap.size (by omega))); have HO2 := Lib.hid (ownl_below HO.out hb2'); have HSZ2 := Lib.hid (Nat.le_trans hsz hb2'.size); clear hb2'))
        clear c0 c1 d0 d1
        obtain ⟨c0, c1, d0, d1⟩ := HCL.out _ HB2.out
        obtain ⟨z, hz⟩ : ∃ z, w2.drew = z := ⟨_, rfl⟩
        have HBZ : Hid (Below w.heap.size w z) := by subst hz; exact Lib.hid HB2.out.drew
        have HXZ : Hid (Row z (w.heap.size + 1) 83 #[.map (some w.heap.size)]) := by subst hz; exact HX2
        have HSZ : Hid (SetN z w.heap.size (takenN l k)) := by subst hz; exact HS2
        have HOZ : Hid (OwnL z (w.heap.size + 2) u5 (l.take k)) := by subst hz; exact HO2
        have hzs : w.heap.size + 2 ≤ z.heap.size := by subst hz; exact HSZ2.out
        obtain ⟨c2, c3, d2, d3⟩ := HCL.out _ HBZ.out
        go_region
        all_goals
          try rw [hz]
          clear hz c0 c1 d0 d1 c2 c3 d2 d3
          obtain ⟨c0, c1, d0, d1⟩ := HCL.out _ HBZ.out
          go_upto_region 12 with (first | (at_builtin; refine app_lbls rfl (.tmp 51) (.tmp 55) rfl (w.heap.size + 2) _ (l.take k) rfl (ownl_below HOZ.out (below_one _ _)) _ [(nmOf l k, vlOf l k)] 1 rfl (lbls_cell (Row.new _ _ _)) (by rw [List.length_take]; simp only [List.length_cons, List.length_nil]; omega) (Nat.le_trans hzs (by simp)) ?_; intro v3 w3 hown3 hb3 _; have HO3 := Lib.hid hown3; have HX3 := Lib.hid ((HXZ.out.alloc (.cells #[.string (nmOf l k), .string (vlOf l k)] 58)).below hb3 (by omega)); have HS3 := Lib.hid (((HSZ.out.below (heap_alloc_old z (.cells #[.string (nmOf l k), .string (vlOf l k)] 58) (by omega))).below (hb3.block w.heap.size (by omega))).more (T' := takenN l (k + 1)) (by rw [HTK.out, List.length_append]; omega) (fun s hs => taken_more l hkl s hs)); have HB3 := Lib.hid ((HBZ.out.alloc HBZ.out.size (.cells #[.string (nmOf l k), .string (vlOf l k)] 58)).trans (hb3.mono (by omega))); have hs3 : w.heap.size + 2 ≤ w3.heap.size := (by have h9 := hb3.size; simp at h9; omega); clear hown3 hb3))
          clear c0 c1 d0 d1
          by_cases hcb1 : cb = 1
          · go_wp2_with fail
            go_roundw
            case rel => exact ⟨k + 1, ra, r2, some ⟨b1, o1, none⟩, some ⟨b2, o2, none⟩, ca, cb - 1, by omega, by rw [hn1], by rw [hr2, hcb1], by omega, by omega, HF.out.1, HF.out.2, HPA.out, by rw [show r2 = [] from List.eq_nil_of_length_eq_zero (by omega)]; exact Lbls.nil _ _, by rw [HT1.out]; exact HO3.out, HX3.out, HS3.out, hs3, HB3.out⟩
            case measure => simp [lenOf] <;> omega
          · go_wp2_with fail
            go_roundw
            case rel => exact ⟨k + 1, ra, r2, some ⟨b1, o1, none⟩, some ⟨b2, o2 + 2, none⟩, ca, cb - 1, by omega, by rw [hn1], by rw [hr2], by omega, by omega, HF.out.1, HF.out.2, HPA.out, HTB.out, by rw [HT1.out]; exact HO3.out, HX3.out, HS3.out, hs3, HB3.out⟩
            case measure => simp [lenOf] <;> omega
      · have hfa : ra = (nmOf l k, vlOf l k) :: (l.drop (k + 1)).filter p := by rw [hra, hdrop, List.filter_cons, if_pos hp]
        have hfb : rb = (l.drop (k + 1)).filter (fun x => !p x) := by rw [hrb, hdrop, List.filter_cons, if_neg (by simp [hp])]
        have e1 : x1 = (nmOf l k, vlOf l k) ∧ r1 = (l.drop (k + 1)).filter p := by rw [hra1] at hfa; injection hfa with e1 e2; exact ⟨e1, e2⟩
        obtain ⟨rfl, hr1e⟩ := e1
        have hym2 : y1 ∈ l.drop (k + 1) := by
          have : y1 ∈ (l.drop (k + 1)).filter (fun x => !p x) := by rw [← hfb, hrb1]; simp
          exact (List.mem_filter.1 this).1
        have hcmp := (behind_k HH.out hym2).2.2 (by omega)
        rw [Nat.add_sub_cancel] at hcmp
        have hless : Op.bytesLess y1.1.toList (nmOf l k).toList = false := by
          rw [less_cmp, cmpB_cmp.swap (nmOf l k) y1.1, hcmp]; rfl
        have HF := Lib.hid (show r1 = (l.drop (k + 1)).filter p ∧ rb = (l.drop (k + 1)).filter (fun x => !p x) from ⟨hr1e, hfb⟩)
        clear hfa hfb hr1e hym2 hcmp hra hrb hdrop hp
        go_upto_region 10 with (first | (go_at_call 59; refine HST.out.mono ?_; rintro e w2 ⟨rfl, hb2'⟩; have HB2 := Lib.hid (HBR.out.trans (hb2'.mono HBR.out.size)); have HX2 := Lib.hid (HX.out.below hb2' (Row.lt HX.out)); have HS2 := Lib.hid (HS.out.below (hb2'.block w.heap.size (by omega))); have HO2 := Lib.hid (ownl_below HO.out hb2'); have HSZ2 := Lib.hid (Nat.le_trans hsz hb2'.size); clear hb2'))
        clear c0 c1 d0 d1
        obtain ⟨c0, c1, d0, d1⟩ := HCL.out _ HB2.out
        obtain ⟨z, hz⟩ : ∃ z, w2.drew = z := ⟨_, rfl⟩
        have HBZ : Hid (Below w.heap.size w z) := by subst hz; exact Lib.hid HB2.out.drew
        have HXZ : Hid (Row z (w.heap.size + 1) 83 #[.map (some w.heap.size)]) := by subst hz; exact HX2
        have HSZ : Hid (SetN z w.heap.size (takenN l k)) := by subst hz; exact HS2
        have HOZ : Hid (OwnL z (w.heap.size + 2) u5 (l.take k)) := by subst hz; exact HO2
        have hzs : w.heap.size + 2 ≤ z.heap.size := by subst hz; exact HSZ2.out
        obtain ⟨c2, c3, d2, d3⟩ := HCL.out _ HBZ.out
        go_region
        all_goals
          try rw [hz]
          clear hz c0 c1 d0 d1 c2 c3 d2 d3
          obtain ⟨c0, c1, d0, d1⟩ := HCL.out _ HBZ.out
          go_upto_region 6 with (first | (at_builtin; refine app_lbls rfl (.tmp 18) (.tmp 22) rfl (w.heap.size + 2) _ (l.take k) rfl (ownl_below HOZ.out (below_one _ _)) _ [(nmOf l k, vlOf l k)] 1 rfl (lbls_cell (Row.new _ _ _)) (by rw [List.length_take]; simp only [List.length_cons, List.length_nil]; omega) (Nat.le_trans hzs (by simp)) ?_; intro v3 w3 hown3 hb3 _; have HO3 := Lib.hid hown3; have HX3 := Lib.hid ((HXZ.out.alloc (.cells #[.string (nmOf l k), .string (vlOf l k)] 58)).below hb3 (by omega)); have HS3 := Lib.hid ((HSZ.out.below (heap_alloc_old z (.cells #[.string (nmOf l k), .string (vlOf l k)] 58) (by omega))).below (hb3.block w.heap.size (by omega))); have HB3 := Lib.hid ((HBZ.out.alloc HBZ.out.size (.cells #[.string (nmOf l k), .string (vlOf l k)] 58)).trans (hb3.mono (by omega))); have hs3 : w.heap.size + 2 ≤ w3.heap.size := (by have h9 := hb3.size; simp at h9; omega); clear hown3 hb3))
          clear c0 c1 d0 d1
          obtain ⟨c0, c1, d0, d1⟩ := HCL.out _ HB3.out
          obtain ⟨w4, hrun, hS4, ht4⟩ := set_store (w := w3.drew) HS3.out (nmOf l k) hxs (by rw [HTL.out]; omega)
          have HS4 := Lib.hid hS4
          have HX4 : Hid (Row w4 (w.heap.size + 1) 83 #[.map (some w.heap.size)]) := Lib.hid (grown_row (w := w3.drew) HX3.out ht4.grown (fun e => by injection e with e; omega))
          have HB4 : Hid (Below w.heap.size w w4) := Lib.hid (Below.grown HB3.out.drew ht4.grown (by show w.heap.size ≤ w3.drew.heap.size; show w.heap.size ≤ w3.heap.size; omega) (fun q hq => by injection hq with hq; omega))
          have HO4 : Hid (OwnL w4 (w.heap.size + 2) v3 (l.take k ++ [(nmOf l k, vlOf l k)])) := Lib.hid (rows_move (w := w3.drew) HO3.out (fun q hq => ht4.grown.block q (World.ownsRow.lt HO3.out _ hq).2 (fun e => by injection e with e; have := (World.ownsRow.lt HO3.out _ hq).1; omega)))
          have hs4 : w.heap.size + 2 ≤ w4.heap.size := Nat.le_trans hs3 ht4.grown.size
          have x0 := HX3.out.cell 0
          clear hS4 ht4
          go_region
          all_goals
            clear c0 c1 d0 d1 hrun x0
            by_cases hca1 : ca = 1
            · go_wp2_with fail
              go_roundw
              case rel => exact ⟨k + 1, r1, rb, some ⟨b1, o1, none⟩, some ⟨b2, o2, none⟩, ca - 1, cb, by omega, by rw [hr1, hca1], by rw [hn2], by omega, by omega, HF.out.1, HF.out.2, by rw [show r1 = [] from List.eq_nil_of_length_eq_zero (by omega)]; exact Lbls.nil _ _, HPB.out, by rw [HT1.out]; exact HO4.out, HX4.out, by rw [HTK.out]; exact HS4.out, hs4, HB4.out⟩
              case measure => simp [lenOf] <;> omega
            · go_wp2_with fail
              go_roundw
              case rel => exact ⟨k + 1, r1, rb, some ⟨b1, o1 + 2, none⟩, some ⟨b2, o2, none⟩, ca - 1, cb, by omega, by rw [hr1], by rw [hn2], by omega, by omega, HF.out.1, HF.out.2, HTA.out, HPB.out, by rw [HT1.out]; exact HO4.out, HX4.out, by rw [HTK.out]; exact HS4.out, hs4, HB4.out⟩
              case measure => simp [lenOf] <;> omega
    · have hall : ra ++ rb = l.drop k := by
        rw [hra, hrb]
        refine rest_all p _ ?_
        by_cases h1 : ra = []
        · exact .inl (by rw [← hra]; exact h1)
        · exact .inr (by rw [← hrb]; exact Classical.byContradiction fun h2 => hboth ⟨h1, h2⟩)
      have hfin : l.take k ++ ra ++ rb = l := by rw [List.append_assoc, hall, List.take_append_drop]
      have hlen1 : ra.length ≤ 8 := by rw [hra]; have := List.length_filter_le p (l.drop k); rw [List.length_drop] at this; omega
      have hlen2 : rb.length ≤ 8 := by rw [hrb]; have := List.length_filter_le (fun x => !p x) (l.drop k); rw [List.length_drop] at this; omega
      have hmem : ∀ x ∈ rb, hasB (takenN l k) x.1 = false ∧ x.1.size ≤ maxLen := fun x hx => by
        rw [hrb] at hx
        have := behind_k HH.out (List.mem_filter.1 hx).1
        exact ⟨this.1, this.2.1⟩
      have HFIN := Lib.hid hfin
      have HX := Lib.hid hX
      have HS := Lib.hid hS
      have HO := Lib.hid ho
      have HBR := Lib.hid hbr
      have HPA := Lib.hid hPA
      have HPB := Lib.hid hPB
      have HSZ := Lib.hid hsz
      have hft : rb.filter (fun _ => true) = rb := by simp
      have HCH := Lib.hid (fun (W : World) (hW : Below w.heap.size w W) (hXW : Row W (w.heap.size + 1) 83 #[.map (some w.heap.size)]) (hSW : SetN W w.heap.size (takenN l k)) (hz : w.heap.size + 2 ≤ W.heap.size) =>
        chosen_merge (w.heap.size + 1) PB rb cb W (hPB.below hW) (by omega) (fun _ => true) (fun W2 x hx hb => stays_fn (w.heap.size + 1) w.heap.size (takenN l k) x W2 (hXW.below hb (by omega)) (by have := hb.size; omega) (hSW.below (hb.block w.heap.size (by omega))) (hmem x hx).1 (hmem x hx).2))
      rw [hft] at HCH
      have i3 : (ra.length : Int) = 0 ∨ (rb.length : Int) = 0 := by
        by_cases h1 : ra = []
        · left; rw [h1]; rfl
        · right
          have h2 : rb = [] := Classical.byContradiction fun h2 => hboth ⟨h1, h2⟩
          rw [h2]; rfl
      have HTK : Hid ((l.take k).length ≤ 8) := Lib.hid (by rw [List.length_take]; omega)
      clear hX hS ho hbr hPA hPB hra hrb hall hfin hmem hft hboth
      have key : (decide ((0 : Int) < (ra.length : Int)) = false ∧ decide (0 < ra.length) = false ∧ ¬ 0 < ra.length) ∨ ((decide ((0 : Int) < (ra.length : Int)) = true ∧ decide ((0 : Int) < (rb.length : Int)) = false) ∧ decide (0 < ra.length) = true ∧ decide (0 < rb.length) = false ∧ 0 < ra.length ∧ ¬ 0 < rb.length) := by
        rcases i3 with h | h
        · left; exact ⟨decide_eq_false (by omega), decide_eq_false (by omega), by omega⟩
        · by_cases h0 : 0 < ra.length
          · right; exact ⟨⟨decide_eq_true (by omega), decide_eq_false (by omega)⟩, decide_eq_true (by omega), decide_eq_false (by omega), by omega, by omega⟩
          · left; exact ⟨decide_eq_false (by omega), decide_eq_false (by omega), by omega⟩
      clear i3
      rcases key with ⟨i1, i4, i5⟩ | ⟨⟨i1, i2⟩, i4, i5, i6, i7⟩
      all_goals
        go_wp2_with (first
          | (at_builtin; refine app_lbls rfl (.tmp 59) (.tmp 60) rfl (w.heap.size + 2) _ (l.take k) rfl HO.out PA ra ca rfl (HPA.out.below HBR.out) (by have := HTK.out; omega) HSZ.out ?_; intro v3 w3 hown3 hb3 _; have HO3 := Lib.hid hown3; have HX3 := Lib.hid (HX.out.below hb3 (by omega)); have HS3 := Lib.hid (HS.out.below (hb3.block w.heap.size (by omega))); have HB3 := Lib.hid (HBR.out.trans (hb3.mono (by omega))); have HZ3 := Lib.hid (Nat.le_trans HSZ.out hb3.size); clear hown3 hb3)
          | (go_at_call 37; refine (HCH.out _ HB3.out HX3.out HS3.out HZ3.out).mono ?_; rintro e w4 ⟨v4, rfl, ho4, hb4⟩; obtain ⟨P4, c4, hv4, _, hL4, _⟩ := ownl_slice ho4; subst hv4; have HL4 := Lib.hid hL4; have HO4 := Lib.hid (ownl_below HO3.out hb4); have HB4 := Lib.hid (HB3.out.trans (hb4.mono HB3.out.size)); have HZ4 := Lib.hid (Nat.le_trans HZ3.out hb4.size); clear ho4 hb4 hL4)
          | (at_builtin; refine app_lbls rfl (.tmp 62) (.tmp 65) rfl (w.heap.size + 2) _ (l.take k ++ ra) rfl HO4.out P4 rb c4 rfl HL4.out (by have := HTK.out; rw [List.length_append]; omega) HZ4.out ?_; intro v5 w5 hown5 hb5 _; rw [HFIN.out] at hown5; have HO5 := Lib.hid (ownl_lower (base' := w.heap.size) hown5 (by omega)); have HB5 := Lib.hid (HB4.out.trans (hb5.mono (by omega))); clear hown5 hb5))
        go_ret
        exact ⟨_, rfl, HO5.out, HB5.out⟩
end Go.Proofs.YtgiclapgilppgaaDoor
