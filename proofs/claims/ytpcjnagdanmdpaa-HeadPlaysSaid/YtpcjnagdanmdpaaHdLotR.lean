/- In one text, written by lotify.py: HdSelect, HdSel2. -/
import Derived.Test.YtpcjnagdanmdpaaHdRemove
namespace Go.Proofs.Ytpcjnagdanmdpaa
open Go.RowKit Go.Maps
open Ch
set_option linter.unusedVariables false
set_option linter.unusedSimpArgs false
set_option maxRecDepth 100000
/-- From where on it is so. -/
structure HPlace (p : Nat → Bool) (n k : Nat) : Prop where
  le : k ≤ n
  no : ∀ i, i < k → p i = false
  yes : ∀ i, k ≤ i → i < n → p i = true
set_option maxHeartbeats 1000000 in
theorem hsearch_prog {w : World} {n : Nat} {p : Nat → Bool} {a b : Value} (hn : n ≤ 1000000)
    (hf : ∀ x, Below w.heap.size w x → ∀ i : Nat, i < n → Calls Try.prog 71 #[.int .i64 (i : Int), a, b] x fun e w' => e = .returned (.bool (p i)) ∧ Below x.heap.size x w') (hm : ∀ i j, i ≤ j → j < n → p i = true → p j = true) :
    Calls Try.prog 70 #[.int .i64 (n : Int), .func (.func 71) #[] #[a, b]] w fun e w' => (∃ k : Nat, e = .returned (.int .i64 (k : Int)) ∧ HPlace p n k) ∧ Below w.heap.size w w' := by
  have HF := Lib.hid hf
  have HM := Lib.hid hm
  clear hf hm
  go_enter Try.func70, Try.ntmps70
  go_wp2_with fail
  go_loopw [5, 6] (fun i j wr => ∃ (u v : Nat), i = .int .i64 (u : Int) ∧ j = .int .i64 (v : Int) ∧ u ≤ v ∧ v ≤ n ∧ (∀ k, k < u → p k = false) ∧ (∀ k, v ≤ k → k < n → p k = true) ∧ Below w.heap.size w wr) (fun i j _ => (intOf j).toNat - (intOf i).toNat)
  case atStart => exact ⟨0, n, rfl, rfl, Nat.zero_le _, Nat.le_refl _, fun k hk => by omega, fun k h1 h2 => by omega, Below.refl _ _⟩
  case round =>
    obtain ⟨u, v, rfl, rfl, huv, hv, h1, h2, hbr⟩ := hrel
    have H1 := Lib.hid h1
    have H2 := Lib.hid h2
    have HB := Lib.hid hbr
    clear h1 h2
    by_cases hlt : u < v
    · have i1 : (u : Int) < (v : Int) := by omega
      obtain ⟨h, hh⟩ : ∃ h, (u + v) / 2 = h := ⟨_, rfl⟩
      have hhb : u ≤ h ∧ h < v := by omega
      obtain ⟨s, hs⟩ : ∃ s : Nat, (u : Int) + (v : Int) = (s : Int) := ⟨u + v, by omega⟩
      have hsb : s ≤ 2000000 := by omega
      have wr1 : (s : Int) / 2 = (h : Int) := by omega
      have HN := Lib.hid (HF.out wr hbr h (by omega))
      have HHid := Lib.hid hh
      clear hh hbr
      cases hp : p h
      · rw [hp] at HN
        have HP := Lib.hid hp
        clear hp
        go_wp2_with fail
        refine HN.out.mono ?_
        rintro e w2 ⟨rfl, hb2⟩
        have HB2 := Lib.hid (below_then HB.out hb2)
        clear hb2
        go_wp2_with fail
        go_roundw
        case rel =>
          refine ⟨h + 1, v, by go_num, rfl, by omega, hv, fun k k1 => ?_, H2.out, HB2.out⟩
          cases hk : p k
          · rfl
          · have := HM.out k h (by omega) (by omega) hk
            rw [HP.out] at this
            cases this
        case measure => simp [intOf]; omega
      · rw [hp] at HN
        have HP := Lib.hid hp
        clear hp
        go_wp2_with fail
        refine HN.out.mono ?_
        rintro e w2 ⟨rfl, hb2⟩
        have HB2 := Lib.hid (below_then HB.out hb2)
        clear hb2
        go_wp2_with fail
        go_roundw
        case rel => exact ⟨u, h, rfl, rfl, hhb.1, by omega, H1.out, fun k k1 k2 => HM.out h k k1 k2 HP.out, HB2.out⟩
        case measure => simp [intOf]; omega
    · obtain rfl : u = v := by omega
      clear hbr
      go_wp2_with fail
      go_ret
      exact ⟨⟨u, rfl, hv, H1.out, H2.out⟩, HB.out⟩
/-! ### the closures -/
theorem from_prog {w : World} {Lb : Nat} {lo : Int} (hL : Row w Lb 3 #[.int .i64 lo]) (t : Int) : Calls Try.prog 42 #[.int .i64 t, .pointer (some ⟨Lb, 0, none⟩)] w fun e w' => e = .returned (.bool (decide (lo ≤ t))) ∧ Below w.heap.size w w' := by
  have c0 := hL.cell 0
  generalize hd : decide (lo ≤ t) = d at *
  clear hL
  go_enter Try.func42, Try.ntmps42
  go_wp2_with fail
  go_ret
  exact ⟨rfl, Below.refl _ _⟩
theorem to_prog {w : World} {Lb : Nat} {hi : Int} (hL : Row w Lb 3 #[.int .i64 hi]) (t : Int) : Calls Try.prog 43 #[.int .i64 t, .pointer (some ⟨Lb, 0, none⟩)] w fun e w' => e = .returned (.bool (decide (hi < t))) ∧ Below w.heap.size w w' := by
  have c0 := hL.cell 0
  generalize hd : decide (hi < t) = d at *
  clear hL
  go_enter Try.func43, Try.ntmps43
  go_wp2_with fail
  go_ret
  exact ⟨rfl, Below.refl _ _⟩
def fromF (Lb : Nat) : Value := .func (.func 42) #[] #[.pointer (some ⟨Lb, 0, none⟩)]
theorem from_at {w : World} {SB FB Lb g b o sc n i : Nat} {v : Value} {l : List Smp} {lim : Int} (hF : Row w FB 87 #[fromF Lb]) (hS : Row w SB 71 #[.pointer (some ⟨g, 0, none⟩)]) (hG : Row w g 74 #[v, .slice (some ⟨b, o, none⟩) n sc])
    (hL : Row w Lb 3 #[.int .i64 lim]) (hn : i < n) (hT : w.cell? ⟨b, o + i * 2, none⟩ = some (.int .i64 (tOf l i))) :
    Calls Try.prog 71 #[.int .i64 (i : Int), .pointer (some ⟨FB, 0, none⟩), .pointer (some ⟨SB, 0, none⟩)] w fun e w' => e = .returned (.bool (decide (lim ≤ tOf l i))) ∧ Below w.heap.size w w' := by
  have c0 : w.cell? ⟨FB, 0, none⟩ = some (.func (.func 42) #[] #[.pointer (some ⟨Lb, 0, none⟩)]) := (hF.cell 0).trans rfl
  have c1 : w.cell? ⟨SB, 0, none⟩ = some (.pointer (some ⟨g, 0, none⟩)) := hS.cell 0
  have c2 : w.cell? ⟨g, 1, none⟩ = some (.slice (some ⟨b, o, none⟩) n sc) := hG.cell 1
  have HC := Lib.hid (fun t => from_prog (w := w.drew) hL.drew t)
  have i1 : (i : Int) < (n : Int) := by omega
  generalize tOf l i = T at *
  have HT := Lib.hid (HC.out T)
  generalize hd : decide (lim ≤ T) = d at *
  clear hF hS hG hL
  go_enter Try.func71, Try.ntmps71
  go_wp2_with fail
  go_region_with (first | (go_at_call 42; refine HT.out.mono ?_; rintro e w2 ⟨rfl, hb2⟩; have HB2 := Lib.hid ((Below.refl _ _).drew.trans hb2); clear hb2))
  all_goals
    go_wp2_with fail
    go_ret
    exact ⟨rfl, HB2.out⟩
def toF (Lb : Nat) : Value := .func (.func 43) #[] #[.pointer (some ⟨Lb, 0, none⟩)]
theorem to_at {w : World} {SB FB Lb g b o sc n i : Nat} {v : Value} {l : List Smp} {lim : Int} (hF : Row w FB 87 #[toF Lb]) (hS : Row w SB 71 #[.pointer (some ⟨g, 0, none⟩)]) (hG : Row w g 74 #[v, .slice (some ⟨b, o, none⟩) n sc])
    (hL : Row w Lb 3 #[.int .i64 lim]) (hn : i < n) (hT : w.cell? ⟨b, o + i * 2, none⟩ = some (.int .i64 (tOf l i))) :
    Calls Try.prog 71 #[.int .i64 (i : Int), .pointer (some ⟨FB, 0, none⟩), .pointer (some ⟨SB, 0, none⟩)] w fun e w' => e = .returned (.bool (decide (lim < tOf l i))) ∧ Below w.heap.size w w' := by
  have c0 : w.cell? ⟨FB, 0, none⟩ = some (.func (.func 43) #[] #[.pointer (some ⟨Lb, 0, none⟩)]) := (hF.cell 0).trans rfl
  have c1 : w.cell? ⟨SB, 0, none⟩ = some (.pointer (some ⟨g, 0, none⟩)) := hS.cell 0
  have c2 : w.cell? ⟨g, 1, none⟩ = some (.slice (some ⟨b, o, none⟩) n sc) := hG.cell 1
  have HC := Lib.hid (fun t => to_prog (w := w.drew) hL.drew t)
  have i1 : (i : Int) < (n : Int) := by omega
  generalize tOf l i = T at *
  have HT := Lib.hid (HC.out T)
  generalize hd : decide (lim < T) = d at *
  clear hF hS hG hL
  go_enter Try.func71, Try.ntmps71
  go_wp2_with fail
  go_region_with (first | (go_at_call 43; refine HT.out.mono ?_; rintro e w2 ⟨rfl, hb2⟩; have HB2 := Lib.hid ((Below.refl _ _).drew.trans hb2); clear hb2))
  all_goals
    go_wp2_with fail
    go_ret
    exact ⟨rfl, HB2.out⟩
theorem hd_mono {l : List Smp} (h : Ch.Good l) {i j : Nat} (hij : i ≤ j) (hj : j < l.length) : tOf l i ≤ tOf l j := by
  rcases Nat.eq_or_lt_of_le hij with rfl | hlt
  · exact Int.le_refl _
  · have := List.pairwise_iff_getElem.1 (good_lt h) i j (by omega) hj hlt
    unfold tOf
    rw [List.getD_eq_getElem?_getD, List.getD_eq_getElem?_getD, List.getElem?_eq_getElem (by omega), List.getElem?_eq_getElem hj]
    exact Int.le_of_lt this
theorem from_place {w : World} {X Lb i : Nat} {p : Plc} {h : List Ser} {c lim : Int} (hi : HeadIn w X p h c) (hl : i < h.length) (hg : Ch.Good (h.getD i ser0).2) (hn : (h.getD i ser0).2.length ≤ 1000000) (hL : Row w Lb 3 #[.int .i64 lim]) :
    Calls Try.prog 41 #[.pointer (some ⟨p.fb i, 0, none⟩), fromF Lb] w fun e w' => (∃ k : Nat, e = .returned (.int .i64 (k : Int)) ∧ HPlace (fun j => decide (lim ≤ tOf (h.getD i ser0).2 j)) (h.getD i ser0).2.length k) ∧ Below w.heap.size w w' := by
  have hmf : ∀ (fn : Fn) (first cap : Array Value) (w : World), (Instr.makeFunc fn first cap).run Try.prog w = .ok (.func fn first cap) w := fun _ _ _ _ => rfl
  have hb2 : Below w.heap.size w ((w.alloc (.cells #[.pointer (some ⟨p.fb i, 0, none⟩)] 71)).alloc (.cells #[fromF Lb] 87)) := ((Below.refl w.heap.size w).alloc (Nat.le_refl _) _).alloc (by simp) _
  have hS : Row ((w.alloc (.cells #[.pointer (some ⟨p.fb i, 0, none⟩)] 71)).alloc (.cells #[fromF Lb] 87)) w.heap.size 71 #[.pointer (some ⟨p.fb i, 0, none⟩)] := (Row.new w _ _).alloc _
  have hF : Row ((w.alloc (.cells #[.pointer (some ⟨p.fb i, 0, none⟩)] 71)).alloc (.cells #[fromF Lb] 87)) (w.heap.size + 1) 87 #[fromF Lb] := by
    have := Row.new (w.alloc (.cells #[.pointer (some ⟨p.fb i, 0, none⟩)] 71)) 87 #[fromF Lb]
    rwa [show (w.alloc (.cells #[.pointer (some ⟨p.fb i, 0, none⟩)] 71)).heap.size = w.heap.size + 1 by simp] at this
  have hi2 := hi.below hb2
  have hL2 := hL.below hb2 hL.lt
  obtain ⟨L, lc, Q, sc, _, hsm, _, hsc, _, s1, _, hT⟩ := hi2.series hl
  have hG := hi2.ser i hl
  rw [hsm] at hG
  have hsr := Lib.hid (hsearch_prog (w := ((w.alloc (.cells #[.pointer (some ⟨p.fb i, 0, none⟩)] 71)).alloc (.cells #[fromF Lb] 87))) (n := (h.getD i ser0).2.length) (p := fun j => decide (lim ≤ tOf (h.getD i ser0).2 j)) (a := .pointer (some ⟨w.heap.size + 1, 0, none⟩)) (b := .pointer (some ⟨w.heap.size, 0, none⟩)) hn
    (fun x hx j hj => by
      obtain ⟨b, o, hQ, hb, hc⟩ := hT.all (by omega)
      subst hQ
      exact from_at (l := (h.getD i ser0).2) (hF.below hx hF.lt) (hS.below hx hS.lt) (hG.below hx hG.lt) (hL2.below hx hL2.lt) hj ((hx.cell hb).trans (hc j hj).1))
    (fun a b hab hb ha => by
      have := hd_mono hg hab hb
      simp only [decide_eq_true_eq] at ha ⊢
      omega))
  have HB := Lib.hid hb2
  generalize p.fb i = g at *
  generalize (h.getD i ser0).2 = l at *
  unfold fromF at *
  clear hi hg hL hb2 hi2 hL2 hG hT hsm
  go_enter Try.func41, Try.ntmps41
  go_wp2_with fail
  refine hsr.out.mono ?_
  rintro e w3 ⟨⟨k, rfl, hk⟩, hb3⟩
  have HK := Lib.hid hk
  have HB3 := Lib.hid (below_then HB.out hb3)
  clear hk hb3
  go_wp2_with fail
  go_ret
  exact ⟨⟨k, rfl, HK.out⟩, HB3.out⟩
theorem to_place {w : World} {X Lb i : Nat} {p : Plc} {h : List Ser} {c lim : Int} (hi : HeadIn w X p h c) (hl : i < h.length) (hg : Ch.Good (h.getD i ser0).2) (hn : (h.getD i ser0).2.length ≤ 1000000) (hL : Row w Lb 3 #[.int .i64 lim]) :
    Calls Try.prog 41 #[.pointer (some ⟨p.fb i, 0, none⟩), toF Lb] w fun e w' => (∃ k : Nat, e = .returned (.int .i64 (k : Int)) ∧ HPlace (fun j => decide (lim < tOf (h.getD i ser0).2 j)) (h.getD i ser0).2.length k) ∧ Below w.heap.size w w' := by
  have hmf : ∀ (fn : Fn) (first cap : Array Value) (w : World), (Instr.makeFunc fn first cap).run Try.prog w = .ok (.func fn first cap) w := fun _ _ _ _ => rfl
  have hb2 : Below w.heap.size w ((w.alloc (.cells #[.pointer (some ⟨p.fb i, 0, none⟩)] 71)).alloc (.cells #[toF Lb] 87)) := ((Below.refl w.heap.size w).alloc (Nat.le_refl _) _).alloc (by simp) _
  have hS : Row ((w.alloc (.cells #[.pointer (some ⟨p.fb i, 0, none⟩)] 71)).alloc (.cells #[toF Lb] 87)) w.heap.size 71 #[.pointer (some ⟨p.fb i, 0, none⟩)] := (Row.new w _ _).alloc _
  have hF : Row ((w.alloc (.cells #[.pointer (some ⟨p.fb i, 0, none⟩)] 71)).alloc (.cells #[toF Lb] 87)) (w.heap.size + 1) 87 #[toF Lb] := by
    have := Row.new (w.alloc (.cells #[.pointer (some ⟨p.fb i, 0, none⟩)] 71)) 87 #[toF Lb]
    rwa [show (w.alloc (.cells #[.pointer (some ⟨p.fb i, 0, none⟩)] 71)).heap.size = w.heap.size + 1 by simp] at this
  have hi2 := hi.below hb2
  have hL2 := hL.below hb2 hL.lt
  obtain ⟨L, lc, Q, sc, _, hsm, _, hsc, _, s1, _, hT⟩ := hi2.series hl
  have hG := hi2.ser i hl
  rw [hsm] at hG
  have hsr := Lib.hid (hsearch_prog (w := ((w.alloc (.cells #[.pointer (some ⟨p.fb i, 0, none⟩)] 71)).alloc (.cells #[toF Lb] 87))) (n := (h.getD i ser0).2.length) (p := fun j => decide (lim < tOf (h.getD i ser0).2 j)) (a := .pointer (some ⟨w.heap.size + 1, 0, none⟩)) (b := .pointer (some ⟨w.heap.size, 0, none⟩)) hn
    (fun x hx j hj => by
      obtain ⟨b, o, hQ, hb, hc⟩ := hT.all (by omega)
      subst hQ
      exact to_at (l := (h.getD i ser0).2) (hF.below hx hF.lt) (hS.below hx hS.lt) (hG.below hx hG.lt) (hL2.below hx hL2.lt) hj ((hx.cell hb).trans (hc j hj).1))
    (fun a b hab hb ha => by
      have := hd_mono hg hab hb
      simp only [decide_eq_true_eq] at ha ⊢
      omega))
  have HB := Lib.hid hb2
  generalize p.fb i = g at *
  generalize (h.getD i ser0).2 = l at *
  unfold toF at *
  clear hi hg hL hb2 hi2 hL2 hG hT hsm
  go_enter Try.func41, Try.ntmps41
  go_wp2_with fail
  refine hsr.out.mono ?_
  rintro e w3 ⟨⟨k, rfl, hk⟩, hb3⟩
  have HK := Lib.hid hk
  have HB3 := Lib.hid (below_then HB.out hb3)
  clear hk hb3
  go_wp2_with fail
  go_ret
  exact ⟨⟨k, rfl, HK.out⟩, HB3.out⟩
/-- What stands between two places. -/
theorem between_places {l : List Smp} {lo hi : Int} {k m : Nat} (hk : HPlace (fun j => decide (lo ≤ tOf l j)) l.length k) (hm : HPlace (fun j => decide (hi < tOf l j)) l.length m) : (l.drop k).take (max k m - k) = l.filter (inB lo hi) := by
  have key : ∀ i (hi2 : i < l.length), inB lo hi l[i] = (decide (k ≤ i) && decide (i < m)) := fun i hil => by
    have ht : l[i].1 = tOf l i := by unfold tOf; rw [List.getD_eq_getElem?_getD, List.getElem?_eq_getElem hil]; rfl
    unfold inB
    rw [ht]
    have h1 : decide (lo ≤ tOf l i) = decide (k ≤ i) := by
      rcases Nat.lt_or_ge i k with h | h
      · rw [hk.no i h, decide_eq_false (by omega)]
      · rw [hk.yes i h hil, decide_eq_true h]
    have h2 : decide (tOf l i ≤ hi) = decide (i < m) := by
      rcases Nat.lt_or_ge i m with h | h
      · have := hm.no i h
        simp only [decide_eq_false_iff_not] at this
        rw [decide_eq_true h, decide_eq_true (by omega)]
      · have := hm.yes i h hil
        simp only [decide_eq_true_eq] at this
        rw [decide_eq_false (by omega), decide_eq_false (by omega)]
    rw [h1, h2]
  have cut : l = l.take k ++ ((l.drop k).take (m - k) ++ (l.drop k).drop (m - k)) := by rw [List.take_append_drop, List.take_append_drop]
  have hmk : max k m - k = m - k := by omega
  rw [hmk]
  conv => rhs; rw [cut]
  have a1 : (l.take k).filter (inB lo hi) = [] := by
    rw [List.filter_eq_nil_iff]
    intro x hx
    obtain ⟨i, hi2, rfl⟩ := List.getElem_of_mem hx
    rw [List.length_take] at hi2
    rw [List.getElem_take, key i (by omega), decide_eq_false (by omega)]
    simp
  have a2 : ((l.drop k).take (m - k)).filter (inB lo hi) = (l.drop k).take (m - k) := by
    rw [List.filter_eq_self]
    intro x hx
    obtain ⟨i, hi2, rfl⟩ := List.getElem_of_mem hx
    rw [List.length_take, List.length_drop] at hi2
    rw [List.getElem_take, List.getElem_drop, key (k + i) (by omega), decide_eq_true (by omega), decide_eq_true (by omega)]
    rfl
  have a3 : ((l.drop k).drop (m - k)).filter (inB lo hi) = [] := by
    rw [List.filter_eq_nil_iff]
    intro x hx
    obtain ⟨i, hi2, rfl⟩ := List.getElem_of_mem hx
    rw [List.length_drop, List.length_drop] at hi2
    rw [List.getElem_drop, List.getElem_drop, key (k + (m - k + i)) (by omega), decide_eq_false (show ¬ k + (m - k + i) < m by omega)]
    simp
  rw [List.filter_append, List.filter_append, a1, a2, a3, List.nil_append, List.append_nil]
theorem hclone_prog (A : Option Addr) (l : List Smp) (c : Nat) (w : World) (hA : Smps w A l) (hl : l.length * 16 ≤ 140737488355328) :
    Calls Try.prog 32 #[.slice A l.length c] w fun e w' => ∃ v, e = .returned v ∧ OwnS w' w.heap.size v l ∧ Below w.heap.size w w' := by
  cases A with
  | some ad =>
    obtain ⟨b, o, sp⟩ := ad
    rcases Nat.eq_zero_or_pos l.length with h0 | h0
    · obtain rfl : l = [] := List.length_eq_zero_iff.1 h0
      have q := ix_eqnil (P := Try.prog) w 45 63 (some ⟨b, o, sp⟩) 0 c Try.underlying45
      have HO := Lib.hid (owns_empty (base := w.heap.size) (Row.new w 63 #[]) (Nat.le_refl _))
      have hW1 := below_one w (.cells #[] 63)
      clear hA
      go_enter Try.func32, Try.ntmps32
      go_wp2_with (at_builtin; refine app_smps rfl (.tmp 5) (.tmp 6) rfl w.heap.size _ [] rfl HO.out (some ⟨b, o, sp⟩) [] c rfl (Smps.nil _ _) (by simp) hW1.size ?_; intro v3 w3 hF3 hb3 _; rw [List.nil_append] at hF3; have HF3 := Lib.hid hF3; obtain ⟨P3, c3, hv3, _, _, _⟩ := owns_slice hF3; clear hF3; subst hv3)
      go_ret
      exact ⟨_, rfl, HF3.out, hW1.trans hb3⟩
    · obtain ⟨b', o', e, _⟩ := hA.all h0
      injection e with e
      injection e with e1 e2 e3
      subst e1 e2 e3
      exact Ch.clone_prog b o l c w hA hl
  | none =>
    have h0 : l = [] := by
      rcases Nat.eq_zero_or_pos l.length with h0 | h0
      · exact List.length_eq_zero_iff.1 h0
      · obtain ⟨b', o', e, _⟩ := hA.all h0
        cases e
    subst h0
    have q := ix_eqnil (P := Try.prog) w 45 63 none 0 c Try.underlying45
    clear hA
    go_enter Try.func32, Try.ntmps32
    go_wp2_with fail
    go_ret
    exact ⟨_, rfl, owns_nil _ _, Below.refl _ _⟩
section
variable {S T : Nat → Prop} {w w' w1 w2 : World} {X : Nat} {p : Plc} {h h' : List Ser} {c c' : Int}
theorem hdselect_no (hi : HeadIn w X p h c) (i lo hiT : Int) (hn : i < 0 ∨ (h.length : Int) ≤ i) : Calls Try.prog 19 #[.pointer (some ⟨X, 0, none⟩), .int .i64 i, .int .i64 lo, .int .i64 hiT] w fun e w' => e = .returned (.tuple #[.slice none 0 0, .int .i64 9]) ∧ Below w.heap.size w w' := by
  have hb2 := ((Below.refl w.heap.size w).alloc (Nat.le_refl _) (.cells #[.int .i64 lo] 3)).alloc (by simp) (.cells #[.int .i64 hiT] 3)
  have H := Lib.hid (hdat_no (hi.below hb2) i hn)
  have HB := Lib.hid hb2
  clear hi hn hb2
  go_enter Try.func19, Try.ntmps19
  go_wp2_with (go_at_call 40; refine H.out.mono ?_; rintro e w2 ⟨rfl, rfl⟩)
  go_ret2
  exact ⟨rfl, HB.out⟩
theorem hdlabels_no (hi : HeadIn w X p h c) (i : Int) (hn : i < 0 ∨ (h.length : Int) ≤ i) : Calls Try.prog 60 #[.pointer (some ⟨X, 0, none⟩), .int .i64 i] w fun e w' => e = .returned (.tuple #[.slice none 0 0, .int .i64 9]) ∧ w' = w := by
  have H := Lib.hid (hdat_no hi i hn)
  clear hi hn
  go_enter Try.func60, Try.ntmps60
  go_wp2_with (go_at_call 40; refine H.out.mono ?_; rintro e w2 ⟨rfl, rfl⟩)
  go_ret2
  exact ⟨rfl, rfl⟩
theorem hdlabels_yes (hi : HeadIn w X p h c) (hk : HeadOk h) (i : Nat) (hl : i < h.length) : Calls Try.prog 60 #[.pointer (some ⟨X, 0, none⟩), .int .i64 (i : Int)] w fun e w' => ∃ v, e = .returned (.tuple #[v, .int .i64 0]) ∧ OwnL w' w.heap.size v (h.getD i ser0).1 ∧ Below w.heap.size w w' := by
  have H := Lib.hid (hdat_yes hi i hl)
  obtain ⟨L, lc, P, sc, _, _, _, _, s0, _, hL, _⟩ := hi.series hl
  have HC := Lib.hid (ixclone_prog L (h.getD i ser0).1 lc w hL (by have := (hdlens hk hl).2; omega))
  generalize p.fb i = g at *
  generalize (h.getD i ser0).1 = l at *
  clear hi hl hL hk
  go_enter Try.func60, Try.ntmps60
  go_wp2_with (first
    | (go_at_call 40; refine H.out.mono ?_; rintro e w2 ⟨rfl, rfl⟩)
    | (go_at_call 31; refine HC.out.mono ?_; rintro e w2 ⟨v2, rfl, ho2, hb2⟩))
  go_ret2
  exact ⟨_, rfl, ho2, hb2⟩
set_option maxHeartbeats 1000000 in
theorem hdselect_yes (hi : HeadIn w X p h c) (hk : HeadOk h) (i : Nat) (hl : i < h.length) (lo hiT : Int) : Calls Try.prog 19 #[.pointer (some ⟨X, 0, none⟩), .int .i64 (i : Int), .int .i64 lo, .int .i64 hiT] w fun e w' =>
    ∃ v, e = .returned (.tuple #[v, .int .i64 0]) ∧ OwnS w' w.heap.size v ((h.getD i ser0).2.filter (inB lo hiT)) ∧ Below w.heap.size w w' := by
  have hmf : ∀ (fn : Fn) (first cap : Array Value) (w : World), (Instr.makeFunc fn first cap).run Try.prog w = .ok (.func fn first cap) w := fun _ _ _ _ => rfl
  have hb2 : Below w.heap.size w ((w.alloc (.cells #[.int .i64 lo] 3)).alloc (.cells #[.int .i64 hiT] 3)) := ((Below.refl w.heap.size w).alloc (Nat.le_refl _) _).alloc (by simp) _
  have hL0 : Row ((w.alloc (.cells #[.int .i64 lo] 3)).alloc (.cells #[.int .i64 hiT] 3)) w.heap.size 3 #[.int .i64 lo] := (Row.new w _ _).alloc _
  have hH0 : Row ((w.alloc (.cells #[.int .i64 lo] 3)).alloc (.cells #[.int .i64 hiT] 3)) (w.heap.size + 1) 3 #[.int .i64 hiT] := by
    have := Row.new (w.alloc (.cells #[.int .i64 lo] 3)) 3 #[.int .i64 hiT]
    rwa [show (w.alloc (.cells #[.int .i64 lo] 3)).heap.size = w.heap.size + 1 by simp] at this
  have hin := hi.below hb2
  have HB2 := Lib.hid hb2
  obtain ⟨W, hW⟩ : ∃ W, ((w.alloc (.cells #[.int .i64 lo] 3)).alloc (.cells #[.int .i64 hiT] 3)) = W := ⟨_, rfl⟩
  rw [hW] at hL0 hH0 hin HB2
  have hlen := (hdlens hk hl).1
  have hgood := (hk.right _ (ser_at hl)).2
  have HAT := Lib.hid (hdat_yes hin i hl)
  have HF := Lib.hid (fun x (hx : Below W.heap.size W x) => from_place (hin.below hx) hl hgood (by omega) (hL0.below hx hL0.lt))
  have HT := Lib.hid (fun x (hx : Below W.heap.size W x) => to_place (hin.below hx) hl hgood (by omega) (hH0.below hx hH0.lt))
  have HSR := Lib.hid (fun x (hx : Below W.heap.size W x) => (hin.below hx).series hl)
  generalize p.fb i = g at *
  have HBT := Lib.hid (fun k m hk hm => between_places (l := (h.getD i ser0).2) (lo := lo) (hi := hiT) (k := k) (m := m) hk hm)
  obtain ⟨l, hll⟩ : ∃ l, (h.getD i ser0).2 = l := ⟨_, rfl⟩
  rw [hll] at HF HT HSR HBT hlen ⊢
  unfold fromF at HF
  unfold toF at HT
  clear hi hin hgood hL0 hH0 hb2 hll hk
  go_enter Try.func19, Try.ntmps19
  go_wp2_with (first | (go_at_call 40; refine HAT.out.mono ?_; rintro e w2 ⟨rfl, rfl⟩) | fail)
  refine (HF.out _ (Below.refl _ _)).mono ?_
  rintro e w3 ⟨⟨k, rfl, hk⟩, hb3⟩
  have HB3 := Lib.hid hb3
  have HK := Lib.hid hk
  have hkl := hk.le
  clear hb3 hk
  go_wp2_with fail
  refine (HT.out _ HB3.out).mono ?_
  rintro e w4 ⟨⟨m, rfl, hm⟩, hb4⟩
  have hml := hm.le
  have HSEL := Lib.hid (HBT.out k m HK.out hm)
  have HB4 := Lib.hid (below_then HB3.out hb4)
  obtain ⟨L, lc, Q, sc, _, _, _, hsc, _, s1, _, hS⟩ := HSR.out _ HB4.out
  have HS := Lib.hid hS
  clear hb4 hm hS
  obtain ⟨n, hn⟩ : ∃ n, l.length = n := ⟨_, rfl⟩
  have HN := Lib.hid hn
  rw [hn] at s1 hsc hlen hkl hml
  clear hn
  have hmx : (max (k : Int) (m : Int)).toNat = max k m := by omega
  have hfl : (l.filter (inB lo hiT)).length = max k m - k := by
    rw [← HSEL.out, List.length_take, List.length_drop, HN.out]
    omega
  have HMX := Lib.hid hmx
  have HFL := Lib.hid hfl
  have HC1 := Lib.hid (show sc = k → Calls Try.prog 32 #[.slice Q ((max (k : Int) (m : Int)).toNat - k) 0] w4 fun e w' => ∃ v, e = .returned v ∧ OwnS w' w4.heap.size v (l.filter (inB lo hiT)) ∧ Below w4.heap.size w4 w' from fun hsk => by
    have hz : l.filter (inB lo hiT) = [] := List.length_eq_zero_iff.1 (by rw [hfl]; omega)
    rw [hmx, ← hfl, hz]
    exact hclone_prog Q [] 0 w4 (Smps.nil _ _) (by simp))
  have HC2 := Lib.hid (show ∀ c2, Calls Try.prog 32 #[.slice (Option.map (fun x => x.add (k * 2)) Q) ((max (k : Int) (m : Int)).toNat - k) c2] w4 fun e w' => ∃ v, e = .returned v ∧ OwnS w' w4.heap.size v (l.filter (inB lo hiT)) ∧ Below w4.heap.size w4 w' from fun c2 => by
    rw [hmx, ← hfl]
    refine hclone_prog _ _ c2 w4 ?_ (by rw [hfl]; omega)
    rcases Nat.eq_zero_or_pos (l.filter (inB lo hiT)).length with h0 | h0
    · rw [List.length_eq_zero_iff.1 h0]
      exact Smps.nil _ _
    · obtain ⟨b, o, hQ, _⟩ := HS.out.all (by have := List.length_filter_le (inB lo hiT) l; omega)
      subst hQ
      rw [← HSEL.out]
      show Smps w4 (some (Addr.add ⟨b, o, none⟩ (k * 2))) _
      rw [add_at]
      exact (HS.out.from k (by rw [HN.out]; exact hkl)).front _)
  clear hmx hfl
  have e1 : (k : Int) ≤ max (k : Int) (m : Int) := by omega
  have e2 : max (k : Int) (m : Int) ≤ (sc : Int) := by omega
  have e3 : (k : Int) ≤ (sc : Int) := by omega
  go_wp2_with fail
  all_goals
    first
      | (refine (HC1.out (by assumption)).mono ?_)
      | (refine (HC2.out _).mono ?_)
    rintro e w5 ⟨v, rfl, ho5, hb5⟩
    have HO5 := Lib.hid (owns_lower ho5 (Nat.le_trans HB2.out.size HB4.out.size))
    have HB5 := Lib.hid (HB2.out.trans ((below_then HB4.out hb5).mono HB2.out.size))
    clear ho5 hb5
    go_wp2_with fail
    go_ret2
    exact ⟨_, rfl, HO5.out, HB5.out⟩
end
end Go.Proofs.Ytpcjnagdanmdpaa
