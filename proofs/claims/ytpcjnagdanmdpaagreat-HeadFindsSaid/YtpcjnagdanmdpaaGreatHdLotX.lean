/- In one text, written by lotify.py: HdDel, HdRef, HdRemove. -/
import Derived.Test.YtpcjnagdanmdpaaGreatHdLotD
namespace Go.Proofs.YtpcjnagdanmdpaaGreat
open Go.RowKit Go.Maps
open Ch
set_option linter.unusedVariables false
set_option linter.unusedSimpArgs false
set_option maxRecDepth 100000
def inB (lo hi : Int) (s : Smp) : Bool := decide (lo ≤ s.1) && decide (s.1 ≤ hi)
theorem hdrop_keep (lo hi : Int) (s : Smp) : inB lo hi s = !outB lo hi s := by
  unfold inB outB
  by_cases h1 : s.1 < lo <;> by_cases h2 : hi < s.1 <;> simp [h1, h2] <;> omega
/-- Block g is a row of the samples l, and of what stands behind. -/
def hRowSm (w : World) (g : Nat) (l : List Smp) (rest : List Value) : Prop := Row w g 68 (l.flatMap smpE ++ rest).toArray
theorem hrowsm_cell {w : World} {g : Nat} {l : List Smp} {rest : List Value} (h : hRowSm w g l rest) {i : Nat} (hi : i < l.length) : w.cell? ⟨g, i * 2, none⟩ = some (.int .i64 (tOf l i)) ∧ w.cell? ⟨g, i * 2 + 1, none⟩ = some (.int .i64 (vOf l i)) := by
  have hlen := flat_len smpE 2 smpE_len l
  have h0 := flat_get smpE 2 smpE_len l i _ 0 (getD_some l (0, 0) hi) (by omega)
  have h1 := flat_get smpE 2 smpE_len l i _ 1 (getD_some l (0, 0) hi) (by omega)
  refine ⟨(Row.cell h (i * 2)).trans ?_, (Row.cell h (i * 2 + 1)).trans ?_⟩
  · rw [List.getElem?_toArray, List.getElem?_append_left (by omega)]
    exact h0
  · rw [List.getElem?_toArray, List.getElem?_append_left (by omega)]
    exact h1
theorem hsm_flat_set : ∀ (l : List Smp) (i : Nat) (t v : Int) (rest : List Value), i < l.length → ((l.flatMap smpE ++ rest).set (i * 2) (.int .i64 t)).set (i * 2 + 1) (.int .i64 v) = (l.set i (t, v)).flatMap smpE ++ rest := by
  intro l
  induction l with
  | nil => intro i t v rest h; simp at h
  | cons x xs ih =>
    intro i t v rest h
    cases i with
    | zero => simp [smpE]
    | succ i =>
      have := ih i t v rest (by simpa using h)
      rw [List.flatMap_cons, List.append_assoc, List.set_cons_succ, List.flatMap_cons, List.append_assoc, ← this, show (i + 1) * 2 = i * 2 + 1 + 1 by omega]
      show ((Value.int .i64 x.1 :: Value.int .i64 x.2 :: (xs.flatMap smpE ++ rest)).set (i * 2 + 1 + 1) _).set (i * 2 + 1 + 1 + 1) _ = _
      simp only [List.set_cons_succ]
      rfl
theorem hrowsm_set {w : World} {g : Nat} {l : List Smp} {rest : List Value} (h : hRowSm w g l rest) {i : Nat} (hi : i < l.length) (t v : Int) :
    hRowSm ((w.setCell ⟨g, i * 2, none⟩ (.int .i64 t)).setCell ⟨g, i * 2 + 1, none⟩ (.int .i64 v)) g (l.set i (t, v)) rest := by
  unfold hRowSm
  rw [← hsm_flat_set l i t v rest hi]
  have := (Row.setAt h (i * 2) (.int .i64 t)).setAt (i * 2 + 1) (.int .i64 v)
  rw [List.setIfInBounds_toArray, List.setIfInBounds_toArray] at this
  exact this
theorem hrowsm_below {w w' : World} {g : Nat} {l : List Smp} {rest : List Value} (h : hRowSm w g l rest) (hb : Below w.heap.size w w') : hRowSm w' g l rest := Row.below h hb (Row.lt h)
/-- The program's own test. -/
def hdelF (Lb Hb : Nat) : Value := .func (.func 57) #[] #[.pointer (some ⟨Lb, 0, none⟩), .pointer (some ⟨Hb, 0, none⟩)]
set_option maxHeartbeats 1000000 in
theorem hdel_prog {w : World} {Lb Hb : Nat} {lo hi : Int} (hL : w.cell? ⟨Lb, 0, none⟩ = some (.int .i64 lo)) (hH : w.cell? ⟨Hb, 0, none⟩ = some (.int .i64 hi)) (hLl : Lb < w.heap.size) (hHl : Hb < w.heap.size) (t v : Int) :
    Calls Tryz.prog 57 #[.agg #[.int .i64 t, .int .i64 v], .pointer (some ⟨Lb, 0, none⟩), .pointer (some ⟨Hb, 0, none⟩)] w fun e w' => e = .returned (.bool (inB lo hi (t, v))) ∧ Below w.heap.size w w' := by
  have hb := below_one w (.cells #[.int .i64 t, .int .i64 v] 68)
  have l1 := (hb.cell (p := ⟨Lb, 0, none⟩) hLl).trans hL
  have h1 := (hb.cell (p := ⟨Hb, 0, none⟩) hHl).trans hH
  have HB := Lib.hid hb
  clear hL hH hb
  unfold inB
  by_cases h2 : lo ≤ t
  · have d1 : decide (lo ≤ t) = true := decide_eq_true h2
    rw [d1, Bool.true_and]
    clear h2
    generalize hd : decide (t ≤ hi) = d at *
    go_enter Tryz.func57, Tryz.ntmps57
    go_wp2_with fail
    go_ret
    exact ⟨rfl, HB.out⟩
  · have d1 : decide (lo ≤ t) = false := decide_eq_false h2
    rw [d1, Bool.false_and]
    clear h2
    go_enter Tryz.func57, Tryz.ntmps57
    go_wp2_with fail
    go_ret
    exact ⟨rfl, HB.out⟩
set_option maxHeartbeats 2000000 in
theorem hindexf_prog {w : World} {Lb Hb g c : Nat} {lo hi : Int} {l : List Smp} {rest : List Value} (hL : w.cell? ⟨Lb, 0, none⟩ = some (.int .i64 lo)) (hH : w.cell? ⟨Hb, 0, none⟩ = some (.int .i64 hi)) (hLl : Lb < w.heap.size) (hHl : Hb < w.heap.size)
    (hR : hRowSm w g l rest) (hl : l.length ≤ 1000000) (hlc : l.length ≤ c) :
    Calls Tryz.prog 81 #[.slice (some ⟨g, 0, none⟩) l.length c, hdelF Lb Hb] w fun e w' =>
      Below w.heap.size w w' ∧ ((e = .returned (.int .i64 (-1)) ∧ ∀ i, i < l.length → outB lo hi (l.getD i (0, 0)) = true) ∨ ∃ k, k < l.length ∧ e = .returned (.int .i64 (k : Int)) ∧ (∀ i, i < k → outB lo hi (l.getD i (0, 0)) = true) ∧ outB lo hi (l.getD k (0, 0)) = false) := by
  unfold hdelF
  have HR := Lib.hid (fun x (h : Below w.heap.size w x) => hrowsm_below hR h)
  have HD := Lib.hid (fun x (h : Below w.heap.size w x) => hdel_prog (w := x) ((h.cell (p := ⟨Lb, 0, none⟩) hLl).trans hL) ((h.cell (p := ⟨Hb, 0, none⟩) hHl).trans hH) (Nat.lt_of_lt_of_le hLl h.size) (Nat.lt_of_lt_of_le hHl h.size))
  obtain ⟨n, hn⟩ : ∃ n, l.length = n := ⟨_, rfl⟩
  have HN := Lib.hid hn
  rw [hn] at hl hlc ⊢
  clear hL hH hR hn
  go_enter Tryz.func81, Tryz.ntmps81
  go_wp2_with fail
  go_loopw [8] (fun i wr => ∃ k : Nat, k ≤ n ∧ i = .int .i64 (k : Int) ∧ (∀ i, i < k → outB lo hi (l.getD i (0, 0)) = true) ∧ Below w.heap.size w wr) (fun i _ => n - (intOf i).toNat)
  case atStart => exact ⟨0, Nat.zero_le _, rfl, fun i hi => absurd hi (by omega), Below.refl _ _⟩
  case round =>
    obtain ⟨k, hk, rfl, hz, hbr⟩ := hrel
    have HB := Lib.hid hbr
    have HZ := Lib.hid hz
    by_cases hlt : k < n
    · have i1 : decide ((k : Int) < (n : Int)) = true := decide_eq_true (by omega)
      have i2 : (k : Int) < (n : Int) := by omega
      obtain ⟨g0, g1⟩ := hrowsm_cell (HR.out _ hbr) (i := k) (by rw [HN.out]; exact hlt)
      have HC := Lib.hid (HD.out wr hbr (tOf l k) (vOf l k))
      have hdk : inB lo hi (tOf l k, vOf l k) = !outB lo hi (l.getD k (0, 0)) := hdrop_keep lo hi _
      generalize tOf l k = T at *
      generalize vOf l k = V at *
      have HDK := Lib.hid hdk
      clear hz hbr hdk
      go_wp2_with fail
      refine HC.out.mono ?_
      rintro e w3 ⟨rfl, hb3⟩
      have HB3 := Lib.hid (HB.out.trans (hb3.mono HB.out.size))
      clear hb3
      cases hkb : outB lo hi (l.getD k (0, 0))
      · have HDE := Lib.hid (show inB lo hi (T, V) = true by rw [HDK.out, hkb]; rfl)
        rw [HDE.out]
        have HKB := Lib.hid hkb
        have HKL := Lib.hid (show k < l.length by rw [HN.out]; exact hlt)
        clear hkb
        go_wp2_with fail
        go_ret
        exact ⟨HB3.out, .inr ⟨k, by rw [← HN.out]; exact HKL.out, rfl, HZ.out, HKB.out⟩⟩
      · have HDE := Lib.hid (show inB lo hi (T, V) = false by rw [HDK.out, hkb]; rfl)
        rw [HDE.out]
        have HZ2 := Lib.hid (show ∀ i, i < k + 1 → outB lo hi (l.getD i (0, 0)) = true from fun i hi => by
          rcases Nat.lt_or_ge i k with h | h
          · exact HZ.out i h
          · obtain rfl : i = k := by omega
            exact hkb)
        clear hkb
        go_wp2_with fail
        go_roundw
        case rel => exact ⟨k + 1, by omega, by go_num, HZ2.out, HB3.out⟩
        case measure => simp [intOf]; omega
    · have i1 : decide ((k : Int) < (n : Int)) = false := decide_eq_false (by omega)
      have i2 : ¬ (k : Int) < (n : Int) := by omega
      have HZE := Lib.hid (show ∀ i, i < n → outB lo hi (l.getD i (0, 0)) = true from fun i hi => hz i (by omega))
      clear hz hbr
      go_wp2_with fail
      go_ret
      exact ⟨HB.out, .inl ⟨rfl, HZE.out⟩⟩
/-! ### DeleteFunc -/
theorem hzero_smp (w : World) : (zeroValue 68).run Tryz.prog w = .ok (.agg #[.int .i64 0, .int .i64 0]) w := by kernel_rfl
/-- Block g is a row of the samples l, N cells long. -/
def hLeft (w : World) (g : Nat) (l : List Smp) (N : Nat) : Prop := ∃ rest, hRowSm w g l rest ∧ (l.flatMap smpE ++ rest).length = N
theorem hrun_clear_smp {w : World} {g : Nat} {l : List Smp} {rest : List Value} (hR : hRowSm w g l rest) {i : Nat} (hi : i < l.length) (c : Nat) :
    ∃ W, (∀ ty, (Builtin.clear_ #[50] ty #[.slice (some ⟨g, i * 2, none⟩) (l.length - i) c]).run Tryz.prog w = .ok (.tuple #[]) W) ∧ (∃ rest', hRowSm W g (l.take i) rest' ∧ ((l.take i).flatMap smpE ++ rest').length = (l.flatMap smpE ++ rest).length) ∧ Kept (fun k => k = g) w W := by
  have hlen := flat_len smpE 2 smpE_len l
  have hsz : (Builtin.zeroCells (Value.agg #[.int .i64 0, .int .i64 0]).cells (l.length - i)).toList.length = (l.length - i) * 2 := by
    simp [Builtin.zeroCells, Value.cells]
  have hone : ∀ v ∈ (Builtin.zeroCells (Value.agg #[.int .i64 0, .int .i64 0]).cells (l.length - i)).toList, v.oneCell' = true := by
    intro v hv
    simp only [Builtin.zeroCells, Value.cells, Array.toList_map, List.mem_map] at hv
    obtain ⟨k, _, rfl⟩ := hv
    have : k % 2 = 0 ∨ k % 2 = 1 := by omega
    rcases this with h | h <;> simp [h, Value.oneCell']
  generalize hvs : (Builtin.zeroCells (Value.agg #[.int .i64 0, .int .i64 0]).cells (l.length - i)).toList = vs at hsz hone
  have hst := run_storeCells_at (P := Tryz.prog) g (i * 2) 68 vs 0 _ w hR (by simp only [List.size_toArray, List.length_append]; omega) hone
  rw [Nat.add_zero] at hst
  refine ⟨w.setRow g (((l.flatMap smpE ++ rest).toArray.toList.take (i * 2) ++ vs ++ (l.flatMap smpE ++ rest).toArray.toList.drop (i * 2 + vs.length)).toArray), fun ty => ?_, ?_, ?_⟩
  rotate_left
  · have hrow := setRow_heap w g _ (((l.flatMap smpE ++ rest).toArray.toList.take (i * 2) ++ vs ++ (l.flatMap smpE ++ rest).toArray.toList.drop (i * 2 + vs.length)).toArray) 68 _ hR
    have e : l.flatMap smpE = (l.take i).flatMap smpE ++ (l.drop i).flatMap smpE := by rw [← List.flatMap_append, List.take_append_drop]
    have el : ((l.take i).flatMap smpE).length = i * 2 := by rw [flat_len smpE 2 smpE_len, List.length_take, Nat.min_eq_left (by omega)]
    have e1 : (l.flatMap smpE ++ rest).take (i * 2) = (l.take i).flatMap smpE := by rw [e, List.append_assoc, List.take_append_of_le_length (by omega), List.take_of_length_le (by omega)]
    refine ⟨vs ++ (l.flatMap smpE ++ rest).drop (i * 2 + vs.length), ?_, ?_⟩
    · unfold hRowSm
      rw [← e1, ← List.append_assoc]
      exact hrow
    · rw [List.length_append, List.length_append, List.length_append, List.length_drop, List.length_append, el, hsz, hlen]
      omega
  · exact ⟨rfl, rfl, rfl, by simp, fun k hk hn => setRow_other w g k _ hn⟩
  · obtain ⟨m, hm⟩ : ∃ m, l.length - i = m + 1 := ⟨l.length - i - 1, by omega⟩
    rw [hm] at hvs ⊢
    simp [Builtin.clear_, run_underlying Tryz.underlying50, hzero_smp, hvs, hst]
theorem hfilter_none {lo hi : Int} {l : List Smp} (h : ∀ i, i < l.length → outB lo hi (l.getD i (0, 0)) = true) : l.filter (outB lo hi) = l := by
  rw [List.filter_eq_self]
  intro x hx
  obtain ⟨i, hi, rfl⟩ := List.getElem_of_mem hx
  have := h i hi
  rw [List.getD_eq_getElem?_getD, List.getElem?_eq_getElem hi] at this
  exact this
theorem htake_smp {l : List Smp} {k : Nat} (h : k < l.length) : l.take (k + 1) = l.take k ++ [l.getD k (0, 0)] := by
  rw [List.take_add_one, List.getElem?_eq_getElem h, List.getD_eq_getElem?_getD, List.getElem?_eq_getElem h]
  rfl
theorem hfilter_first {lo hi : Int} {l : List Smp} {k : Nat} (hk : k < l.length) (h : ∀ i, i < k → outB lo hi (l.getD i (0, 0)) = true) (hn : outB lo hi (l.getD k (0, 0)) = false) : (l.take (k + 1)).filter (outB lo hi) = l.take k := by
  rw [htake_smp hk, List.filter_append, hfilter_none (l := l.take k)]
  · rw [List.filter_cons, hn]
    simp
  · intro i hi
    rw [List.length_take] at hi
    have := h i (by omega)
    rw [show (l.take k).getD i (0, 0) = l.getD i (0, 0) by simp [List.getD_eq_getElem?_getD, List.getElem?_take, show i < k by omega]]
    exact this
theorem hdrop_getD {l m : List Smp} {j : Nat} (h : m.drop j = l.drop j) : m.getD j (0, 0) = l.getD j (0, 0) := by
  have := congrArg (fun x => x.getD 0 (0, 0)) h
  simp only [getD_drop', Nat.add_zero] at this
  exact this
set_option maxHeartbeats 4000000 in
theorem hdeletef_prog {w : World} {Lb Hb g c : Nat} {lo hi : Int} {l : List Smp} {rest : List Value} (hL : w.cell? ⟨Lb, 0, none⟩ = some (.int .i64 lo)) (hH : w.cell? ⟨Hb, 0, none⟩ = some (.int .i64 hi)) (hLl : Lb < w.heap.size) (hHl : Hb < w.heap.size) (hLg : Lb ≠ g) (hHg : Hb ≠ g)
    (hR : hRowSm w g l rest) {N : Nat} (hN : (l.flatMap smpE ++ rest).length = N) (hl : l.length ≤ 1000000) (hlc : l.length ≤ c) :
    Calls Tryz.prog 58 #[.slice (some ⟨g, 0, none⟩) l.length c, hdelF Lb Hb] w fun e w' =>
      e = .returned (.slice (some ⟨g, 0, none⟩) (l.filter (outB lo hi)).length c) ∧ hLeft w' g (l.filter (outB lo hi)) N ∧ Kept (fun k => k = g) w w' := by
  have hgl := Row.lt hR
  have HIX := Lib.hid (hindexf_prog hL hH hLl hHl hR hl hlc)
  have HD := Lib.hid (fun x (h : Kept (fun k => k = g) w x) => hdel_prog (w := x) ((World.cell?_of_block (w := w) (h.block Lb hLl hLg)).trans hL) ((World.cell?_of_block (w := w) (h.block Hb hHl hHg)).trans hH) (Nat.lt_of_lt_of_le hLl h.size) (Nat.lt_of_lt_of_le hHl h.size))
  have HR := Lib.hid hR
  have HNN := Lib.hid hN
  clear hN
  obtain ⟨n, hn⟩ : ∃ n, l.length = n := ⟨_, rfl⟩
  have HN := Lib.hid hn
  rw [hn] at hl hlc HIX ⊢
  have hnot : ∀ (x : Bool) (w : World), (Op.unary .not (.bool x)).run Tryz.prog w = .ok (.bool (!x)) w := fun _ _ => rfl
  clear hL hH hR hn
  unfold hdelF at *
  go_enter Tryz.func58, Tryz.ntmps58
  go_wp2_with fail
  refine HIX.out.mono ?_
  rintro e w2 ⟨hb2, ⟨rfl, hall⟩ | ⟨k, hk, rfl, hbef, hat⟩⟩
  · have HF := Lib.hid (hfilter_none (lo := lo) (hi := hi) (l := l) (by rw [HN.out]; exact hall))
    have HB2 := Lib.hid (Kept.below (S := fun k => k = g) hb2)
    have HS := Lib.hid (hrowsm_below HR.out hb2)
    clear hb2 hall
    go_wp2_with fail
    go_ret
    refine ⟨by rw [HF.out, HN.out] <;> rfl, ?_, HB2.out⟩
    rw [HF.out]
    exact ⟨rest, HS.out, HNN.out⟩
  · have HF := Lib.hid (hfilter_first (by rw [HN.out]; exact hk) hbef hat)
    have HB2 := Lib.hid (Kept.below (S := fun k => k = g) hb2)
    have HR2 := Lib.hid (hrowsm_below HR.out hb2)
    have q1 : ((k : Int) == -1) = false := by rw [beq_eq_false_iff_ne]; omega
    have hw1 : IntKind.i64.wrap ((k : Int) + 1) = ((k + 1 : Nat) : Int) := by rw [show ((k : Int) + 1) = ((k + 1 : Nat) : Int) by omega]; exact IntWalk.i64_in _ (by omega)
    clear hb2 hbef hat HIX
    go_wp2_with fail
    go_loopw [5, 6] (fun a b wr => ∃ (i j : Nat) (m : List Smp), i < j ∧ j ≤ n ∧ a = .int .i64 (i : Int) ∧ b = .int .i64 (j : Int) ∧ m.length = n ∧ hRowSm wr g m rest ∧ m.take i = (l.take j).filter (outB lo hi) ∧ m.drop j = l.drop j ∧ Kept (fun k => k = g) w wr) (fun _ b _ => n - (intOf b).toNat)
    case atStart => exact ⟨k, k + 1, l, by omega, by omega, rfl, by first | rfl | go_num, HN.out, HR2.out, HF.out.symm, rfl, HB2.out⟩
    case round =>
      obtain ⟨i, j, m, hij, hj, rfl, rfl, hml, hrow, htk, hdr, hbr⟩ := hrel
      have HB := Lib.hid hbr
      have HM := Lib.hid hml
      by_cases hlt : j < n
      · have i1 : decide ((j : Int) < (n : Int)) = true := decide_eq_true (by omega)
        have i2 : (j : Int) < (n : Int) := by omega
        obtain ⟨g0, g1⟩ := hrowsm_cell hrow (i := j) (by omega)
        have heq : m.getD j (0, 0) = l.getD j (0, 0) := hdrop_getD hdr
        have hb3 : Kept (fun k => k = g) w (wr.alloc (.cells #[.int .i64 (tOf m j), .int .i64 (vOf m j)] 68)) := hbr.alloc _
        have HC := Lib.hid (HD.out _ hb3 (tOf m j) (vOf m j))
        have hdk : inB lo hi (tOf m j, vOf m j) = !outB lo hi (l.getD j (0, 0)) := by rw [← heq]; exact hdrop_keep lo hi _
        have HB3 := Lib.hid hb3
        have HR3 := Lib.hid (hrowsm_below hrow (below_one wr (.cells #[.int .i64 (tOf m j), .int .i64 (vOf m j)] 68)))
        have HX3 := Lib.hid (Row.new wr 68 #[.int .i64 (tOf m j), .int .i64 (vOf m j)])
        have htv : l.getD j (0, 0) = (tOf m j, vOf m j) := heq.symm
        have hts := htake_smp (l := l) (k := j) (by rw [HN.out]; exact hlt)
        have hgl2 := Row.lt hrow
        generalize tOf m j = T at *
        generalize vOf m j = V at *
        have HDK := Lib.hid hdk
        clear hbr hdk hb3 heq
        cases hkb : outB lo hi (l.getD j (0, 0))
        · have HDE := Lib.hid (show inB lo hi (T, V) = true by rw [HDK.out, hkb]; rfl)
          rw [HDE.out] at HC
          have HT2 := Lib.hid (show m.take i = (l.take (j + 1)).filter (outB lo hi) by rw [hts, List.filter_append, htk, List.filter_cons, hkb]; simp)
          have HD2 := Lib.hid (show m.drop (j + 1) = l.drop (j + 1) by rw [← List.drop_drop, hdr, List.drop_drop])
          have HIJ := Lib.hid (show i < j + 1 ∧ j + 1 ≤ n by omega)
          clear hkb htk hdr hrow htv hts hml
          go_wp2_with fail
          refine HC.out.mono ?_
          rintro e w5 ⟨rfl, hb5⟩
          have HB5 := Lib.hid (HB3.out.trans (Kept.below (S := fun k => k = g) hb5) (fun i hi => .inl hi))
          have HR5 := Lib.hid (hrowsm_below HR3.out hb5)
          clear hb5
          go_wp2_with fail
          go_roundw
          case rel => exact ⟨i, j + 1, m, HIJ.out.1, HIJ.out.2, rfl, by go_num, HM.out, HR5.out, HT2.out, HD2.out, HB5.out⟩
          case measure => simp [intOf]; omega
        · have HDE := Lib.hid (show inB lo hi (T, V) = false by rw [HDK.out, hkb]; rfl)
          rw [HDE.out] at HC
          have HT2 := Lib.hid (show (m.set i (T, V)).take (i + 1) = (l.take (j + 1)).filter (outB lo hi) by
            rw [hts, List.filter_append, ← htk, List.filter_cons, hkb, if_pos rfl, htv]
            rw [htake_smp (l := m.set i (T, V)) (by rw [List.length_set]; omega)]
            simp [List.getD_eq_getElem?_getD, show i < m.length by omega, List.take_set_of_le])
          have HD2 := Lib.hid (show (m.set i (T, V)).drop (j + 1) = l.drop (j + 1) by
            rw [List.drop_set_of_lt (by omega), ← List.drop_drop, hdr, List.drop_drop])
          have HIJ := Lib.hid (show i + 1 < j + 1 ∧ j + 1 ≤ n by omega)
          have HML := Lib.hid (show (m.set i (T, V)).length = n by rw [List.length_set]; exact hml)
          have him : i < m.length := by omega
          have HIM := Lib.hid him
          have hin : (i : Int) < (n : Int) := by omega
          clear hkb htk hdr hrow htv hts hml him
          go_wp2_with fail
          refine HC.out.mono ?_
          rintro e w5 ⟨rfl, hb5⟩
          have hB5 := HB3.out.trans (Kept.below (S := fun k => k = g) hb5) (fun i hi => .inl hi)
          have hR5 := hrowsm_below HR3.out hb5
          have hX5 := HX3.out.below hb5 HX3.out.lt
          have z0 : w5.cell? ⟨wr.heap.size, 0, none⟩ = some (.int .i64 T) := hX5.cell 0
          have z1 : w5.cell? ⟨wr.heap.size, 1, none⟩ = some (.int .i64 V) := hX5.cell 1
          obtain ⟨y0, y1⟩ := hrowsm_cell hR5 (i := i) HIM.out
          have f0 := Row.frozen hR5 (i * 2)
          have f1 := Row.frozen hR5 (i * 2 + 1)
          have HR6 := Lib.hid (hrowsm_set hR5 HIM.out T V)
          have HB6 := Lib.hid ((hB5.set (p := ⟨g, i * 2, none⟩) (.inl rfl) (.int .i64 T)).set (p := ⟨g, i * 2 + 1, none⟩) (.inl rfl) (.int .i64 V))
          generalize tOf m i = T0 at *
          generalize vOf m i = V0 at *
          clear hB5 hR5 hX5 hb5
          go_wp2_with fail
          go_roundw
          case rel => exact ⟨i + 1, j + 1, _, HIJ.out.1, HIJ.out.2, by go_num, by go_num, HML.out, HR6.out, HT2.out, HD2.out, HB6.out⟩
          case measure => simp [intOf]; omega
      · have hjn : j = l.length := by rw [HN.out]; omega
        have i1 : decide ((j : Int) < (n : Int)) = false := decide_eq_false (by omega)
        have i2 : ¬ (j : Int) < (n : Int) := by omega
        rw [hjn, List.take_length] at htk
        obtain ⟨W, hcl, hsm, hbw⟩ := hrun_clear_smp hrow (i := i) (by omega) (c - i)
        rw [hml] at hcl
        rw [htk] at hsm
        have hsl : (m.flatMap smpE ++ rest).length = (l.flatMap smpE ++ rest).length := by rw [List.length_append, List.length_append, flat_len smpE 2 smpE_len, flat_len smpE 2 smpE_len, hml, HN.out]
        rw [hsl, HNN.out] at hsm
        have HSM := Lib.hid (show hLeft W g (l.filter (outB lo hi)) N from hsm)
        have HBW := Lib.hid (HB.out.trans hbw (fun i hi => .inl hi))
        have HFL := Lib.hid (show (l.filter (outB lo hi)).length = i by rw [← htk, List.length_take]; omega)
        have hin : (i : Int) ≤ (n : Int) := by omega
        have hic : (i : Int) ≤ (c : Int) := by omega
        have hci : ¬ c = i := by omega
        have hinn : i ≤ n := by omega
        have hicc : i ≤ c := by omega
        clear hrow htk hdr hbr hjn hsm hbw hml
        go_wp2_with fail
        go_ret
        exact ⟨by rw [HFL.out] <;> rfl, HSM.out, HBW.out⟩
theorem reflast_prog (x : SPl) (w : World) (hx : SerIn w x) (hl : x.1.2.length ≤ 1000000) :
    Calls Tryz.prog 28 #[.agg #[lsV x, ssV x]] w fun e w' => e = .returned (.int .i64 (lastT x.1)) ∧ Below w.heap.size w w' := by
  obtain ⟨⟨ls, l⟩, ⟨P1, c1, P2, c2⟩⟩ := x
  have hS := hx.samples
  dsimp only at hS hl
  unfold lastT lsV ssV
  dsimp only
  generalize ls.length = L1
  have hb1 := below_one w (.cells #[.slice P1 L1 c1, .slice P2 l.length c2] 65)
  have HR : Row (w.alloc (.cells #[.slice P1 L1 c1, .slice P2 l.length c2] 65)) w.heap.size 65 #[.slice P1 L1 c1, .slice P2 l.length c2] := Row.new w _ _
  have s1 := HR.cell 1
  clear hx HR
  by_cases h0 : l.length = 0
  · rw [if_pos h0]
    rw [h0] at s1 ⊢
    clear hS
    go_enter Tryz.func28, Tryz.ntmps28
    go_wp2_with fail
    go_ret
    exact ⟨rfl, below_one _ _⟩
  · rw [if_neg h0]
    obtain ⟨b, o, rfl, hb, hc⟩ := hS.all (by omega)
    obtain ⟨g0, _⟩ := hc (l.length - 1) (by omega)
    replace g0 := (hb1.cell (p := ⟨b, o + (l.length - 1) * 2, none⟩) hb).trans g0
    have q1 : ((l.length : Int) == 0) = false := by rw [beq_eq_false_iff_ne]; omega
    have hw1 : IntKind.i64.wrap ((l.length : Int) - 1) = ((l.length - 1 : Nat) : Int) := by
      rw [show ((l.length : Int) - 1) = ((l.length - 1 : Nat) : Int) by omega]
      exact IntWalk.i64_in _ (by omega)
    have q2 : ((l.length - 1 : Nat) : Int) < (l.length : Int) := by omega
    have q3 : l.length - 1 < l.length := by omega
    generalize hn : l.length = n at *
    generalize tOf l (n - 1) = T at *
    clear hS hc
    go_enter Tryz.func28, Tryz.ntmps28
    go_wp2_with fail
    go_ret
    exact ⟨rfl, below_one _ _⟩
theorem idF_step {l : List Lbl} {h : List Ser} {k : Nat} (hk : k < h.length) : idF l (h.drop k) k = if (h.getD k ser0).1 = l then (k : Int) else idF l (h.drop (k + 1)) (k + 1) := by
  have e : h.getD k ser0 = h[k] := by simp [List.getD_eq_getElem?_getD, hk]
  rw [e, List.drop_eq_getElem_cons hk]
  rfl
set_option maxHeartbeats 1000000 in
theorem refid_prog (A : Option Addr) (S : List Ser) (c : Nat) (P : Option Addr) (l : List Lbl) (d : Nat) (w : World) (hA : Sers w A S) (hP : Lbls w P l) (hf : ∀ s ∈ S, s.1.length ≤ 100000000000000) (hl : l.length ≤ 100000000000000) (hn : S.length ≤ 1000000) :
    Calls Tryz.prog 14 #[.slice A S.length c, .slice P l.length d] w fun e w' => e = .returned (.int .i64 (idH S l)) ∧ Below w.heap.size w w' := by
  have HA := Lib.hid hA
  have HP := Lib.hid hP
  have HF := Lib.hid hf
  have HL := Lib.hid hl
  obtain ⟨n, hn2⟩ : ∃ n, S.length = n := ⟨_, rfl⟩
  have HN := Lib.hid hn2
  rw [hn2] at hn ⊢
  clear hA hP hf hl hn2
  go_enter Tryz.func14, Tryz.ntmps14
  go_wp2_with fail
  go_loopw [5] (fun i wr => ∃ k : Nat, k ≤ n ∧ i = .int .i64 (k : Int) ∧ idF l (S.drop k) k = idH S l ∧ Below w.heap.size w wr) (fun i _ => n - (intOf i).toNat)
  case atStart => exact ⟨0, Nat.zero_le _, rfl, rfl, Below.refl _ _⟩
  case round =>
    obtain ⟨k, hk, rfl, he, hbr⟩ := hrel
    by_cases hlt : k < n
    · have i1 : decide ((k : Int) < (n : Int)) = true := decide_eq_true (by omega)
      have i2 : (k : Int) < (n : Int) := by omega
      have hkl : k < S.length := by rw [HN.out]; exact hlt
      obtain ⟨b, o, rfl, hb, hat⟩ := HA.out.all (by omega)
      obtain ⟨m, g0, g1, hin⟩ := hat k hkl
      replace g0 := (hbr.cell (p := ⟨b, o + k * 2, none⟩) hb).trans g0
      have hsl := HF.out _ (ser_at hkl)
      have HSR := Lib.hid (same_ref m.la P (S.getD k ser0).1 l m.lc d wr (hin.labels.below hbr) (HP.out.below hbr) hsl HL.out)
      have hst := idF_step (l := l) hkl
      have HK := Lib.hid (show k + 1 ≤ n from hlt)
      have HBR := Lib.hid hbr
      have HE := Lib.hid he
      clear hat g1 hin hsl hbr he
      generalize (S.getD k ser0).1 = ls at *
      by_cases h0 : ls = l
      · rw [if_pos h0] at hst
        have HST := Lib.hid hst
        rw [decide_eq_true h0] at HSR
        clear hst h0
        go_wp2_with (go_at_call 38; refine HSR.out.mono ?_; rintro e w3 ⟨rfl, hb3⟩; have HB3 := Lib.hid (below_then HBR.out hb3); clear hb3)
        go_ret
        exact ⟨ret_int (by rw [← HE.out, HST.out]), HB3.out⟩
      · rw [if_neg h0] at hst
        have HST := Lib.hid hst
        rw [decide_eq_false h0] at HSR
        clear hst h0
        go_wp2_with (go_at_call 38; refine HSR.out.mono ?_; rintro e w3 ⟨rfl, hb3⟩; have HB3 := Lib.hid (below_then HBR.out hb3); clear hb3)
        go_roundw
        case rel => exact ⟨k + 1, HK.out, by go_num, by rw [← HST.out]; exact HE.out, HB3.out⟩
        case measure => simp [intOf]; omega
    · have i1 : decide ((k : Int) < (n : Int)) = false := decide_eq_false (by omega)
      have i2 : ¬ (k : Int) < (n : Int) := by omega
      have hkn : S.drop k = [] := List.drop_eq_nil_of_le (by rw [HN.out]; omega)
      rw [hkn] at he
      have HE := Lib.hid (show (-1 : Int) = idH S l from he)
      have HBR := Lib.hid hbr
      clear he hbr hkn
      go_wp2_with fail
      go_ret
      exact ⟨ret_int HE.out, HBR.out⟩
theorem hout_step (lo hi : Int) {l : List Smp} {k : Nat} (h : k < l.length) : (l.take (k + 1)).filter (outB lo hi) = (l.take k).filter (outB lo hi) ++ (if outB lo hi (l.getD k (0, 0)) then [l.getD k (0, 0)] else []) := by
  rw [htake_smp h, List.filter_append, List.filter_cons]
  split <;> rfl
set_option maxHeartbeats 4000000 in
/-- The document's Without. -/
theorem hdwithout_ref (A : Option Addr) (l : List Smp) (c : Nat) (lo hi : Int) (w : World) (hA : Smps w A l) (hl : l.length ≤ 1000000) :
    Calls Tryz.prog 29 #[.slice A l.length c, .int .i64 lo, .int .i64 hi] w fun e w' => ∃ v, e = .returned v ∧ OwnS w' w.heap.size v (l.filter (outB lo hi)) ∧ Below w.heap.size w w' := by
  have HA := Lib.hid hA
  obtain ⟨n, hn⟩ : ∃ n, l.length = n := ⟨_, rfl⟩
  have HN := Lib.hid hn
  have HST := Lib.hid (fun k (hk : k < l.length) => hout_step lo hi hk)
  rw [hn] at hl HST ⊢
  clear hA hn
  go_enter Tryz.func29, Tryz.ntmps29
  go_wp2_with fail
  go_loopw [7, 8] (fun v i wr => ∃ k : Nat, k ≤ n ∧ i = .int .i64 (k : Int) ∧ OwnS wr w.heap.size v ((l.take k).filter (outB lo hi)) ∧ Below w.heap.size w wr) (fun _ i _ => n - (intOf i).toNat)
  case atStart => exact ⟨0, Nat.zero_le _, rfl, owns_nil _ _, Below.refl _ _⟩
  case round =>
    obtain ⟨k, hk, rfl, hO, hbr⟩ := hrel
    by_cases hlt : k < n
    · have i1 : decide ((k : Int) < (n : Int)) = true := decide_eq_true (by omega)
      have i2 : (k : Int) < (n : Int) := by omega
      obtain ⟨b, o, rfl, hb, hc⟩ := (HA.out.below hbr).all (by rw [HN.out]; omega)
      obtain ⟨g0, g1⟩ := hc k (by rw [HN.out]; exact hlt)
      have hst := HST.out k hlt
      have HK := Lib.hid (show k + 1 ≤ n from hlt)
      have HLL := Lib.hid (show ((l.take k).filter (outB lo hi)).length ≤ 1000000 by have := List.length_filter_le (outB lo hi) (l.take k); rw [List.length_take] at this; omega)
      have hkb : outB lo hi (l.getD k (0, 0)) = (decide (tOf l k < lo) || decide (hi < tOf l k)) := rfl
      have htv : l.getD k (0, 0) = (tOf l k, vOf l k) := rfl
      rw [hkb, htv] at hst
      generalize tOf l k = T at *
      generalize vOf l k = V at *
      have HO := Lib.hid hO
      have HB := Lib.hid hbr
      have hO1 := owns_below hO (below_one wr (.cells #[.int .i64 T, .int .i64 V] 68))
      have HO1 := Lib.hid hO1
      have HB1 := Lib.hid (hbr.alloc hbr.size (.cells #[.int .i64 T, .int .i64 V] 68))
      have HS1 := Lib.hid (smps_cell (Row.new wr 68 #[.int .i64 T, .int .i64 V]))
      clear hc hO hbr hO1 hkb htv
      by_cases h1 : T < lo
      · have k1 : decide (T < lo) = true := decide_eq_true h1
        rw [k1, Bool.true_or, if_pos rfl] at hst
        have HST1 := Lib.hid hst
        clear hst
        go_wp2_with (at_builtin; refine app_smps rfl (.tmp 31) (.tmp 36) rfl w.heap.size _ ((l.take k).filter (outB lo hi)) rfl HO1.out (some ⟨wr.heap.size, 0, none⟩) [(T, V)] 1 rfl HS1.out (by have := HLL.out; simp only [List.length_singleton]; omega) HB1.out.size ?_; intro v7 w7 ho7 hb7 hg7; have HO7 := Lib.hid (show OwnS w7 w.heap.size v7 ((l.take (k + 1)).filter (outB lo hi)) by rw [HST1.out]; exact ho7); have HB7 := Lib.hid (HB1.out.trans hb7); clear ho7 hb7 hg7)
        go_roundw
        case rel => exact ⟨k + 1, HK.out, by go_num, HO7.out, HB7.out⟩
        case measure => simp [intOf]; omega
      · have k1 : decide (T < lo) = false := decide_eq_false h1
        by_cases h2 : hi < T
        · have k2 : decide (hi < T) = true := decide_eq_true h2
          rw [k1, k2, Bool.false_or, if_pos rfl] at hst
          have HST1 := Lib.hid hst
          clear hst
          go_wp2_with (at_builtin; refine app_smps rfl (.tmp 31) (.tmp 36) rfl w.heap.size _ ((l.take k).filter (outB lo hi)) rfl HO1.out (some ⟨wr.heap.size, 0, none⟩) [(T, V)] 1 rfl HS1.out (by have := HLL.out; simp only [List.length_singleton]; omega) HB1.out.size ?_; intro v7 w7 ho7 hb7 hg7; have HO7 := Lib.hid (show OwnS w7 w.heap.size v7 ((l.take (k + 1)).filter (outB lo hi)) by rw [HST1.out]; exact ho7); have HB7 := Lib.hid (HB1.out.trans hb7); clear ho7 hb7 hg7)
          go_roundw
          case rel => exact ⟨k + 1, HK.out, by go_num, HO7.out, HB7.out⟩
          case measure => simp [intOf]; omega
        · have k2 : decide (hi < T) = false := decide_eq_false h2
          rw [k1, k2, Bool.or_false, if_neg (by simp), List.append_nil] at hst
          have HST1 := Lib.hid hst
          clear hst
          go_wp2_with fail
          go_roundw
          case rel => exact ⟨k + 1, HK.out, by go_num, by rw [HST1.out]; exact HO.out, HB.out⟩
          case measure => simp [intOf]; omega
    · have hkn : k = l.length := by rw [HN.out]; omega
      rw [hkn, List.take_length] at hO
      have i1 : decide ((k : Int) < (n : Int)) = false := decide_eq_false (by omega)
      have i2 : ¬ (k : Int) < (n : Int) := by omega
      have HO := Lib.hid hO
      have HB := Lib.hid hbr
      clear hO hbr hkn
      go_wp2_with fail
      go_ret
      exact ⟨_, rfl, HO.out, HB.out⟩
/-! ### DeleteFunc of a head's own row -/
theorem hindexf_nil (F : Value) (c : Nat) (w : World) : Calls Tryz.prog 81 #[.slice none 0 c, F] w fun e w' => e = .returned (.int .i64 (-1)) ∧ w' = w := by
  go_enter Tryz.func81, Tryz.ntmps81
  go_wp2_with fail
  go_loopw [8] (fun i wr => i = .int .i64 0 ∧ wr = w) (fun i _ => 0 - (intOf i).toNat)
  case atStart => exact ⟨rfl, rfl⟩
  case round =>
    obtain ⟨rfl, rfl⟩ := hrel
    go_wp2_with fail
    go_ret
    exact ⟨rfl, rfl⟩
theorem hdeletef_nil (F : Value) (c : Nat) (w : World) : Calls Tryz.prog 58 #[.slice none 0 c, F] w fun e w' => e = .returned (.slice none 0 c) ∧ w' = w := by
  have H := hindexf_nil F c
  go_enter Tryz.func58, Tryz.ntmps58
  go_wp2_with (go_at_call 81; refine (H _).mono ?_; rintro e w2 ⟨rfl, rfl⟩)
  go_ret
  exact ⟨rfl, rfl⟩
section
variable {S T : Nat → Prop} {w w' w1 w2 : World} {X : Nat} {p : Plc} {h h' : List Ser} {c c' : Int}
/-- The block of a row at an address. -/
def blkOf (Q : Option Addr) (k : Nat) : Prop := ∃ ad, Q = some ad ∧ ad.block = k
theorem hdel_own {Lb Hb sc : Nat} {lo hi : Int} {Q : Option Addr} {l : List Smp} (hL : Row w Lb 3 #[.int .i64 lo]) (hH : Row w Hb 3 #[.int .i64 hi]) (hO : OwnS w 0 (.slice Q l.length sc) l) (hl : l.length ≤ 1000000) :
    Calls Tryz.prog 58 #[.slice Q l.length sc, hdelF Lb Hb] w fun e w' => e = .returned (.slice Q (l.filter (outB lo hi)).length sc) ∧ OwnS w' 0 (.slice Q (l.filter (outB lo hi)).length sc) (l.filter (outB lo hi)) ∧ Kept (blkOf Q) w w' := by
  have hty := fun k (hk : (Value.slice Q l.length sc).ownBlock = some k) => ty_own hO hk
  rcases hO.2 with ⟨e, h0⟩ | ⟨g, cap, cur, e, h1, h2, h3, h4, h5, h6⟩
  · injection e with e1 e2 e3
    subst e1 e3
    obtain rfl : l = [] := List.length_eq_zero_iff.1 h0
    refine (hdeletef_nil _ _ w).mono ?_
    rintro e w' ⟨rfl, rfl⟩
    exact ⟨rfl, hO, Kept.refl _ _⟩
  · injection e with e1 e2 e3
    subst e1 e3
    have hR : hRowSm w g l (cur.toList.drop (l.length * 2)) := by
      unfold hRowSm
      rw [← h6, List.take_append_drop, Array.toArray_toList]
      exact h2
    have hN : (l.flatMap smpE ++ cur.toList.drop (l.length * 2)).length = sc * 2 := by
      rw [← h6, List.take_append_drop, Array.length_toList, h5]
    have hg := hty g rfl
    refine (hdeletef_prog (hL.cell 0) (hH.cell 0) hL.lt hH.lt ((ty_row hL).ne hg (by decide)) ((ty_row hH).ne hg (by decide)) hR hN hl h3).mono ?_
    rintro e w' ⟨rfl, ⟨rest, k1, k2⟩, k3⟩
    refine ⟨rfl, ⟨by rw [flat_len smpE 2 smpE_len], .inr ⟨g, sc, ((l.filter (outB lo hi)).flatMap smpE ++ rest).toArray, rfl, h1, k1, Nat.le_trans (List.length_filter_le _ _) h3, h4, by simpa using k2, ?_⟩⟩, k3.mono fun k hk => ⟨_, rfl, hk.symm⟩⟩
    rw [List.take_append_of_le_length (by rw [flat_len smpE 2 smpE_len]; exact Nat.le_refl _)]
    exact List.take_of_length_le (by rw [flat_len smpE 2 smpE_len]; exact Nat.le_refl _)
/-! ### ids -/
def cutsH (lo hi : Int) (h : List Ser) (ids : List Int) : List Ser := ids.foldl (fun h i => cutH h lo hi i) h
theorem cutH_len (h : List Ser) (lo hi i : Int) : (cutH h lo hi i).length = h.length := by unfold cutH; rw [List.length_set]
theorem cutsH_len (lo hi : Int) : ∀ (ids : List Int) (h : List Ser), (cutsH lo hi h ids).length = h.length := by
  intro ids
  induction ids with
  | nil => intro h; rfl
  | cons i r ih => intro h; show (cutsH lo hi (cutH h lo hi i) r).length = _; rw [ih, cutH_len]
theorem cutsH_snoc (lo hi : Int) (h : List Ser) (ids : List Int) (i : Int) : cutsH lo hi h (ids ++ [i]) = cutH (cutsH lo hi h ids) lo hi i := by simp [cutsH]
theorem idsH_all {m : Nat} {lo hi : Int} : ∀ (ids : List Int) (h : List Ser), (∀ i ∈ ids, i < (m : Int)) → idsH m lo hi h ids = (cutsH lo hi h ids, 0) := by
  intro ids
  induction ids with
  | nil => intro h _; rfl
  | cons i r ih =>
    intro h hx
    unfold idsH
    rw [if_neg (by have := hx i (by simp); omega), ih _ fun j hj => hx j (by simp [hj])]
    rfl
theorem idsH_some {m : Nat} {lo hi : Int} : ∀ (ids : List Int) (h : List Ser), (∃ i ∈ ids, (m : Int) ≤ i) → (idsH m lo hi h ids).2 = 9 := by
  intro ids
  induction ids with
  | nil => intro h ⟨i, hi, _⟩; cases hi
  | cons i r ih =>
    rintro h ⟨k, hk, hm⟩
    unfold idsH
    by_cases c1 : (m : Int) ≤ i
    · rw [if_pos c1]
    · rw [if_neg c1]
      rcases List.mem_cons.1 hk with rfl | hk
      · exact absurd hm c1
      · exact ih _ ⟨k, hk, hm⟩
theorem cut_rows {w5 : World} {i n sc : Nat} {Q : Option Addr} (hi : HeadIn w X p h c) (hl : i < h.length) (hsm : p.sm i = .slice Q n sc) (hK : Kept (blkOf Q) w w5) : Row w5 X 59 #[p.sv, .map (some p.mb), .int .i64 c] ∧ Row w5 (p.fb i) 77 #[p.lv i, p.sm i] := by
  have hbk : ∀ k, blkOf Q k → (p.sm i).ownBlock = some k := by
    rintro k ⟨ad, rfl, rfl⟩
    rw [hsm]
    rfl
  exact ⟨row_move hi.row (hK.block _ hi.row.lt fun e => (hi.ts hl (hbk _ e)).ne hi.tx (by decide) rfl), row_move (hi.ser i hl) (hK.block _ (hi.ser i hl).lt fun e => (hi.ts hl (hbk _ e)).ne (hi.tf hl) (by decide) rfl)⟩
theorem HeadAt.drew (hi : HeadAt S w X h) : HeadAt S w.drew X h := hi.below (Below.refl _ _).drew
/-- Fewer samples of a series, and fewer in all. -/
theorem cut_fin {w5 : World} {lo hi : Int} {i g sc : Nat} {Q : Option Addr} (hi' : HeadIn w X p h (cntS h : Int)) (hS : ∀ k, Foot X p h.length k → S k) (hl : i < h.length) (hg : p.fb i = g) (hsm : p.sm i = .slice Q (h.getD i ser0).2.length sc)
    (hO : OwnS w5 0 (.slice Q ((h.getD i ser0).2.filter (outB lo hi)).length sc) ((h.getD i ser0).2.filter (outB lo hi))) (hK : Kept (blkOf Q) w w5)
    (hc : (cntS h : Int) - (((h.getD i ser0).2.length : Int) - (((h.getD i ser0).2.filter (outB lo hi)).length : Int)) = c') :
    HeadAt S ((w5.setCell ⟨g, 1, none⟩ (.slice Q ((h.getD i ser0).2.filter (outB lo hi)).length sc)).setCell ⟨X, 2, none⟩ (.int .i64 c')) X (cutH h lo hi (i : Int)) ∧
      Kept S w ((w5.setCell ⟨g, 1, none⟩ (.slice Q ((h.getD i ser0).2.filter (outB lo hi)).length sc)).setCell ⟨X, 2, none⟩ (.int .i64 c')) := by
  subst hg
  have hbk : ∀ k, blkOf Q k → (p.sm i).ownBlock = some k := by
    rintro k ⟨ad, rfl, rfl⟩
    rw [hsm]
    rfl
  have hne : X ≠ p.fb i := hi'.tx.ne (hi'.tf hl) (by decide)
  have nx : ¬ blkOf Q X := fun e => (hi'.ts hl (hbk _ e)).ne hi'.tx (by decide) rfl
  have nf : ¬ blkOf Q (p.fb i) := fun e => (hi'.ts hl (hbk _ e)).ne (hi'.tf hl) (by decide) rfl
  have hx5 := row_move hi'.row (hK.block _ hi'.row.lt nx)
  have hs5 := row_move (hi'.ser i hl) (hK.block _ (hi'.ser i hl).lt nf)
  have K : Kept (fun k => k = X ∨ k = p.fb i ∨ (p.sm i).ownBlock = some k) w ((w5.setCell ⟨p.fb i, 1, none⟩ (.slice Q ((h.getD i ser0).2.filter (outB lo hi)).length sc)).setCell ⟨X, 2, none⟩ (.int .i64 c')) :=
    ((Kept.mono (T := fun k => k = X ∨ k = p.fb i ∨ (p.sm i).ownBlock = some k) hK fun k hk => Or.inr (Or.inr (hbk k hk))).set (p := ⟨p.fb i, 1, none⟩) (.inl (.inr (.inl rfl))) _).set (p := ⟨X, 2, none⟩) (.inl (.inl rfl)) _
  have hown : (Value.slice Q ((h.getD i ser0).2.filter (outB lo hi)).length sc).ownBlock = (p.sm i).ownBlock := by rw [hsm]; cases Q <;> rfl
  have e1 : cutH h lo hi (i : Int) = h.set i ((h.getD i ser0).1, (h.getD i ser0).2.filter (outB lo hi)) := rfl
  have e2 := cntS_set (h := h) (i := i) ((h.getD i ser0).1, (h.getD i ser0).2.filter (outB lo hi)) hl
  have e3 : ((cntS (cutH h lo hi (i : Int)) : Nat) : Int) = c' := by
    rw [e1]
    have e4 : (h.getD i ([], [])).2.length = (h.getD i ser0).2.length := rfl
    simp only at e2
    omega
  have hin := hi'.with_smp (s' := .slice Q ((h.getD i ser0).2.filter (outB lo hi)).length sc) (l' := (h.getD i ser0).2.filter (outB lo hi)) (c' := c') hl K ?_ ?_ ?_ (.inl hown)
  · refine ⟨⟨_, by rw [e3, e1]; exact hin, fun k hk => ?_⟩, K.mono ?_⟩
    · rw [e1, List.length_set] at hk
      exact (foot_smp (B := k + 1) hl (.inl hown) hk).elim (hS k) fun h => by omega
    · rintro k (e | e | e)
      · exact hS k (.inl e)
      · exact hS k (.inr (.inr (.inr ⟨i, hl, .inl e⟩)))
      · exact hS k (.inr (.inr (.inr ⟨i, hl, .inr (.inr e)⟩)))
  · exact (hx5.setFar (p := ⟨p.fb i, 1, none⟩) hne _).setAt 2 _
  · exact (hs5.setAt 1 _).setFar (p := ⟨X, 2, none⟩) (Ne.symm hne) _
  · have h6 := rows_setFar hO hs5 (by decide) 1 (.slice Q ((h.getD i ser0).2.filter (outB lo hi)).length sc)
    exact rows_setFar h6 (hx5.setFar (p := ⟨p.fb i, 1, none⟩) hne _) (by decide) 2 _
set_option maxHeartbeats 2000000 in
theorem remove_no (hi : HeadAt S w X h) {ids : List Int} {A : Option Addr} {ca : Nat} (hA : Zi w A ids) (hx : ∀ i ∈ ids, 0 ≤ i) (hn : ids.length ≤ 100000) {lo hiT : Int} (hbad : ∃ i ∈ ids, (h.length : Int) ≤ i) :
    Calls Tryz.prog 25 #[.pointer (some ⟨X, 0, none⟩), .slice A ids.length ca, .int .i64 lo, .int .i64 hiT] w fun e w' => e = .returned (.int .i64 9) ∧ Below w.heap.size w w' := by
  obtain ⟨p, hin, _⟩ := hi
  have hb2 : Below w.heap.size w ((w.alloc (.cells #[.int .i64 lo] 3)).alloc (.cells #[.int .i64 hiT] 3)) := ((Below.refl w.heap.size w).alloc (Nat.le_refl _) _).alloc (by simp) _
  have HYES := Lib.hid (fun i hl => hdat_yes (hin.below hb2) i hl)
  have HNO := Lib.hid (fun i hl => hdat_no (hin.below hb2) i hl)
  have HA := Lib.hid (hA.below hb2)
  have HB := Lib.hid hb2
  have HBAD := Lib.hid hbad
  have HX := Lib.hid hx
  obtain ⟨W, hW⟩ : ∃ W, ((w.alloc (.cells #[.int .i64 lo] 3)).alloc (.cells #[.int .i64 hiT] 3)) = W := ⟨_, rfl⟩
  rw [hW] at HYES HNO HA HB
  obtain ⟨n, hnn⟩ : ∃ n, ids.length = n := ⟨_, rfl⟩
  have HN := Lib.hid hnn
  rw [hnn] at hn ⊢
  clear hin hA hx hbad hb2 hnn
  go_enter Tryz.func25, Tryz.ntmps25
  go_wp2_with fail
  go_loopw [20] (fun a wr => ∃ j : Nat, j ≤ n ∧ a = .int .i64 (j : Int) ∧ (∀ i ∈ ids.take j, i < (h.length : Int)) ∧ wr = W) (fun a _ => n - (intOf a).toNat)
  case atStart => exact ⟨0, Nat.zero_le _, rfl, fun i hi => by simp at hi, by first | rfl | trivial⟩
  case round =>
    obtain ⟨j, hj, rfl, hfirst, rfl⟩ := hrel
    by_cases hlt : j < n
    · have i1 : decide ((j : Int) < (n : Int)) = true := decide_eq_true (by omega)
      have i2 : (j : Int) < (n : Int) := by omega
      have hjr : j < ids.length := by rw [HN.out]; exact hlt
      obtain ⟨b, o, rfl, hb, g0⟩ := HA.out.at_ hjr
      have hmem : ids.getD j 0 ∈ ids := by
        rw [List.getD_eq_getElem?_getD, List.getElem?_eq_getElem hjr]
        exact List.getElem_mem hjr
      have h0 := HX.out _ hmem
      have htk : ids.take (j + 1) = ids.take j ++ [ids.getD j 0] := by
        rw [List.take_add_one, List.getElem?_eq_getElem hjr, List.getD_eq_getElem?_getD, List.getElem?_eq_getElem hjr]
        rfl
      by_cases hm : (h.length : Int) ≤ ids.getD j 0
      · have HC := Lib.hid (HNO.out (ids.getD j 0) (.inr hm))
        generalize ids.getD j 0 = id at *
        clear hfirst hmem htk hm h0
        go_wp2_with (go_at_call 39; refine HC.out.mono ?_; rintro e w2 ⟨rfl, rfl⟩)
        go_ret
        exact ⟨rfl, HB.out⟩
      · obtain ⟨k, hk⟩ : ∃ k : Nat, ids.getD j 0 = (k : Int) := ⟨(ids.getD j 0).toNat, by omega⟩
        have HC := Lib.hid (HYES.out k (by omega))
        have HF := Lib.hid (show ∀ i ∈ ids.take (j + 1), i < (h.length : Int) from fun i hi => by
          rw [htk] at hi
          rcases List.mem_append.1 hi with hi | hi
          · exact hfirst i hi
          · rw [List.mem_singleton.1 hi]; omega)
        rw [hk] at g0
        generalize p.fb k = g at *
        clear hfirst hmem htk hm h0 hk
        go_wp2_with (go_at_call 39; refine HC.out.mono ?_; rintro e w2 ⟨rfl, rfl⟩)
        go_roundw
        case rel => exact ⟨j + 1, hlt, by go_num, HF.out, by first | rfl | trivial⟩
        case measure => simp [intOf]; omega
    · exfalso
      obtain ⟨i, hi, hm⟩ := HBAD.out
      have : i ∈ ids.take j := by rw [List.take_of_length_le (by rw [HN.out]; omega)]; exact hi
      have := hfirst i this
      omega
set_option maxHeartbeats 4000000 in
theorem remove_ok (hi : HeadAt S w X h) (hk : HeadOk h) {ids : List Int} {A : Option Addr} {ca : Nat} (hA : Zi w A ids) (hAS : ids ≠ [] → ∀ ad, A = some ad → ¬ S ad.block) (hn : ids.length ≤ 100000) {lo hiT : Int} (hx : ∀ i ∈ ids, 0 ≤ i ∧ i < (h.length : Int)) :
    Calls Tryz.prog 25 #[.pointer (some ⟨X, 0, none⟩), .slice A ids.length ca, .int .i64 lo, .int .i64 hiT] w fun e w' => e = .returned (.int .i64 0) ∧ After S w X (cutsH lo hiT h ids) w' := by
  have hmf : ∀ (fn : Fn) (first cap : Array Value) (w : World), (Instr.makeFunc fn first cap).run Tryz.prog w = .ok (.func fn first cap) w := fun _ _ _ _ => rfl
  obtain ⟨B, hB⟩ : ∃ B, w.heap.size = B := ⟨_, rfl⟩
  obtain ⟨T, hT⟩ : ∃ T : Nat → Prop, T = fun k => (S k ∧ k < B) ∨ B + 2 ≤ k := ⟨_, rfl⟩
  have hb2 : Below w.heap.size w ((w.alloc (.cells #[.int .i64 lo] 3)).alloc (.cells #[.int .i64 hiT] 3)) := ((Below.refl w.heap.size w).alloc (Nat.le_refl _) _).alloc (by simp) _
  have hL0 : Row ((w.alloc (.cells #[.int .i64 lo] 3)).alloc (.cells #[.int .i64 hiT] 3)) B 3 #[.int .i64 lo] := by rw [← hB]; exact (Row.new w _ _).alloc _
  have hH0 : Row ((w.alloc (.cells #[.int .i64 lo] 3)).alloc (.cells #[.int .i64 hiT] 3)) (B + 1) 3 #[.int .i64 hiT] := by
    have := Row.new (w.alloc (.cells #[.int .i64 lo] 3)) 3 #[.int .i64 hiT]
    rwa [show (w.alloc (.cells #[.int .i64 lo] 3)).heap.size = B + 1 by simp; exact hB] at this
  have hsz : B + 2 ≤ ((w.alloc (.cells #[.int .i64 lo] 3)).alloc (.cells #[.int .i64 hiT] 3)).heap.size := by simp; omega
  have hhd : HeadAt T ((w.alloc (.cells #[.int .i64 lo] 3)).alloc (.cells #[.int .i64 hiT] 3)) X h := (hi.within.below hb2).mono fun k hk => by rw [hT]; exact .inl ⟨hk.1, by rw [← hB]; exact hk.2⟩
  have hkp : Kept T w ((w.alloc (.cells #[.int .i64 lo] 3)).alloc (.cells #[.int .i64 hiT] 3)) := Kept.below hb2
  have HT0 := Lib.hid (show ∀ k, B ≤ k → k < B + 2 → ¬ T k from fun k h1 h2 h3 => by
    rw [hT] at h3
    rcases h3 with h3 | h3 <;> omega)
  have HT1 := Lib.hid (show ∀ k, B + 2 ≤ k → T k from fun k h1 => by rw [hT]; exact .inr h1)
  have HTA := Lib.hid (show ids ≠ [] → ∀ ad, A = some ad → ad.block < B → ¬ T ad.block from fun hne ad e h1 h3 => by
    rw [hT] at h3
    rcases h3 with h3 | h3
    · exact hAS hne ad e h3.1
    · omega)
  have HFIN := Lib.hid (show ∀ (w' : World) (h' : List Ser), HeadAt T w' X h' → Kept T w w' → After S w X h' w' from fun w' h' a1 a2 => by
    refine ⟨a1.mono fun k hk => ?_, a2.os, a2.tape, a2.output, a2.size, fun k h1 h2 => a2.block k h1 ?_⟩
    · rw [hT] at hk
      rcases hk with hk | hk
      · exact .inl hk.1
      · exact .inr (by omega)
    · intro h3
      rw [hT] at h3
      rcases h3 with h3 | h3
      · exact h2 h3.1
      · omega)
  obtain ⟨p, hin, _⟩ := hi
  have HYES := Lib.hid (fun i hl => hdat_yes (hin.below hb2) i hl)
  have HA := Lib.hid hA
  have HA2 := Lib.hid (hA.below hb2)
  have HX := Lib.hid hx
  have HOK := Lib.hid hk
  have HB := Lib.hid hB
  obtain ⟨W, hW⟩ : ∃ W, ((w.alloc (.cells #[.int .i64 lo] 3)).alloc (.cells #[.int .i64 hiT] 3)) = W := ⟨_, rfl⟩
  rw [hW] at HYES HA2 hhd hkp hsz hL0 hH0
  have HHD := Lib.hid hhd
  have HKP := Lib.hid hkp
  have HL0 := Lib.hid hL0
  have HH0 := Lib.hid hH0
  have HSZ := Lib.hid hsz
  have h256 := hk.few
  obtain ⟨n, hnn⟩ : ∃ n, ids.length = n := ⟨_, rfl⟩
  have HN := Lib.hid hnn
  rw [hnn] at hn ⊢
  clear hin hA hx hAS hk hT hb2 hnn hhd hkp hsz hL0 hH0
  go_enter Tryz.func25, Tryz.ntmps25
  go_wp2_with fail
  go_loopw [20] (fun a wr => ∃ j : Nat, j ≤ n ∧ a = .int .i64 (j : Int) ∧ wr = W) (fun a _ => n - (intOf a).toNat)
  case atStart => exact ⟨0, Nat.zero_le _, rfl, by first | rfl | trivial⟩
  case round =>
    obtain ⟨j, hj, rfl, rfl⟩ := hrel
    by_cases hlt : j < n
    · have i1 : decide ((j : Int) < (n : Int)) = true := decide_eq_true (by omega)
      have i2 : (j : Int) < (n : Int) := by omega
      have hjr : j < ids.length := by rw [HN.out]; exact hlt
      obtain ⟨b, o, rfl, hb, g0⟩ := HA2.out.at_ hjr
      have hmem : ids.getD j 0 ∈ ids := by
        rw [List.getD_eq_getElem?_getD, List.getElem?_eq_getElem hjr]
        exact List.getElem_mem hjr
      obtain ⟨h0, h1⟩ := HX.out _ hmem
      obtain ⟨k, hk⟩ : ∃ k : Nat, ids.getD j 0 = (k : Int) := ⟨(ids.getD j 0).toNat, by omega⟩
      have HC := Lib.hid (HYES.out k (by omega))
      rw [hk] at g0
      generalize p.fb k = g at *
      clear hmem h0 hk h1
      go_wp2_with (go_at_call 39; refine HC.out.mono ?_; rintro e w2 ⟨rfl, rfl⟩)
      go_roundw
      case rel => exact ⟨j + 1, hlt, by go_num, by first | rfl | trivial⟩
      case measure => simp [intOf]; omega
    · have i1 : decide ((j : Int) < (n : Int)) = false := decide_eq_false (by omega)
      have i2 : ¬ (j : Int) < (n : Int) := by omega
      go_wp2_with fail
      go_loopw [37] (fun a wr => ∃ q : Nat, q ≤ n ∧ a = .int .i64 (q : Int) ∧ Row wr B 3 #[.int .i64 lo] ∧ Row wr (B + 1) 3 #[.int .i64 hiT] ∧ HeadAt T wr X (cutsH lo hiT h (ids.take q)) ∧ HeadOk (cutsH lo hiT h (ids.take q)) ∧ Kept T w wr ∧ B + 2 ≤ wr.heap.size) (fun a _ => n - (intOf a).toNat)
      case atStart => exact ⟨0, Nat.zero_le _, rfl, HL0.out, HH0.out, HHD.out, HOK.out, HKP.out, HSZ.out⟩
      case round =>
        obtain ⟨q, hq, rfl, hL, hH, hhd, hok, hkp, hsz⟩ := hrel
        by_cases hlq : q < n
        · have i1 : decide ((q : Int) < (n : Int)) = true := decide_eq_true (by omega)
          have i2 : (q : Int) < (n : Int) := by omega
          have hjr : q < ids.length := by rw [HN.out]; exact hlq
          obtain ⟨b, o, hAe, hb, g0⟩ := HA.out.at_ hjr
          have hnT := HTA.out (fun e => by rw [e] at hjr; simp at hjr) _ hAe (by rw [← HB.out]; exact hb)
          have hbl := hkp.block b hb hnT
          subst hAe
          have mv : ∀ i, wr.cell? ⟨b, i, none⟩ = w.cell? ⟨b, i, none⟩ := fun i => World.cell?_of_block (w := w) hbl
          rw [← mv] at g0
          have hmem : ids.getD q 0 ∈ ids := by
            rw [List.getD_eq_getElem?_getD, List.getElem?_eq_getElem hjr]
            exact List.getElem_mem hjr
          have htk : ids.take (q + 1) = ids.take q ++ [ids.getD q 0] := by
            rw [List.take_add_one, List.getElem?_eq_getElem hjr, List.getD_eq_getElem?_getD, List.getElem?_eq_getElem hjr]
            rfl
          obtain ⟨h0, h1⟩ := HX.out _ hmem
          obtain ⟨k, hk⟩ : ∃ k : Nat, ids.getD q 0 = (k : Int) := ⟨(ids.getD q 0).toNat, by omega⟩
          have hstep : cutsH lo hiT h (ids.take (q + 1)) = cutH (cutsH lo hiT h (ids.take q)) lo hiT (k : Int) := by rw [htk, cutsH_snoc, hk]
          rw [hk] at g0
          have hlen := cutsH_len lo hiT (ids.take q) h
          obtain ⟨st, hst⟩ : ∃ st, cutsH lo hiT h (ids.take q) = st := ⟨_, rfl⟩
          rw [hst] at hhd hok hstep hlen
          have hkl : k < st.length := by omega
          have hok2 := (cutH_ok (lo := lo) (hi := hiT) hok (i := (k : Int)) (by omega) (by omega)).1
          rw [← hstep] at hok2
          have hle := (hdlens hok hkl).1
          obtain ⟨pr, hin, hf⟩ := hhd
          obtain ⟨P, cc, _, hcc, x0, _, _, hall⟩ := hin.cells
          obtain ⟨bp, rfl, hbp, hptr⟩ := hall (by omega)
          have p0 := hptr k hkl
          obtain ⟨L, lc, Q, sc, _, hsm, _, hsc, _, s1, _, _⟩ := hin.series hkl
          obtain ⟨g, hg⟩ : ∃ g, pr.fb k = g := ⟨_, rfl⟩
          rw [hg] at p0 s1
          have hO := hin.smps k hkl
          rw [hsm] at hO
          have HC := Lib.hid (hdel_own hL hH hO (by omega))
          have HROWS := Lib.hid (fun w5 hK => cut_rows (w5 := w5) hin hkl hsm hK)
          have HCF := Lib.hid (fun w5 c' hO hK hc => cut_fin (w5 := w5) (c' := c') (lo := lo) (hi := hiT) hin hf hkl hg hsm hO hK hc)
          have hfl := List.length_filter_le (outB lo hiT) (st.getD k ser0).2
          have hcnt := cntS_set (h := st) (i := k) ((st.getD k ser0).1, (st.getD k ser0).2.filter (outB lo hiT)) hkl
          have hall6 := hok.all
          rw [hg, hsm] at HROWS
          rw [← hstep] at HCF
          obtain ⟨sm, hsm2⟩ : ∃ sm, (st.getD k ser0).2 = sm := ⟨_, rfl⟩
          have e4 : (st.getD k ([], [])).2.length = (st.getD k ser0).2.length := rfl
          simp only [e4] at hcnt
          rw [hsm2] at HC HROWS HCF s1 hfl hcnt hle hsc
          obtain ⟨m0, hm0⟩ : ∃ m0, (sm.filter (outB lo hiT)).length = m0 := ⟨_, rfl⟩
          obtain ⟨n0, hn0⟩ : ∃ n0, sm.length = n0 := ⟨_, rfl⟩
          rw [hm0] at HC HCF hfl hcnt
          rw [hn0] at HC HROWS HCF s1 hfl hcnt hle hsc
          obtain ⟨C, hC⟩ : ∃ C, cntS st = C := ⟨_, rfl⟩
          rw [hC] at HROWS HCF hcnt hall6
          have w1 : IntKind.i64.wrap ((n0 : Int) - (m0 : Int)) = (n0 : Int) - (m0 : Int) := by
            rw [show ((n0 : Int) - (m0 : Int)) = ((n0 - m0 : Nat) : Int) by omega]
            exact IntWalk.i64_in _ (by omega)
          have w2 : IntKind.i64.wrap ((C : Int) - ((n0 : Int) - (m0 : Int))) = (C : Int) - ((n0 : Int) - (m0 : Int)) := by
            rw [show ((C : Int) - ((n0 : Int) - (m0 : Int))) = ((C - (n0 - m0) : Nat) : Int) by omega]
            exact IntWalk.i64_in _ (by omega)
          have e1 : (k : Int) < (h.length : Int) := by omega
          rw [hlen] at x0 hcc
          unfold hdelF at HC
          have HOK2 := Lib.hid hok2
          have HLQ := Lib.hid hlq
          have HL := Lib.hid hL
          have HH := Lib.hid hH
          have HKP2 := Lib.hid hkp
          have HSZ2 := Lib.hid hsz
          generalize h.length = hl at *
          clear hL hH hok hkp hsz hbl mv hmem htk h0 h1 hk hstep hlen hst hok2 hin hf hall hptr hsm hO hcnt hall6 hsm2 hm0 hn0 hC hnT e4 HHD HKP HSZ HL0 HH0
          go_wp2_with (go_at_call 58; refine HC.out.mono ?_; rintro e w5 ⟨rfl, ho5, hk5⟩; have hr5 := HROWS.out _ hk5; have d1 : w5.cell? ⟨g, 1, none⟩ = some (.slice Q n0 sc) := hr5.2.cell 1; have f1 := hr5.2.frozen 1; have hr6 := hr5.2.setAt 1 (.slice Q m0 sc); have d2 : (w5.setCell ⟨g, 1, none⟩ (.slice Q m0 sc)).cell? ⟨g, 1, none⟩ = some (.slice Q m0 sc) := hr6.cell 1; have hx6 := hr5.1.setFar (p := ⟨g, 1, none⟩) (row_far hr5.1 hr5.2 (by decide)) (.slice Q m0 sc); have d3 : (w5.setCell ⟨g, 1, none⟩ (.slice Q m0 sc)).cell? ⟨X, 2, none⟩ = some (.int .i64 (C : Int)) := hx6.cell 2; have f3 := hx6.frozen 2; have HO5 := Lib.hid ho5; have HK5 := Lib.hid hk5; clear ho5 hk5 hr5 hr6 hx6)
          go_region
          go_wp2_with fail
          go_roundw
          case rel =>
            have hfin := HCF.out w5 _ HO5.out HK5.out rfl
            have hkk : Kept T w ((w5.setCell ⟨g, 1, none⟩ (.slice Q m0 sc)).setCell ⟨X, 2, none⟩ (.int .i64 ((C : Int) - ((n0 : Int) - (m0 : Int))))) := HKP2.out.trans hfin.2 fun i hi => .inl hi
            exact ⟨q + 1, HLQ.out, by go_num, (row_move HL.out (hfin.2.block _ HL.out.lt (HT0.out _ (by omega) (by omega)))).drew, (row_move HH.out (hfin.2.block _ HH.out.lt (HT0.out _ (by omega) (by omega)))).drew, hfin.1.drew, HOK2.out, hkk.drew, Nat.le_trans HSZ2.out hfin.2.size⟩
          case measure => simp [intOf]; omega
        · have i3 : decide ((q : Int) < (n : Int)) = false := decide_eq_false (by omega)
          have i4 : ¬ (q : Int) < (n : Int) := by omega
          have hqe : ids.take q = ids := List.take_of_length_le (by rw [HN.out]; omega)
          rw [hqe] at hhd
          have HAF := Lib.hid (HFIN.out _ _ hhd hkp)
          clear hL hH hhd hok hkp hsz hqe
          go_wp2_with fail
          go_ret
          exact ⟨rfl, HAF.out⟩
end
end Go.Proofs.YtpcjnagdanmdpaaGreat
