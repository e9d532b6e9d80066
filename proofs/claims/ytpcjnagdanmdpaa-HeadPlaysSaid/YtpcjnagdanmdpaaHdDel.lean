/- Samples that are taken out: the library's DeleteFunc over samples, with the head's own test. -/
import Derived.Test.YtpcjnagdanmdpaaHdLotD
namespace Go.Proofs.Ytpcjnagdanmdpaa
open Go.RowKit Go.Maps
open Ch
set_option linter.unusedVariables false
set_option linter.unusedSimpArgs false
set_option maxRecDepth 100000
def inB (lo hi : Int) (s : Smp) : Bool := decide (lo ≤ s.1) && decide (s.1 ≤ hi)
theorem hdrop_keep (lo hi : Int) (s : Smp) : inB lo hi s = !outB lo hi s := by
  unfold inB outB
  by_cases h1 : s.1 < lo <;> by_cases h2 : hi < s.1 <;> simp [h1, h2] <;> omega
/-- Block g is a row of the samples l, and of what stands behind. -/
def hRowSm (w : World) (g : Nat) (l : List Smp) (rest : List Value) : Prop := Row w g 63 (l.flatMap smpE ++ rest).toArray
theorem hrowsm_cell {w : World} {g : Nat} {l : List Smp} {rest : List Value} (h : hRowSm w g l rest) {i : Nat} (hi : i < l.length) : w.cell? ⟨g, i * 2, none⟩ = some (.int .i64 (tOf l i)) ∧ w.cell? ⟨g, i * 2 + 1, none⟩ = some (.int .i64 (vOf l i)) := by
  have hlen := flat_len smpE 2 smpE_len l
  have h0 := flat_get smpE 2 smpE_len l i _ 0 (getD_some l (0, 0) hi) (by omega)
  have h1 := flat_get smpE 2 smpE_len l i _ 1 (getD_some l (0, 0) hi) (by omega)
  refine ⟨(Row.cell h (i * 2)).trans ?_, (Row.cell h (i * 2 + 1)).trans ?_⟩
  · rw [List.getElem?_toArray, List.getElem?_append_left (by omega)]
    exact h0
  · rw [List.getElem?_toArray, List.getElem?_append_left (by omega)]
    exact h1
theorem hsm_flat_set : ∀ (l : List Smp) (i : Nat) (t v : Int) (rest : List Value), i < l.length → ((l.flatMap smpE ++ rest).set (i * 2) (.int .i64 t)).set (i * 2 + 1) (.int .i64 v) = (l.set i (t, v)).flatMap smpE ++ rest := by
  intro l
  induction l with
  | nil => intro i t v rest h; simp at h
  | cons x xs ih =>
    intro i t v rest h
    cases i with
    | zero => simp [smpE]
    | succ i =>
      have := ih i t v rest (by simpa using h)
      rw [List.flatMap_cons, List.append_assoc, List.set_cons_succ, List.flatMap_cons, List.append_assoc, ← this, show (i + 1) * 2 = i * 2 + 1 + 1 by omega]
      show ((Value.int .i64 x.1 :: Value.int .i64 x.2 :: (xs.flatMap smpE ++ rest)).set (i * 2 + 1 + 1) _).set (i * 2 + 1 + 1 + 1) _ = _
      simp only [List.set_cons_succ]
      rfl
theorem hrowsm_set {w : World} {g : Nat} {l : List Smp} {rest : List Value} (h : hRowSm w g l rest) {i : Nat} (hi : i < l.length) (t v : Int) :
    hRowSm ((w.setCell ⟨g, i * 2, none⟩ (.int .i64 t)).setCell ⟨g, i * 2 + 1, none⟩ (.int .i64 v)) g (l.set i (t, v)) rest := by
  unfold hRowSm
  rw [← hsm_flat_set l i t v rest hi]
  have := (Row.setAt h (i * 2) (.int .i64 t)).setAt (i * 2 + 1) (.int .i64 v)
  rw [List.setIfInBounds_toArray, List.setIfInBounds_toArray] at this
  exact this
theorem hrowsm_below {w w' : World} {g : Nat} {l : List Smp} {rest : List Value} (h : hRowSm w g l rest) (hb : Below w.heap.size w w') : hRowSm w' g l rest := Row.below h hb (Row.lt h)
/-- The program's own test. -/
def hdelF (Lb Hb : Nat) : Value := .func (.func 53) #[] #[.pointer (some ⟨Lb, 0, none⟩), .pointer (some ⟨Hb, 0, none⟩)]
set_option maxHeartbeats 1000000 in
theorem hdel_prog {w : World} {Lb Hb : Nat} {lo hi : Int} (hL : w.cell? ⟨Lb, 0, none⟩ = some (.int .i64 lo)) (hH : w.cell? ⟨Hb, 0, none⟩ = some (.int .i64 hi)) (hLl : Lb < w.heap.size) (hHl : Hb < w.heap.size) (t v : Int) :
    Calls Try.prog 53 #[.agg #[.int .i64 t, .int .i64 v], .pointer (some ⟨Lb, 0, none⟩), .pointer (some ⟨Hb, 0, none⟩)] w fun e w' => e = .returned (.bool (inB lo hi (t, v))) ∧ Below w.heap.size w w' := by
  have hb := below_one w (.cells #[.int .i64 t, .int .i64 v] 63)
  have l1 := (hb.cell (p := ⟨Lb, 0, none⟩) hLl).trans hL
  have h1 := (hb.cell (p := ⟨Hb, 0, none⟩) hHl).trans hH
  have HB := Lib.hid hb
  clear hL hH hb
  unfold inB
  by_cases h2 : lo ≤ t
  · have d1 : decide (lo ≤ t) = true := decide_eq_true h2
    rw [d1, Bool.true_and]
    clear h2
    generalize hd : decide (t ≤ hi) = d at *
    go_enter Try.func53, Try.ntmps53
    go_wp2_with fail
    go_ret
    exact ⟨rfl, HB.out⟩
  · have d1 : decide (lo ≤ t) = false := decide_eq_false h2
    rw [d1, Bool.false_and]
    clear h2
    go_enter Try.func53, Try.ntmps53
    go_wp2_with fail
    go_ret
    exact ⟨rfl, HB.out⟩
set_option maxHeartbeats 2000000 in
theorem hindexf_prog {w : World} {Lb Hb g c : Nat} {lo hi : Int} {l : List Smp} {rest : List Value} (hL : w.cell? ⟨Lb, 0, none⟩ = some (.int .i64 lo)) (hH : w.cell? ⟨Hb, 0, none⟩ = some (.int .i64 hi)) (hLl : Lb < w.heap.size) (hHl : Hb < w.heap.size)
    (hR : hRowSm w g l rest) (hl : l.length ≤ 1000000) (hlc : l.length ≤ c) :
    Calls Try.prog 76 #[.slice (some ⟨g, 0, none⟩) l.length c, hdelF Lb Hb] w fun e w' =>
      Below w.heap.size w w' ∧ ((e = .returned (.int .i64 (-1)) ∧ ∀ i, i < l.length → outB lo hi (l.getD i (0, 0)) = true) ∨ ∃ k, k < l.length ∧ e = .returned (.int .i64 (k : Int)) ∧ (∀ i, i < k → outB lo hi (l.getD i (0, 0)) = true) ∧ outB lo hi (l.getD k (0, 0)) = false) := by
  unfold hdelF
  have HR := Lib.hid (fun x (h : Below w.heap.size w x) => hrowsm_below hR h)
  have HD := Lib.hid (fun x (h : Below w.heap.size w x) => hdel_prog (w := x) ((h.cell (p := ⟨Lb, 0, none⟩) hLl).trans hL) ((h.cell (p := ⟨Hb, 0, none⟩) hHl).trans hH) (Nat.lt_of_lt_of_le hLl h.size) (Nat.lt_of_lt_of_le hHl h.size))
  obtain ⟨n, hn⟩ : ∃ n, l.length = n := ⟨_, rfl⟩
  have HN := Lib.hid hn
  rw [hn] at hl hlc ⊢
  clear hL hH hR hn
  go_enter Try.func76, Try.ntmps76
  go_wp2_with fail
  go_loopw [8] (fun i wr => ∃ k : Nat, k ≤ n ∧ i = .int .i64 (k : Int) ∧ (∀ i, i < k → outB lo hi (l.getD i (0, 0)) = true) ∧ Below w.heap.size w wr) (fun i _ => n - (intOf i).toNat)
  case atStart => exact ⟨0, Nat.zero_le _, rfl, fun i hi => absurd hi (by omega), Below.refl _ _⟩
  case round =>
    obtain ⟨k, hk, rfl, hz, hbr⟩ := hrel
    have HB := Lib.hid hbr
    have HZ := Lib.hid hz
    by_cases hlt : k < n
    · have i1 : decide ((k : Int) < (n : Int)) = true := decide_eq_true (by omega)
      have i2 : (k : Int) < (n : Int) := by omega
      obtain ⟨g0, g1⟩ := hrowsm_cell (HR.out _ hbr) (i := k) (by rw [HN.out]; exact hlt)
      have HC := Lib.hid (HD.out wr hbr (tOf l k) (vOf l k))
      have hdk : inB lo hi (tOf l k, vOf l k) = !outB lo hi (l.getD k (0, 0)) := hdrop_keep lo hi _
      generalize tOf l k = T at *
      generalize vOf l k = V at *
      have HDK := Lib.hid hdk
      clear hz hbr hdk
      go_wp2_with fail
      refine HC.out.mono ?_
      rintro e w3 ⟨rfl, hb3⟩
      have HB3 := Lib.hid (HB.out.trans (hb3.mono HB.out.size))
      clear hb3
      cases hkb : outB lo hi (l.getD k (0, 0))
      · have HDE := Lib.hid (show inB lo hi (T, V) = true by rw [HDK.out, hkb]; rfl)
        rw [HDE.out]
        have HKB := Lib.hid hkb
        have HKL := Lib.hid (show k < l.length by rw [HN.out]; exact hlt)
        clear hkb
        go_wp2_with fail
        go_ret
        exact ⟨HB3.out, .inr ⟨k, by rw [← HN.out]; exact HKL.out, rfl, HZ.out, HKB.out⟩⟩
      · have HDE := Lib.hid (show inB lo hi (T, V) = false by rw [HDK.out, hkb]; rfl)
        rw [HDE.out]
        have HZ2 := Lib.hid (show ∀ i, i < k + 1 → outB lo hi (l.getD i (0, 0)) = true from fun i hi => by
          rcases Nat.lt_or_ge i k with h | h
          · exact HZ.out i h
          · obtain rfl : i = k := by omega
            exact hkb)
        clear hkb
        go_wp2_with fail
        go_roundw
        case rel => exact ⟨k + 1, by omega, by go_num, HZ2.out, HB3.out⟩
        case measure => simp [intOf]; omega
    · have i1 : decide ((k : Int) < (n : Int)) = false := decide_eq_false (by omega)
      have i2 : ¬ (k : Int) < (n : Int) := by omega
      have HZE := Lib.hid (show ∀ i, i < n → outB lo hi (l.getD i (0, 0)) = true from fun i hi => hz i (by omega))
      clear hz hbr
      go_wp2_with fail
      go_ret
      exact ⟨HB.out, .inl ⟨rfl, HZE.out⟩⟩
/-! ### DeleteFunc -/
theorem hzero_smp (w : World) : (zeroValue 63).run Try.prog w = .ok (.agg #[.int .i64 0, .int .i64 0]) w := by kernel_rfl
/-- Block g is a row of the samples l, N cells long. -/
def hLeft (w : World) (g : Nat) (l : List Smp) (N : Nat) : Prop := ∃ rest, hRowSm w g l rest ∧ (l.flatMap smpE ++ rest).length = N
theorem hrun_clear_smp {w : World} {g : Nat} {l : List Smp} {rest : List Value} (hR : hRowSm w g l rest) {i : Nat} (hi : i < l.length) (c : Nat) :
    ∃ W, (∀ ty, (Builtin.clear_ #[45] ty #[.slice (some ⟨g, i * 2, none⟩) (l.length - i) c]).run Try.prog w = .ok (.tuple #[]) W) ∧ (∃ rest', hRowSm W g (l.take i) rest' ∧ ((l.take i).flatMap smpE ++ rest').length = (l.flatMap smpE ++ rest).length) ∧ Kept (fun k => k = g) w W := by
  have hlen := flat_len smpE 2 smpE_len l
  have hsz : (Builtin.zeroCells (Value.agg #[.int .i64 0, .int .i64 0]).cells (l.length - i)).toList.length = (l.length - i) * 2 := by
    simp [Builtin.zeroCells, Value.cells]
  have hone : ∀ v ∈ (Builtin.zeroCells (Value.agg #[.int .i64 0, .int .i64 0]).cells (l.length - i)).toList, v.oneCell' = true := by
    intro v hv
    simp only [Builtin.zeroCells, Value.cells, Array.toList_map, List.mem_map] at hv
    obtain ⟨k, _, rfl⟩ := hv
    have : k % 2 = 0 ∨ k % 2 = 1 := by omega
    rcases this with h | h <;> simp [h, Value.oneCell']
  generalize hvs : (Builtin.zeroCells (Value.agg #[.int .i64 0, .int .i64 0]).cells (l.length - i)).toList = vs at hsz hone
  have hst := run_storeCells_at (P := Try.prog) g (i * 2) 63 vs 0 _ w hR (by simp only [List.size_toArray, List.length_append]; omega) hone
  rw [Nat.add_zero] at hst
  refine ⟨w.setRow g (((l.flatMap smpE ++ rest).toArray.toList.take (i * 2) ++ vs ++ (l.flatMap smpE ++ rest).toArray.toList.drop (i * 2 + vs.length)).toArray), fun ty => ?_, ?_, ?_⟩
  rotate_left
  · have hrow := setRow_heap w g _ (((l.flatMap smpE ++ rest).toArray.toList.take (i * 2) ++ vs ++ (l.flatMap smpE ++ rest).toArray.toList.drop (i * 2 + vs.length)).toArray) 63 _ hR
    have e : l.flatMap smpE = (l.take i).flatMap smpE ++ (l.drop i).flatMap smpE := by rw [← List.flatMap_append, List.take_append_drop]
    have el : ((l.take i).flatMap smpE).length = i * 2 := by rw [flat_len smpE 2 smpE_len, List.length_take, Nat.min_eq_left (by omega)]
    have e1 : (l.flatMap smpE ++ rest).take (i * 2) = (l.take i).flatMap smpE := by rw [e, List.append_assoc, List.take_append_of_le_length (by omega), List.take_of_length_le (by omega)]
    refine ⟨vs ++ (l.flatMap smpE ++ rest).drop (i * 2 + vs.length), ?_, ?_⟩
    · unfold hRowSm
      rw [← e1, ← List.append_assoc]
      exact hrow
    · rw [List.length_append, List.length_append, List.length_append, List.length_drop, List.length_append, el, hsz, hlen]
      omega
  · exact ⟨rfl, rfl, rfl, by simp, fun k hk hn => setRow_other w g k _ hn⟩
  · obtain ⟨m, hm⟩ : ∃ m, l.length - i = m + 1 := ⟨l.length - i - 1, by omega⟩
    rw [hm] at hvs ⊢
    simp [Builtin.clear_, run_underlying Try.underlying45, hzero_smp, hvs, hst]
theorem hfilter_none {lo hi : Int} {l : List Smp} (h : ∀ i, i < l.length → outB lo hi (l.getD i (0, 0)) = true) : l.filter (outB lo hi) = l := by
  rw [List.filter_eq_self]
  intro x hx
  obtain ⟨i, hi, rfl⟩ := List.getElem_of_mem hx
  have := h i hi
  rw [List.getD_eq_getElem?_getD, List.getElem?_eq_getElem hi] at this
  exact this
theorem htake_smp {l : List Smp} {k : Nat} (h : k < l.length) : l.take (k + 1) = l.take k ++ [l.getD k (0, 0)] := by
  rw [List.take_add_one, List.getElem?_eq_getElem h, List.getD_eq_getElem?_getD, List.getElem?_eq_getElem h]
  rfl
theorem hfilter_first {lo hi : Int} {l : List Smp} {k : Nat} (hk : k < l.length) (h : ∀ i, i < k → outB lo hi (l.getD i (0, 0)) = true) (hn : outB lo hi (l.getD k (0, 0)) = false) : (l.take (k + 1)).filter (outB lo hi) = l.take k := by
  rw [htake_smp hk, List.filter_append, hfilter_none (l := l.take k)]
  · rw [List.filter_cons, hn]
    simp
  · intro i hi
    rw [List.length_take] at hi
    have := h i (by omega)
    rw [show (l.take k).getD i (0, 0) = l.getD i (0, 0) by simp [List.getD_eq_getElem?_getD, List.getElem?_take, show i < k by omega]]
    exact this
theorem hdrop_getD {l m : List Smp} {j : Nat} (h : m.drop j = l.drop j) : m.getD j (0, 0) = l.getD j (0, 0) := by
  have := congrArg (fun x => x.getD 0 (0, 0)) h
  simp only [getD_drop', Nat.add_zero] at this
  exact this
set_option maxHeartbeats 4000000 in
theorem hdeletef_prog {w : World} {Lb Hb g c : Nat} {lo hi : Int} {l : List Smp} {rest : List Value} (hL : w.cell? ⟨Lb, 0, none⟩ = some (.int .i64 lo)) (hH : w.cell? ⟨Hb, 0, none⟩ = some (.int .i64 hi)) (hLl : Lb < w.heap.size) (hHl : Hb < w.heap.size) (hLg : Lb ≠ g) (hHg : Hb ≠ g)
    (hR : hRowSm w g l rest) {N : Nat} (hN : (l.flatMap smpE ++ rest).length = N) (hl : l.length ≤ 1000000) (hlc : l.length ≤ c) :
    Calls Try.prog 54 #[.slice (some ⟨g, 0, none⟩) l.length c, hdelF Lb Hb] w fun e w' =>
      e = .returned (.slice (some ⟨g, 0, none⟩) (l.filter (outB lo hi)).length c) ∧ hLeft w' g (l.filter (outB lo hi)) N ∧ Kept (fun k => k = g) w w' := by
  have hgl := Row.lt hR
  have HIX := Lib.hid (hindexf_prog hL hH hLl hHl hR hl hlc)
  have HD := Lib.hid (fun x (h : Kept (fun k => k = g) w x) => hdel_prog (w := x) ((World.cell?_of_block (w := w) (h.block Lb hLl hLg)).trans hL) ((World.cell?_of_block (w := w) (h.block Hb hHl hHg)).trans hH) (Nat.lt_of_lt_of_le hLl h.size) (Nat.lt_of_lt_of_le hHl h.size))
  have HR := Lib.hid hR
  have HNN := Lib.hid hN
  clear hN
  obtain ⟨n, hn⟩ : ∃ n, l.length = n := ⟨_, rfl⟩
  have HN := Lib.hid hn
  rw [hn] at hl hlc HIX ⊢
  have hnot : ∀ (x : Bool) (w : World), (Op.unary .not (.bool x)).run Try.prog w = .ok (.bool (!x)) w := fun _ _ => rfl
  clear hL hH hR hn
  unfold hdelF at *
  go_enter Try.func54, Try.ntmps54
  go_wp2_with fail
  refine HIX.out.mono ?_
  rintro e w2 ⟨hb2, ⟨rfl, hall⟩ | ⟨k, hk, rfl, hbef, hat⟩⟩
  · have HF := Lib.hid (hfilter_none (lo := lo) (hi := hi) (l := l) (by rw [HN.out]; exact hall))
    have HB2 := Lib.hid (Kept.below (S := fun k => k = g) hb2)
    have HS := Lib.hid (hrowsm_below HR.out hb2)
    clear hb2 hall
    go_wp2_with fail
    go_ret
    refine ⟨by rw [HF.out, HN.out] <;> rfl, ?_, HB2.out⟩
    rw [HF.out]
    exact ⟨rest, HS.out, HNN.out⟩
  · have HF := Lib.hid (hfilter_first (by rw [HN.out]; exact hk) hbef hat)
    have HB2 := Lib.hid (Kept.below (S := fun k => k = g) hb2)
    have HR2 := Lib.hid (hrowsm_below HR.out hb2)
    have q1 : ((k : Int) == -1) = false := by rw [beq_eq_false_iff_ne]; omega
    have hw1 : IntKind.i64.wrap ((k : Int) + 1) = ((k + 1 : Nat) : Int) := by rw [show ((k : Int) + 1) = ((k + 1 : Nat) : Int) by omega]; exact IntWalk.i64_in _ (by omega)
    clear hb2 hbef hat HIX
    go_wp2_with fail
    go_loopw [5, 6] (fun a b wr => ∃ (i j : Nat) (m : List Smp), i < j ∧ j ≤ n ∧ a = .int .i64 (i : Int) ∧ b = .int .i64 (j : Int) ∧ m.length = n ∧ hRowSm wr g m rest ∧ m.take i = (l.take j).filter (outB lo hi) ∧ m.drop j = l.drop j ∧ Kept (fun k => k = g) w wr) (fun _ b _ => n - (intOf b).toNat)
    case atStart => exact ⟨k, k + 1, l, by omega, by omega, rfl, by first | rfl | go_num, HN.out, HR2.out, HF.out.symm, rfl, HB2.out⟩
    case round =>
      obtain ⟨i, j, m, hij, hj, rfl, rfl, hml, hrow, htk, hdr, hbr⟩ := hrel
      have HB := Lib.hid hbr
      have HM := Lib.hid hml
      by_cases hlt : j < n
      · have i1 : decide ((j : Int) < (n : Int)) = true := decide_eq_true (by omega)
        have i2 : (j : Int) < (n : Int) := by omega
        obtain ⟨g0, g1⟩ := hrowsm_cell hrow (i := j) (by omega)
        have heq : m.getD j (0, 0) = l.getD j (0, 0) := hdrop_getD hdr
        have hb3 : Kept (fun k => k = g) w (wr.alloc (.cells #[.int .i64 (tOf m j), .int .i64 (vOf m j)] 63)) := hbr.alloc _
        have HC := Lib.hid (HD.out _ hb3 (tOf m j) (vOf m j))
        have hdk : inB lo hi (tOf m j, vOf m j) = !outB lo hi (l.getD j (0, 0)) := by rw [← heq]; exact hdrop_keep lo hi _
        have HB3 := Lib.hid hb3
        have HR3 := Lib.hid (hrowsm_below hrow (below_one wr (.cells #[.int .i64 (tOf m j), .int .i64 (vOf m j)] 63)))
        have HX3 := Lib.hid (Row.new wr 63 #[.int .i64 (tOf m j), .int .i64 (vOf m j)])
        have htv : l.getD j (0, 0) = (tOf m j, vOf m j) := heq.symm
        have hts := htake_smp (l := l) (k := j) (by rw [HN.out]; exact hlt)
        have hgl2 := Row.lt hrow
        generalize tOf m j = T at *
        generalize vOf m j = V at *
        have HDK := Lib.hid hdk
        clear hbr hdk hb3 heq
        cases hkb : outB lo hi (l.getD j (0, 0))
        · have HDE := Lib.hid (show inB lo hi (T, V) = true by rw [HDK.out, hkb]; rfl)
          rw [HDE.out] at HC
          have HT2 := Lib.hid (show m.take i = (l.take (j + 1)).filter (outB lo hi) by rw [hts, List.filter_append, htk, List.filter_cons, hkb]; simp)
          have HD2 := Lib.hid (show m.drop (j + 1) = l.drop (j + 1) by rw [← List.drop_drop, hdr, List.drop_drop])
          have HIJ := Lib.hid (show i < j + 1 ∧ j + 1 ≤ n by omega)
          clear hkb htk hdr hrow htv hts hml
          go_wp2_with fail
          refine HC.out.mono ?_
          rintro e w5 ⟨rfl, hb5⟩
          have HB5 := Lib.hid (HB3.out.trans (Kept.below (S := fun k => k = g) hb5) (fun i hi => .inl hi))
          have HR5 := Lib.hid (hrowsm_below HR3.out hb5)
          clear hb5
          go_wp2_with fail
          go_roundw
          case rel => exact ⟨i, j + 1, m, HIJ.out.1, HIJ.out.2, rfl, by go_num, HM.out, HR5.out, HT2.out, HD2.out, HB5.out⟩
          case measure => simp [intOf]; omega
        · have HDE := Lib.hid (show inB lo hi (T, V) = false by rw [HDK.out, hkb]; rfl)
          rw [HDE.out] at HC
          have HT2 := Lib.hid (show (m.set i (T, V)).take (i + 1) = (l.take (j + 1)).filter (outB lo hi) by
            rw [hts, List.filter_append, ← htk, List.filter_cons, hkb, if_pos rfl, htv]
            rw [htake_smp (l := m.set i (T, V)) (by rw [List.length_set]; omega)]
            simp [List.getD_eq_getElem?_getD, show i < m.length by omega, List.take_set_of_le])
          have HD2 := Lib.hid (show (m.set i (T, V)).drop (j + 1) = l.drop (j + 1) by
            rw [List.drop_set_of_lt (by omega), ← List.drop_drop, hdr, List.drop_drop])
          have HIJ := Lib.hid (show i + 1 < j + 1 ∧ j + 1 ≤ n by omega)
          have HML := Lib.hid (show (m.set i (T, V)).length = n by rw [List.length_set]; exact hml)
          have him : i < m.length := by omega
          have HIM := Lib.hid him
          have hin : (i : Int) < (n : Int) := by omega
          clear hkb htk hdr hrow htv hts hml him
          go_wp2_with fail
          refine HC.out.mono ?_
          rintro e w5 ⟨rfl, hb5⟩
          have hB5 := HB3.out.trans (Kept.below (S := fun k => k = g) hb5) (fun i hi => .inl hi)
          have hR5 := hrowsm_below HR3.out hb5
          have hX5 := HX3.out.below hb5 HX3.out.lt
          have z0 : w5.cell? ⟨wr.heap.size, 0, none⟩ = some (.int .i64 T) := hX5.cell 0
          have z1 : w5.cell? ⟨wr.heap.size, 1, none⟩ = some (.int .i64 V) := hX5.cell 1
          obtain ⟨y0, y1⟩ := hrowsm_cell hR5 (i := i) HIM.out
          have f0 := Row.frozen hR5 (i * 2)
          have f1 := Row.frozen hR5 (i * 2 + 1)
          have HR6 := Lib.hid (hrowsm_set hR5 HIM.out T V)
          have HB6 := Lib.hid ((hB5.set (p := ⟨g, i * 2, none⟩) (.inl rfl) (.int .i64 T)).set (p := ⟨g, i * 2 + 1, none⟩) (.inl rfl) (.int .i64 V))
          generalize tOf m i = T0 at *
          generalize vOf m i = V0 at *
          clear hB5 hR5 hX5 hb5
          go_wp2_with fail
          go_roundw
          case rel => exact ⟨i + 1, j + 1, _, HIJ.out.1, HIJ.out.2, by go_num, by go_num, HML.out, HR6.out, HT2.out, HD2.out, HB6.out⟩
          case measure => simp [intOf]; omega
      · have hjn : j = l.length := by rw [HN.out]; omega
        have i1 : decide ((j : Int) < (n : Int)) = false := decide_eq_false (by omega)
        have i2 : ¬ (j : Int) < (n : Int) := by omega
        rw [hjn, List.take_length] at htk
        obtain ⟨W, hcl, hsm, hbw⟩ := hrun_clear_smp hrow (i := i) (by omega) (c - i)
        rw [hml] at hcl
        rw [htk] at hsm
        have hsl : (m.flatMap smpE ++ rest).length = (l.flatMap smpE ++ rest).length := by rw [List.length_append, List.length_append, flat_len smpE 2 smpE_len, flat_len smpE 2 smpE_len, hml, HN.out]
        rw [hsl, HNN.out] at hsm
        have HSM := Lib.hid (show hLeft W g (l.filter (outB lo hi)) N from hsm)
        have HBW := Lib.hid (HB.out.trans hbw (fun i hi => .inl hi))
        have HFL := Lib.hid (show (l.filter (outB lo hi)).length = i by rw [← htk, List.length_take]; omega)
        have hin : (i : Int) ≤ (n : Int) := by omega
        have hic : (i : Int) ≤ (c : Int) := by omega
        have hci : ¬ c = i := by omega
        have hinn : i ≤ n := by omega
        have hicc : i ≤ c := by omega
        clear hrow htk hdr hbr hjn hsm hbw hml
        go_wp2_with fail
        go_ret
        exact ⟨by rw [HFL.out] <;> rfl, HSM.out, HBW.out⟩
end Go.Proofs.Ytpcjnagdanmdpaa
