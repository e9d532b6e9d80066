/- What matchers find in an index. -/
import Derived.Test.YtojlcipphnegaaaGreatIxQry
import Derived.Test.YtojlcipphnegaaaGreatIxRef3
import Derived.Test.YtojlcipphnegaaaGreatIxLotJ
import Derived.Test.YtojlcipphnegaaaGreatIxLotK
import Derived.Laws.MakeOwn
namespace Go.Proofs.YtojlcipphnegaaaGreat
open Go.RowKit Go.Maps
set_option linter.unusedVariables false
set_option maxRecDepth 100000

theorem owntx_one {w : World} {g base : Nat} {s : ByteArray} (h : Row w g 9 #[.string s]) (hb : base ≤ g) : OwnTx w base (.slice (some ⟨g, 0, none⟩) 1 1) [s] :=
  ⟨rfl, .inr ⟨g, 1, #[.string s], rfl, hb, h, Nat.le_refl _, by simp [maxLen], rfl, rfl⟩⟩
/-- The matcher m, as a value. -/
def mtV (k : Int) (n v : ByteArray) : Value := .agg #[.int .i64 k, .string n, .string v]
theorem asked_one (ss : List (List Lbl)) {k : Int} {n v : ByteArray} (h : v.size ≠ 0 ∧ (k = 1 ∨ k = 2)) : askedL ss (k, n, v) = [v] := if_pos h
theorem asked_all (ss : List (List Lbl)) {k : Int} {n v : ByteArray} (h : ¬ (v.size ≠ 0 ∧ (k = 1 ∨ k = 2))) : askedL ss (k, n, v) = ixValues ss n := if_neg h
set_option maxHeartbeats 1000000 in
theorem asked_prog (X : Nat) (ss : List (List Lbl)) (base : Nat) (k : Int) (n v : ByteArray) (w : World) (hI : IdxAt w base X ss) (hr : ixChk ss = 0) :
    Calls Tryz.prog 68 #[.pointer (some ⟨X, 0, none⟩), .agg #[.int .i64 k, .string n, .string v]] w (TxsTold w (askedL ss (k, n, v))) := by
  have hB1 := below_one w (.cells #[.int .i64 k, .string n, .string v] 54)
  have hR := Row.new w 54 #[.int .i64 k, .string n, .string v]
  have m0 := hR.cell 0
  have m1 := hR.cell 1
  have m2 := hR.cell 2
  have HV := Lib.hid (values_prog X ss base n (w.alloc (.cells #[.int .i64 k, .string n, .string v] 54)) (hI.below hB1) hr)
  have HB1 := Lib.hid hB1
  clear hI hR hB1
  by_cases h0 : v.size = 0
  · have e1 : (v.toList == []) = true := by rw [empty_sz]; exact decide_eq_true h0
    have e2 : (v.toList != []) = false := by unfold bne; rw [e1]; rfl
    rw [asked_all ss (fun h => h.1 h0)]
    clear h0
    go_enter Tryz.func68, Tryz.ntmps68
    go_wp2_with (first | (go_at_call 22; refine HV.out.mono ?_; rintro e w2 ⟨v2, rfl, ho2, hb2⟩; have HO2 := Lib.hid ho2; have HB2 := Lib.hid hb2; clear ho2 hb2))
    go_ret
    exact ⟨_, rfl, rows_lower HO2.out HB1.out.size, HB1.out.trans (HB2.out.mono HB1.out.size)⟩
  · have e1 : (v.toList == []) = false := by rw [empty_sz]; exact decide_eq_false h0
    have e2 : (v.toList != []) = true := by unfold bne; rw [e1]; rfl
    by_cases h1 : k = 1
    · rw [asked_one ss ⟨h0, .inl h1⟩]
      subst h1
      clear h0 HV
      go_enter Tryz.func68, Tryz.ntmps68
      go_wp2_with fail
      go_ret
      exact ⟨_, rfl, owntx_one (row_at w _ _ _) (Nat.le_succ _), HB1.out.alloc HB1.out.size _⟩
    · have k1 : (k == 1) = false := beq_eq_false_iff_ne.2 h1
      by_cases h2 : k = 2
      · rw [asked_one ss ⟨h0, .inr h2⟩]
        subst h2
        clear h0 HV h1
        go_enter Tryz.func68, Tryz.ntmps68
        go_wp2_with fail
        go_ret
        exact ⟨_, rfl, owntx_one (row_at w _ _ _) (Nat.le_succ _), HB1.out.alloc HB1.out.size _⟩
      · have k2 : (k == 2) = false := beq_eq_false_iff_ne.2 h2
        rw [asked_all ss (fun h => by rcases h.2 with h | h <;> contradiction)]
        clear h0 h1 h2
        go_enter Tryz.func68, Tryz.ntmps68
        go_wp2_with (first | (go_at_call 22; refine HV.out.mono ?_; rintro e w2 ⟨v2, rfl, ho2, hb2⟩; have HO2 := Lib.hid ho2; have HB2 := Lib.hid hb2; clear ho2 hb2))
        go_ret
        exact ⟨_, rfl, rows_lower HO2.out HB1.out.size, HB1.out.trans (HB2.out.mono HB1.out.size)⟩

/-! ### all ids -/
def idsTo (n k : Nat) : List Int := (List.range n).map fun i => if i < k then (i : Int) else 0
theorem idsTo_len (n k : Nat) : (idsTo n k).length = n := by unfold idsTo; simp
theorem idsTo_get (n k i : Nat) (h : i < (idsTo n k).length) : (idsTo n k)[i] = if i < k then (i : Int) else 0 := by simp [idsTo]
theorem idsTo_set {n k : Nat} (h : k < n) : (idsTo n k).set k (k : Int) = idsTo n (k + 1) := by
  apply List.ext_getElem
  · rw [List.length_set, idsTo_len, idsTo_len]
  · intro i h1 h2
    rw [List.getElem_set, idsTo_get, idsTo_get]
    by_cases e : k = i
    · subst e
      rw [if_pos rfl, if_pos (by omega)]
    · rw [if_neg e]
      by_cases h3 : i < k
      · rw [if_pos h3, if_pos (by omega)]
      · rw [if_neg h3, if_neg (by omega)]
theorem idsTo_all (n : Nat) : idsTo n n = allIds n := by
  unfold idsTo allIds
  apply List.map_congr_left
  intro i hi
  rw [if_pos (List.mem_range.1 hi)]
  rfl
theorem idsTo_zero (n : Nat) : idsTo n 0 = List.replicate n 0 := by
  unfold idsTo
  apply List.ext_getElem
  · simp
  · intro i h1 h2
    simp
theorem made_ints (m : Nat) : madeCells (Value.int .i64 0).cells (m * 1) = ((List.replicate m (0 : Int)).flatMap intE).toArray := by
  have e : (List.replicate m (0 : Int)).flatMap intE = List.replicate m (Value.int .i64 0) := by
    induction m with
    | zero => rfl
    | succ m ih => rw [List.replicate_succ, List.flatMap_cons, ih, List.replicate_succ]; rfl
  rw [e]
  apply Array.ext
  · simp [madeCells]
  · intro i h1 h2
    simp [madeCells, Value.cells, Nat.mod_one]
theorem make_ids (n : Nat) (hn : n ≤ 1000000) (W : World) :
    (Instr.makeSlice 39 (.int .i64 (n : Int)) (.int .i64 (n : Int))).run Tryz.prog W = .ok (.slice (some ⟨W.heap.size, 0, none⟩) n n) (W.alloc (.cells ((List.replicate n (0 : Int)).flatMap intE).toArray 3)) := by
  obtain ⟨i0, hi, hz0, hz1, hz2⟩ := info_parts zint_info
  have hr := run_make (P := Tryz.prog) W 39 3 i0 (.int .i64 0) Tryz.underlying39 hi hz0 .i64 .i64 (n : Int) (n : Int) (by omega) (by omega) (by rw [hz2]; omega) (by omega)
  simp only [hz1, Int.toNat_natCast, made_ints] at hr
  exact hr
theorem ownz_made {w : World} {g base : Nat} {l : List Int} (h : Row w g 3 (l.flatMap intE).toArray) (hb : base ≤ g) (hl : l.length ≤ 1000000) : OwnZ w base (.slice (some ⟨g, 0, none⟩) l.length l.length) l := by
  have e := flat_len intE 1 intE_len l
  refine ⟨e, .inr ⟨g, l.length, _, rfl, hb, h, Nat.le_refl _, by simp only [maxLen]; omega, by rw [List.size_toArray]; exact e, ?_⟩⟩
  show (l.flatMap intE).take (l.length * 1) = l.flatMap intE
  exact List.take_of_length_le (by omega)
set_option maxHeartbeats 1000000 in
theorem ids_prog (X : Nat) (ss : List (List Lbl)) (base : Nat) (w : World) (hI : IdxAt w base X ss) (h256 : ss.length ≤ 256) :
    Calls Tryz.prog 71 #[.pointer (some ⟨X, 0, none⟩)] w fun e w' => ∃ v, e = .returned v ∧ OwnZ w' w.heap.size v (allIds ss.length) ∧ Below w.heap.size w w' := by
  obtain ⟨_, v, M, _, hX, hO, _⟩ := hI
  obtain ⟨P, c, rfl, _, _, _⟩ := ownsets_slice hO
  have x0 := hX.cell 0
  have hmk := make_ids ss.length (by omega) w
  have hB1 := below_one w (.cells ((List.replicate ss.length (0 : Int)).flatMap intE).toArray 3)
  have hO1 := ownz_made (Row.new w 3 ((List.replicate ss.length (0 : Int)).flatMap intE).toArray) (Nat.le_refl _) (by rw [List.length_replicate]; omega)
  rw [List.length_replicate, ← idsTo_zero] at hO1
  rw [← idsTo_zero] at hmk hB1
  have HB1 := Lib.hid hB1
  have HO1 := Lib.hid hO1
  have HALL := Lib.hid (idsTo_all ss.length)
  obtain ⟨n, hn⟩ : ∃ n, ss.length = n := ⟨_, rfl⟩
  rw [hn] at hmk x0 HB1 HO1 HALL h256 ⊢
  clear hX hO hB1 hO1 hn
  go_enter Tryz.func71, Tryz.ntmps71
  go_wp2_with fail
  clear hmk x0
  generalize w.alloc (.cells ((idsTo n 0).flatMap intE).toArray 3) = w2 at *
  obtain ⟨G, hG⟩ : ∃ G, w.heap.size = G := ⟨_, rfl⟩
  have HG := Lib.hid hG
  rw [hG] at HO1 HB1 ⊢
  clear hG
  go_loopw [13] (fun i wr => ∃ k : Nat, k ≤ n ∧ i = .int .i64 (k : Int) ∧ OwnZ wr G (.slice (some ⟨G, 0, none⟩) n n) (idsTo n k) ∧ Below G w wr) (fun i _ => n - (intOf i).toNat)
  case atStart => exact ⟨0, Nat.zero_le _, rfl, HO1.out, HB1.out⟩
  case round =>
    obtain ⟨k, hk, rfl, hO, hB⟩ := hrel
    have HO := Lib.hid hO
    have HB := Lib.hid hB
    by_cases hlt : k < n
    · have i1 : (k : Int) < (n : Int) := by omega
      have hO2 := hO
      have el := idsTo_len n k
      obtain ⟨g, cap, hv, hg, hgl, hc, hfz, hcell⟩ := ownz_form hO (by rw [el]; omega)
      rw [el] at hv
      injection hv with hv1 _ hv3
      injection hv1 with hv1
      injection hv1 with hv1 _ _
      subst hv1
      have c0 := hcell k (by rw [el]; exact hlt)
      have f0 := hfz k
      have h3 : OwnZ wr G (.slice (some ⟨G, 0, none⟩) (idsTo n k).length n) (idsTo n k) := by rw [el]; exact hO2
      have HS := Lib.hid (ownz_set h3 (by rw [el]; exact hlt) (k : Int))
      rw [idsTo_set hlt, idsTo_len] at HS
      have HBS := Lib.hid (Below.setCell hB (p := ⟨G, k, none⟩) (Nat.le_refl _) (.int .i64 (k : Int)))
      clear hO hB hO2 hcell hfz h3
      generalize (idsTo n k).getD k 0 = z at *
      go_wp2_with fail
      go_roundw
      case rel => exact ⟨k + 1, hlt, by go_num, HS.out, HBS.out⟩
      case measure => simp [intOf]; omega
    · obtain rfl : k = n := by omega
      rw [HALL.out] at HO
      clear hO hB
      go_wp2_with fail
      go_ret
      rw [HG.out]
      exact ⟨_, rfl, HO.out, HB.out⟩
end Go.Proofs.YtojlcipphnegaaaGreat
