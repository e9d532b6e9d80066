/- In one text, written by lotify.py: IxTx, IxRows, IxRef1, IxOwn, IxPlace, IxLayMath, IxRef2. -/
import Derived.Test.YtojlcipphnegaaaGreatIxLotC
import Derived.Test.YtojlcipphnegaaaGreatIxLotD
import Derived.Deep.QuietTactic
import Derived.BigQuiet
import Derived.IntWalk
namespace Go.Proofs.YtojlcipphnegaaaGreat
open Go.RowKit Go.Maps
set_option linter.unusedVariables false

def Tx (w : World) (A : Option Addr) (ts : List ByteArray) : Prop := At w A (ts.map Value.string)
theorem Tx.below {w w' : World} {A : Option Addr} {ts : List ByteArray} (h : Tx w A ts) (hb : Below w.heap.size w w') : Tx w' A ts := At.below h hb
theorem Tx.nil (w : World) (A : Option Addr) : Tx w A [] := .inl rfl
def txt0 : ByteArray := ⟨#[]⟩
theorem Tx.at_ {w : World} {A : Option Addr} {ts : List ByteArray} (h : Tx w A ts) {i : Nat} (hi : i < ts.length) : ∃ b o, A = some ⟨b, o, none⟩ ∧ b < w.heap.size ∧ w.cell? ⟨b, o + i, none⟩ = some (.string (ts.getD i txt0)) := by
  rcases h with h | ⟨b, o, rfl, hb, hc⟩
  · rw [List.map_eq_nil_iff] at h
    subst h
    simp at hi
  · refine ⟨b, o, rfl, hb, hc i _ ?_⟩
    rw [List.getElem?_map, List.getElem?_eq_getElem hi, List.getD_eq_getElem?_getD, List.getElem?_eq_getElem hi]
    rfl
def OwnTx (w : World) (base : Nat) (v : Value) (ts : List ByteArray) : Prop := w.ownsRow base 9 1 v ts.length (ts.map Value.string)
theorem owntx_nil (w : World) (base : Nat) : OwnTx w base (.slice none 0 0) [] := ⟨rfl, .inl ⟨rfl, rfl⟩⟩
theorem owntx_below {w w' : World} {base : Nat} {v : Value} {ts : List ByteArray} (h : OwnTx w base v ts) (hb : Below w.heap.size w w') : OwnTx w' base v ts := rows_below h hb
theorem owntx_slice {w : World} {base : Nat} {v : Value} {ts : List ByteArray} (h : OwnTx w base v ts) : ∃ P c, v = .slice P ts.length c ∧ ts.length ≤ c ∧ Tx w P ts ∧ ∀ ad, P = some ad → base ≤ ad.block := rows_slice h
theorem text_info : (Tryz.prog.info? 9).map (fun i => (i.zero, i.size, i.bytes)) = some (some (.string ByteArray.empty), 1, 16) := by kernel_rfl
theorem app_t {w0 : World} {ops : Array Oper} {rest : List Oper} {o : Oper} {a : Act} {Q : Exit → Act → World → Prop} (hgd : o.guard = none) (s y : Operand)
    (ho : o.op = .call { callee := .builtin .append, args := #[s, y], argTypes := #[51, 51] })
    (base : Nat) (v : Value) (ts : List ByteArray) (hs : a.eval s = v) (hF : OwnTx w0 base v ts) (x : ByteArray) (c : Nat) (hy : a.eval y = .slice (some ⟨w0.heap.size, 0, none⟩) 1 c) (hn : ts.length ≤ 4000000) (hbase : base ≤ w0.heap.size)
    (h : ∀ v' w', OwnTx w' base v' (ts ++ [x]) → Below base w0 w' → wpList Tryz.prog ops Q rest (a.put o.dst v') w') :
    wpList Tryz.prog ops Q (o :: rest) a (w0.alloc (.cells #[.string x] 9)) := by
  obtain ⟨i0, hi, hz0, hz1, hz2⟩ := info_parts text_info
  have hA := below_one w0 (.cells #[.string x] 9)
  have hF1 := owntx_below hF hA
  refine wpList_append_own_at _ hgd s y 51 ho base 9 i0 _ 1 16 Tryz.underlying51 hi hz0 hz1 hz2 rfl (by omega) v ts.length (ts.map Value.string) hs hF1 _ 1 c [.string x] hy rfl (cell_one_new w0 _ _) (by intro u hu; simp at hu; subst hu; rfl)
    (by simp only [maxLen]; omega) (by omega) (Nat.le_trans hbase hA.size) ?_
  intro v' w' h1 h2 _ _
  refine h v' w' ?_ (Below.grown (hA.mono hbase) h2 (Nat.le_trans hbase hA.size) (fun k hk => (World.ownsRow.lt hF1 _ hk).1))
  unfold OwnTx
  rw [List.length_append, List.map_append]
  exact h1

/-! ### a text laid into rising ones -/
theorem getD_at {ts : List ByteArray} {k : Nat} (h : k < ts.length) : ts.getD k txt0 = ts[k] := by rw [List.getD_eq_getElem?_getD, List.getElem?_eq_getElem h]; rfl
theorem take_next {ts : List ByteArray} {k : Nat} (h : k < ts.length) : ts.take (k + 1) = ts.take k ++ [ts.getD k txt0] := by rw [List.take_succ_eq_append_getElem h, getD_at h]
inductive WSt (ts : List ByteArray) (s : ByteArray) : Nat → Bool → List ByteArray → Prop
  | before (k : Nat) (h : ∀ x ∈ ts.take k, cmpB x s < 0) : WSt ts s k false (ts.take k)
  | behind (k p : Nat) (hp : p ≤ k) (h1 : ∀ x ∈ ts.take p, cmpB x s < 0) (h2 : ∀ x ∈ ts.drop p, cmpB s x < 0) : WSt ts s k true (ts.take p ++ s :: (ts.take k).drop p)
theorem wst_zero (ts : List ByteArray) (s : ByteArray) : WSt ts s 0 false [] := by
  have := WSt.before (ts := ts) (s := s) 0 (by simp)
  simpa using this
theorem wst_lay {ts : List ByteArray} {s : ByteArray} {k : Nat} {o : List ByteArray} (hu : UpF cmpB ts) (hk : k < ts.length) (h : WSt ts s k false o) (hlt : cmpB s (ts.getD k txt0) < 0) : WSt ts s k true (o ++ [s]) := by
  cases h with
  | before h =>
    have h2 : ∀ x ∈ ts.drop k, cmpB s x < 0 := by
      intro x hx
      rw [List.drop_eq_getElem_cons hk] at hx
      rw [getD_at hk] at hlt
      rcases List.mem_cons.1 hx with rfl | hx
      · exact hlt
      · have h3 : UpF cmpB (ts.drop k) := hu.sublist (List.drop_sublist _ _)
        rw [List.drop_eq_getElem_cons hk] at h3
        have h4 := (List.pairwise_cons.1 h3).1 x hx
        exact cmpB_cmp.strict hlt (by omega)
    have := WSt.behind (ts := ts) (s := s) k k (Nat.le_refl _) h h2
    rwa [List.drop_eq_nil_of_le (by rw [List.length_take]; omega)] at this
theorem wst_next {ts : List ByteArray} {s : ByteArray} {k : Nat} {dn : Bool} {o : List ByteArray} (hk : k < ts.length) (h : WSt ts s k dn o) (hne : ts.getD k txt0 ≠ s) (hx : dn = true ∨ ¬ cmpB s (ts.getD k txt0) < 0) : WSt ts s (k + 1) dn (o ++ [ts.getD k txt0]) := by
  cases h with
  | before h =>
    rw [← take_next hk]
    refine .before (k + 1) fun x hx2 => ?_
    rw [take_next hk] at hx2
    rcases List.mem_append.1 hx2 with h2 | h2
    · exact h x h2
    · rw [List.mem_singleton.1 h2]
      rcases hx with hx | hx
      · cases hx
      · rcases cmp_ne cmpB_cmp hne with h3 | h3
        · exact h3
        · exact absurd h3 hx
  | behind p hp h1 h2 =>
    have h3 := WSt.behind (ts := ts) (s := s) (k + 1) p (by omega) h1 h2
    have e : (ts.take (k + 1)).drop p = (ts.take k).drop p ++ [ts.getD k txt0] := by
      rw [take_next hk, List.drop_append_of_le_length (by rw [List.length_take]; omega)]
    rw [e] at h3
    simpa using h3
theorem wst_end {ts : List ByteArray} {s : ByteArray} {dn : Bool} {o : List ByteArray} (hu : UpF cmpB ts) (h : WSt ts s ts.length dn o) : withF cmpB ts s = if dn = true then o else o ++ [s] := by
  cases h with
  | before h =>
    rw [withF_at cmpB_cmp hu s ts.length h (by simp)]
    simp
  | behind p hp h1 h2 =>
    rw [withF_at cmpB_cmp hu s p h1 h2]
    simp
theorem wst_len {ts : List ByteArray} {s : ByteArray} {k : Nat} {dn : Bool} {o : List ByteArray} (h : WSt ts s k dn o) : o.length ≤ k + 1 := by
  cases h with
  | before h => rw [List.length_take]; omega
  | behind p hp h1 h2 => rw [List.length_append, List.length_cons, List.length_take, List.length_drop, List.length_take]; omega
def TxTold (w : World) (ts : List ByteArray) (e : Ending) (w' : World) : Prop := ∃ P c, e = .returned (.slice P ts.length c) ∧ Tx w' P ts ∧ ts.length ≤ c ∧ Below w.heap.size w w'
set_option maxHeartbeats 1000000 in
theorem with_ref (A : Option Addr) (ts : List ByteArray) (c : Nat) (s : ByteArray) (w : World) (hA : Tx w A ts) (hc : ts.length ≤ c) (hu : UpF cmpB ts) (hl : ts.length ≤ 1000000) :
    Calls Tryz.prog 64 #[.slice A ts.length c, .string s] w (TxTold w (withF cmpB ts s)) := by
  have HA := Lib.hid hA
  have HU := Lib.hid hu
  have HC := Lib.hid hc
  clear hA hu hc
  go_enter Tryz.func64, Tryz.ntmps64
  go_wp2_with fail
  go_loopw [5, 6, 7] (fun u d i wr => ∃ (k : Nat) (dn : Bool) (o : List ByteArray), k ≤ ts.length ∧ i = .int .i64 (k : Int) ∧ d = .bool dn ∧ WSt ts s k dn o ∧ OwnTx wr w.heap.size u o ∧ Below w.heap.size w wr) (fun _ _ i _ => ts.length - (intOf i).toNat)
  case atStart => exact ⟨0, false, [], Nat.zero_le _, rfl, rfl, wst_zero _ _, owntx_nil _ _, Below.refl _ _⟩
  case round =>
    obtain ⟨k, dn, o, hk, rfl, rfl, hst, hown, hb⟩ := hrel
    have HST := Lib.hid hst
    have HO := Lib.hid hown
    have HB := Lib.hid hb
    have HLN := Lib.hid (wst_len hst)
    by_cases hlt : k < ts.length
    · obtain ⟨b1, o1, rfl, hb1, g0⟩ := HA.out.at_ hlt
      have c0 := (hb.cell (p := ⟨b1, o1 + k, none⟩) hb1).trans g0
      have i1 : (k : Int) < (ts.length : Int) := by omega
      have HN1 := Lib.hid (fun (h : dn = false) (h2 : cmpB s (ts.getD k txt0) < 0) => wst_lay HU.out hlt (by rw [← h]; exact hst) h2)
      have HN2 := Lib.hid (fun (d : Bool) (o : List ByteArray) (h : WSt ts s k d o) (hne : ts.getD k txt0 ≠ s) (hx : d = true ∨ ¬ cmpB s (ts.getD k txt0) < 0) => wst_next hlt h hne hx)
      have HMEM := Lib.hid (show ts.getD k txt0 ∈ ts from by rw [getD_at hlt]; exact List.getElem_mem hlt)
      clear hst hown hb g0
      generalize ts.getD k txt0 = x at *
      by_cases he : x = s
      · subst he
        have j1 : (x.toList == x.toList) = true := by simp
        have HW := Lib.hid (withF_here (f := cmpB) ts HMEM.out)
        go_wp2_with fail
        go_ret
        rw [HW.out]
        exact ⟨_, _, rfl, HA.out.below HB.out, HC.out, HB.out⟩
      · have j1 : (x.toList == s.toList) = false := by rw [eq_cmp]; exact decide_eq_false fun h => he ((cmpB_cmp.zero _ _).1 h)
        cases dn
        · by_cases h2 : cmpB s x < 0
          · have j2 : Op.bytesLess s.toList x.toList = true := by
              rw [less_cmp]
              refine decide_eq_true ?_
              rcases cmpB_cmp.rng s x with h | h | h <;> omega
            have HS1 := Lib.hid (HN1.out rfl h2)
            have HS2 := Lib.hid (HN2.out true _ HS1.out he (.inl rfl))
            clear HN1 HN2
            go_wp2_with (first
              | (at_builtin; refine app_t rfl (.tmp 31) (.tmp 33) rfl w.heap.size _ o rfl HO.out s 1 rfl (by have := HLN.out; omega) HB.out.size ?_; intro v2 w2 hown2 hb2; have HO2 := Lib.hid hown2; have HB2 := Lib.hid (HB.out.trans hb2); have c1 := (hb2.cell (p := ⟨b1, o1 + k, none⟩) hb1); have c2 := c1.trans c0; clear hown2 hb2 c1)
              | (at_builtin; refine app_t rfl (.tmp 35) (.tmp 40) rfl w.heap.size _ (o ++ [s]) rfl HO2.out x 1 rfl (by have := HLN.out; rw [List.length_append, List.length_singleton]; omega) HB2.out.size ?_; intro v3 w3 hown3 hb3; have HO3 := Lib.hid hown3; have HB3 := Lib.hid (HB2.out.trans hb3); clear hown3 hb3))
            go_roundw
            case rel => exact ⟨k + 1, true, _, by omega, by go_num, rfl, HS2.out, HO3.out, HB3.out⟩
            case measure => simp [intOf]; omega
          · have j2 : Op.bytesLess s.toList x.toList = false := by
              rw [less_cmp]
              exact decide_eq_false fun h => h2 (by omega)
            have HS2 := Lib.hid (HN2.out false _ HST.out he (.inr h2))
            clear HN1 HN2
            go_wp2_with (first
              | (at_builtin; refine app_t rfl (.tmp 35) (.tmp 40) rfl w.heap.size _ o rfl HO.out x 1 rfl (by have := HLN.out; omega) HB.out.size ?_; intro v3 w3 hown3 hb3; have HO3 := Lib.hid hown3; have HB3 := Lib.hid (HB.out.trans hb3); clear hown3 hb3))
            go_roundw
            case rel => exact ⟨k + 1, false, _, by omega, by go_num, rfl, HS2.out, HO3.out, HB3.out⟩
            case measure => simp [intOf]; omega
        · have HS2 := Lib.hid (HN2.out true _ HST.out he (.inl rfl))
          clear HN1 HN2
          go_wp2_with (first
            | (at_builtin; refine app_t rfl (.tmp 35) (.tmp 40) rfl w.heap.size _ o rfl HO.out x 1 rfl (by have := HLN.out; omega) HB.out.size ?_; intro v3 w3 hown3 hb3; have HO3 := Lib.hid hown3; have HB3 := Lib.hid (HB.out.trans hb3); clear hown3 hb3))
          go_roundw
          case rel => exact ⟨k + 1, true, _, by omega, by go_num, rfl, HS2.out, HO3.out, HB3.out⟩
          case measure => simp [intOf]; omega
    · obtain rfl : k = ts.length := by omega
      have HE := Lib.hid (wst_end HU.out hst)
      clear hst hown hb
      cases dn
      · have HE2 := Lib.hid (show withF cmpB ts s = o ++ [s] from HE.out)
        go_wp2_with (first
          | (at_builtin; refine app_t rfl (.tmp 44) (.tmp 46) rfl w.heap.size _ o rfl HO.out s 1 rfl (by have := HLN.out; omega) HB.out.size ?_; intro v2 w2 hown2 hb2; have HO2 := Lib.hid hown2; have HB2 := Lib.hid (HB.out.trans hb2); clear hown2 hb2))
        obtain ⟨P, c2, hv, hc2, hT, _⟩ := owntx_slice HO2.out
        go_ret
        rw [HE2.out, hv]
        exact ⟨P, c2, rfl, hT, hc2, HB2.out⟩
      · have HE2 := Lib.hid (show withF cmpB ts s = o from HE.out)
        obtain ⟨P, c2, hv, hc2, hT, _⟩ := owntx_slice HO.out
        have HT := Lib.hid hT
        clear hT
        subst hv
        go_wp2_with fail
        go_ret
        rw [HE2.out]
        exact ⟨P, c2, rfl, HT.out, hc2, HB.out⟩
end Go.Proofs.YtojlcipphnegaaaGreat

namespace Go.Proofs.YtojlcipphnegaaaGreat
open Go.ChangeShapes Go.WideShapes Go.ChangeAt Go.RowKit Go.Joins Go.Maps
set_option linter.unusedVariables false

/-- A set and where it lies. -/
abbrev LPl := Option Addr × Nat × List Lbl
def slE (p : LPl) : Value := .slice p.1 p.2.2.length p.2.1
def Sets (w : World) (V : Option Addr) (ss : List (List Lbl)) : Prop :=
  ∃ ps : List LPl, ps.map (fun p => p.2.2) = ss ∧ At w V (ps.map slE) ∧ ∀ p ∈ ps, Lbls w p.1 p.2.2 ∧ p.2.2.length ≤ p.2.1
theorem Sets.below {w w' : World} {V : Option Addr} {ss : List (List Lbl)} (h : Sets w V ss) (hb : Below w.heap.size w w') : Sets w' V ss := by
  obtain ⟨ps, h1, h2, h3⟩ := h
  exact ⟨ps, h1, h2.below hb, fun p hp => ⟨(h3 p hp).1.below hb, (h3 p hp).2⟩⟩
theorem Sets.alloc {w : World} {V : Option Addr} {ss : List (List Lbl)} (h : Sets w V ss) (o : Obj) : Sets (w.alloc o) V ss := h.below (below_one w o)
theorem Sets.nil (w : World) (V : Option Addr) : Sets w V [] := ⟨[], rfl, .inl rfl, fun p hp => by cases hp⟩
theorem Sets.at_ {w : World} {V : Option Addr} {ss : List (List Lbl)} (h : Sets w V ss) {i : Nat} (hi : i < ss.length) :
    ∃ b o A c, V = some ⟨b, o, none⟩ ∧ b < w.heap.size ∧ w.cell? ⟨b, o + i, none⟩ = some (.slice A (ss.getD i []).length c) ∧ Lbls w A (ss.getD i []) ∧ (ss.getD i []).length ≤ c := by
  obtain ⟨ps, rfl, h2, h3⟩ := h
  rw [List.length_map] at hi
  have hg : (ps.map fun p => p.2.2).getD i [] = ps[i].2.2 := by simp [List.getD_eq_getElem?_getD, hi]
  rcases h2 with h2 | ⟨b, o, rfl, hb, hc⟩
  · rw [List.map_eq_nil_iff] at h2
    subst h2
    simp at hi
  · obtain ⟨k1, k2⟩ := h3 ps[i] (List.getElem_mem hi)
    refine ⟨b, o, ps[i].1, ps[i].2.1, rfl, hb, ?_, by rw [hg]; exact k1, by rw [hg]; exact k2⟩
    rw [hg]
    exact hc i (slE ps[i]) (by rw [List.getElem?_map, List.getElem?_eq_getElem hi]; rfl)
/-- The value v is a row of sets in memory of the call's own, from block base on: the row and each set. -/
def OwnSets (w : World) (base : Nat) (v : Value) (ss : List (List Lbl)) : Prop :=
  ∃ ps : List LPl, ps.map (fun p => p.2.2) = ss ∧ w.ownsRow base 31 1 v ps.length (ps.map slE) ∧ ∀ p ∈ ps, (Lbls w p.1 p.2.2 ∧ p.2.2.length ≤ p.2.1) ∧ OwnL w base (slE p) p.2.2
section
variable {w w' : World} {base : Nat} {v : Value} {ss : List (List Lbl)}
theorem ownsets_nil (w : World) (base : Nat) : OwnSets w base (.slice none 0 0) [] := ⟨[], rfl, ⟨rfl, .inl ⟨rfl, rfl⟩⟩, fun p hp => by cases hp⟩
theorem ownsets_below (h : OwnSets w base v ss) (hb : Below w.heap.size w w') : OwnSets w' base v ss := by
  obtain ⟨ps, h1, h2, h3⟩ := h
  exact ⟨ps, h1, rows_below h2 hb, fun p hp => ⟨⟨(h3 p hp).1.1.below hb, (h3 p hp).1.2⟩, ownl_below (h3 p hp).2 hb⟩⟩
theorem ownsets_lower {base' : Nat} (h : OwnSets w base v ss) (hb : base' ≤ base) : OwnSets w base' v ss := by
  obtain ⟨ps, h1, h2, h3⟩ := h
  exact ⟨ps, h1, rows_lower h2 hb, fun p hp => ⟨(h3 p hp).1, ownl_lower (h3 p hp).2 hb⟩⟩
theorem ownsets_slice (h : OwnSets w base v ss) : ∃ P c, v = .slice P ss.length c ∧ ss.length ≤ c ∧ Sets w P ss ∧ ∀ ad, P = some ad → base ≤ ad.block := by
  obtain ⟨ps, rfl, h2, h3⟩ := h
  obtain ⟨P, c, h4, h5, h6, h7⟩ := rows_slice h2
  exact ⟨P, c, by rw [List.length_map]; exact h4, by rw [List.length_map]; exact h5, ⟨ps, rfl, h6, fun p hp => (h3 p hp).1⟩, h7⟩
theorem own_apart_sets {base' : Nat} {a : Value} {x : List Lbl} {ps : List LPl} (h : OwnL w base' a x) (hv : w.ownsRow base 31 1 v ps.length (ps.map slE)) : ∀ k, a.ownBlock = some k → v.ownBlock ≠ some k := by
  intro k hk e
  rcases h.2 with ⟨rfl, _⟩ | ⟨g, cap, cur, rfl, _, hh, _⟩
  · cases hk
  · rcases hv.2 with ⟨rfl, _⟩ | ⟨g', cap', cur', rfl, _, hh', _⟩
    · cases e
    · simp only [Value.ownBlock, Option.some.injEq] at hk e
      subst hk
      subst e
      rw [hh] at hh'
      injection hh' with hh'
      injection hh' with _ h2 _
      exact absurd h2 (by decide)
end
theorem set_info : (Tryz.prog.info? 31).map (fun i => (i.zero, i.size, i.bytes)) = some (some (.slice none 0 0), 1, 24) := by kernel_rfl
/-- append of one more set to an own row of sets, at a walk's built-in. -/
theorem app_set {w0 : World} {ops : Array Oper} {rest : List Oper} {o : Oper} {a : Act} {Q : Exit → Act → World → Prop} (hgd : o.guard = none) (s y : Operand)
    (ho : o.op = .call { callee := .builtin .append, args := #[s, y], argTypes := #[22, 22] })
    (base : Nat) (v : Value) (ss : List (List Lbl)) (hs : a.eval s = v) (hF : OwnSets w0 base v ss) (B : Option Addr) (l : List Lbl) (d c : Nat) (hx : OwnL w0 base (.slice B l.length d) l) (hld : l.length ≤ d) (hB : Lbls w0 B l)
    (hy : a.eval y = .slice (some ⟨w0.heap.size, 0, none⟩) 1 c) (hn : ss.length ≤ 5864062014800) (hbase : base ≤ w0.heap.size)
    (h : ∀ v' w', OwnSets w' base v' (ss ++ [l]) → Below base w0 w' → wpList Tryz.prog ops Q rest (a.put o.dst v') w') :
    wpList Tryz.prog ops Q (o :: rest) a (w0.alloc (.cells #[.slice B l.length d] 31)) := by
  obtain ⟨i0, hi, hz0, hz1, hz2⟩ := info_parts set_info
  have hA := below_one w0 (.cells #[.slice B l.length d] 31)
  obtain ⟨ps, rfl, h2, h3⟩ := ownsets_below hF hA
  have hx1 := ownl_below hx hA
  have hB1 := hB.below hA
  rw [List.length_map] at hn
  refine wpList_append_own_at _ hgd s y 22 ho base 31 i0 _ 1 24 Tryz.underlying22 hi hz0 hz1 hz2 rfl (by omega) v ps.length (ps.map slE) hs h2 _ 1 c [.slice B l.length d] hy rfl (cell_one_new w0 _ _) (by intro u hu; simp at hu; subst hu; rfl)
    (by simp only [maxLen]; omega) (by omega) (Nat.le_trans hbase hA.size) ?_
  intro v' w' k1 k2 _ _
  have hkeep : ∀ {u : Value} {x : List Lbl}, OwnL _ base u x → OwnL w' base u x := fun {u x} hu => by
    refine rows_move hu fun k hk => k2.block k (World.ownsRow.lt hu k hk).2 (fun e => own_apart_sets hu h2 k hk e.symm)
  refine h v' w' ⟨ps ++ [(B, d, l)], by simp, by rw [List.length_append, List.map_append]; exact k1, fun p hp => ?_⟩ (Below.grown (hA.mono hbase) k2 (Nat.le_trans hbase hA.size) (fun k hk => (World.ownsRow.lt h2 _ hk).1))
  rcases List.mem_append.1 hp with hp | hp
  · obtain ⟨⟨_, m2⟩, m3⟩ := h3 p hp
    have m4 := hkeep m3
    obtain ⟨P, c', e, _, m5, _⟩ := ownl_slice m4
    obtain ⟨rfl, _, rfl⟩ := Value.slice.inj e
    exact ⟨⟨m5, m2⟩, m4⟩
  · obtain rfl := List.mem_singleton.1 hp
    have m4 := hkeep hx1
    obtain ⟨P, c', e, _, m5, _⟩ := ownl_slice m4
    obtain ⟨rfl, _, rfl⟩ := Value.slice.inj e
    exact ⟨⟨m5, hld⟩, m4⟩

/-! ### opening -/
section
variable {H : Type} {enc : TypeId × Value → H} {W : World} {base : Nat} {sp : Nat → Bool} {held : Bool}
theorem open_sets {fuel : Nat} {v : Value} {x : DataW H × List MemPlace} (hf : DataW.trod enc Tryz.prog W base sp held fuel 22 [v] = some x) (hw : ∀ n ∈ x.1.weights Tryz.prog 22, n ≤ reachBytes) :
    ∃ (V : Option Addr) (ss : List (List Lbl)) (c : Nat), v = .slice V ss.length c ∧ Sets W V ss ∧ (∀ l ∈ ss, LFits l ∧ l.length * 32 ≤ 140737488351232) ∧ ss.length * 24 ≤ 140737488351232 ∧ ss.length ≤ c := by
  rcases Go.Deep.open_slice1 Tryz.underlying22 (by kernel_rfl) hf with ⟨hcs, hx⟩ | ⟨a, len, cap, m, n, U, D, Pl, hcs, hb, hl, hm, hmm, hx, hcell⟩
  · simp only [List.cons.injEq, and_true] at hcs
    subst hcs
    exact ⟨none, [], 0, rfl, Sets.nil _ _, fun l hl => by (cases hl), by simp, Nat.le_refl _⟩
  · simp only [List.cons.injEq, and_true] at hcs
    subst hcs
    have hml : len ≤ m := by rw [hmm]; split <;> omega
    rw [hx] at hw
    simp only [DataW.weights, Tryz.underlying22] at hw
    have hbytes : Tryz.prog.bytesOf 31 = 24 := by kernel_rfl
    have hlen24 := hw ((((List.range len).map D).length + ((List.range (m - len)).map fun j => D (len + j)).length) * Tryz.prog.bytesOf 31) (by simp)
    rw [hbytes] at hlen24
    simp only [List.length_map, List.length_range] at hlen24
    rw [reach_is] at hlen24
    have each : ∀ i, i < len → ∃ y : LPl, U i = slE y ∧ Lbls W y.1 y.2.2 ∧ y.2.2.length ≤ y.2.1 ∧ LFits y.2.2 ∧ y.2.2.length * 32 ≤ 140737488351232 := by
      intro i hi
      obtain ⟨A, l, c, h1, h2, h3, h4, h5⟩ := open_lbls (hcell i (by omega)).2 (fun q hq => hw q (by
        simp only [List.mem_cons, List.mem_append]
        exact .inr (.inl (weights_all (List.mem_map.2 ⟨i, List.mem_range.2 hi, rfl⟩) q hq))))
      exact ⟨(A, c, l), h1, h2, h5, h3, h4⟩
    obtain ⟨y, hy⟩ := Go.Deep.choose_lt each
    refine ⟨some a, (List.range len).map fun i => (y i).2.2, cap, by simp, ⟨(List.range len).map y, by simp, ?_, ?_⟩, ?_, by simp; omega, by simp; exact hl⟩
    · rcases Nat.eq_zero_or_pos len with h0 | h0
      · subst h0
        exact .inl rfl
      · obtain ⟨b, o, spot⟩ := a
        have hc := (hcell 0 (by omega)).1
        have hspot : spot = none := by simpa [Addr.add] using World.cell?_spot hc
        subst hspot
        have hc0 : W.cell? ⟨b, o, none⟩ = some (U 0) := by simpa [Addr.add] using hc
        refine .inr ⟨b, o, rfl, cell_lt hc0, fun j u hj => ?_⟩
        have hj2 : j < len := by
          have := (List.getElem?_eq_some_iff.1 hj).1
          simpa using this
        have hcj := (hcell j (by omega)).1
        rw [add_at] at hcj
        rw [hcj, (hy j hj2).1]
        simpa [hj2] using hj
    · intro p hp
      obtain ⟨i, hi, rfl⟩ := List.mem_map.1 hp
      have := hy i (List.mem_range.1 hi)
      exact ⟨this.2.1, this.2.2.1⟩
    · intro l hl
      obtain ⟨i, hi, rfl⟩ := List.mem_map.1 hl
      have := hy i (List.mem_range.1 hi)
      exact this.2.2.2
end
end Go.Proofs.YtojlcipphnegaaaGreat

namespace Go.Proofs.YtojlcipphnegaaaGreat
open Go.RowKit Go.Maps
set_option linter.unusedVariables false

theorem ret_ix {a b : Int} (h : a = b) : Ending.returned (.int .i64 a) = .returned (.int .i64 b) := by rw [h]
theorem idx_first {ts : List ByteArray} {s : ByteArray} {k : Nat} (hk : k < ts.length) (he : ts.getD k txt0 = s) (hb : ∀ j, j < k → ts.getD j txt0 ≠ s) : placeF ts s = k := by
  rw [getD_at hk] at he
  refine placeF_first hk he fun j hj => ?_
  have := hb j hj
  rwa [getD_at (by omega)] at this
theorem place_ref (A : Option Addr) (ts : List ByteArray) (c : Nat) (s : ByteArray) (w : World) (hA : Tx w A ts) (hs : s ∈ ts) (hl : ts.length ≤ 1000000) :
    Calls Tryz.prog 63 #[.slice A ts.length c, .string s] w fun e w' => e = .returned (.int .i64 (placeF ts s : Int)) ∧ w = w' := by
  have HA := Lib.hid hA
  have HS := Lib.hid hs
  clear hA hs
  go_enter Tryz.func63, Tryz.ntmps63
  go_wp2_with fail
  go_loop [5] (fun i => ∃ k : Nat, k ≤ ts.length ∧ i = .int .i64 (k : Int) ∧ ∀ j, j < k → ts.getD j txt0 ≠ s) (fun i => ts.length - (intOf i).toNat)
  case atStart => exact ⟨0, Nat.zero_le _, rfl, fun j hj => absurd hj (Nat.not_lt_zero j)⟩
  case round =>
    obtain ⟨k, hk, rfl, hb⟩ := hrel
    have HB := Lib.hid hb
    clear hb
    by_cases hlt : k < ts.length
    · obtain ⟨b1, o1, rfl, hb1, c0⟩ := HA.out.at_ hlt
      have i1 : (k : Int) < (ts.length : Int) := by omega
      have HI := Lib.hid (fun he => idx_first hlt he HB.out)
      have HN := Lib.hid (fun (he : ts.getD k txt0 ≠ s) => (show ∀ j, j < k + 1 → ts.getD j txt0 ≠ s from fun j hj => by
        rcases Nat.lt_or_ge j k with h | h
        · exact HB.out j h
        · rw [show j = k from by omega]; exact he))
      generalize ts.getD k txt0 = x at *
      by_cases he : x = s
      · have HP := Lib.hid (HI.out he)
        subst he
        have j1 : (x.toList == x.toList) = true := by simp
        go_wp2_with fail
        go_ret
        exact ⟨ret_ix (by rw [HP.out]), rfl⟩
      · have j1 : (x.toList == s.toList) = false := by rw [eq_cmp]; exact decide_eq_false fun h => he ((cmpB_cmp.zero _ _).1 h)
        have HN2 := Lib.hid (HN.out he)
        go_wp2_with fail
        exact ⟨⟨k + 1, by omega, by go_num, HN2.out⟩, by simp [intOf]; omega⟩
    · exfalso
      obtain ⟨hp, he⟩ := place_get HS.out
      exact HB.out (placeF ts s) (by omega) (by rw [getD_at hp]; exact he)

/-! ### all names, all texts -/
def accL (g : Lbl → ByteArray) (B0 : List ByteArray) (ss : List (List Lbl)) (i k : Nat) : List ByteArray := B0 ++ ((ss.take i).flatMap fun l => l.map g) ++ ((ss.getD i []).take k).map g
theorem acc_step (g : Lbl → ByteArray) (B0 : List ByteArray) (ss : List (List Lbl)) (i : Nat) {k : Nat} (hk : k < (ss.getD i []).length) : accL g B0 ss i (k + 1) = accL g B0 ss i k ++ [g ((ss.getD i []).getD k lbl0)] := by
  unfold accL
  have h := List.getElem?_eq_getElem hk
  have hg : (ss.getD i []).getD k lbl0 = (ss.getD i [])[k] := by rw [List.getD_eq_getElem?_getD, h]; rfl
  rw [List.take_succ_eq_append_getElem hk, List.map_append, hg]
  simp
theorem acc_row (g : Lbl → ByteArray) (B0 : List ByteArray) (ss : List (List Lbl)) {i : Nat} (hi : i < ss.length) : accL g B0 ss i (ss.getD i []).length = accL g B0 ss (i + 1) 0 := by
  unfold accL
  have hg : ss.getD i [] = ss[i] := by rw [List.getD_eq_getElem?_getD, List.getElem?_eq_getElem hi]; rfl
  rw [List.take_length, List.take_zero, List.map_nil, List.append_nil, List.take_succ_eq_append_getElem hi, List.flatMap_append, hg]
  simp
theorem acc_end (g : Lbl → ByteArray) (B0 : List ByteArray) (ss : List (List Lbl)) : accL g B0 ss ss.length 0 = B0 ++ ss.flatMap fun l => l.map g := by
  unfold accL
  rw [List.take_length, List.take_zero]
  simp
theorem flat8 (g : Lbl → ByteArray) : ∀ (ls : List (List Lbl)), (∀ l ∈ ls, l.length ≤ 8) → (ls.flatMap fun l => l.map g).length ≤ 8 * ls.length := by
  intro ls
  induction ls with
  | nil => intro _; simp
  | cons l ls ih =>
    intro h
    rw [List.flatMap_cons, List.length_append, List.length_map, List.length_cons]
    have h2 := ih (fun x hx => h x (List.mem_cons_of_mem _ hx))
    have h3 := h l (by simp)
    omega
theorem getD_mem8 {ss : List (List Lbl)} (h8 : ∀ l ∈ ss, l.length ≤ 8) (i : Nat) : (ss.getD i []).length ≤ 8 := by
  rcases Nat.lt_or_ge i ss.length with h | h
  · rw [List.getD_eq_getElem?_getD, List.getElem?_eq_getElem h]
    exact h8 _ (List.getElem_mem h)
  · rw [List.getD_eq_getElem?_getD, List.getElem?_eq_none h]
    simp
theorem acc_len (g : Lbl → ByteArray) (B0 : List ByteArray) {ss : List (List Lbl)} (h : ss.length ≤ 256) (h8 : ∀ l ∈ ss, l.length ≤ 8) (i k : Nat) : (setF cmpB (accL g B0 ss i k)).length ≤ B0.length + 2056 := by
  refine Nat.le_trans (setF_len cmpB_cmp _) ?_
  unfold accL
  rw [List.length_append, List.length_append, List.length_map, List.length_take]
  have h1 := flat8 g (ss.take i) (fun l hl => h8 l (List.mem_of_mem_take hl))
  rw [List.length_take] at h1
  have h2 := getD_mem8 h8 i
  omega
theorem acc_with (g : Lbl → ByteArray) (B0 : List ByteArray) (ss : List (List Lbl)) (i : Nat) {k : Nat} (hk : k < (ss.getD i []).length) : withF cmpB (setF cmpB (accL g B0 ss i k)) (g ((ss.getD i []).getD k lbl0)) = setF cmpB (accL g B0 ss i (k + 1)) := by
  rw [acc_step g B0 ss i hk, setF_app]
  rfl
set_option maxHeartbeats 1000000 in
theorem names_ref (V : Option Addr) (ss : List (List Lbl)) (c : Nat) (w : World) (hV : Sets w V ss) (h256 : ss.length ≤ 256) (h8 : ∀ l ∈ ss, l.length ≤ 8) :
    Calls Tryz.prog 35 #[.slice V ss.length c] w (TxTold w (ixNames ss)) := by
  have HV := Lib.hid (fun (x : World) (h : Below w.heap.size w x) => hV.below h)
  have HL := Lib.hid (fun i k => acc_len (fun x : Lbl => x.1) ([] : List ByteArray) h256 h8 i k)
  have HB0 := Lib.hid (show (([] : List ByteArray)).length ≤ 2100 from by simp)
  have H8 := Lib.hid (getD_mem8 h8)
  have H256 := Lib.hid h256
  have HEND := Lib.hid (show setF cmpB (accL (fun x : Lbl => x.1) ([] : List ByteArray) ss ss.length 0) = ixNames ss from by rw [acc_end]; rfl)
  have HNX := Lib.hid (fun i k (hk : k < (ss.getD i []).length) => acc_with (fun x : Lbl => x.1) ([] : List ByteArray) ss i hk)
  have HROW := Lib.hid (fun i (hi : i < ss.length) => acc_row (fun x : Lbl => x.1) ([] : List ByteArray) ss hi)
  clear hV h256 h8
  go_enter Tryz.func35, Tryz.ntmps35
  go_wp2_with fail
  go_loopw [3, 4] (fun u i wr => ∃ (j : Nat) (P : Option Addr) (cu : Nat), j ≤ ss.length ∧ i = .int .i64 (j : Int) ∧ u = .slice P (setF cmpB (accL (fun x : Lbl => x.1) ([] : List ByteArray) ss j 0)).length cu ∧ Tx wr P (setF cmpB (accL (fun x : Lbl => x.1) ([] : List ByteArray) ss j 0)) ∧ (setF cmpB (accL (fun x : Lbl => x.1) ([] : List ByteArray) ss j 0)).length ≤ cu ∧ Below w.heap.size w wr) (fun _ i _ => ss.length - (intOf i).toNat)
  case atStart => exact ⟨0, none, 0, Nat.zero_le _, rfl, rfl, Tx.nil _ _, Nat.le_refl _, Below.refl _ _⟩
  case round =>
    obtain ⟨j, P, cu, hj, rfl, rfl, hT, hcu, hb⟩ := hrel
    by_cases hlt : j < ss.length
    · have HR := Lib.hid (HROW.out j hlt)
      have HT := Lib.hid hT
      have HCU := Lib.hid hcu
      have HB := Lib.hid hb
      have i1 : (j : Int) < (ss.length : Int) := by omega
      have h8j := H8.out j
      clear hT hcu hb
      go_wp2_with fail
      go_loopw [3, 5] (fun u i wr => ∃ (k : Nat) (P : Option Addr) (cu : Nat), k ≤ (ss.getD j []).length ∧ i = .int .i64 (k : Int) ∧ u = .slice P (setF cmpB (accL (fun x : Lbl => x.1) ([] : List ByteArray) ss j k)).length cu ∧ Tx wr P (setF cmpB (accL (fun x : Lbl => x.1) ([] : List ByteArray) ss j k)) ∧ (setF cmpB (accL (fun x : Lbl => x.1) ([] : List ByteArray) ss j k)).length ≤ cu ∧ Below w.heap.size w wr) (fun _ i _ => (ss.getD j []).length - (intOf i).toNat)
      case atStart => exact ⟨0, P, cu, Nat.zero_le _, rfl, rfl, HT.out, HCU.out, HB.out⟩
      case round =>
        obtain ⟨k, P2, cu2, hk, rfl, rfl, hT2, hcu2, hb2⟩ := hrel
        obtain ⟨b1, o1, A1, c1, e1, hb1, g0, hL1, hlc1⟩ := (HV.out _ hb2).at_ hlt
        subst e1
        have HT2 := Lib.hid hT2
        have HCU2 := Lib.hid hcu2
        have HB2 := Lib.hid hb2
        have HR2 := Lib.hid HR.out
        by_cases hkl : k < (ss.getD j []).length
        · obtain ⟨b2, o2, rfl, hb3, x1, x2⟩ := hL1.at_ hkl
          have HW := Lib.hid (with_ref P2 (setF cmpB (accL (fun x : Lbl => x.1) ([] : List ByteArray) ss j k)) cu2 ((fun x : Lbl => x.1) ((ss.getD j []).getD k lbl0)) wr hT2 hcu2 (setF_up cmpB_cmp _) (by have := HL.out j k; have := HB0.out; omega))
          rw [HNX.out j k hkl] at HW
          clear hT2 hcu2 hb2 hL1
          unfold nmOf at x1
          unfold vlOf at x2
          obtain ⟨L2, hL2⟩ : ∃ L, setF cmpB (accL (fun x : Lbl => x.1) ([] : List ByteArray) ss j (k + 1)) = L := ⟨_, rfl⟩
          rw [hL2] at HW
          have HL2 := Lib.hid hL2
          clear hL2
          generalize (setF cmpB (accL (fun x : Lbl => x.1) ([] : List ByteArray) ss j k)).length = n1 at *
          generalize (ss.getD j []).getD k lbl0 = y at *
          generalize hnl : (ss.getD j []).length = nl at *
          have i2 : (k : Int) < (nl : Int) := by omega
          go_wp2_with (first | (go_at_call 64; refine HW.out.mono ?_; rintro e w5 ⟨P5, c5, rfl, hT5, hc5, hb5⟩; have HT5 := Lib.hid hT5; have HC5 := Lib.hid hc5; have HB5 := Lib.hid (below_then HB2.out hb5); clear hT5 hc5 hb5))
          go_roundw
          case rel => exact ⟨k + 1, P5, c5, by omega, by go_num, by rw [HL2.out], by rw [HL2.out]; exact HT5.out, by rw [HL2.out]; exact HC5.out, HB5.out⟩
          case measure => simp [intOf]; omega
        · have hkk : k = (ss.getD j []).length := by omega
          have HR3 := Lib.hid (show accL (fun x : Lbl => x.1) ([] : List ByteArray) ss j k = accL (fun x : Lbl => x.1) ([] : List ByteArray) ss (j + 1) 0 from by rw [hkk]; exact HR2.out)
          rw [HR3.out] at HT2 HCU2 ⊢
          clear hT2 hcu2 hb2 hL1
          obtain ⟨L2, hL2⟩ : ∃ L, setF cmpB (accL (fun x : Lbl => x.1) ([] : List ByteArray) ss (j + 1) 0) = L := ⟨_, rfl⟩
          rw [hL2] at HT2 HCU2 ⊢
          have HL2 := Lib.hid hL2
          clear hL2
          generalize hnl : (ss.getD j []).length = nl at *
          subst hkk
          have h256b := H256.out
          go_wp2_with fail
          go_roundw
          case rel => exact ⟨j + 1, P2, cu2, hlt, by go_num, by rw [HL2.out], by rw [HL2.out]; exact HT2.out, by rw [HL2.out]; exact HCU2.out, HB2.out⟩
          case measure => simp [intOf]; omega
    · obtain rfl : j = ss.length := by omega
      rw [HEND.out] at hT hcu ⊢
      have HT := Lib.hid hT
      have HCU := Lib.hid hcu
      have HB := Lib.hid hb
      clear hT hcu hb
      generalize ixNames ss = L2 at *
      go_wp2_with fail
      go_ret
      exact ⟨P, cu, rfl, HT.out, HCU.out, HB.out⟩
end Go.Proofs.YtojlcipphnegaaaGreat

namespace Go.Proofs.YtojlcipphnegaaaGreat
open Go.RowKit Go.Maps
set_option linter.unusedVariables false

theorem sets_next {ss : List (List Lbl)} {k : Nat} (h : k < ss.length) : ss.take (k + 1) = ss.take k ++ [ss.getD k []] := by
  rw [List.take_succ_eq_append_getElem h, List.getD_eq_getElem?_getD, List.getElem?_eq_getElem h]
  rfl
theorem ixown_law (V : Option Addr) (ss : List (List Lbl)) (c : Nat) (w : World) (hV : Sets w V ss) (hl : ss.length ≤ 5864062014634) (h32 : ∀ l ∈ ss, l.length * 32 ≤ 140737488351232) :
    Calls Tryz.prog 10 #[.slice V ss.length c] w fun e w' => ∃ v, e = .returned v ∧ OwnSets w' w.heap.size v ss ∧ Below w.heap.size w w' := by
  have HV := Lib.hid (fun (x : World) (h : Below w.heap.size w x) => hV.below h)
  have H32 := Lib.hid (fun i (hi : i < ss.length) => h32 (ss.getD i []) (by rw [List.getD_eq_getElem?_getD, List.getElem?_eq_getElem hi]; exact List.getElem_mem hi))
  have HNX := Lib.hid (fun i (hi : i < ss.length) => sets_next (ss := ss) hi)
  have HEND := Lib.hid (List.take_length (l := ss))
  clear hV h32
  go_enter Tryz.func10, Tryz.ntmps10
  go_wp2_with fail
  go_loopw [3, 4] (fun u i wr => ∃ j : Nat, j ≤ ss.length ∧ i = .int .i64 (j : Int) ∧ OwnSets wr w.heap.size u (ss.take j) ∧ Below w.heap.size w wr) (fun _ i _ => ss.length - (intOf i).toNat)
  case atStart => exact ⟨0, Nat.zero_le _, rfl, by rw [List.take_zero]; exact ownsets_nil _ _, Below.refl _ _⟩
  case round =>
    obtain ⟨j, hj, rfl, ho, hb⟩ := hrel
    have HO := Lib.hid ho
    have HB := Lib.hid hb
    by_cases hlt : j < ss.length
    · obtain ⟨b1, o1, A1, c1, rfl, hb1, g0, hL1, hlc1⟩ := (HV.out _ hb).at_ hlt
      have c0 : (wr.alloc (.cells #[] 35)).cell? ⟨b1, o1 + j, none⟩ = some (.slice A1 (ss.getD j []).length c1) := ((below_one wr _).cell (p := ⟨b1, o1 + j, none⟩) hb1).trans g0
      have i1 : (j : Int) < (ss.length : Int) := by omega
      have HN := Lib.hid (HNX.out j hlt)
      have h32j := H32.out j hlt
      have HL1 := Lib.hid hL1
      have hlen : (ss.take j).length ≤ 5864062014634 := by rw [List.length_take]; omega
      have HLEN := Lib.hid hlen
      clear ho hb hL1 hlen
      obtain ⟨l, hl2⟩ : ∃ l, ss.getD j [] = l := ⟨_, rfl⟩
      rw [hl2] at HN HL1 c0 g0 h32j
      clear hl2
      obtain ⟨S2, hS2⟩ : ∃ S, ss.take (j + 1) = S := ⟨_, rfl⟩
      rw [hS2] at HN
      have HS2 := Lib.hid hS2
      clear hS2
      generalize ss.take j = S1 at *
      go_wp2_with (first
        | (at_builtin; refine app_lbls rfl (.tmp 12) (.tmp 16) rfl wr.heap.size _ [] rfl (ownl_empty (Row.new wr _ _) (Nat.le_refl _)) A1 l c1 rfl (HL1.out.alloc _) (by simp only [List.length_nil]; omega) (by simp) ?_; intro v2 w2 hown2 hb2' _; rw [List.nil_append] at hown2; obtain ⟨P2, d2, hv2, hd2, hP2, _⟩ := ownl_slice hown2; have HO2 := Lib.hid hown2; have HP2 := Lib.hid hP2; have HD2 := Lib.hid hd2; have HB2 := Lib.hid (((Below.refl wr.heap.size wr).alloc (Nat.le_refl _) (.cells #[] 35)).trans hb2'); clear hown2 hb2' hP2 hd2; subst hv2)
        | (at_builtin; refine app_set rfl (.tmp 11) (.tmp 18) rfl w.heap.size _ S1 rfl (ownsets_below HO.out HB2.out) P2 l d2 1 (ownl_lower HO2.out HB.out.size) HD2.out HP2.out rfl (by have := HLEN.out; omega) (Nat.le_trans HB.out.size HB2.out.size) ?_; intro v3 w3 hown3 hb3; rw [← HN.out] at hown3; have HO3 := Lib.hid hown3; have HB3 := Lib.hid ((below_then HB.out HB2.out).trans hb3); clear hown3 hb3))
      go_roundw
      case rel => exact ⟨j + 1, hlt, by go_num, by rw [HS2.out]; exact HO3.out, HB3.out⟩
      case measure => simp [intOf]; omega
    · obtain rfl : j = ss.length := by omega
      rw [HEND.out] at HO
      clear ho hb
      go_wp2_with fail
      go_ret
      exact ⟨_, rfl, HO.out, HB.out⟩
end Go.Proofs.YtojlcipphnegaaaGreat

namespace Go.Proofs.YtojlcipphnegaaaGreat
open Go.RowKit Go.Maps
set_option linter.unusedVariables false
set_option maxRecDepth 100000

theorem str_refl (s : ByteArray) : (s.toList == s.toList) = true := by simp
theorem nan_prog (s : ByteArray) (w : World) : Calls Tryz.prog 137 #[.string s] w fun e w' => e = .returned (.bool false) ∧ w' = w := by
  have h := str_refl s
  go_enter Tryz.func137, Tryz.ntmps137
  go_wp2_with fail
  go_ret
  exact ⟨rfl, rfl⟩
theorem lessT_prog (a b : ByteArray) (w : World) : Calls Tryz.prog 106 #[.string a, .string b] w fun e w' => e = .returned (.bool (Op.bytesLess a.toList b.toList)) ∧ w' = w := by
  cases hl : Op.bytesLess a.toList b.toList
  all_goals
    go_enter Tryz.func106, Tryz.ntmps106
    go_wp2_with (first | (go_at_call 137; refine (nan_prog _ _).mono ?_; rintro e w2 ⟨rfl, rfl⟩))
    go_ret
    exact ⟨rfl, rfl⟩
theorem up_less {ts : List ByteArray} (hu : UpF cmpB ts) {h p : Nat} (hh : h < ts.length) (hp : p < ts.length) : Op.bytesLess (ts.getD h txt0).toList (ts.getD p txt0).toList = decide (h < p) := by
  rw [less_cmp, getD_at hh, getD_at hp]
  have key : ∀ i j (hi : i < ts.length) (hj : j < ts.length), i < j → cmpB ts[i] ts[j] < 0 := fun i j hi hj hij => List.pairwise_iff_getElem.1 hu i j hi hj hij
  rcases Nat.lt_trichotomy h p with h1 | h1 | h1
  · have := key h p hh hp h1
    rw [decide_eq_true h1]
    refine decide_eq_true (show cmpB ts[h] ts[p] = -1 from ?_)
    rcases cmpB_cmp.rng ts[h] ts[p] with h3 | h3 | h3 <;> omega
  · subst h1
    rw [decide_eq_false (Nat.lt_irrefl h), cmp_self cmpB_cmp]
    rfl
  · have := key p h hp hh h1
    have h2 := cmpB_cmp.swap ts[p] ts[h]
    rw [show decide (h < p) = false from decide_eq_false (by omega)]
    exact decide_eq_false (show ¬ cmpB ts[h] ts[p] = -1 from by omega)
set_option maxHeartbeats 1000000 in
theorem search_prog (A : Option Addr) (ts : List ByteArray) (c : Nat) (s : ByteArray) (w : World) (hA : Tx w A ts) (hu : UpF cmpB ts) (hs : s ∈ ts) (hl : ts.length ≤ 1000000) :
    Calls Tryz.prog 84 #[.slice A ts.length c, .string s] w fun e w' => e = .returned (.tuple #[.int .i64 (placeF ts s : Int), .bool true]) ∧ w' = w := by
  obtain ⟨hp, hpe⟩ := place_get hs
  obtain ⟨p, hpd⟩ : ∃ p, placeF ts s = p := ⟨_, rfl⟩
  rw [hpd] at hp ⊢
  have hps : ts.getD p txt0 = s := by rw [getD_at hp]; simp only [hpd] at hpe; exact hpe
  have HU := Lib.hid (fun h (hh : h < ts.length) => up_less hu hh hp)
  have HA := Lib.hid hA
  have HPS := Lib.hid hps
  rw [hps] at HU
  clear hA hu hs hpe hpd hps
  go_enter Tryz.func84, Tryz.ntmps84
  go_wp2_with fail
  go_loopw [7, 8] (fun i j wr => ∃ (x y : Nat), i = .int .i64 (x : Int) ∧ j = .int .i64 (y : Int) ∧ x ≤ p ∧ p ≤ y ∧ y ≤ ts.length ∧ wr = w) (fun i j _ => (intOf j).toNat - (intOf i).toNat)
  case atStart => exact ⟨0, ts.length, rfl, rfl, Nat.zero_le _, Nat.le_of_lt hp, Nat.le_refl _, rfl⟩
  case round =>
    obtain ⟨x, y, rfl, rfl, hx, hy, hyl, rfl⟩ := hrel
    by_cases hxy : x < y
    · have o1 : IntKind.i64.wrap ((x : Int) + (y : Int)) = ((x + y : Nat) : Int) := by rw [show (x : Int) + (y : Int) = ((x + y : Nat) : Int) from by omega]; exact IntWalk.i64_in _ (by omega)
      have i1 : decide ((x : Int) < (y : Int)) = true := decide_eq_true (by omega)
      obtain ⟨m, hm⟩ : ∃ m, (x + y) / 2 = m := ⟨_, rfl⟩
      have hxm : x ≤ m := by omega
      have hmy : m < y := by omega
      have hml : m < ts.length := by omega
      obtain ⟨b1, o1', rfl, hb1, g0⟩ := HA.out.at_ hml
      have i2 : (m : Int) < (ts.length : Int) := by omega
      have i3 : (0 : Int) ≤ (m : Int) := by omega
      have HL := Lib.hid (HU.out m hml)
      obtain ⟨t, ht⟩ : ∃ t, ts.getD m txt0 = t := ⟨_, rfl⟩
      rw [ht] at g0 HL
      have o2 : IntKind.i64.wrap (((x : Int) + (y : Int)) / 2 + 1) = ((x : Int) + (y : Int)) / 2 + 1 := IntWalk.i64_in _ (by omega)
      rw [← hm] at g0
      have HM := Lib.hid hm
      clear ht hm
      by_cases hmp : m < p
      · have j1 : Op.bytesLess t.toList s.toList = true := by rw [HL.out]; exact decide_eq_true hmp
        go_wp2_with (first | (go_at_call 106; refine (lessT_prog _ _ _).mono ?_; rintro e w2 ⟨rfl, rfl⟩))
        go_roundw
        case rel => exact ⟨m + 1, y, by rw [← HM.out]; go_num, rfl, hmp, hy, hyl, by first | rfl | trivial⟩
        case measure => simp [intOf]; have := HM.out; omega
      · have j1 : Op.bytesLess t.toList s.toList = false := by rw [HL.out]; exact decide_eq_false hmp
        go_wp2_with (first | (go_at_call 106; refine (lessT_prog _ _ _).mono ?_; rintro e w2 ⟨rfl, rfl⟩))
        go_roundw
        case rel => exact ⟨x, m, rfl, by rw [← HM.out]; go_num, hx, by omega, by omega, by first | rfl | trivial⟩
        case measure => simp [intOf]; have := HM.out; omega
    · obtain rfl : x = p := by omega
      obtain ⟨b1, o1, rfl, hb1, g0⟩ := HA.out.at_ hp
      rw [HPS.out] at g0
      have i1 : decide ((x : Int) < (y : Int)) = false := decide_eq_false (by omega)
      have i2 : (x : Int) < (ts.length : Int) := by omega
      have h := str_refl s
      go_wp2_with fail
      go_ret2
      exact ⟨rfl, rfl⟩
theorem place_prog (A : Option Addr) (ts : List ByteArray) (c : Nat) (s : ByteArray) (w : World) (hA : Tx w A ts) (hu : UpF cmpB ts) (hs : s ∈ ts) (hl : ts.length ≤ 1000000) :
    Calls Tryz.prog 54 #[.slice A ts.length c, .string s] w fun e w' => e = .returned (.int .i64 (placeF ts s : Int)) ∧ w' = w := by
  have HS := Lib.hid (search_prog A ts c s w hA hu hs hl)
  clear hA hu hs hl
  go_enter Tryz.func54, Tryz.ntmps54
  go_wp2_with (first | (go_at_call 84; refine HS.out.mono ?_; rintro e w2 ⟨rfl, rfl⟩))
  go_ret
  exact ⟨rfl, rfl⟩
end Go.Proofs.YtojlcipphnegaaaGreat

namespace Go.Proofs.YtojlcipphnegaaaGreat
set_option linter.unusedVariables false

def tL (s : ByteArray) : List UInt8 := uintL s.size ++ strL s
def restT (ss : List (List Lbl)) (k : Nat) : List UInt8 := ((ixTexts ss).drop k).flatMap tL ++ (uintL ss.length ++ ss.flatMap (setL (ixTexts ss)))
def restS (ss : List (List Lbl)) (i : Nat) : List UInt8 := (ss.drop i).flatMap (setL (ixTexts ss))
def restL (ss : List (List Lbl)) (i k : Nat) : List UInt8 := ((ss.getD i []).drop k).flatMap (placeL (ixTexts ss)) ++ restS ss (i + 1)
theorem bytes_start (ss : List (List Lbl)) : ixBytes ss = uintL (ixTexts ss).length ++ restT ss 0 := by
  unfold ixBytes restT
  rw [List.drop_zero]
  simp only [List.append_assoc]
  rfl
theorem restT_next (ss : List (List Lbl)) {k : Nat} (h : k < (ixTexts ss).length) : restT ss k = tL ((ixTexts ss).getD k txt0) ++ restT ss (k + 1) := by
  unfold restT
  rw [List.drop_eq_getElem_cons h, List.flatMap_cons, List.append_assoc, getD_at h]
theorem restT_end (ss : List (List Lbl)) : restT ss (ixTexts ss).length = uintL ss.length ++ restS ss 0 := by
  unfold restT restS
  rw [List.drop_length, List.drop_zero]
  rfl
theorem restS_next (ss : List (List Lbl)) {i : Nat} (h : i < ss.length) : restS ss i = uintL (ss.getD i []).length ++ restL ss i 0 := by
  unfold restS restL restS
  rw [List.drop_eq_getElem_cons h, List.flatMap_cons, List.drop_zero]
  have e : ss.getD i [] = ss[i] := by rw [List.getD_eq_getElem?_getD, List.getElem?_eq_getElem h]; rfl
  rw [e, setL, List.append_assoc]
theorem restS_end (ss : List (List Lbl)) : restS ss ss.length = [] := by
  unfold restS
  rw [List.drop_length]
  rfl
theorem restL_next (ss : List (List Lbl)) (i : Nat) {k : Nat} (h : k < (ss.getD i []).length) : restL ss i k = uintL (placeF (ixTexts ss) (nmOf (ss.getD i []) k)) ++ (uintL (placeF (ixTexts ss) (vlOf (ss.getD i []) k)) ++ restL ss i (k + 1)) := by
  unfold restL
  have e : (ss.getD i [])[k] = (ss.getD i []).getD k lbl0 := by rw [List.getD_eq_getElem?_getD (l := ss.getD i []), List.getElem?_eq_getElem h]; rfl
  rw [List.drop_eq_getElem_cons h, List.flatMap_cons, e]
  unfold placeL nmOf vlOf
  simp only [List.append_assoc]
theorem restL_end (ss : List (List Lbl)) (i : Nat) : restL ss i (ss.getD i []).length = restS ss (i + 1) := by
  unfold restL
  rw [List.drop_length]
  rfl
theorem flat_le {α : Type} (f : α → List UInt8) (b : Nat) : ∀ (l : List α), (∀ x ∈ l, (f x).length ≤ b) → (l.flatMap f).length ≤ b * l.length := by
  intro l
  induction l with
  | nil => intro _; simp
  | cons x l ih =>
    intro h
    rw [List.flatMap_cons, List.length_append, List.length_cons, Nat.mul_succ]
    have := h x (by simp)
    have := ih fun y hy => h y (List.mem_cons_of_mem _ hy)
    omega
theorem texts_len {ss : List (List Lbl)} (h : ixChk ss = 0) : (ixTexts ss).length ≤ 4096 := by
  obtain ⟨h256, _, hr⟩ := ixChk_right h
  have h1 := setF_len cmpB_cmp (textsOf ss)
  have h2 := texts_few ss fun l hl => (lbChk_ok.1 (hr l hl)).1
  unfold ixTexts
  omega
theorem text_size {ss : List (List Lbl)} (h : ixChk ss = 0) {s : ByteArray} (hs : s ∈ ixTexts ss) : s.size ≤ 64 := by
  obtain ⟨_, _, hr⟩ := ixChk_right h
  obtain ⟨l, hl, x, hx, e⟩ := texts_of hs
  have := label_sizes (hr l hl) hx
  rcases e with rfl | rfl <;> omega
theorem bytes_len {ss : List (List Lbl)} (h : ixChk ss = 0) : (ixBytes ss).length ≤ 400000 := by
  obtain ⟨h256, _, hr⟩ := ixChk_right h
  have h1 := texts_len h
  have u : ∀ n : Nat, n < 9223372036854775808 → (uintL n).length ≤ 9 := fun n hn => uintL_9 hn
  rw [bytes_start]
  unfold restT
  simp only [List.length_append]
  have a1 := u (ixTexts ss).length (by omega)
  have a2 := u ss.length (by omega)
  have a3 := flat_le tL 73 ((ixTexts ss).drop 0) fun s hs => by
    have hs2 := text_size h (List.mem_of_mem_drop hs)
    unfold tL
    rw [List.length_append, strL_length]
    have := u s.size (by omega)
    omega
  have a4 := flat_le (setL (ixTexts ss)) 153 ss fun l hl => by
    unfold setL
    have h8 := (lbChk_ok.1 (hr l hl)).1
    have b1 := u l.length (by omega)
    have b2 := flat_le (placeL (ixTexts ss)) 18 l fun x hx => by
      unfold placeL
      obtain ⟨m1, m2⟩ := texts_in hl hx
      obtain ⟨k1, _⟩ := place_get m1
      obtain ⟨k2, _⟩ := place_get m2
      have c1 := u (placeF (ixTexts ss) x.1) (by omega)
      have c2 := u (placeF (ixTexts ss) x.2) (by omega)
      rw [List.length_append]
      omega
    rw [List.length_append]
    omega
  rw [List.drop_zero] at a3 ⊢
  omega
end Go.Proofs.YtojlcipphnegaaaGreat

namespace Go.Proofs.YtojlcipphnegaaaGreat
open Go.RowKit Go.Maps
set_option linter.unusedVariables false

set_option maxHeartbeats 1000000 in
theorem texts_ref (V : Option Addr) (ss : List (List Lbl)) (c : Nat) (w : World) (hV : Sets w V ss) (h256 : ss.length ≤ 256) (h8 : ∀ l ∈ ss, l.length ≤ 8) :
    Calls Tryz.prog 60 #[.slice V ss.length c] w (TxTold w (ixTexts ss)) := by
  have HV := Lib.hid (fun (x : World) (h : Below w.heap.size w x) => hV.below h)
  have HL := Lib.hid (fun i k => acc_len (fun x : Lbl => x.2) (namesOf ss) h256 h8 i k)
  have HB0 := Lib.hid (show ((namesOf ss)).length ≤ 2100 from by have := flat8 (fun x : Lbl => x.1) ss h8; unfold namesOf; omega)
  have H8 := Lib.hid (getD_mem8 h8)
  have H256 := Lib.hid h256
  have HEND := Lib.hid (show setF cmpB (accL (fun x : Lbl => x.2) (namesOf ss) ss ss.length 0) = ixTexts ss from by rw [acc_end]; rfl)
  have HNX := Lib.hid (fun i k (hk : k < (ss.getD i []).length) => acc_with (fun x : Lbl => x.2) (namesOf ss) ss i hk)
  have HROW := Lib.hid (fun i (hi : i < ss.length) => acc_row (fun x : Lbl => x.2) (namesOf ss) ss hi)
  have HNM := Lib.hid (names_ref V ss c w hV h256 h8)
  have HZ := Lib.hid (show setF cmpB (accL (fun x : Lbl => x.2) (namesOf ss) ss 0 0) = ixNames ss from by unfold accL; simp [ixNames])
  clear hV h256 h8
  go_enter Tryz.func60, Tryz.ntmps60
  go_wp2_with fail
  refine HNM.out.mono ?_
  rintro e w2 ⟨P0, c0, rfl, hT0, hc0, hb0⟩
  have HT0 := Lib.hid hT0
  have HC0 := Lib.hid hc0
  have HB0x := Lib.hid hb0
  rw [← HZ.out] at HT0 HC0 ⊢
  clear hT0 hc0 hb0
  go_wp2_with fail
  go_loopw [3, 4] (fun u i wr => ∃ (j : Nat) (P : Option Addr) (cu : Nat), j ≤ ss.length ∧ i = .int .i64 (j : Int) ∧ u = .slice P (setF cmpB (accL (fun x : Lbl => x.2) (namesOf ss) ss j 0)).length cu ∧ Tx wr P (setF cmpB (accL (fun x : Lbl => x.2) (namesOf ss) ss j 0)) ∧ (setF cmpB (accL (fun x : Lbl => x.2) (namesOf ss) ss j 0)).length ≤ cu ∧ Below w.heap.size w wr) (fun _ i _ => ss.length - (intOf i).toNat)
  case atStart => exact ⟨0, P0, c0, Nat.zero_le _, rfl, rfl, HT0.out, HC0.out, HB0x.out⟩
  case round =>
    obtain ⟨j, P, cu, hj, rfl, rfl, hT, hcu, hb⟩ := hrel
    by_cases hlt : j < ss.length
    · have HR := Lib.hid (HROW.out j hlt)
      have HT := Lib.hid hT
      have HCU := Lib.hid hcu
      have HB := Lib.hid hb
      have i1 : (j : Int) < (ss.length : Int) := by omega
      have h8j := H8.out j
      clear hT hcu hb
      go_wp2_with fail
      go_loopw [3, 5] (fun u i wr => ∃ (k : Nat) (P : Option Addr) (cu : Nat), k ≤ (ss.getD j []).length ∧ i = .int .i64 (k : Int) ∧ u = .slice P (setF cmpB (accL (fun x : Lbl => x.2) (namesOf ss) ss j k)).length cu ∧ Tx wr P (setF cmpB (accL (fun x : Lbl => x.2) (namesOf ss) ss j k)) ∧ (setF cmpB (accL (fun x : Lbl => x.2) (namesOf ss) ss j k)).length ≤ cu ∧ Below w.heap.size w wr) (fun _ i _ => (ss.getD j []).length - (intOf i).toNat)
      case atStart => exact ⟨0, P, cu, Nat.zero_le _, rfl, rfl, HT.out, HCU.out, HB.out⟩
      case round =>
        obtain ⟨k, P2, cu2, hk, rfl, rfl, hT2, hcu2, hb2⟩ := hrel
        obtain ⟨b1, o1, A1, c1, e1, hb1, g0, hL1, hlc1⟩ := (HV.out _ hb2).at_ hlt
        subst e1
        have HT2 := Lib.hid hT2
        have HCU2 := Lib.hid hcu2
        have HB2 := Lib.hid hb2
        have HR2 := Lib.hid HR.out
        by_cases hkl : k < (ss.getD j []).length
        · obtain ⟨b2, o2, rfl, hb3, x1, x2⟩ := hL1.at_ hkl
          have HW := Lib.hid (with_ref P2 (setF cmpB (accL (fun x : Lbl => x.2) (namesOf ss) ss j k)) cu2 ((fun x : Lbl => x.2) ((ss.getD j []).getD k lbl0)) wr hT2 hcu2 (setF_up cmpB_cmp _) (by have := HL.out j k; have := HB0.out; omega))
          rw [HNX.out j k hkl] at HW
          clear hT2 hcu2 hb2 hL1
          unfold nmOf at x1
          unfold vlOf at x2
          obtain ⟨L2, hL2⟩ : ∃ L, setF cmpB (accL (fun x : Lbl => x.2) (namesOf ss) ss j (k + 1)) = L := ⟨_, rfl⟩
          rw [hL2] at HW
          have HL2 := Lib.hid hL2
          clear hL2
          generalize (setF cmpB (accL (fun x : Lbl => x.2) (namesOf ss) ss j k)).length = n1 at *
          generalize (ss.getD j []).getD k lbl0 = y at *
          generalize hnl : (ss.getD j []).length = nl at *
          have i2 : (k : Int) < (nl : Int) := by omega
          go_wp2_with (first | (go_at_call 64; refine HW.out.mono ?_; rintro e w5 ⟨P5, c5, rfl, hT5, hc5, hb5⟩; have HT5 := Lib.hid hT5; have HC5 := Lib.hid hc5; have HB5 := Lib.hid (below_then HB2.out hb5); clear hT5 hc5 hb5))
          go_roundw
          case rel => exact ⟨k + 1, P5, c5, by omega, by go_num, by rw [HL2.out], by rw [HL2.out]; exact HT5.out, by rw [HL2.out]; exact HC5.out, HB5.out⟩
          case measure => simp [intOf]; omega
        · have hkk : k = (ss.getD j []).length := by omega
          have HR3 := Lib.hid (show accL (fun x : Lbl => x.2) (namesOf ss) ss j k = accL (fun x : Lbl => x.2) (namesOf ss) ss (j + 1) 0 from by rw [hkk]; exact HR2.out)
          rw [HR3.out] at HT2 HCU2 ⊢
          clear hT2 hcu2 hb2 hL1
          obtain ⟨L2, hL2⟩ : ∃ L, setF cmpB (accL (fun x : Lbl => x.2) (namesOf ss) ss (j + 1) 0) = L := ⟨_, rfl⟩
          rw [hL2] at HT2 HCU2 ⊢
          have HL2 := Lib.hid hL2
          clear hL2
          generalize hnl : (ss.getD j []).length = nl at *
          subst hkk
          have h256b := H256.out
          go_wp2_with fail
          go_roundw
          case rel => exact ⟨j + 1, P2, cu2, hlt, by go_num, by rw [HL2.out], by rw [HL2.out]; exact HT2.out, by rw [HL2.out]; exact HCU2.out, HB2.out⟩
          case measure => simp [intOf]; omega
    · obtain rfl : j = ss.length := by omega
      rw [HEND.out] at hT hcu ⊢
      have HT := Lib.hid hT
      have HCU := Lib.hid hcu
      have HB := Lib.hid hb
      clear hT hcu hb
      generalize ixTexts ss = L2 at *
      go_wp2_with fail
      go_ret
      exact ⟨P, cu, rfl, HT.out, HCU.out, HB.out⟩
end Go.Proofs.YtojlcipphnegaaaGreat
