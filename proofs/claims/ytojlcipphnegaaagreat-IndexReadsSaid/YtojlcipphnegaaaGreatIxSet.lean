/- A set of texts as a map in memory; what the closures that pick of a label lay into it. -/
import Derived.Test.YtojlcipphnegaaaGreatIxNew
import Derived.Test.YtojlcipphnegaaaGreatIxSort
import Derived.Sort.KeysCollected
namespace Go.Proofs.YtojlcipphnegaaaGreat
open Go.RowKit Go.Maps
set_option linter.unusedVariables false
set_option maxRecDepth 100000

/-- append of one more text, and which block it may turn. -/
theorem app_tg {w0 : World} {ops : Array Oper} {rest : List Oper} {o : Oper} {a : Act} {Q : Exit → Act → World → Prop} (hgd : o.guard = none) (s y : Operand)
    (ho : o.op = .call { callee := .builtin .append, args := #[s, y], argTypes := #[51, 51] })
    (base : Nat) (v : Value) (ts : List ByteArray) (hs : a.eval s = v) (hF : OwnTx w0 base v ts) (x : ByteArray) (c : Nat) (hy : a.eval y = .slice (some ⟨w0.heap.size, 0, none⟩) 1 c) (hn : ts.length ≤ 4000000) (hbase : base ≤ w0.heap.size)
    (h : ∀ v' w', OwnTx w' base v' (ts ++ [x]) → Below base w0 w' → (w0.alloc (.cells #[.string x] 9)).grownBy w' v.ownBlock → wpList Tryz.prog ops Q rest (a.put o.dst v') w') :
    wpList Tryz.prog ops Q (o :: rest) a (w0.alloc (.cells #[.string x] 9)) := by
  obtain ⟨i0, hi, hz0, hz1, hz2⟩ := info_parts text_info
  have hA := below_one w0 (.cells #[.string x] 9)
  have hF1 := owntx_below hF hA
  refine wpList_append_own_at _ hgd s y 51 ho base 9 i0 _ 1 16 Tryz.underlying51 hi hz0 hz1 hz2 rfl (by omega) v ts.length (ts.map Value.string) hs hF1 _ 1 c [.string x] hy rfl (cell_one_new w0 _ _) (by intro u hu; simp at hu; subst hu; rfl)
    (by simp only [maxLen]; omega) (by omega) (Nat.le_trans hbase hA.size) ?_
  intro v' w' h1 h2 _ _
  refine h v' w' ?_ (Below.grown (hA.mono hbase) h2 (Nat.le_trans hbase hA.size) (fun k hk => (World.ownsRow.lt hF1 _ hk).1)) h2
  unfold OwnTx
  rw [List.length_append, List.map_append]
  exact h1
theorem ixs_keyed : Keyed Tryz.prog 9 := string_keyed Tryz.underlying9
theorem ixs_key {s : ByteArray} (hs : s.size ≤ maxLen) : keyOf Tryz.prog 9 (.string s) = some (.string (bytesOf s)) := Go.WideMaps.keyOf_string_mk Tryz.underlying9 hs
theorem bytesOf_inj {a b : ByteArray} (h : bytesOf a = bytesOf b) : a = b := by rw [← mk_bytes a, ← mk_bytes b, h]
/-- Block b is the set of the texts T. -/
def SetS (w : World) (b : Nat) (T : List ByteArray) : Prop :=
  ∃ D : DataW Unit, w.ownsMap Tryz.prog 9 unitElem b T.length D ∧ ∀ s : ByteArray, has D (.string (bytesOf s)) = true ↔ s ∈ T
theorem SetS.block {w w' : World} {b : Nat} {T : List ByteArray} (h : SetS w b T) (hb : w'.heap[b]? = w.heap[b]?) : SetS w' b T := by
  obtain ⟨D, ⟨es, clock, h1, h2⟩, r⟩ := h
  exact ⟨D, ⟨es, clock, hb.trans h1, h2⟩, r⟩
theorem SetS.lt {w : World} {b : Nat} {T : List ByteArray} (h : SetS w b T) : b < w.heap.size := by
  obtain ⟨D, h1, _⟩ := h
  exact h1.lt
theorem SetS.alloc {w : World} {b : Nat} {T : List ByteArray} (h : SetS w b T) (o : Obj) : SetS (w.alloc o) b T := h.block (heap_alloc_old w o h.lt)
theorem SetS.grown {w w' : World} {b : Nat} {T : List ByteArray} {row : Option Nat} (h : SetS w b T) (hg : w.grownBy w' row) (hne : some b ≠ row) : SetS w' b T := h.block (hg.block b h.lt hne)
theorem sets_made (w : World) : SetS (w.alloc (.map #[] 0)) w.heap.size [] :=
  ⟨_, World.ownsMap_made w Tryz.prog 9 unitElem, fun s => by
    constructor
    · intro h; simp [has] at h
    · intro h; cases h⟩
theorem sets_add {w : World} {b : Nat} {T : List ByteArray} (h : SetS w b T) (s : ByteArray) (hs : s.size ≤ maxLen) (hT : T.length < maxLen) :
    ∃ w', (Instr.mapUpdate 120 (.map (some b)) (.string s) (.agg #[])).run Tryz.prog w = .ok () w' ∧ SetS w' b (T ++ [s]) ∧ w.grownBy w' (some b) := by
  obtain ⟨D, h1, h2⟩ := h
  obtain ⟨w', hrun, h3, h4⟩ := h1.update ixs_keyed Tryz.underlying120 hT (ixs_key hs) unitElem_mk
  refine ⟨w', hrun, ⟨_, by rw [List.length_append, List.length_singleton]; exact h3, fun u => ?_⟩, h4⟩
  rw [List.mem_append, List.mem_singleton]
  by_cases hu : u = s
  · subst hu
    rw [has_put_same (k := .string (bytesOf u)) h1.isMap trivial]
    simp
  · rw [has_put_other (fun e => hu (bytesOf_inj (Lit.string.inj e))), h2]
    simp [hu]
theorem sz_of {ss : List (List Lbl)} (hr : ∀ l ∈ ss, lbChk l = 0) {p : Lbl} (h : ∃ l ∈ ss, p ∈ l) : Sz p := by
  obtain ⟨l, hl, hp⟩ := h
  have := label_sizes (hr l hl) hp
  exact ⟨by simp only [maxLen]; omega, by simp only [maxLen]; omega⟩
def addV (Xs : Nat) : Value := .func (.func 79) #[] #[.pointer (some ⟨Xs, 0, none⟩)]
theorem add_prog {w : World} {Xs b : Nat} {T : List ByteArray} (hX : Row w Xs 120 #[.map (some b)]) (h : SetS w b T) (s : ByteArray) (hs : s.size ≤ maxLen) (hT : T.length < maxLen) :
    Calls Tryz.prog 79 #[.string s, .pointer (some ⟨Xs, 0, none⟩)] w fun e w' => e = .returned (.tuple #[]) ∧ SetS w' b (T ++ [s]) ∧ w.grownBy w' (some b) := by
  obtain ⟨w', hrun, h1, h2⟩ := sets_add h s hs hT
  have c0 := hX.cell 0
  have H1 := Lib.hid h1
  have H2 := Lib.hid h2
  clear h1 h2 hX h
  go_enter Tryz.func79, Tryz.ntmps79
  go_wp2_with fail
  go_end0
  exact ⟨rfl, H1.out, H2.out⟩
/-- A closure picks of a label: it lays what pk says into the set, and turns nothing else. -/
def PickC (fn : Nat) (caps : Array Value) (pk : Lbl → List ByteArray) (w : World) : Prop :=
  ∀ (x : World) (p : Lbl) (T : List ByteArray) (Xs b : Nat), Below w.heap.size w x → Sz p → Row x Xs 120 #[.map (some b)] → w.heap.size ≤ b → SetS x b T → T.length ≤ 1000000 →
    Calls Tryz.prog fn (#[pairV p, addV Xs] ++ caps) x fun e w' => e = .returned (.tuple #[]) ∧ SetS w' b (T ++ pk p) ∧ x.grownBy w' (some b)
theorem pickn_prog (w : World) : PickC 55 #[] pickN w := by
  intro x p T Xs b hB hp hX hb hT hl
  have HA := Lib.hid (add_prog (hX.alloc (.cells #[.string p.1, .string p.2] 70)) (hT.alloc (.cells #[.string p.1, .string p.2] 70)) p.1 hp.1 (by simp only [maxLen]; omega))
  have hR := Row.new x 70 #[.string p.1, .string p.2]
  have c0 := (hR.cell 0)
  clear hX hT
  unfold pairV addV
  go_enter Tryz.func55, Tryz.ntmps55
  go_wp2_with (first | (go_at_call 79; refine HA.out.mono ?_; rintro e w2 ⟨rfl, hs2, hg2⟩; have HS2 := Lib.hid hs2; have HG2 := Lib.hid hg2; clear hs2 hg2))
  go_end0
  exact ⟨rfl, HS2.out, (World.grownBy_alloc x _ _).trans HG2.out⟩
theorem pickt_prog (w : World) : PickC 83 #[] pickT w := by
  intro x p T Xs b hB hp hX hb hT hl
  have hR := Row.new x 70 #[.string p.1, .string p.2]
  have HXA := Lib.hid (hX.alloc (.cells #[.string p.1, .string p.2] 70))
  have HA := Lib.hid (add_prog (hX.alloc (.cells #[.string p.1, .string p.2] 70)) (hT.alloc (.cells #[.string p.1, .string p.2] 70)) p.1 hp.1 (by simp only [maxLen]; omega))
  have c0 := hR.cell 0
  have hbl := hT.lt
  have hne : x.heap.size ≠ b := by omega
  have hXb : Xs ≠ b := fun e => by
    obtain ⟨D, ⟨es, ck, hm, _⟩, _⟩ := hT
    unfold Row at hX
    rw [e, hm] at hX
    cases hX
  have HRR := Lib.hid hR
  have h2s := hp.2
  clear hX hT hR
  unfold pairV addV
  go_enter Tryz.func83, Tryz.ntmps83
  go_upto_region 2 with (first | (go_at_call 79; refine HA.out.mono ?_; rintro e w2 ⟨rfl, hs2, hg2⟩; have HS2 := Lib.hid hs2; have HG2 := Lib.hid hg2; clear hs2 hg2))
  have HX2 := Lib.hid (grown_row HXA.out HG2.out (fun e => by injection e with e; exact hXb e))
  have c1 := (grown_row HRR.out HG2.out (fun e => by injection e with e; exact hne e)).cell 1
  have HA2 := Lib.hid (add_prog HX2.out HS2.out p.2 h2s (by rw [List.length_append, List.length_singleton]; simp only [maxLen]; omega))
  go_wp2_with (first | (go_at_call 79; refine HA2.out.mono ?_; rintro e w3 ⟨rfl, hs3, hg3⟩; have HS3 := Lib.hid hs3; have HG3 := Lib.hid hg3; clear hs3 hg3))
  go_end0
  refine ⟨rfl, ?_, ((World.grownBy_alloc x _ _).trans HG2.out).trans HG3.out⟩
  have := HS3.out
  rw [List.append_assoc] at this
  exact this
theorem pickv_prog (w : World) (nb : Nat) (name : ByteArray) (hn : Row w nb 9 #[.string name]) : PickC 48 #[.pointer (some ⟨nb, 0, none⟩)] (pickV name) w := by
  intro x p T Xs b hB hp hX hb hT hl
  have hR := Row.new x 70 #[.string p.1, .string p.2]
  have HA := Lib.hid (add_prog (hX.alloc (.cells #[.string p.1, .string p.2] 70)) (hT.alloc (.cells #[.string p.1, .string p.2] 70)) p.2 hp.2 (by simp only [maxLen]; omega))
  have c0 := hR.cell 0
  have c1 := hR.cell 1
  have n0 := ((hn.below hB hn.lt).alloc (.cells #[.string p.1, .string p.2] 70)).cell 0
  have HTA := Lib.hid (hT.alloc (.cells #[.string p.1, .string p.2] 70))
  clear hX hT hR hn
  have e1 : (p.1.toList == name.toList) = decide (p.1 = name) := eqT _ _
  unfold pairV addV
  by_cases he : p.1 = name
  · rw [decide_eq_true he] at e1
    have HP := Lib.hid (show pickV name p = [p.2] from if_pos he)
    clear he
    go_enter Tryz.func48, Tryz.ntmps48
    go_wp2_with (first | (go_at_call 79; refine HA.out.mono ?_; rintro e w2 ⟨rfl, hs2, hg2⟩; have HS2 := Lib.hid hs2; have HG2 := Lib.hid hg2; clear hs2 hg2))
    go_end0
    rw [HP.out]
    exact ⟨rfl, HS2.out, (World.grownBy_alloc x _ _).trans HG2.out⟩
  · rw [decide_eq_false he] at e1
    have HP := Lib.hid (show pickV name p = [] from if_neg he)
    clear he
    go_enter Tryz.func48, Tryz.ntmps48
    go_wp2_with fail
    go_end0
    rw [HP.out, List.append_nil]
    exact ⟨rfl, HTA.out, World.grownBy_alloc x _ _⟩
end Go.Proofs.YtojlcipphnegaaaGreat
