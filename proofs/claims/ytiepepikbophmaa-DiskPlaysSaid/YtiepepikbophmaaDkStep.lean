/- An entry done in a directory: laws at the operations, and the program's own call. -/
import Derived.Test.YtiepepikbophmaaDkDo
import Derived.Maps.RangeWalk
namespace Go.Proofs.Ytiepepikbophmaa
open Go.RowKit Go.Maps
set_option linter.unusedVariables false

section
variable (w : World) {ops : Array Oper} {rest : List Oper} {o : Oper} {a : Act} {Q : Exit → Act → World → Prop}
theorem wp_dir_drop (hg : o.guard = none) (m x : Operand) (hop : o.op = .call { callee := .builtin .delete, args := #[m, x], argTypes := #[70, 9] })
    (fb : Nat → Nat) (b : Nat) (l : List Ent) (h : DirAt w fb b l) (s : ByteArray) (hs : s.size ≤ maxLen) (hm : a.eval m = .map (some b)) (hx : a.eval x = .string s)
    (hK : ∀ w', DirAt w' fb b (lacking l (strL s)) → w.mapTurned w' b → wpList Try.prog ops Q rest (a.put o.dst (.tuple #[])) w') : wpList Try.prog ops Q (o :: rest) a w := by
  refine wpList_plain hg fun K' hK' => ?_
  obtain ⟨w', hrun, r1, r2⟩ := dir_drop h s hs o.type
  unfold Oper.wp
  simp [execOp, hop, resolve, invoke, builtin, hm, hx, hrun, Result.andThen]
  exact hK' _ _ (hK w' r1 r2)
theorem wp_dir_store (hg : o.guard = none) (m x v : Operand) (hop : o.op = Op.mapUpdate 70 m x v)
    (fb : Nat → Nat) (b : Nat) (l : List Ent) (h : DirAt w fb b l) (hl : l.length < maxLen) (hr : Rises l) (s : ByteArray) (hs : s.size ≤ maxLen) (f : Nat) (hm : a.eval m = .map (some b)) (hx : a.eval x = .string s) (hv : a.eval v = .pointer (some ⟨fb f, 0, none⟩))
    (hK : ∀ w', DirAt w' fb b (put l ⟨strL s, f⟩) → w.mapTurned w' b → wpList Try.prog ops Q rest (a.put o.dst undef) w') : wpList Try.prog ops Q (o :: rest) a w := by
  refine wpList_plain hg fun K' hK' => ?_
  obtain ⟨w', hrun, r1, r2⟩ := dir_store h hl hr s hs f
  unfold Oper.wp
  unfold ptrV at hrun
  simp [execOp, hop, hm, hx, hv, hrun, Result.andThen]
  exact hK' _ _ (hK w' r1 r2)
end

/-- What the program makes of an entry. -/
def progStep (l : List Ent) (x : List UInt8 × List UInt8 × Option Nat) : List Ent :=
  match x.2.2 with
  | some f => put (lacking l x.1) ⟨x.2.1, f⟩
  | none => lacking l x.1
theorem txt_len (l : List UInt8) : (txt l).size = l.length := by simp [txt, ByteArray.size]
theorem lacking_le (l : List Ent) (n : List UInt8) : (lacking l n).length ≤ l.length := List.length_filter_le _ _

set_option maxRecDepth 20000 in
theorem change_prog {w : World} {fb : Nat → Nat} {b : Nat} {l : List Ent} (h : DirAt w fb b l) (hr : Rises l) (hl : l.length ≤ 1000000) (x : List UInt8 × List UInt8 × Option Nat) (h1 : x.1.length ≤ 1000000) (h2 : x.2.1.length ≤ 1000000) :
    Calls Try.prog 75 #[.agg #[.string (txt x.1), .string (txt x.2.1), fileV fb x.2.2], .map (some b)] w fun e w' => e = .returned (.tuple #[]) ∧ DirAt w' fb b (progStep l x) ∧ Kept (fun k => k = b) w w' := by
  have hlt := h.lt
  have hh1 : (txt x.1).size ≤ maxLen := by rw [txt_len]; simp only [maxLen]; omega
  have hh2 : (txt x.2.1).size ≤ maxLen := by rw [txt_len]; simp only [maxLen]; omega
  have HR := Lib.hid hr
  have HA := Lib.hid (h.block (w' := w.alloc (.cells #[.string (txt x.1), .string (txt x.2.1), fileV fb x.2.2] 96)) (Below.heap_alloc _ _ _ hlt))
  have hrow := Row.new w 96 #[.string (txt x.1), .string (txt x.2.1), fileV fb x.2.2]
  have HK0 := Lib.hid ((Kept.refl (fun k => k = b) w).alloc (.cells #[.string (txt x.1), .string (txt x.2.1), fileV fb x.2.2] 96))
  have HL := Lib.hid (lacking_le l (strL (txt x.1)))
  have HP := Lib.hid (show progStep l x = match x.2.2 with | some f => put (lacking l x.1) ⟨x.2.1, f⟩ | none => lacking l x.1 from rfl)
  cases hf : x.2.2 with
  | none =>
    rw [hf] at HP HA HK0 hrow
    simp only [fileV] at HA HK0 hrow ⊢
    have q0 := hrow.cell 0
    simp only [List.getElem?_toArray, List.getElem?_cons_zero] at q0
    have Hrow := Lib.hid hrow
    clear hrow h hr hf
    go_enter Try.func75, Try.ntmps75
    go_wp2_with (at_delete; refine wp_dir_drop _ rfl (.tmp 4) (.tmp 6) rfl fb b l HA.out (txt x.1) hh1 rfl rfl ?_; intro w1 hd1 ht1; have hr1 := row_move Hrow.out (ht1.grown.block w.heap.size (by simp) (by simp; omega)); have q2 := hr1.cell 2; simp only [List.getElem?_toArray, List.getElem?_cons_succ, List.getElem?_cons_zero] at q2; have HT1 := Lib.hid ht1; clear ht1 hr1)
    go_end0
    refine ⟨rfl, ?_, HK0.out.trans (Kept.turned HT1.out (S := fun k => k = b) rfl) fun i hi => .inl hi⟩
    rw [HP.out]
    rw [strL_txt] at hd1
    exact hd1
  | some f =>
    rw [hf] at HP HA HK0 hrow
    simp only [fileV, ptrV] at HA HK0 hrow ⊢
    have q0 := hrow.cell 0
    simp only [List.getElem?_toArray, List.getElem?_cons_zero] at q0
    have Hrow := Lib.hid hrow
    have HM := Lib.hid (show ∀ k, k ≤ l.length → k < maxLen by intro k hk; simp only [maxLen]; omega)
    clear hrow h hr hf
    go_enter Try.func75, Try.ntmps75
    go_wp2_with (first
      | (at_delete; refine wp_dir_drop _ rfl (.tmp 4) (.tmp 6) rfl fb b l HA.out (txt x.1) hh1 rfl rfl ?_; intro w1 hd1 ht1; have hr1 := row_move Hrow.out (ht1.grown.block w.heap.size (by simp) (by simp; omega)); have q1 := hr1.cell 1; have q2 := hr1.cell 2; simp only [List.getElem?_toArray, List.getElem?_cons_succ, List.getElem?_cons_zero] at q1 q2; have HT1 := Lib.hid ht1; have HD1 := Lib.hid hd1; clear ht1 hr1 hd1)
      | (at_mapUpdate; refine wp_dir_store _ rfl (.tmp 10) (.tmp 12) (.tmp 14) rfl fb b _ HD1.out (HM.out _ HL.out) (lacking_rises HR.out _) (txt x.2.1) hh2 f rfl rfl rfl ?_; intro w2 hd2 ht2; have HT2 := Lib.hid ht2; have HD2 := Lib.hid hd2; clear ht2 hd2))
    go_end0
    refine ⟨rfl, ?_, (HK0.out.trans (Kept.turned HT1.out (S := fun k => k = b) rfl) fun i hi => .inl hi).trans (Kept.turned HT2.out (S := fun k => k = b) rfl) fun i hi => .inl hi⟩
    rw [HP.out]
    have := HD2.out
    rw [strL_txt, strL_txt] at this
    exact this
end Go.Proofs.Ytiepepikbophmaa
