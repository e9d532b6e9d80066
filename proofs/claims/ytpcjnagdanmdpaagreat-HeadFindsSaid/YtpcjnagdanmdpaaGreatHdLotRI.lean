/- In one text, written by lotify.py: ReItem, ReGrp, ReClass, ReClass2, ReAtom, ReAtom2, ReAlt, RePat. -/
import Derived.Test.YtpcjnagdanmdpaaGreatHdLotRH
import Derived.Lib.MinMax
import Derived.Test.YtpcjnagdanmdpaaGreatReParse5
namespace Go.Proofs.YtpcjnagdanmdpaaGreat
open Go.RowKit
set_option linter.unusedVariables false
theorem row_two {w w' : World} {g X : Nat} {t : TypeId} {cs : Array Value} (h : Row w g t cs) (k : Two w w' X X) (hne : g ≠ X) : Row w' g t cs := (k.block g h.lt hne hne).trans h
theorem Rdr.two {w w' : World} {X : Nat} {x : List UInt8} {op dp : Nat} (h : Rdr w X x op dp) (k : Below w.heap.size w w') : Rdr w' X x op dp := by
  obtain ⟨s, hs, hr⟩ := h
  exact ⟨s, hs, hr.below k hr.lt⟩
theorem Rdr.lt {w : World} {X : Nat} {x : List UInt8} {op dp : Nat} (h : Rdr w X x op dp) : X < w.heap.size := by
  obtain ⟨s, hs, hr⟩ := h
  exact hr.lt
theorem two_of_below {w w' : World} {g h : Nat} (hb : Below w.heap.size w w') : Two w w' g h := ⟨hb.os, hb.tape, hb.output, hb.size, fun i hi _ _ => hb.block i hi⟩
theorem ret_span {fn : Func} {p u : Tmp} (h : fn.results = #[.cell p 189, .tmp u]) (tmps : Array Value) (w : World) (g : Nat) (cs : Array Value) (hp : tmps.getD p undef = .pointer (some ⟨g, 0, none⟩)) (hg : Row w g 189 cs) (hs : cs.size = 2) :
    (results fn tmps).run Tryz.prog w = .ok (.tuple #[.agg cs, tmps.getD u undef]) w := by
  rw [results_cell_tmp h]
  have hp' : tmps[p]?.getD undef = .pointer (some ⟨g, 0, none⟩) := by simpa using hp
  simp [hp', asAddr, run_loadVar_row w g _ _ cs _ _ hg Tryz.underlying189 rfl (by rw [hs]; kernel_rfl)]
/-- Two stores fill a block of two cells. -/
theorem row_fill {w : World} {g : Nat} {t : TypeId} {a b : Value} (h : Row w g t #[a, b]) (u v : Value) : Row ((w.setCell ⟨g, 0, none⟩ u).setCell ⟨g, 1, none⟩ v) g t #[u, v] := (h.setAt 0 u).setAt 1 v
theorem two_new {w w1 : World} {g h : Nat} (k : Two w w1 g h) {p : Addr} (hp : w.heap.size ≤ p.block) (u : Value) : Two w (w1.setCell p u) g h :=
  ⟨k.os, k.tape, k.output, by simpa [World.setCell] using k.size, fun i hi h1 h2 => (Below.heap_setCell w1 p u i (by omega)).trans (k.block i hi h1 h2)⟩
theorem rdr_new {w1 : World} {X : Nat} {x : List UInt8} {op dp : Nat} (k : Rdr w1 X x op dp) {p : Addr} (hp : X ≠ p.block) (u : Value) : Rdr (w1.setCell p u) X x op dp := by
  obtain ⟨s, hs, h⟩ := k
  exact ⟨s, hs, h.setFar hp u⟩
/-- What item tells, and leaves. -/
def ItemTold (w w' : World) (X : Nat) (x : List UInt8) (op dp : Nat) (e : Ending) : Prop :=
  Two w w' X X ∧ RdrAny w' X ∧ ∃ s : UInt8 × UInt8, e = .returned (.tuple #[.agg #[.int .u8 (s.1.toNat : Int), .int .u8 (s.2.toNat : Int)], .bool (itemM x).isSome]) ∧ ∀ s' y, itemM x = some (s', y) → s = s' ∧ Rdr w' X y op dp
theorem item_told {w w1 : World} {X : Nat} {x y : List UInt8} {op dp : Nat} {a b : UInt8} {ok : Bool} (hne : w.heap.size ≠ X) (ht : Two w w1 X X) (hr : Rdr w1 X y op dp) (ho : (itemM x).isSome = ok) (hi : ∀ s' y', itemM x = some (s', y') → (a, b) = s' ∧ y = y') :
    ItemTold w ((w1.setCell ⟨w.heap.size, 0, none⟩ (.int .u8 (a.toNat : Int))).setCell ⟨w.heap.size, 1, none⟩ (.int .u8 (b.toNat : Int))) X x op dp (.returned (.tuple #[.agg #[.int .u8 (a.toNat : Int), .int .u8 (b.toNat : Int)], .bool ok])) := by
  have hr2 := rdr_new (rdr_new hr (p := ⟨w.heap.size, 0, none⟩) (Ne.symm hne) (.int .u8 (a.toNat : Int))) (p := ⟨w.heap.size, 1, none⟩) (Ne.symm hne) (.int .u8 (b.toNat : Int))
  refine ⟨two_new (two_new ht (p := ⟨w.heap.size, 0, none⟩) (Nat.le_refl _) _) (p := ⟨w.heap.size, 1, none⟩) (Nat.le_refl _) _, hr2.any, (a, b), by rw [ho], ?_⟩
  intro s' y' h
  obtain ⟨h1, rfl⟩ := hi s' y' h
  exact ⟨h1, hr2⟩
set_option maxHeartbeats 1000000 in
theorem item_prog {w : World} {X : Nat} {x : List UInt8} {op dp : Nat} (h : Rdr w X x op dp) :
    Calls Tryz.prog 146 #[.pointer (some ⟨X, 0, none⟩)] w fun e w' => ItemTold w w' X x op dp e := by
  have hX := h.lt
  have hR0 : Rdr (w.alloc (.cells #[.int .u8 0, .int .u8 0] 189)) X x op dp := h.two (X := X) (below_one w _)
  have hne : w.heap.size ≠ X := by omega
  have HZ0 := Lib.hid (show Row (w.alloc (.cells #[.int .u8 0, .int .u8 0] 189)) w.heap.size 189 #[.int .u8 0, .int .u8 0] from Row.new w _ _)
  have HT0 := Lib.hid (two_of_below (g := X) (h := X) (below_one w (.cells #[.int .u8 0, .int .u8 0] 189)))
  have HB := Lib.hid (takeBut_prog hR0 ⟨#[92, 91, 93, 94, 45]⟩)
  have HQ : ∀ z, takeButM (strL ⟨#[92, 91, 93, 94, 45]⟩) z = takeButM unlistedL z := fun _ => rfl
  rw [HQ] at HB
  have HD : ∀ z, aheadM (strL ⟨#[45]⟩) z = aheadM [45] z := fun _ => rfl
  clear hR0 h
  cases h1 : takeButM unlistedL x with
  | none =>
    have HF := Lib.hid (show itemM x = none by unfold itemM; rw [h1])
    simp only [h1, tellBut, leftBut] at HB
    clear h1
    go_enter Tryz.func146, Tryz.ntmps146
    go_wp2_with (go_at_call 144; refine HB.out.mono ?_; rintro e w1 ⟨rfl, hr1, ht1⟩
                 have hz1 := row_two HZ0.out ht1 hne
                 have z0 := hz1.cell 0
                 have z1 := hz1.cell 1
                 have y0 := hz1.frozen 0
                 have y1 := hz1.frozen 1
                 simp at z0 z1
                 have HR1 := Lib.hid hr1
                 have HZ1 := Lib.hid hz1
                 have HT1 := Lib.hid (HT0.out.trans ht1)
                 clear hr1 hz1 ht1)
    (try simp only [Exit.inBlock, Exit.then])
    refine bodyPost_ret (ret_span rfl _ _ _ _ rfl (row_fill HZ1.out _ _) rfl) rfl ?_
    exact item_told (a := 0) (b := 0) hne HT1.out HR1.out (by rw [HF.out]; rfl) (fun s' y' h => by rw [HF.out] at h; cases h)
  | some r =>
    obtain ⟨lo, y⟩ := r
    simp only [h1, tellBut, leftBut] at HB
    have HI := Lib.hid (show itemM x = (if aheadM [45] y then (match takeButM unlistedL y.tail with | none => none | some (hi, z) => if lo ≤ hi then some ((lo, hi), z) else none) else some ((lo, lo), y)) by unfold itemM; rw [h1]; rfl)
    clear h1
    cases ha : aheadM [45] y
    · rw [ha] at HI
      go_enter Tryz.func146, Tryz.ntmps146
      go_wp2_with (first
        | (go_at_call 144; refine HB.out.mono ?_; rintro e w1 ⟨rfl, hr1, ht1⟩
           have hz1 := row_two HZ0.out ht1 hne
           have HS := Lib.hid (skip_prog hr1 ⟨#[45]⟩)
           simp only [HD, ha] at HS
           have HZ1 := Lib.hid hz1
           have HT1 := Lib.hid (HT0.out.trans ht1)
           clear hr1 hz1 ht1)
        | (go_at_call 125; refine HS.out.mono ?_; rintro e w2 ⟨rfl, hr2, ht2⟩
           have hz2 := row_two HZ1.out ht2 hne
           have z0 := hz2.cell 0
           have z1 := hz2.cell 1
           have y0 := hz2.frozen 0
           have y1 := hz2.frozen 1
           simp at z0 z1
           have HR2 := Lib.hid hr2
           have HZ2 := Lib.hid hz2
           have HT2 := Lib.hid (HT1.out.trans ht2)
           clear hr2 hz2 ht2))
      (try simp only [Exit.inBlock, Exit.then])
      refine bodyPost_ret (ret_span rfl _ _ _ _ rfl (row_fill HZ2.out _ _) rfl) rfl ?_
      exact item_told (a := lo) (b := lo) hne HT2.out HR2.out (by rw [HI.out]; rfl) (fun s' y' h => by rw [HI.out] at h; cases h; exact ⟨rfl, rfl⟩)
    · rw [ha] at HI
      cases h2 : takeButM unlistedL y.tail with
      | none =>
        have HF := Lib.hid (show itemM x = none by rw [HI.out, h2]; rfl)
        go_enter Tryz.func146, Tryz.ntmps146
        go_wp2_with (first
          | (go_at_call 125; refine HS.out.mono ?_; rintro e w2 ⟨rfl, hr2, ht2⟩
             have hz2 := row_two HZ1.out ht2 hne
             have HB2 := Lib.hid (takeBut_prog hr2 ⟨#[92, 91, 93, 94, 45]⟩)
             rw [HQ] at HB2
             simp only [if_true, h2, tellBut, leftBut] at HB2
             have HZ2 := Lib.hid hz2
             have HT2 := Lib.hid (HT1.out.trans ht2)
             clear hr2 hz2 ht2)
          | (go_at_call 144; refine HB2.out.mono ?_; rintro e w3 ⟨rfl, hr3, ht3⟩
             have hz3 := row_two HZ2.out ht3 hne
             have z0 := hz3.cell 0
             have z1 := hz3.cell 1
             have y0 := hz3.frozen 0
             have y1 := hz3.frozen 1
             simp at z0 z1
             have HR3 := Lib.hid hr3
             have HZ3 := Lib.hid hz3
             have HT3 := Lib.hid (HT2.out.trans ht3)
             clear hr3 hz3 ht3)
          | (go_at_call 144; refine HB.out.mono ?_; rintro e w1 ⟨rfl, hr1, ht1⟩
             have hz1 := row_two HZ0.out ht1 hne
             have HS := Lib.hid (skip_prog hr1 ⟨#[45]⟩)
             simp only [HD, ha] at HS
             have HZ1 := Lib.hid hz1
             have HT1 := Lib.hid (HT0.out.trans ht1)
             clear hr1 hz1 ht1))
        (try simp only [Exit.inBlock, Exit.then])
        refine bodyPost_ret (ret_span rfl _ _ _ _ rfl (row_fill HZ3.out _ _) rfl) rfl ?_
        exact item_told (a := lo) (b := 0) hne HT3.out HR3.out (by rw [HF.out]; rfl) (fun s' y' h => by rw [HF.out] at h; cases h)
      | some r =>
        obtain ⟨hi, z⟩ := r
        have HF := Lib.hid (show itemM x = (if lo ≤ hi then some ((lo, hi), z) else none) by rw [HI.out, h2]; rfl)
        have q1 : decide ((lo.toNat : Int) ≤ (hi.toNat : Int)) = decide (lo ≤ hi) := by rw [decide_eq_decide, UInt8.le_iff_toNat_le]; omega
        have q3 : decide (lo.toNat ≤ hi.toNat) = decide (lo ≤ hi) := by rw [decide_eq_decide, UInt8.le_iff_toNat_le]
        have HO : Hid ((itemM x).isSome = decide (lo ≤ hi)) := Lib.hid (by rw [HF.out]; by_cases h : lo ≤ hi <;> simp [h])
        have HV : Hid (∀ s' y', itemM x = some (s', y') → (lo, hi) = s' ∧ z = y') := Lib.hid (fun s' y' h => by
          rw [HF.out] at h
          split at h
          · simp only [Option.some.injEq, Prod.mk.injEq] at h; exact ⟨h.1, h.2⟩
          · cases h)
        generalize decide (lo ≤ hi) = ok at q1 q3 HO
        cases ok
        all_goals
          go_enter Tryz.func146, Tryz.ntmps146
          go_wp2_with (first
            | (go_at_call 125; refine HS.out.mono ?_; rintro e w2 ⟨rfl, hr2, ht2⟩
               have hz2 := row_two HZ1.out ht2 hne
               have HB2 := Lib.hid (takeBut_prog hr2 ⟨#[92, 91, 93, 94, 45]⟩)
               rw [HQ] at HB2
               simp only [if_true, h2, tellBut, leftBut] at HB2
               have HZ2 := Lib.hid hz2
               have HT2 := Lib.hid (HT1.out.trans ht2)
               clear hr2 hz2 ht2)
            | (go_at_call 144; refine HB2.out.mono ?_; rintro e w3 ⟨rfl, hr3, ht3⟩
               have hz3 := row_two HZ2.out ht3 hne
               have z0 := hz3.cell 0
               have z1 := hz3.cell 1
               have y0 := hz3.frozen 0
               have y1 := hz3.frozen 1
               simp at z0 z1
               have HR3 := Lib.hid hr3
               have HZ3 := Lib.hid hz3
               have HT3 := Lib.hid (HT2.out.trans ht3)
               clear hr3 hz3 ht3)
            | (go_at_call 144; refine HB.out.mono ?_; rintro e w1 ⟨rfl, hr1, ht1⟩
               have hz1 := row_two HZ0.out ht1 hne
               have HS := Lib.hid (skip_prog hr1 ⟨#[45]⟩)
               simp only [HD, ha] at HS
               have HZ1 := Lib.hid hz1
               have HT1 := Lib.hid (HT0.out.trans ht1)
               clear hr1 hz1 ht1))
          (try simp only [Exit.inBlock, Exit.then])
          refine bodyPost_ret (ret_span rfl _ _ _ _ rfl (row_fill HZ3.out _ _) rfl) rfl ?_
          exact item_told (a := lo) (b := hi) hne HT3.out HR3.out HO.out HV.out
end Go.Proofs.YtpcjnagdanmdpaaGreat

namespace Go.Proofs.YtpcjnagdanmdpaaGreat
open Go.RowKit Go.Maps
set_option linter.unusedVariables false
theorem NodeAt.two {w w' : World} {X B : Nat} {r : Re} {v : Value} {M : List Nat} (h : NodeAt w r v M) (k : Two w w' X X) (hM : ∀ x ∈ M, B ≤ x) (hX : X < B) : NodeAt w' r v M :=
  h.keep fun x hx => k.block x (h.lt x hx) (by have := hM x hx; omega) (by have := hM x hx; omega)
/-- The value v is a row of the call's own, from block base on, and holds the trees l, no two of which share a block. -/
def Grp (w : World) (base : Nat) (v : Value) (l : List Re) : Prop :=
  ∃ vs Ms, w.ownsRow base 148 1 v l.length vs ∧ NodesAt w l vs Ms ∧ Sep Ms ∧ (∀ k ∈ Ms.flatten, base ≤ k) ∧ ∀ k, v.ownBlock = some k → k ∉ Ms.flatten
theorem Grp.nil (w : World) (base : Nat) : Grp w base (.slice none 0 0) [] :=
  ⟨[], [], ⟨rfl, .inl ⟨rfl, rfl⟩⟩, by simp [NodesAt], by intro j k Lj Lk h; simp at h, by simp, by simp⟩
theorem Grp.keep {w w' : World} {base : Nat} {v : Value} {l : List Re} (h : Grp w base v l) (hk : ∀ k, base ≤ k → k < w.heap.size → w'.heap[k]? = w.heap[k]?) : Grp w' base v l := by
  obtain ⟨vs, Ms, ho, hN, hS, hB, hO⟩ := h
  exact ⟨vs, Ms, rows_move ho (fun k e => hk k (World.ownsRow.lt ho k e).1 (World.ownsRow.lt ho k e).2), hN.keep (fun k hm => hk k (hB k hm) (hN.lt k hm)), hS, hB, hO⟩
theorem Grp.two {w w' : World} {base X : Nat} {v : Value} {l : List Re} (h : Grp w base v l) (k : Two w w' X X) (hX : X < base) : Grp w' base v l :=
  h.keep fun q h1 h2 => k.block q h2 (by omega) (by omega)
theorem sep_snoc {Ms : List (List Nat)} {M : List Nat} (h : Sep Ms) (hd : ∀ x ∈ M, x ∉ Ms.flatten) : Sep (Ms ++ [M]) := by
  have mem : ∀ {j : Nat} {L : List Nat}, (Ms ++ [M])[j]? = some L → Ms[j]? = some L ∨ (j = Ms.length ∧ L = M) := by
    intro j L hj
    rcases Nat.lt_or_ge j Ms.length with hlt | hge
    · rw [List.getElem?_append_left hlt] at hj; exact .inl hj
    · rw [List.getElem?_append_right hge] at hj
      obtain ⟨i, hi⟩ : ∃ i, j = Ms.length + i := ⟨j - Ms.length, by omega⟩
      subst hi
      cases i with
      | zero => simp at hj; exact .inr ⟨rfl, hj.symm⟩
      | succ i => simp at hj
  have fl : ∀ {j : Nat} {L : List Nat} {x : Nat}, Ms[j]? = some L → x ∈ L → x ∈ Ms.flatten := fun hj hx => List.mem_flatten.2 ⟨_, List.mem_of_getElem? hj, hx⟩
  intro j k Lj Lk hj hk hne x hx hx2
  rcases mem hj with j1 | ⟨j1, j2⟩
  · rcases mem hk with k1 | ⟨k1, k2⟩
    · exact h j k Lj Lk j1 k1 hne x hx hx2
    · exact hd x (by rw [← k2]; exact hx2) (fl j1 hx)
  · rcases mem hk with k1 | ⟨k1, k2⟩
    · exact hd x (by rw [← j2]; exact hx) (fl k1 hx2)
    · exact hne (j1.trans k1.symm)
theorem nodes_snoc {w : World} {r : Re} {v : Value} {M : List Nat} (hN : NodeAt w r v M) : ∀ {l : List Re} {vs : List Value} {Ms : List (List Nat)}, NodesAt w l vs Ms → NodesAt w (l ++ [r]) (vs ++ [v]) (Ms ++ [M])
  | [], vs, Ms, h => by
    simp only [NodesAt] at h
    obtain ⟨rfl, rfl⟩ := h
    simp only [List.nil_append, NodesAt]
    exact ⟨v, [], M, [], rfl, rfl, hN, rfl, rfl⟩
  | r0 :: l, vs, Ms, h => by
    simp only [NodesAt] at h
    obtain ⟨v0, vs', M0, Ms', rfl, rfl, h0, hs⟩ := h
    simp only [List.cons_append, NodesAt]
    exact ⟨v0, vs' ++ [v], M0, Ms' ++ [M], rfl, rfl, h0, nodes_snoc hN hs⟩
theorem node_info : (Tryz.prog.info? 148).map (fun i => (i.zero, i.size, i.bytes)) = some (some .nilIface, 1, 16) := by kernel_rfl
theorem node_iface {w : World} : ∀ {r : Re} {v : Value} {M : List Nat}, NodeAt w r v M → v.oneCell' = true
  | .atom sp neg tk, v, M, h => by simp only [NodeAt] at h; obtain ⟨b, A, c, K, rfl, _⟩ := h; rfl
  | .row l, v, M, h => by simp only [NodeAt] at h; obtain ⟨A, c, vs, K, Ms, rfl, _⟩ := h; rfl
  | .alt l, v, M, h => by simp only [NodeAt] at h; obtain ⟨A, c, vs, K, Ms, rfl, _⟩ := h; rfl
  | .rep r no many, v, M, h => by simp only [NodeAt] at h; obtain ⟨x, rfl, _⟩ := h; rfl
theorem node_form {w : World} : ∀ {r : Re} {v : Value} {M : List Nat}, NodeAt w r v M → ∃ T x, v = .iface T x
  | .atom sp neg tk, v, M, h => by simp only [NodeAt] at h; obtain ⟨b, A, c, K, rfl, _⟩ := h; exact ⟨_, _, rfl⟩
  | .row l, v, M, h => by simp only [NodeAt] at h; obtain ⟨A, c, vs, K, Ms, rfl, _⟩ := h; exact ⟨_, _, rfl⟩
  | .alt l, v, M, h => by simp only [NodeAt] at h; obtain ⟨A, c, vs, K, Ms, rfl, _⟩ := h; exact ⟨_, _, rfl⟩
  | .rep r no many, v, M, h => by simp only [NodeAt] at h; obtain ⟨x, rfl, _⟩ := h; exact ⟨_, _, rfl⟩
/-- append of one more tree, at a walk's built-in. -/
theorem app_node {W w0 w : World} {ops : Array Oper} {rest : List Oper} {o : Oper} {a : Act} {Q : Exit → Act → World → Prop} (hgd : o.guard = none) (s y : Operand) (t : TypeId)
    (ho : o.op = .call { callee := .builtin .append, args := #[s, y], argTypes := #[t, t] }) (ht : Tryz.prog.underlying t = some (.slice 148))
    {X : Nat} {l : List Re} {r : Re} {M : List Nat} {nv : Value} (v : Value) (hs : a.eval s = v) (hG : Grp w0 W.heap.size v l) (hW : Two W w0 X X) (hK : Two w0 w X X) (hX : X < W.heap.size)
    (hN : NodeAt w r nv M) (hM : ∀ k ∈ M, w0.heap.size ≤ k) (hl : l.length ≤ 1000) (c : Nat) (hy : a.eval y = .slice (some ⟨w.heap.size, 0, none⟩) 1 c)
    (h : ∀ v' w', Grp w' W.heap.size v' (l ++ [r]) → Two W w' X X → w'.heap[X]? = w.heap[X]? → wpList Tryz.prog ops Q rest (a.put o.dst v') w') :
    wpList Tryz.prog ops Q (o :: rest) a (w.alloc (.cells #[nv] 148)) := by
  obtain ⟨i0, hi, hz0, hz1, hz2⟩ := info_parts node_info
  have hG1 : Grp (w.alloc (.cells #[nv] 148)) W.heap.size v l := (hG.two hK hX).keep fun k _ hk => (below_one w (.cells #[nv] 148)).block k hk
  have hlt0 : ∀ vs Ms, NodesAt w0 l vs Ms → ∀ k ∈ Ms.flatten, k < w0.heap.size := fun vs Ms hN => hN.lt
  obtain ⟨vs, Ms, ho0, hN0, hS, hB, hO⟩ := id hG
  have hown : (w.alloc (.cells #[nv] 148)).ownsRow W.heap.size 148 1 v l.length vs := by
    refine rows_move (rows_move ho0 fun k e => ?_) fun k e => (below_one w (.cells #[nv] 148)).block k (Nat.lt_of_lt_of_le (World.ownsRow.lt ho0 k e).2 hK.size)
    have := World.ownsRow.lt ho0 k e
    exact hK.block k this.2 (by omega) (by omega)
  have hN1 : NodesAt (w.alloc (.cells #[nv] 148)) l vs Ms := hN0.keep fun k hk => ((below_one w (.cells #[nv] 148)).block k (Nat.lt_of_lt_of_le (hN0.lt k hk) hK.size)).trans (hK.block k (hN0.lt k hk) (by have := hB k hk; omega) (by have := hB k hk; omega))
  have hsz : W.heap.size ≤ w.heap.size := Nat.le_trans hW.size hK.size
  refine wpList_append_own_at _ hgd s y t ho W.heap.size 148 i0 _ 1 16 ht hi hz0 hz1 hz2 rfl (by omega) v l.length vs hs hown _ 1 c [nv] hy rfl (cell_one_new w nv _) (by intro u hu; simp at hu; subst hu; exact node_iface hN) (by simp only [maxLen]; omega) (by omega) (by simp; omega) ?_
  intro v' w' h1 h2 _ h4
  have hsa : (w.alloc (.cells #[nv] 148)).heap.size = w.heap.size + 1 := by simp
  have hold : ∀ k, k < w.heap.size → v.ownBlock ≠ some k → w'.heap[k]? = w.heap[k]? := fun k hk hne => (h2.block k (by omega) (fun e => hne e.symm)).trans ((below_one w _).block k hk)
  have hMo : ∀ k ∈ M, v.ownBlock ≠ some k := fun k hk e => by have := (World.ownsRow.lt ho0 k e).2; have := hM k hk; omega
  have hN' : NodeAt w' r nv M := hN.keep fun k hk => hold k (hN.lt k hk) (hMo k hk)
  have hNs' : NodesAt w' l vs Ms := (hN0.keep fun k hk => hK.block k (hN0.lt k hk) (by have := hB k hk; omega) (by have := hB k hk; omega)).keep fun k hk => hold k (Nat.lt_of_lt_of_le (hN0.lt k hk) hK.size) (fun e => hO k e hk)
  have hfl : (Ms ++ [M]).flatten = Ms.flatten ++ M := by simp
  refine h v' w' ⟨vs ++ [nv], Ms ++ [M], ?_, nodes_snoc hN' hNs', sep_snoc hS (fun x hx hx2 => by have := hN0.lt x hx2; have := hM x hx; omega), ?_, ?_⟩ ⟨?_, ?_, ?_, ?_, ?_⟩ ?_
  · rw [List.length_append, List.length_singleton]; exact h1
  · intro k hk
    rw [hfl] at hk
    rcases List.mem_append.1 hk with hk | hk
    · exact hB k hk
    · have := hM k hk; have := hW.size; omega
  · intro k e hk
    rw [hfl] at hk
    rcases h4 with h4 | h4
    · rw [h4] at e
      rcases List.mem_append.1 hk with hk | hk
      · exact hO k e hk
      · exact hMo k hk e
    · rw [h4] at e
      injection e with e
      rcases List.mem_append.1 hk with hk | hk
      · have := hN0.lt k hk; have := hK.size; omega
      · have := hN.lt k hk; omega
  · exact h2.os.trans ((show _ = w.os from rfl).trans (hK.os.trans hW.os))
  · exact h2.tape.trans ((show _ = w.tape from rfl).trans (hK.tape.trans hW.tape))
  · exact h2.output.trans ((show _ = w.output from rfl).trans (hK.output.trans hW.output))
  · exact Nat.le_trans hsz (Nat.le_trans (by omega) h2.size)
  · intro k hk hx _
    have hne : v.ownBlock ≠ some k := fun e => by have := (World.ownsRow.lt ho0 k e).1; omega
    exact (hold k (by omega) hne).trans ((hK.block k (Nat.lt_of_lt_of_le hk hW.size) hx hx).trans (hW.block k hk hx hx))
  · exact hold X (by omega) (fun e => by have := (World.ownsRow.lt ho0 X e).1; omega)
theorem grp_blk {w : World} {base n : Nat} {v : Value} {vs : List Value} (h : w.ownsRow base 148 1 v n vs) : ∃ A c K, v = .slice A n c ∧ Blk w A 148 vs K ∧ (∀ k ∈ K, v.ownBlock = some k) ∧ ∀ k ∈ K, base ≤ k := by
  rcases h.2 with ⟨rfl, h0⟩ | ⟨g, cap, cur, rfl, hg, hh, hnc, hcm, hcs, htk⟩
  · have h1 := h.1
    rw [h0, Nat.zero_mul] at h1
    exact ⟨none, 0, [], by rw [h0], .inl ⟨List.eq_nil_of_length_eq_zero h1, rfl⟩, by simp, by simp⟩
  · refine ⟨_, cap, [g], rfl, .inr ⟨g, cur, rfl, rfl, hh, fun j u hj => ?_⟩, by simp [Value.ownBlock], by simpa using hg⟩
    have hlt := (List.getElem?_eq_some_iff.1 hj).1
    rw [← htk, List.getElem?_take] at hj
    rw [← Array.getElem?_toList]
    split at hj
    · exact hj
    · cases hj
theorem sep_cons {K : List Nat} {Ms : List (List Nat)} (h : Sep Ms) (hd : ∀ x ∈ K, x ∉ Ms.flatten) : Sep (K :: Ms) := by
  have fl : ∀ {j : Nat} {L : List Nat} {x : Nat}, Ms[j]? = some L → x ∈ L → x ∈ Ms.flatten := fun hj hx => List.mem_flatten.2 ⟨_, List.mem_of_getElem? hj, hx⟩
  intro j k Lj Lk hj hk hne x hx hx2
  cases j with
  | zero =>
    cases k with
    | zero => exact hne rfl
    | succ k => simp at hj hk; subst hj; exact hd x hx (fl hk hx2)
  | succ j =>
    cases k with
    | zero => simp at hj hk; subst hk; exact hd x hx2 (fl hj hx)
    | succ k => simp at hj hk; exact h j k Lj Lk hj hk (by omega) x hx hx2
theorem Grp.row {w : World} {base : Nat} {v : Value} {l : List Re} (h : Grp w base v l) (hl : l.length ≤ 1000) : ∃ M, NodeAt w (.row l) (.iface 179 v) M ∧ ∀ k ∈ M, base ≤ k := by
  obtain ⟨vs, Ms, ho, hN, hS, hB, hO⟩ := h
  obtain ⟨A, c, K, rfl, hK, hk1, hk2⟩ := grp_blk ho
  refine ⟨K ++ Ms.flatten, ?_, ?_⟩
  · simp only [NodeAt]
    exact ⟨A, c, vs, K, Ms, rfl, hl, hK, hN, sep_cons hS fun x hx => hO x (hk1 x hx), rfl⟩
  · intro k hk
    rcases List.mem_append.1 hk with hk | hk
    · exact hk2 k hk
    · exact hB k hk
theorem Grp.alt {w : World} {base : Nat} {v : Value} {l : List Re} (h : Grp w base v l) (hl : l.length ≤ 1000) : ∃ M, NodeAt w (.alt l) (.iface 175 v) M ∧ ∀ k ∈ M, base ≤ k := by
  obtain ⟨vs, Ms, ho, hN, hS, hB, hO⟩ := h
  obtain ⟨A, c, K, rfl, hK, hk1, hk2⟩ := grp_blk ho
  refine ⟨K ++ Ms.flatten, ?_, ?_⟩
  · simp only [NodeAt]
    exact ⟨A, c, vs, K, Ms, rfl, hl, hK, hN, sep_cons hS fun x hx => hO x (hk1 x hx), rfl⟩
  · intro k hk
    rcases List.mem_append.1 hk with hk | hk
    · exact hk2 k hk
    · exact hB k hk
theorem Grp.slice {w : World} {base : Nat} {v : Value} {l : List Re} (h : Grp w base v l) : ∃ A c, v = .slice A l.length c := by
  obtain ⟨vs, Ms, ho, hN, hS, hB, hO⟩ := h
  obtain ⟨A, c, K, rfl, hK, hk1, hk2⟩ := grp_blk ho
  exact ⟨A, c, rfl⟩
theorem Rdr.stay {w w' : World} {X : Nat} {x : List UInt8} {op dp : Nat} (h : Rdr w X x op dp) (e : w'.heap[X]? = w.heap[X]?) : Rdr w' X x op dp := by
  obtain ⟨s, hs, hr⟩ := h
  exact ⟨s, hs, e.trans hr⟩
/-- What a call of the reader's tells of a part, and leaves. -/
def Tells (w w' : World) (X op dp : Nat) (e : Ending) : Option (Re × List UInt8 × Nat) → Prop
  | none => Two w w' X X ∧ RdrAny w' X ∧ ∃ v, e = .returned (.tuple #[v, .bool false])
  | some (r, y, d) => Two w w' X X ∧ Rdr w' X y op (max dp (op + d)) ∧ ∃ v M, e = .returned (.tuple #[v, .bool true]) ∧ NodeAt w' r v M ∧ ∀ k ∈ M, w.heap.size ≤ k
def Reads (f : Nat) (q : List UInt8 → Option (Re × List UInt8 × Nat)) (m : Nat) : Prop :=
  ∀ (w : World) (X : Nat) (x : List UInt8) (op dp : Nat), Rdr w X x op dp → op ≤ dp → op + x.length ≤ 64 → x.length ≤ m →
    Calls Tryz.prog f #[.pointer (some ⟨X, 0, none⟩)] w fun e w' => Tells w w' X op dp e (q x)
def patR (n : Nat) (x : List UInt8) : Option (Re × List UInt8 × Nat) := (patM n x).map fun q => (.alt q.1, q.2.1, q.2.2)
def altR (n : Nat) (x : List UInt8) : Option (Re × List UInt8 × Nat) := (altM n x).map fun q => (.row q.1, q.2.1, q.2.2)
theorem span_info : (Tryz.prog.info? 189).map (fun i => (i.zero, i.size, i.bytes)) = some (some (.agg #[.int .u8 0, .int .u8 0]), 2, 2) := by kernel_rfl
/-- The value v is a row of spans of the call's own. -/
def Spn (w : World) (base : Nat) (v : Value) (ss : List (UInt8 × UInt8)) : Prop := w.ownsRow base 189 2 v ss.length (ss.flatMap spanCells)
theorem Spn.nil (w : World) (base : Nat) : Spn w base (.slice none 0 0) [] := ⟨rfl, .inl ⟨rfl, rfl⟩⟩
theorem Spn.two {w w' : World} {base X : Nat} {v : Value} {ss : List (UInt8 × UInt8)} (h : Spn w base v ss) (k : Two w w' X X) (hX : X < base) : Spn w' base v ss :=
  rows_move h fun q e => by
    have := World.ownsRow.lt h q e
    exact k.block q this.2 (by omega) (by omega)
theorem spn_blk {w : World} {base n : Nat} {v : Value} {vs : List Value} (h : w.ownsRow base 189 2 v n vs) : ∃ A c K, v = .slice A n c ∧ Blk w A 189 vs K ∧ (∀ k ∈ K, v.ownBlock = some k) ∧ ∀ k ∈ K, base ≤ k := by
  rcases h.2 with ⟨rfl, h0⟩ | ⟨g, cap, cur, rfl, hg, hh, hnc, hcm, hcs, htk⟩
  · have h1 := h.1
    rw [h0, Nat.zero_mul] at h1
    exact ⟨none, 0, [], by rw [h0], .inl ⟨List.eq_nil_of_length_eq_zero h1, rfl⟩, by simp, by simp⟩
  · refine ⟨_, cap, [g], rfl, .inr ⟨g, cur, rfl, rfl, hh, fun j u hj => ?_⟩, by simp [Value.ownBlock], by simpa using hg⟩
    have hlt := (List.getElem?_eq_some_iff.1 hj).1
    rw [← htk, List.getElem?_take] at hj
    rw [← Array.getElem?_toList]
    split at hj
    · exact hj
    · cases hj
theorem Spn.slice {w : World} {base : Nat} {v : Value} {ss : List (UInt8 × UInt8)} (h : Spn w base v ss) : ∃ A c, v = .slice A ss.length c := by
  obtain ⟨A, c, K, rfl, _⟩ := spn_blk h
  exact ⟨A, c, rfl⟩
/-- An atom whose spans were collected. -/
theorem Spn.atom {w : World} {base g : Nat} {v : Value} {ss : List (UInt8 × UInt8)} {neg : Bool} (h : Spn w base v ss) (hg : Row w g 184 #[v, .bool neg, .bool false]) (hb : base ≤ g) (hl : ss.length ≤ 1000) :
    ∃ M, NodeAt w (.atom ss neg false) (.iface 181 (.pointer (some ⟨g, 0, none⟩))) M ∧ ∀ k ∈ M, base ≤ k := by
  have hne := rows_ne hg h (by decide)
  obtain ⟨A, c, K, rfl, hK, hk1, hk2⟩ := spn_blk h
  refine ⟨g :: K, ?_, ?_⟩
  · simp only [NodeAt]
    exact ⟨g, A, c, K, rfl, hl, hg, hK, fun hm => hne (hk1 g hm), rfl⟩
  · intro k hk
    rcases List.mem_cons.1 hk with rfl | hk
    · exact hb
    · exact hk2 k hk
/-- How much the reader at block X has before it. -/
def restLen (w : World) (X : Nat) : Nat := match w.cell? ⟨X, 0, none⟩ with | some (.string s) => s.size | _ => 0
theorem Rdr.rest {w : World} {X : Nat} {x : List UInt8} {op dp : Nat} (h : Rdr w X x op dp) : restLen w X = x.length := by
  obtain ⟨s, rfl, hr⟩ := h
  have c0 : w.cell? ⟨X, 0, none⟩ = some (.string s) := hr.cell 0
  unfold restLen
  rw [c0, strL_length]
def contM (ss : List (UInt8 × UInt8)) (q : Option (List (UInt8 × UInt8) × List UInt8)) : Option (List (UInt8 × UInt8) × List UInt8) := q.map fun r => (ss ++ r.1, r.2)
/-- A round of class. -/
def ClsIn (W : World) (X g : Nat) (x0 : List UInt8) (op dp n : Nat) (neg : Bool) (wr : World) : Prop :=
  ∃ v ss x m, Row wr g 184 #[v, .bool neg, .bool false] ∧ Spn wr W.heap.size v ss ∧ Rdr wr X x op dp ∧ Two W wr X X ∧ x.length ≤ m ∧ ss.length + x.length ≤ x0.length ∧ itemsM n x0 = contM ss (itemsM m x)
theorem items_step {x y : List UInt8} {s : UInt8 × UInt8} {m : Nat} (h : itemM x = some (s, y)) (hm : x.length ≤ m) : ∃ m', y.length ≤ m' ∧ itemsM m x = (if aheadM [93] y then some ([s], y.tail) else contM [s] (itemsM m' y)) := by
  have := item_len h
  obtain ⟨m', rfl⟩ : ∃ m', m = m' + 1 := ⟨m - 1, by omega⟩
  refine ⟨m', by omega, ?_⟩
  simp only [itemsM, h]
  split
  · rfl
  · cases itemsM m' y with
    | none => rfl
    | some r => rfl
theorem items_stop {x : List UInt8} (h : itemM x = none) (m : Nat) : itemsM m x = none := by
  cases m with
  | zero => rfl
  | succ m => simp only [itemsM, h]
/-- What class tells. -/
def ClsTold (w w' : World) (X op dp : Nat) (e : Ending) : Option (Re × List UInt8) → Prop
  | none => Two w w' X X ∧ RdrAny w' X ∧ ∃ v, e = .returned (.tuple #[v, .bool false])
  | some (r, y) => Two w w' X X ∧ Rdr w' X y op dp ∧ ∃ v M, e = .returned (.tuple #[v, .bool true]) ∧ NodeAt w' r v M ∧ ∀ k ∈ M, w.heap.size ≤ k
/-- The world behind an item: its span in a block of its own. -/
def spanW (w : World) (s : UInt8 × UInt8) : World := w.alloc (.cells #[.int .u8 (s.1.toNat : Int), .int .u8 (s.2.toNat : Int)] 189)
theorem spanW_row (w : World) (s : UInt8 × UInt8) : Row (spanW w s) w.heap.size 189 #[.int .u8 (s.1.toNat : Int), .int .u8 (s.2.toNat : Int)] := Row.new w _ _
theorem spanW_below (w : World) (s : UInt8 × UInt8) : Below w.heap.size w (spanW w s) := below_one w _
theorem ClsIn.told {W w2 : World} {X g : Nat} {y : List UInt8} {op dp n : Nat} {neg : Bool} {v : Value} {ss : List (UInt8 × UInt8)} {x' : List UInt8} (hg : Row w2 g 184 #[v, .bool neg, .bool false]) (hs : Spn w2 W.heap.size v ss) (hb : W.heap.size ≤ g) (hl : ss.length ≤ 1000) (hr : Rdr w2 X y op dp) (ht : Two W w2 X X) (hc : classM n x' = some (.atom ss neg false, y)) :
    ClsTold W w2 X op dp (.returned (.tuple #[.iface 181 (.pointer (some ⟨g, 0, none⟩)), .bool true])) (classM n x') := by
  rw [hc]
  obtain ⟨M, hN, hM⟩ := hs.atom hg hb hl
  exact ⟨ht, hr, _, M, rfl, hN, hM⟩
set_option maxHeartbeats 2000000 in
set_option maxRecDepth 100000 in
theorem class_prog {w : World} {X : Nat} {x : List UInt8} {op dp n : Nat} (h : Rdr w X x op dp) (hx : x.length ≤ 64) (hn : x.length ≤ n) :
    Calls Tryz.prog 142 #[.pointer (some ⟨X, 0, none⟩)] w fun e w' => ClsTold w w' X op dp e (classM n x) := by
  obtain ⟨i0, hi, hz0, hz1, hz2⟩ := info_parts span_info
  have hX := h.lt
  have HS := Lib.hid (skip_prog h ⟨#[94]⟩)
  have HD : ∀ z, aheadM (strL ⟨#[94]⟩) z = aheadM [94] z := fun _ => rfl
  have HD2 : ∀ z, aheadM (strL ⟨#[93]⟩) z = aheadM [93] z := fun _ => rfl
  rw [HD] at HS
  have HC := Lib.hid (show classM n x = (itemsM n (if aheadM [94] x then x.tail else x)).map (fun r => (.atom r.1 (aheadM [94] x) false, r.2)) by
    unfold classM
    cases itemsM n (if aheadM [94] x = true then x.tail else x) <;> rfl)
  have hl0 : (if aheadM [94] x then x.tail else x).length ≤ x.length := by
    split
    · rw [List.length_tail]; omega
    · exact Nat.le_refl _
  generalize aheadM [94] x = neg at HS HC hl0
  generalize (if neg = true then x.tail else x) = x0 at HS HC hl0
  clear h
  go_enter Tryz.func142, Tryz.ntmps142
  go_wp2_with (go_at_call 125; refine HS.out.mono ?_; rintro e w1 ⟨rfl, hr1, ht1⟩
               have hb1 := ht1.size
               have HR1 := Lib.hid (hr1.two (below_one w1 (.cells #[.slice none 0 0, .bool neg, .bool false] 184)))
               have HT1 := Lib.hid (ht1.trans (two_of_below (g := X) (h := X) (below_one w1 (.cells #[.slice none 0 0, .bool neg, .bool false] 184))))
               clear hr1 ht1)
  go_loopw [] (fun wr => ClsIn w X w1.heap.size x0 op dp n neg wr) (fun wr => restLen wr X)
  case atStart => exact ⟨_, [], x0, n, Row.new w1 _ _, Spn.nil _ _, HR1.out, HT1.out, by omega, by simp, by cases itemsM n x0 <;> rfl⟩
  case round =>
    obtain ⟨v, ss, x1, m, hg, hs, hr, ht, hm, hl, hq⟩ := hrel
    have hrl := hr.rest
    have hXr := hr.lt
    have hgl := hg.lt
    have hsl : ss.length ≤ 1000 := by omega
    cases hi1 : itemM x1 with
    | none =>
      have HN := Lib.hid (show classM n x = none by rw [HC.out, hq, items_stop hi1]; rfl)
      have HI := Lib.hid (show Calls Tryz.prog 146 #[.pointer (some ⟨X, 0, none⟩)] wr (fun e w' => ∃ s : UInt8 × UInt8, e = .returned (.tuple #[.agg #[.int .u8 (s.1.toNat : Int), .int .u8 (s.2.toNat : Int)], .bool false]) ∧ Two wr w' X X ∧ RdrAny w' X) from
        (item_prog hr).mono (by rintro e w' ⟨a, b, s, rfl, _⟩; exact ⟨s, by rw [hi1]; rfl, a, b⟩))
      have HT := Lib.hid ht
      clear hg hs hr ht hq hi1
      go_wp2_with (go_at_call 146; refine HI.out.mono ?_; rintro e w2 ⟨s, rfl, ht2, ha2⟩)
      go_ret2
      rw [HN.out]
      have hs2 := ht2.size
      exact ⟨HT.out.trans (ht2.trans (two_of_below (spanW_below w2 s))), (by obtain ⟨t, a, b, hh⟩ := ha2; exact ⟨t, a, b, hh.alloc _⟩), _, rfl⟩
    | some sy =>
      obtain ⟨s, y⟩ := sy
      obtain ⟨m', hm', hstep⟩ := items_step hi1 hm
      have hil := item_len hi1
      have HI := Lib.hid (show Calls Tryz.prog 146 #[.pointer (some ⟨X, 0, none⟩)] wr (fun e w' => e = .returned (.tuple #[.agg #[.int .u8 (s.1.toNat : Int), .int .u8 (s.2.toNat : Int)], .bool true]) ∧ Two wr w' X X ∧ Rdr w' X y op dp) from
        (item_prog hr).mono (by rintro e w' ⟨a, b, s', rfl, c⟩; obtain ⟨rfl, d⟩ := c s y hi1; exact ⟨by rw [hi1]; rfl, a, d⟩))
      obtain ⟨A, cc, rfl⟩ := hs.slice
      have HG := Lib.hid hg
      have HSp := Lib.hid hs
      have HT := Lib.hid ht
      have HQ := Lib.hid hq
      have HSt := Lib.hid hstep
      have hW := ht.size
      clear hg hs hr ht hq hi1 hstep
      cases ha : aheadM [93] y
      all_goals
        go_wp2_with (go_at_call 146; refine HI.out.mono ?_; rintro e w2 ⟨rfl, ht2, hr2⟩
                     have hs2 := ht2.size
                     have hz2 := spanW_below w2 s
                     have hgx : w1.heap.size ≠ X := by omega
                     have hR3 : Rdr (spanW w2 s) X y op dp := hr2.two hz2
                     have hG3 : Row (spanW w2 s) w1.heap.size 184 #[.slice A ss.length cc, .bool neg, .bool false] := row_two HG.out (ht2.trans (two_of_below hz2)) hgx
                     have hS3 : Spn (spanW w2 s) w.heap.size (.slice A ss.length cc) ss := HSp.out.two (ht2.trans (two_of_below hz2)) hX
                     have hQ3 := spanW_row w2 s
                     have hT3 : Two w (spanW w2 s) X X := HT.out.trans (ht2.trans (two_of_below hz2))
                     clear hr2 ht2 hz2)
        rw [show w2.alloc (.cells #[.int .u8 (s.1.toNat : Int), .int .u8 (s.2.toNat : Int)] 189) = spanW w2 s from rfl]
        generalize spanW w2 s = w3 at *
        have c0 : w3.cell? ⟨w1.heap.size, 0, none⟩ = some (.slice A ss.length cc) := hG3.cell 0
        have q0 : w3.cell? ⟨w2.heap.size, 0, none⟩ = some (.int .u8 (s.1.toNat : Int)) := hQ3.cell 0
        have q1 : w3.cell? ⟨w2.heap.size, 1, none⟩ = some (.int .u8 (s.2.toNat : Int)) := hQ3.cell 1
        have c0' : (w3.alloc (.cells #[.int .u8 (s.1.toNat : Int), .int .u8 (s.2.toNat : Int)] 189)).cell? ⟨w1.heap.size, 0, none⟩ = some (.slice A ss.length cc) := (hG3.alloc _).cell 0
        have q0' : (w3.alloc (.cells #[.int .u8 (s.1.toNat : Int), .int .u8 (s.2.toNat : Int)] 189)).cell? ⟨w2.heap.size, 0, none⟩ = some (.int .u8 (s.1.toNat : Int)) := (hQ3.alloc _).cell 0
        have q1' : (w3.alloc (.cells #[.int .u8 (s.1.toNat : Int), .int .u8 (s.2.toNat : Int)] 189)).cell? ⟨w2.heap.size, 1, none⟩ = some (.int .u8 (s.2.toNat : Int)) := (hQ3.alloc _).cell 1
        have HO := Lib.hid (show (w3.alloc (.cells #[.int .u8 (s.1.toNat : Int), .int .u8 (s.2.toNat : Int)] 189)).drew.ownsRow w.heap.size 189 2 (.slice A ss.length cc) ss.length (ss.flatMap spanCells) from rows_move hS3 fun k e => (below_one w3 (.cells #[.int .u8 (s.1.toNat : Int), .int .u8 (s.2.toNat : Int)] 189)).block k (World.ownsRow.lt hS3 k e).2)
        have HA := Lib.hid (show At (w3.alloc (.cells #[.int .u8 (s.1.toNat : Int), .int .u8 (s.2.toNat : Int)] 189)).drew (some ⟨w3.heap.size, 0, none⟩) (spanCells s) from At.row (show Row (w3.alloc (.cells #[.int .u8 (s.1.toNat : Int), .int .u8 (s.2.toNat : Int)] 189)).drew w3.heap.size 189 #[.int .u8 (s.1.toNat : Int), .int .u8 (s.2.toNat : Int)] from Row.new w3 _ _))
        have HB := Lib.hid (show w.heap.size ≤ (w3.alloc (.cells #[.int .u8 (s.1.toNat : Int), .int .u8 (s.2.toNat : Int)] 189)).drew.heap.size by have := hT3.size; simp; omega)
        have HL1 := Lib.hid (show ss.length + 1 ≤ maxLen by simp only [maxLen]; omega)
        have HL2 := Lib.hid (show (ss.length + 1) * 2 ≤ 140737488355328 by omega)
        have fin := Lib.hid (show ∀ (v' : Value) (w4 : World), w4.ownsRow w.heap.size 189 2 v' (ss.length + 1) (ss.flatMap spanCells ++ spanCells s) → (w3.alloc (.cells #[.int .u8 (s.1.toNat : Int), .int .u8 (s.2.toNat : Int)] 189)).drew.grownBy w4 (Value.ownBlock (.slice A ss.length cc)) →
            Row w4 w1.heap.size 184 #[.slice A ss.length cc, .bool neg, .bool false] ∧ Row (w4.setCell ⟨w1.heap.size, 0, none⟩ v') w1.heap.size 184 #[v', .bool neg, .bool false] ∧ Spn (w4.setCell ⟨w1.heap.size, 0, none⟩ v') w.heap.size v' (ss ++ [s]) ∧ Rdr (w4.setCell ⟨w1.heap.size, 0, none⟩ v') X y op dp ∧ Two w (w4.setCell ⟨w1.heap.size, 0, none⟩ v') X X from by
          intro v' w4 h1 h2
          have hown : ∀ k, Value.ownBlock (.slice A ss.length cc) = some k → w.heap.size ≤ k ∧ k < w3.heap.size := fun k e => World.ownsRow.lt hS3 k e
          have hA1 := below_one w3 (.cells #[.int .u8 (s.1.toNat : Int), .int .u8 (s.2.toNat : Int)] 189)
          have hkeep : ∀ k, k < w3.heap.size → Value.ownBlock (.slice A ss.length cc) ≠ some k → w4.heap[k]? = w3.heap[k]? := fun k hk hne => (h2.block k (by simp; omega) (fun e => hne e.symm)).trans (hA1.block k hk)
          have hneg := rows_ne hG3 hS3 (by decide)
          have hG4 : Row w4 w1.heap.size 184 #[.slice A ss.length cc, .bool neg, .bool false] := (hkeep _ hG3.lt hneg).trans hG3
          have hR4 : Rdr w4 X y op dp := hR3.stay (hkeep X hR3.lt (fun e => by have := (hown X e).1; omega))
          have hS4 : Spn w4 w.heap.size v' (ss ++ [s]) := by
            unfold Spn
            rw [List.flatMap_append, List.length_append]
            simpa using h1
          refine ⟨hG4, hG4.setAt 0 v', rows_setFar hS4 hG4 (by decide) 0 v', rdr_new hR4 (p := ⟨w1.heap.size, 0, none⟩) (Ne.symm hgx) v', ?_⟩
          refine two_new ⟨h2.os.trans hT3.os, h2.tape.trans hT3.tape, h2.output.trans hT3.output, ?_, fun k hk k1 k2 => ?_⟩ (p := ⟨w1.heap.size, 0, none⟩) hb1 v'
          · have := h2.size
            have := hT3.size
            simp at *
            omega
          · exact (hkeep k (Nat.lt_of_lt_of_le hk hT3.size) (fun e => by have := (hown k e).1; omega)).trans (hT3.block k hk k1 k2))
        clear hR3 hG3 hS3 hQ3 hT3
        go_region_law
          (first
            | (refine step_app_at rfl (.tmp 22) (.tmp 24) 182 rfl w.heap.size 189 i0 _ 2 2 Tryz.underlying182 hi hz0 hz1 hz2 rfl (by omega) (.slice A ss.length cc) ss.length (ss.flatMap spanCells) rfl HO.out (some ⟨w3.heap.size, 0, none⟩) 1 1 (spanCells s) rfl rfl HA.out (by intro u hu; simp [spanCells] at hu; rcases hu with rfl | rfl <;> rfl) HL1.out HL2.out HB.out ?_
               intro v4 w4 hown4 hb4 hg4
               have hf := fin.out v4 w4 hown4 hg4
               have y0 : w4.cell? ⟨w1.heap.size, 0, none⟩ = some (.slice A ss.length cc) := hf.1.cell 0
               have z0 := hf.1.frozen 0
               obtain ⟨A4, c4, hv4⟩ := hf.2.2.1.slice
               generalize (ss ++ [s]).length = ln at hv4
               subst hv4
               have HF := Lib.hid hf.2
               clear hf hown4 hb4 hg4))
      all_goals
        first
          | (have HS5 := Lib.hid (skip_prog HF.out.2.2.1 ⟨#[93]⟩)
             simp only [HD2, ha, Bool.false_eq_true, if_false] at HS5
             go_wp2_with (go_at_call 125; refine HS5.out.mono ?_; rintro e w5 ⟨rfl, hr5, ht5⟩)
             refine ⟨⟨_, ss ++ [s], y, m', row_two HF.out.1 ht5 hgx, HF.out.2.1.two ht5 hX, hr5, HF.out.2.2.2.trans ht5, hm', by rw [List.length_append, List.length_singleton]; omega, ?_⟩, ?_⟩
             · rw [HQ.out, HSt.out, ha]
               simp only [Bool.false_eq_true, if_false]
               cases itemsM m' y with
               | none => rfl
               | some r => simp [contM]
             · rw [hr5.rest, hrl]; exact hil)
          | (have HS5 := Lib.hid (skip_prog HF.out.2.2.1 ⟨#[93]⟩)
             simp only [HD2, ha, if_true] at HS5
             go_wp2_with (go_at_call 125; refine HS5.out.mono ?_; rintro e w5 ⟨rfl, hr5, ht5⟩)
             go_ret2
             exact ClsIn.told (row_two HF.out.1 ht5 hgx) (HF.out.2.1.two ht5 hX) hb1 (by rw [List.length_append, List.length_singleton]; omega) hr5 (HF.out.2.2.2.trans ht5) (by rw [HC.out, HQ.out, HSt.out, ha]; rfl))
def grpR (n : Nat) (x : List UInt8) : Option (Re × List UInt8 × Nat) :=
  match patM n x with
  | none => none
  | some (ls, y, d) => if aheadM [41] y then some (.alt ls, y.tail, d + 1) else none
def GrpReads (n m : Nat) : Prop :=
  ∀ (w : World) (X : Nat) (x : List UInt8) (op dp : Nat), Rdr w X x op dp → op ≤ dp → op + 1 + x.length ≤ 64 → x.length ≤ m →
    Calls Tryz.prog 141 #[.pointer (some ⟨X, 0, none⟩)] w fun e w' => Tells w w' X op dp e (grpR n x)
set_option maxHeartbeats 1000000 in
theorem group_prog {n m : Nat} (hp : Reads 117 (patR n) m) : GrpReads n m := by
  intro w X x op dp h hod hopx hm
  obtain ⟨D, hD⟩ : ∃ D, D = max dp (op + 1) := ⟨_, rfl⟩
  obtain ⟨s, hsx, hr⟩ := h
  have hr1 := hr.setAt 1 (.int .i64 ((op : Int) + 1))
  have hr2 : Row ((w.setCell ⟨X, 1, none⟩ (.int .i64 ((op : Int) + 1))).drew.setCell ⟨X, 2, none⟩ (.int .i64 (D : Int))) X _ _ := Row.setAt (w := (w.setCell ⟨X, 1, none⟩ (.int .i64 ((op : Int) + 1))).drew) hr1 2 (.int .i64 (D : Int))
  have hR2 : Rdr ((w.setCell ⟨X, 1, none⟩ (.int .i64 ((op : Int) + 1))).drew.setCell ⟨X, 2, none⟩ (.int .i64 (D : Int))) X x (op + 1) D := ⟨s, hsx, by simpa using hr2⟩
  have HT2 := Lib.hid (show Two w ((w.setCell ⟨X, 1, none⟩ (.int .i64 ((op : Int) + 1))).drew.setCell ⟨X, 2, none⟩ (.int .i64 (D : Int))) X X from ((((Two.refl w X X).set (p := ⟨X, 1, none⟩) (.inl rfl) _)).drewN 1).set (p := ⟨X, 2, none⟩) (.inl rfl) _)
  have HP := Lib.hid (hp _ X x (op + 1) D hR2 (by omega) (by omega) hm)
  have c1 : w.cell? ⟨X, 1, none⟩ = some (.int .i64 (op : Int)) := hr.cell 1
  have f1 := hr.frozen 1
  have d1 : (w.setCell ⟨X, 1, none⟩ (.int .i64 ((op : Int) + 1))).cell? ⟨X, 1, none⟩ = some (.int .i64 ((op : Int) + 1)) := hr1.cell 1
  have d2 : (w.setCell ⟨X, 1, none⟩ (.int .i64 ((op : Int) + 1))).cell? ⟨X, 2, none⟩ = some (.int .i64 (dp : Int)) := hr1.cell 2
  have g2 := hr1.frozen 2
  have wm : max (dp : Int) ((op : Int) + 1) = (D : Int) := by rw [hD]; omega
  have hop : op ≤ 64 := by omega
  have HE := Lib.hid hD
  have HR2 := Lib.hid hR2
  have HOD := Lib.hid hod
  clear hr hr1 hr2 hR2 hD hod hsx
  cases hq : patM n x with
  | none =>
    have HN := Lib.hid (show grpR n x = none by unfold grpR; rw [hq])
    have HP2 := Lib.hid (show patR n x = none by unfold patR; rw [hq]; rfl)
    rw [HP2.out] at HP
    go_enter Tryz.func141, Tryz.ntmps141
    go_wp2_with fail
    go_region
    go_wp2_with (go_at_call 117; refine HP.out.mono ?_; rintro e w3 ⟨ht3, ⟨s3, a3, b3, hr3⟩, v3, rfl⟩
                 have k1 := hr3.cell 1
                 have l1 := hr3.frozen 1
                 simp at k1
                 have HR3 := Lib.hid hr3
                 have HT3 := Lib.hid ht3
                 clear hr3 ht3)
    go_ret2
    rw [HN.out]
    exact ⟨(HT2.out.trans HT3.out).set (p := ⟨X, 1, none⟩) (.inl rfl) _, ⟨_, _, _, HR3.out.setAt 1 _⟩, _, rfl⟩
  | some q =>
    obtain ⟨ls, y, d⟩ := q
    have HP2 := Lib.hid (show patR n x = some (.alt ls, y, d) by unfold patR; rw [hq]; rfl)
    have HQ := Lib.hid (show grpR n x = if aheadM [41] y then some (.alt ls, y.tail, d + 1) else none by unfold grpR; rw [hq])
    have HD2 : ∀ z, aheadM (strL ⟨#[41]⟩) z = aheadM [41] z := fun _ => rfl
    rw [HP2.out] at HP
    clear hq
    cases ha : aheadM [41] y
    all_goals
      rw [ha] at HQ
      go_enter Tryz.func141, Tryz.ntmps141
      go_wp2_with fail
      go_region
      go_wp2_with (first
        | (go_at_call 125; refine HS.out.mono ?_; rintro e w5 ⟨rfl, hr5, ht5⟩; have HR5 := Lib.hid hr5; have HT5 := Lib.hid ht5; clear hr5 ht5)
        | (go_at_call 117; refine HP.out.mono ?_; rintro e w3 ⟨ht3, ⟨s3, hs3, hr3⟩, v3, M3, rfl, hN3, hM3⟩
           have k1 : w3.cell? ⟨X, 1, none⟩ = some (.int .i64 ((op : Int) + 1)) := by have := hr3.cell 1; simpa using this
           have l1 := hr3.frozen 1
           have hR4 : Rdr (w3.setCell ⟨X, 1, none⟩ (.int .i64 (op : Int))) X y op (max D (op + 1 + d)) := ⟨s3, hs3, by simpa using hr3.setAt 1 (.int .i64 (op : Int))⟩
           have HS := Lib.hid (skip_prog hR4 ⟨#[41]⟩)
           simp only [HD2, ha, Bool.false_eq_true, if_false, if_true] at HS
           have HX3 := Lib.hid (show ∀ k ∈ M3, k ≠ X from fun k hk e => by have h1 := hM3 k hk; have h2 := HR2.out.lt; omega)
           have HN3 := Lib.hid hN3
           have HM3 := Lib.hid hM3
           have HR4 := Lib.hid hR4
           have HT3 := Lib.hid ht3
           clear hr3 hs3 ht3 hR4 hN3 hM3))
      go_ret2
      rw [HQ.out]
    · exact ⟨((HT2.out.trans HT3.out).set (p := ⟨X, 1, none⟩) (.inl rfl) _).trans HT5.out, HR5.out.any, _, rfl⟩
    · refine ⟨((HT2.out.trans HT3.out).set (p := ⟨X, 1, none⟩) (.inl rfl) _).trans HT5.out, ?_, v3, M3, rfl, ?_, ?_⟩
      · rw [show max dp (op + (d + 1)) = max D (op + 1 + d) by rw [HE.out]; omega]
        exact HR5.out
      · exact HN3.out.keep fun k hk => (HT5.out.block k (by have := HN3.out.lt k hk; simpa [World.setCell] using this) (HX3.out k hk) (HX3.out k hk)).trans (Below.heap_setCell w3 ⟨X, 1, none⟩ _ k (HX3.out k hk))
      · intro k hk
        exact Nat.le_trans HT2.out.size (HM3.out k hk)
set_option maxHeartbeats 1000000 in
theorem piece_prog {n m : Nat} (ha : Reads 138 (atomM n) m) : Reads 131 (pieceM (n + 1)) m := by
  intro w X x op dp h hod hopx hm
  have HA := Lib.hid (ha w X x op dp h hod hopx hm)
  have hX := h.lt
  have HD1 : ∀ z, aheadM (strL ⟨#[42]⟩) z = aheadM [42] z := fun _ => rfl
  have HD2 : ∀ z, aheadM (strL ⟨#[43]⟩) z = aheadM [43] z := fun _ => rfl
  have HD3 : ∀ z, aheadM (strL ⟨#[63]⟩) z = aheadM [63] z := fun _ => rfl
  clear h
  cases hq : atomM n x with
  | none =>
    have HN := Lib.hid (show pieceM (n + 1) x = none by simp only [pieceM, hq])
    rw [hq] at HA
    go_enter Tryz.func131, Tryz.ntmps131
    go_wp2_with (go_at_call 138; refine HA.out.mono ?_; rintro e w3 ⟨ht3, hr3, v3, rfl⟩)
    go_ret2
    rw [HN.out]
    exact ⟨ht3, hr3, _, rfl⟩
  | some q =>
    obtain ⟨r, y, d⟩ := q
    rw [hq] at HA
    have HQ := Lib.hid (show pieceM (n + 1) x = (if aheadM [42] y then some (.rep r true true, y.tail, d) else if aheadM [43] y then some (.rep r false true, y.tail, d) else if aheadM [63] y then some (.rep r true false, y.tail, d) else some (r, y, d)) by simp only [pieceM, hq])
    clear hq
    cases h1 : aheadM [42] y
    · cases h2 : aheadM [43] y
      · cases h3 : aheadM [63] y
        all_goals
          rw [h1, h2, h3] at HQ
          go_enter Tryz.func131, Tryz.ntmps131
          go_wp2_with (first
            | (go_at_call 125; refine HS3.out.mono ?_; rintro e w6 ⟨rfl, hr6, ht6⟩; have HR6 := Lib.hid hr6; have HT6 := Lib.hid (HT5.out.trans ht6); clear hr6 ht6)
            | (go_at_call 125; refine HS2.out.mono ?_; rintro e w5 ⟨rfl, hr5, ht5⟩
               have HS3 := Lib.hid (skip_prog hr5 ⟨#[63]⟩)
               simp only [HD3, h3, Bool.false_eq_true, if_false, if_true] at HS3
               have HT5 := Lib.hid (HT4.out.trans ht5); clear hr5 ht5)
            | (go_at_call 125; refine HS1.out.mono ?_; rintro e w4 ⟨rfl, hr4, ht4⟩
               have HS2 := Lib.hid (skip_prog hr4 ⟨#[43]⟩)
               simp only [HD2, h2, Bool.false_eq_true, if_false] at HS2
               have HT4 := Lib.hid ht4; clear hr4 ht4)
            | (go_at_call 138; refine HA.out.mono ?_; rintro e w3 ⟨ht3, hr3, v3, M3, rfl, hN3, hM3⟩
               obtain ⟨T3, y3, rfl⟩ := node_form hN3
               have HS1 := Lib.hid (skip_prog hr3 ⟨#[42]⟩)
               simp only [HD1, h1, Bool.false_eq_true, if_false] at HS1
               have HN3 := Lib.hid hN3
               have HM3 := Lib.hid hM3
               have HT3 := Lib.hid ht3
               clear hr3 ht3 hN3 hM3))
          go_ret2
          rw [HQ.out]
        · exact ⟨HT3.out.trans HT6.out, HR6.out, _, M3, rfl, HN3.out.two HT6.out HM3.out hX, HM3.out⟩
        · refine ⟨HT3.out.trans HT6.out, HR6.out, _, M3, rfl, ?_, HM3.out⟩
          simp only [NodeAt]
          exact ⟨_, rfl, HN3.out.two HT6.out HM3.out hX⟩
      · rw [h1, h2] at HQ
        go_enter Tryz.func131, Tryz.ntmps131
        go_wp2_with (first
          | (go_at_call 125; refine HS2.out.mono ?_; rintro e w5 ⟨rfl, hr5, ht5⟩; have HR5 := Lib.hid hr5; have HT5 := Lib.hid (HT4.out.trans ht5); clear hr5 ht5)
          | (go_at_call 125; refine HS1.out.mono ?_; rintro e w4 ⟨rfl, hr4, ht4⟩
             have HS2 := Lib.hid (skip_prog hr4 ⟨#[43]⟩)
             simp only [HD2, h2, if_true] at HS2
             have HT4 := Lib.hid ht4; clear hr4 ht4)
          | (go_at_call 138; refine HA.out.mono ?_; rintro e w3 ⟨ht3, hr3, v3, M3, rfl, hN3, hM3⟩
             obtain ⟨T3, y3, rfl⟩ := node_form hN3
             have HS1 := Lib.hid (skip_prog hr3 ⟨#[42]⟩)
             simp only [HD1, h1, Bool.false_eq_true, if_false] at HS1
             have HN3 := Lib.hid hN3
             have HM3 := Lib.hid hM3
             have HT3 := Lib.hid ht3
             clear hr3 ht3 hN3 hM3))
        go_ret2
        rw [HQ.out]
        refine ⟨HT3.out.trans HT5.out, HR5.out, _, M3, rfl, ?_, HM3.out⟩
        simp only [NodeAt]
        exact ⟨_, rfl, HN3.out.two HT5.out HM3.out hX⟩
    · rw [h1] at HQ
      go_enter Tryz.func131, Tryz.ntmps131
      go_wp2_with (first
        | (go_at_call 125; refine HS1.out.mono ?_; rintro e w4 ⟨rfl, hr4, ht4⟩; have HR4 := Lib.hid hr4; have HT4 := Lib.hid ht4; clear hr4 ht4)
        | (go_at_call 138; refine HA.out.mono ?_; rintro e w3 ⟨ht3, hr3, v3, M3, rfl, hN3, hM3⟩
           obtain ⟨T3, y3, rfl⟩ := node_form hN3
           have HS1 := Lib.hid (skip_prog hr3 ⟨#[42]⟩)
           simp only [HD1, h1, if_true] at HS1
           have HN3 := Lib.hid hN3
           have HM3 := Lib.hid hM3
           have HT3 := Lib.hid ht3
           clear hr3 ht3 hN3 hM3))
      go_ret2
      rw [HQ.out]
      refine ⟨HT3.out.trans HT4.out, HR4.out, _, M3, rfl, ?_, HM3.out⟩
      simp only [NodeAt]
      exact ⟨_, rfl, HN3.out.two HT4.out HM3.out hX⟩
theorem Tells.class {w w1 w' : World} {X op dp : Nat} {e : Ending} {q : Option (Re × List UInt8)} (h : ClsTold w1 w' X op dp e q) (ht : Two w w1 X X) (hod : op ≤ dp) : Tells w w' X op dp e (q.map fun r => (r.1, r.2, 0)) := by
  cases q with
  | none => exact ⟨ht.trans h.1, h.2.1, h.2.2⟩
  | some r =>
    obtain ⟨r, y⟩ := r
    obtain ⟨h1, h2, v, M, rfl, hN, hM⟩ := h
    exact ⟨ht.trans h1, by rw [show max dp (op + 0) = dp by omega]; exact h2, v, M, rfl, hN, fun k hk => Nat.le_trans ht.size (hM k hk)⟩
theorem Tells.behind {w w1 w' : World} {X op dp : Nat} {e : Ending} {q : Option (Re × List UInt8 × Nat)} (h : Tells w1 w' X op dp e q) (ht : Two w w1 X X) : Tells w w' X op dp e q := by
  cases q with
  | none => exact ⟨ht.trans h.1, h.2.1, h.2.2⟩
  | some r =>
    obtain ⟨r, y, d⟩ := r
    obtain ⟨h1, h2, v, M, rfl, hN, hM⟩ := h
    exact ⟨ht.trans h1, h2, v, M, rfl, hN, fun k hk => Nat.le_trans ht.size (hM k hk)⟩
theorem Tells.leaf {w w' : World} {X op dp : Nat} {r : Re} {y : List UInt8} {v : Value} {M : List Nat} (ht : Two w w' X X) (hr : Rdr w' X y op dp) (hod : op ≤ dp) (hN : NodeAt w' r v M) (hM : ∀ k ∈ M, w.heap.size ≤ k) : Tells w w' X op dp (.returned (.tuple #[v, .bool true])) (some (r, y, 0)) :=
  ⟨ht, by rw [show max dp (op + 0) = dp by omega]; exact hr, v, M, rfl, hN, hM⟩
theorem dot_node (w : World) : NodeAt (w.alloc (.cells #[.slice none 0 0, .bool true, .bool false] 184)) (.atom [] true false) (.iface 181 (.pointer (some ⟨w.heap.size, 0, none⟩))) [w.heap.size] := by
  simp only [NodeAt]
  exact ⟨_, none, 0, [], rfl, by simp, Row.new w _ _, .inl ⟨rfl, rfl⟩, by simp, rfl⟩
/-- A tuple of a call that is handed on as it is. -/
def Handed (e : Ending) (v : Value) (b : Bool) : Prop := e = .returned (.tuple #[v, .bool b])
theorem Tells.pair {w w' : World} {X op dp : Nat} {e : Ending} {q : Option (Re × List UInt8 × Nat)} (h : Tells w w' X op dp e q) : ∃ v b, Handed e v b := by
  cases q with
  | none => obtain ⟨_, _, v, rfl⟩ := h; exact ⟨v, false, rfl⟩
  | some r => obtain ⟨r, y, d⟩ := r; obtain ⟨_, _, v, M, rfl, _⟩ := h; exact ⟨v, true, rfl⟩
theorem ClsTold.pair {w w' : World} {X op dp : Nat} {e : Ending} {q : Option (Re × List UInt8)} (h : ClsTold w w' X op dp e q) : ∃ v b, Handed e v b := by
  cases q with
  | none => obtain ⟨_, _, v, rfl⟩ := h; exact ⟨v, false, rfl⟩
  | some r => obtain ⟨r, y⟩ := r; obtain ⟨_, _, v, M, rfl, _⟩ := h; exact ⟨v, true, rfl⟩
set_option maxHeartbeats 2000000 in
theorem atom_prog {n m : Nat} (hg : ∀ k, k < m → GrpReads n k) (hmn : m ≤ n) : Reads 138 (atomM (n + 1)) m := by
  intro w X x op dp h hod hopx hm
  have hX := h.lt
  have HG := Lib.hid hg
  have D1 : ∀ z, aheadM (strL ⟨#[40]⟩) z = aheadM [40] z := fun _ => rfl
  have D2 : ∀ z, aheadM (strL ⟨#[91]⟩) z = aheadM [91] z := fun _ => rfl
  have D3 : ∀ z, aheadM (strL ⟨#[46]⟩) z = aheadM [46] z := fun _ => rfl
  have D4 : ∀ z, aheadM (strL ⟨#[92]⟩) z = aheadM [92] z := fun _ => rfl
  have D5 : ∀ z, aheadM (strL ⟨#[92, 40, 41, 91, 93, 124, 42, 43, 63, 46]⟩) z = aheadM marksL z := fun _ => rfl
  have D6 : ∀ z, takeButM (strL ⟨#[92, 40, 41, 91, 93, 124, 42, 43, 63, 46]⟩) z = takeButM marksL z := fun _ => rfl
  have HS1 := Lib.hid (skip_prog h ⟨#[40]⟩)
  simp only [D1] at HS1
  clear h hg
  cases h1 : aheadM [40] x
  · simp only [h1, Bool.false_eq_true, if_false] at HS1
    cases h2 : aheadM [91] x
    · cases h3 : aheadM [46] x
      · cases h4 : aheadM [92] x
        · have HK := Lib.hid (show atomM (n + 1) x = (takeButM marksL x).map (fun r => (oneM r.1, r.2, 0)) by
            simp only [atomM, h1, h2, h3, h4, Bool.false_eq_true, if_false]
            cases takeButM marksL x with
            | none => rfl
            | some r => rfl)
          cases h5 : takeButM marksL x with
          | none =>
            rw [h5] at HK
            go_enter Tryz.func138, Tryz.ntmps138
            go_wp2_with (first
              | (go_at_call 143; refine HO.out.mono ?_; rintro e w7 ⟨hb7, v7, M7, rfl, hN7, hM7⟩; have HB7 := Lib.hid hb7; have HN7 := Lib.hid hN7; have HM7 := Lib.hid hM7; clear hb7 hN7 hM7)
              | (go_at_call 144; refine HS5.out.mono ?_; rintro e w6 ⟨rfl, hr6, ht6⟩
                 have HR6 := Lib.hid hr6
                 have HT6 := Lib.hid (HT5.out.trans ht6)
                 have HO := Lib.hid (show Calls Tryz.prog 143 #[.int .u8 0] w6 _ from one_prog 0 w6)
                 clear hr6 ht6)
              | (go_at_call 125; refine HS4.out.mono ?_; rintro e w5 ⟨rfl, hr5, ht5⟩
                 have HS5 := Lib.hid (takeBut_prog hr5 ⟨#[92, 40, 41, 91, 93, 124, 42, 43, 63, 46]⟩)
                 simp only [D6, h5, tellBut, leftBut] at HS5
                 have HT5 := Lib.hid (HT4.out.trans ht5); clear hr5 ht5)
              | (go_at_call 125; refine HS3.out.mono ?_; rintro e w4 ⟨rfl, hr4, ht4⟩
                 have HS4 := Lib.hid (skip_prog hr4 ⟨#[92]⟩)
                 simp only [D4, h4, Bool.false_eq_true, if_false] at HS4
                 have HT4 := Lib.hid (HT3.out.trans ht4); clear hr4 ht4)
              | (go_at_call 125; refine HS2.out.mono ?_; rintro e w3 ⟨rfl, hr3, ht3⟩
                 have HS3 := Lib.hid (skip_prog hr3 ⟨#[46]⟩)
                 simp only [D3, h3, Bool.false_eq_true, if_false] at HS3
                 have HT3 := Lib.hid (HT2.out.trans ht3); clear hr3 ht3)
              | (go_at_call 125; refine HS1.out.mono ?_; rintro e w2 ⟨rfl, hr2, ht2⟩
                 have HS2 := Lib.hid (skip_prog hr2 ⟨#[91]⟩)
                 simp only [D2, h2, Bool.false_eq_true, if_false] at HS2
                 have HT2 := Lib.hid ht2; clear hr2 ht2))
            go_ret2
            rw [HK.out]
            exact ⟨HT6.out.trans (two_of_below HB7.out), (HR6.out.two HB7.out).any, _, rfl⟩
          | some r =>
            obtain ⟨c, y⟩ := r
            rw [h5] at HK
            go_enter Tryz.func138, Tryz.ntmps138
            go_wp2_with (first
              | (go_at_call 143; refine HO.out.mono ?_; rintro e w7 ⟨hb7, v7, M7, rfl, hN7, hM7⟩; have HB7 := Lib.hid hb7; have HN7 := Lib.hid hN7; have HM7 := Lib.hid hM7; clear hb7 hN7 hM7)
              | (go_at_call 144; refine HS5.out.mono ?_; rintro e w6 ⟨rfl, hr6, ht6⟩
                 have HR6 := Lib.hid hr6
                 have HT6 := Lib.hid (HT5.out.trans ht6)
                 have HO := Lib.hid (one_prog c w6)
                 clear hr6 ht6)
              | (go_at_call 125; refine HS4.out.mono ?_; rintro e w5 ⟨rfl, hr5, ht5⟩
                 have HS5 := Lib.hid (takeBut_prog hr5 ⟨#[92, 40, 41, 91, 93, 124, 42, 43, 63, 46]⟩)
                 simp only [D6, h5, tellBut, leftBut] at HS5
                 have HT5 := Lib.hid (HT4.out.trans ht5); clear hr5 ht5)
              | (go_at_call 125; refine HS3.out.mono ?_; rintro e w4 ⟨rfl, hr4, ht4⟩
                 have HS4 := Lib.hid (skip_prog hr4 ⟨#[92]⟩)
                 simp only [D4, h4, Bool.false_eq_true, if_false] at HS4
                 have HT4 := Lib.hid (HT3.out.trans ht4); clear hr4 ht4)
              | (go_at_call 125; refine HS2.out.mono ?_; rintro e w3 ⟨rfl, hr3, ht3⟩
                 have HS3 := Lib.hid (skip_prog hr3 ⟨#[46]⟩)
                 simp only [D3, h3, Bool.false_eq_true, if_false] at HS3
                 have HT3 := Lib.hid (HT2.out.trans ht3); clear hr3 ht3)
              | (go_at_call 125; refine HS1.out.mono ?_; rintro e w2 ⟨rfl, hr2, ht2⟩
                 have HS2 := Lib.hid (skip_prog hr2 ⟨#[91]⟩)
                 simp only [D2, h2, Bool.false_eq_true, if_false] at HS2
                 have HT2 := Lib.hid ht2; clear hr2 ht2))
            go_ret2
            rw [HK.out]
            exact Tells.leaf (HT6.out.trans (two_of_below HB7.out)) (HR6.out.two HB7.out) hod HN7.out (fun k hk => Nat.le_trans HT6.out.size (HM7.out k hk))
        · cases h5 : aheadM marksL x.tail
          · have HK := Lib.hid (show atomM (n + 1) x = none by
              simp only [atomM, h1, h2, h3, h4, Bool.false_eq_true, if_false, if_true]
              cases hx : x.tail with
              | nil => rfl
              | cons c y => rw [hx] at h5; simp only; rw [if_neg]; exact fun e => by rw [show aheadM marksL (c :: y) = marksL.contains c from rfl, e] at h5; cases h5)
            go_enter Tryz.func138, Tryz.ntmps138
            go_wp2_with (first
              | (go_at_call 130; refine HS5.out.mono ?_; rintro e w6 ⟨rfl, rfl⟩)
              | (go_at_call 125; refine HS4.out.mono ?_; rintro e w5 ⟨rfl, hr5, ht5⟩
                 have HS5 := Lib.hid (ahead_prog hr5 ⟨#[92, 40, 41, 91, 93, 124, 42, 43, 63, 46]⟩)
                 simp only [D5, h5] at HS5
                 have HR5 := Lib.hid hr5
                 have HT5 := Lib.hid (HT4.out.trans ht5); clear hr5 ht5)
              | (go_at_call 125; refine HS3.out.mono ?_; rintro e w4 ⟨rfl, hr4, ht4⟩
                 have HS4 := Lib.hid (skip_prog hr4 ⟨#[92]⟩)
                 simp only [D4, h4, if_true] at HS4
                 have HT4 := Lib.hid (HT3.out.trans ht4); clear hr4 ht4)
              | (go_at_call 125; refine HS2.out.mono ?_; rintro e w3 ⟨rfl, hr3, ht3⟩
                 have HS3 := Lib.hid (skip_prog hr3 ⟨#[46]⟩)
                 simp only [D3, h3, Bool.false_eq_true, if_false] at HS3
                 have HT3 := Lib.hid (HT2.out.trans ht3); clear hr3 ht3)
              | (go_at_call 125; refine HS1.out.mono ?_; rintro e w2 ⟨rfl, hr2, ht2⟩
                 have HS2 := Lib.hid (skip_prog hr2 ⟨#[91]⟩)
                 simp only [D2, h2, Bool.false_eq_true, if_false] at HS2
                 have HT2 := Lib.hid ht2; clear hr2 ht2))
            go_ret2
            rw [HK.out]
            exact ⟨HT5.out, HR5.out.any, _, rfl⟩
          · obtain ⟨c, y, hxt, hc⟩ := ahead_tail h5
            have HK := Lib.hid (show atomM (n + 1) x = some (oneM c, y, 0) by
              simp only [atomM, h1, h2, h3, h4, Bool.false_eq_true, if_false, if_true]
              rw [hxt]
              simp only
              rw [if_pos hc])
            have HX := Lib.hid hxt
            clear hxt
            go_enter Tryz.func138, Tryz.ntmps138
            go_wp2_with (first
              | (go_at_call 143; refine HO.out.mono ?_; rintro e w7 ⟨hb7, v7, M7, rfl, hN7, hM7⟩; have HB7 := Lib.hid hb7; have HN7 := Lib.hid hN7; have HM7 := Lib.hid hM7; clear hb7 hN7 hM7)
              | (go_at_call 132; refine HS6.out.mono ?_; rintro e w8 ⟨rfl, hr8, ht8⟩
                 have HR8 := Lib.hid hr8
                 have HT8 := Lib.hid (HT5.out.trans ht8)
                 have HO := Lib.hid (one_prog c w8)
                 clear hr8 ht8)
              | (go_at_call 130; refine HS5.out.mono ?_; rintro e w6 ⟨rfl, rfl⟩)
              | (go_at_call 125; refine HS4.out.mono ?_; rintro e w5 ⟨rfl, hr5, ht5⟩
                 have HS5 := Lib.hid (ahead_prog hr5 ⟨#[92, 40, 41, 91, 93, 124, 42, 43, 63, 46]⟩)
                 simp only [D5, h5] at HS5
                 rw [HX.out] at hr5
                 have HS6 := Lib.hid (take_prog hr5)
                 have HT5 := Lib.hid (HT4.out.trans ht5); clear hr5 ht5)
              | (go_at_call 125; refine HS3.out.mono ?_; rintro e w4 ⟨rfl, hr4, ht4⟩
                 have HS4 := Lib.hid (skip_prog hr4 ⟨#[92]⟩)
                 simp only [D4, h4, if_true] at HS4
                 have HT4 := Lib.hid (HT3.out.trans ht4); clear hr4 ht4)
              | (go_at_call 125; refine HS2.out.mono ?_; rintro e w3 ⟨rfl, hr3, ht3⟩
                 have HS3 := Lib.hid (skip_prog hr3 ⟨#[46]⟩)
                 simp only [D3, h3, Bool.false_eq_true, if_false] at HS3
                 have HT3 := Lib.hid (HT2.out.trans ht3); clear hr3 ht3)
              | (go_at_call 125; refine HS1.out.mono ?_; rintro e w2 ⟨rfl, hr2, ht2⟩
                 have HS2 := Lib.hid (skip_prog hr2 ⟨#[91]⟩)
                 simp only [D2, h2, Bool.false_eq_true, if_false] at HS2
                 have HT2 := Lib.hid ht2; clear hr2 ht2))
            go_ret2
            rw [HK.out]
            exact Tells.leaf (HT8.out.trans (two_of_below HB7.out)) (HR8.out.two HB7.out) hod HN7.out (fun k hk => Nat.le_trans HT8.out.size (HM7.out k hk))
      · have HK := Lib.hid (show atomM (n + 1) x = some (.atom [] true false, x.tail, 0) by simp only [atomM, h1, h2, h3, Bool.false_eq_true, if_false, if_true])
        go_enter Tryz.func138, Tryz.ntmps138
        go_wp2_with (first
          | (go_at_call 125; refine HS3.out.mono ?_; rintro e w4 ⟨rfl, hr4, ht4⟩
             have HR4 := Lib.hid hr4
             have HT4 := Lib.hid (HT3.out.trans ht4); clear hr4 ht4)
          | (go_at_call 125; refine HS2.out.mono ?_; rintro e w3 ⟨rfl, hr3, ht3⟩
             have HS3 := Lib.hid (skip_prog hr3 ⟨#[46]⟩)
             simp only [D3, h3, if_true] at HS3
             have HT3 := Lib.hid (HT2.out.trans ht3); clear hr3 ht3)
          | (go_at_call 125; refine HS1.out.mono ?_; rintro e w2 ⟨rfl, hr2, ht2⟩
             have HS2 := Lib.hid (skip_prog hr2 ⟨#[91]⟩)
             simp only [D2, h2, Bool.false_eq_true, if_false] at HS2
             have HT2 := Lib.hid ht2; clear hr2 ht2))
        go_ret2
        rw [HK.out]
        exact Tells.leaf (HT4.out.trans (two_of_below (below_one w4 _))) (HR4.out.two (below_one w4 _)) hod (dot_node w4) (fun k hk => by simp at hk; subst hk; exact HT4.out.size)
    · have HK := Lib.hid (show atomM (n + 1) x = (classM n x.tail).map (fun r => (r.1, r.2, 0)) by
        simp only [atomM, h1, h2, Bool.false_eq_true, if_false, if_true]
        cases classM n x.tail <;> rfl)
      have hl := tail_len h2
      go_enter Tryz.func138, Tryz.ntmps138
      go_wp2_with (first
        | (go_at_call 142; refine HS3.out.mono ?_; rintro e w4 hT
           obtain ⟨v4, b4, he4⟩ := hT.pair
           have HT := Lib.hid hT
           unfold Handed at he4
           subst he4
           clear hT)
        | (go_at_call 125; refine HS2.out.mono ?_; rintro e w3 ⟨rfl, hr3, ht3⟩
           have HS3 := Lib.hid (class_prog (n := n) hr3 (by omega) (by omega))
           have HT3 := Lib.hid (HT2.out.trans ht3); clear hr3 ht3)
        | (go_at_call 125; refine HS1.out.mono ?_; rintro e w2 ⟨rfl, hr2, ht2⟩
           have HS2 := Lib.hid (skip_prog hr2 ⟨#[91]⟩)
           simp only [D2, h2, if_true] at HS2
           have HT2 := Lib.hid ht2; clear hr2 ht2))
      go_ret2
      rw [HK.out]
      exact Tells.class HT.out HT3.out hod
  · simp only [h1, if_true] at HS1
    have HK := Lib.hid (show atomM (n + 1) x = grpR n x.tail by
      simp only [atomM, h1, if_true]
      unfold grpR
      cases patM n x.tail <;> rfl)
    have hl := tail_len h1
    go_enter Tryz.func138, Tryz.ntmps138
    go_wp2_with (first
      | (go_at_call 141; refine HS2.out.mono ?_; rintro e w4 hT
         obtain ⟨v4, b4, he4⟩ := hT.pair
         have HT := Lib.hid hT
         unfold Handed at he4
         subst he4
         clear hT)
      | (go_at_call 125; refine HS1.out.mono ?_; rintro e w2 ⟨rfl, hr2, ht2⟩
         have HS2 := Lib.hid (HG.out x.tail.length (by omega) w2 X x.tail op dp hr2 hod (by omega) (Nat.le_refl _))
         have HT2 := Lib.hid ht2; clear hr2 ht2))
    go_ret2
    rw [HK.out]
    exact Tells.behind HT.out HT2.out
def contA (pre : List Re) (dd : Nat) (q : Option (List Re × List UInt8 × Nat)) : Option (List Re × List UInt8 × Nat) := q.map fun r => (pre ++ r.1, r.2.1, max dd r.2.2)
theorem contA_nil (q : Option (List Re × List UInt8 × Nat)) : contA [] 0 q = q := by
  cases q with
  | none => rfl
  | some r => simp [contA]
theorem contA_step (pre : List Re) (r : Re) (dd d : Nat) (q : Option (List Re × List UInt8 × Nat)) : contA pre dd (q.map fun s => (r :: s.1, s.2.1, max d s.2.2)) = contA (pre ++ [r]) (max dd d) q := by
  cases q with
  | none => rfl
  | some s => simp [contA, Nat.max_assoc]
theorem alt_more {x y : List UInt8} {r : Re} {d k : Nat} (hx : aheadM [124, 41] x = false) (hn : x ≠ []) (hp : pieceM k x = some (r, y, d)) : altM (k + 1) x = (altM k y).map fun s => (r :: s.1, s.2.1, max d s.2.2) := by
  simp only [altM]
  rw [if_neg (by rw [hx]; cases x with | nil => exact absurd rfl hn | cons c t => simp), hp]
  simp only
  cases altM k y <;> rfl
theorem alt_none {x : List UInt8} {k : Nat} (hx : aheadM [124, 41] x = false) (hn : x ≠ []) (hp : pieceM k x = none) : altM (k + 1) x = none := by
  simp only [altM]
  rw [if_neg (by rw [hx]; cases x with | nil => exact absurd rfl hn | cons c t => simp), hp]
theorem alt_stop {x : List UInt8} {k : Nat} (hx : aheadM [124, 41] x = true ∨ x = []) : altM (k + 1) x = some ([], x, 0) := by
  simp only [altM]
  rw [if_pos]
  rcases hx with h | rfl
  · rw [h]; simp
  · rfl
def PatAll (m : Nat) : Prop := ∀ n, 4 * m + 4 ≤ n → Reads 117 (patR n) m
def AltAll (m : Nat) : Prop := ∀ n, 4 * m + 3 ≤ n → Reads 124 (altR n) m
def PieceAll (m : Nat) : Prop := ∀ n, 4 * m + 2 ≤ n → Reads 131 (pieceM n) m
def AltIn (W : World) (X : Nat) (x0 : List UInt8) (op dp n : Nat) (v : Value) (wr : World) : Prop :=
  ∃ pre x dd k, Grp wr W.heap.size v pre ∧ Rdr wr X x op (max dp (op + dd)) ∧ Two W wr X X ∧ 4 * x.length + 3 ≤ k ∧ pre.length + x.length ≤ x0.length ∧ altM n x0 = contA pre dd (altM k x)
theorem empty_text {s : ByteArray} {x : List UInt8} (h : strL s = x) : (s.toList == []) = decide (x = []) := by
  rw [ByteArray.toList_eq, Bool.eq_iff_iff, beq_iff_eq, decide_eq_true_eq, ← h]
  rfl
set_option maxHeartbeats 2000000 in
theorem alt_prog {m : Nat} (hp : ∀ k, k ≤ m → PieceAll k) : AltAll m := by
  intro n hn w X x0 op dp h hod hopx hm
  have hX := h.lt
  have HP := Lib.hid hp
  have HD : ∀ z, aheadM (strL ⟨#[124, 41]⟩) z = aheadM [124, 41] z := fun _ => rfl
  have H0 := Lib.hid (show AltIn w X x0 op dp n (.slice none 0 0) w from ⟨[], x0, 0, n, Grp.nil _ _, by rw [show max dp (op + 0) = dp by omega]; exact h, Two.refl _ _ _, by omega, by simp, (contA_nil _).symm⟩)
  clear h hp
  go_enter Tryz.func124, Tryz.ntmps124
  go_wp2_with fail
  go_loopw [4] (fun v wr => AltIn w X x0 op dp n v wr) (fun _ wr => restLen wr X)
  case atStart => exact H0.out
  case round =>
    obtain ⟨pre, x, dd, k, hG, hr, ht, hk, hpx, hq⟩ := hrel
    have hrl := hr.rest
    have hXr := hr.lt
    have hpre : pre.length ≤ 1000 := by omega
    obtain ⟨k', rfl⟩ : ∃ k', k = k' + 1 := ⟨k - 1, by omega⟩
    obtain ⟨A, cc, rfl⟩ := hG.slice
    obtain ⟨s, hsx, hrow⟩ := id hr
    have c0 : wr.cell? ⟨X, 0, none⟩ = some (.string s) := hrow.cell 0
    have e1 := empty_text hsx
    have HA := Lib.hid (ahead_prog hr ⟨#[124, 41]⟩)
    rw [HD] at HA
    have HT := Lib.hid ht
    have HR := Lib.hid hr
    have HG := Lib.hid hG
    have HQ := Lib.hid hq
    by_cases h0 : x = []
    · rw [decide_eq_true h0] at e1
      have HN := Lib.hid (show altR n x0 = some (.row pre, x, dd) by unfold altR; rw [HQ.out, alt_stop (.inr h0)]; simp [contA])
      clear hG hr ht hq hrow hsx h0
      go_wp2_with fail
      go_ret2
      rw [HN.out]
      obtain ⟨M, hN, hM⟩ := HG.out.row hpre
      exact ⟨HT.out, HR.out, _, M, rfl, hN, hM⟩
    · rw [decide_eq_false h0] at e1
      cases ha : aheadM [124, 41] x
      · rw [ha] at HA
        have HPc := Lib.hid (HP.out x.length (by omega) k' (by omega) wr X x op (max dp (op + dd)) hr (by omega) (by omega) (Nat.le_refl _))
        cases hpc : pieceM k' x with
        | none =>
          rw [hpc] at HPc
          have HN := Lib.hid (show altR n x0 = none by unfold altR; rw [HQ.out, alt_none ha h0 hpc]; rfl)
          clear hG hr ht hq hrow hsx h0 hpc
          go_wp2_with (first
            | (go_at_call 131; refine HPc.out.mono ?_; rintro e w2 ⟨ht2, hr2, v2, rfl⟩; have HT2 := Lib.hid (HT.out.trans ht2); have HR2 := Lib.hid hr2; clear hr2 ht2)
            | (go_at_call 130; refine HA.out.mono ?_; rintro e w1 ⟨rfl, rfl⟩))
          go_ret2
          rw [HN.out]
          exact ⟨HT2.out, HR2.out, _, rfl⟩
        | some q =>
          obtain ⟨r, y, d⟩ := q
          rw [hpc] at HPc
          have hlen := piece_len hpc
          have HN := Lib.hid (show altM n x0 = contA (pre ++ [r]) (max dd d) (altM k' y) by rw [HQ.out, alt_more ha h0 hpc, contA_step])
          clear hG hr ht hq hrow hsx h0 hpc
          go_wp2_with (first
            | (at_builtin; refine app_node rfl (.tmp 24) (.tmp 26) 179 rfl Tryz.underlying179 (.slice A pre.length cc) rfl HG.out HT.out HT2.out hX HN2.out HM2.out hpre 1 rfl ?_
               intro v3 w3 hG3 ht3 hx3
               have HG3 := Lib.hid hG3
               have HT3 := Lib.hid ht3
               have HR3 := Lib.hid (HR2.out.stay hx3)
               clear hG3 ht3 hx3)
            | (go_at_call 131; refine HPc.out.mono ?_; rintro e w2 ⟨ht2, hr2, v2, M2, rfl, hN2, hM2⟩; obtain ⟨T2, y2, rfl⟩ := node_form hN2; have HT2 := Lib.hid ht2; have HR2 := Lib.hid hr2; have HN2 := Lib.hid hN2; have HM2 := Lib.hid hM2; clear hr2 ht2 hN2 hM2)
            | (go_at_call 130; refine HA.out.mono ?_; rintro e w1 ⟨rfl, rfl⟩))
          refine ⟨⟨pre ++ [r], y, max dd d, k', HG3.out, ?_, HT3.out, by omega, by rw [List.length_append, List.length_singleton]; omega, HN.out⟩, ?_⟩
          · rw [show max dp (op + max dd d) = max (max dp (op + dd)) (op + d) by omega]; exact HR3.out
          · rw [HR3.out.rest, hrl]; exact hlen
      · rw [ha] at HA
        have HN := Lib.hid (show altR n x0 = some (.row pre, x, dd) by unfold altR; rw [HQ.out, alt_stop (.inl ha)]; simp [contA])
        clear hG hr ht hq hrow hsx h0
        go_wp2_with (go_at_call 130; refine HA.out.mono ?_; rintro e w1 ⟨rfl, rfl⟩)
        go_ret2
        rw [HN.out]
        obtain ⟨M, hN, hM⟩ := HG.out.row hpre
        exact ⟨HT.out, HR.out, _, M, rfl, hN, hM⟩
def PatIn (W : World) (X : Nat) (x0 : List UInt8) (op dp n : Nat) (v : Value) (wr : World) : Prop :=
  ∃ pre x dd k, Grp wr W.heap.size v pre ∧ Rdr wr X x op (max dp (op + dd)) ∧ Two W wr X X ∧ 4 * x.length + 4 ≤ k ∧ pre.length + x.length ≤ x0.length ∧ patM n x0 = contA pre dd (patM k x)
theorem pat_step {k : Nat} {x y : List UInt8} {l : List Re} {d : Nat} (h : altM k x = some (l, y, d)) : patM (k + 1) x = if aheadM [124] y then (patM k y.tail).map fun s => (.row l :: s.1, s.2.1, max d s.2.2) else some ([.row l], y, d) := by
  simp only [patM, h]
  split
  · cases patM k y.tail <;> rfl
  · rfl
theorem alt_fits {n : Nat} {x : List UInt8} {l : List Re} {y : List UInt8} {d : Nat} (h : altM n x = some (l, y, d)) : y.length ≤ x.length := by
  have := alt_len h
  omega
set_option maxHeartbeats 2000000 in
theorem pat_prog {m : Nat} (hp : ∀ k, k ≤ m → AltAll k) : PatAll m := by
  intro n hn w X x0 op dp h hod hopx hm
  have hX := h.lt
  have HP := Lib.hid hp
  have HD : ∀ z, aheadM (strL ⟨#[124]⟩) z = aheadM [124] z := fun _ => rfl
  have H0 := Lib.hid (show PatIn w X x0 op dp n (.slice none 0 0) w from ⟨[], x0, 0, n, Grp.nil _ _, by rw [show max dp (op + 0) = dp by omega]; exact h, Two.refl _ _ _, by omega, by simp, (contA_nil _).symm⟩)
  clear h hp
  go_enter Tryz.func117, Tryz.ntmps117
  go_wp2_with fail
  go_loopw [4] (fun v wr => PatIn w X x0 op dp n v wr) (fun _ wr => restLen wr X)
  case atStart => exact H0.out
  case round =>
    obtain ⟨pre, x, dd, k, hG, hr, ht, hk, hpx, hq⟩ := hrel
    have hrl := hr.rest
    have hXr := hr.lt
    have hpre : pre.length ≤ 1000 := by omega
    obtain ⟨k', rfl⟩ : ∃ k', k = k' + 1 := ⟨k - 1, by omega⟩
    obtain ⟨A, cc, rfl⟩ := hG.slice
    have HA := Lib.hid (HP.out x.length (by omega) k' (by omega) wr X x op (max dp (op + dd)) hr (by omega) (by omega) (Nat.le_refl _))
    have HT := Lib.hid ht
    have HG := Lib.hid hG
    have HQ := Lib.hid hq
    cases hac : altM k' x with
    | none =>
      have HB := Lib.hid (show altR k' x = none by unfold altR; rw [hac]; rfl)
      rw [HB.out] at HA
      have HN := Lib.hid (show patR n x0 = none by unfold patR; rw [HQ.out]; simp only [patM, hac]; rfl)
      clear hG hr ht hq hac
      go_wp2_with (go_at_call 124; refine HA.out.mono ?_; rintro e w2 ⟨ht2, hr2, v2, rfl⟩; have HT2 := Lib.hid (HT.out.trans ht2); have HR2 := Lib.hid hr2; clear hr2 ht2)
      go_ret2
      rw [HN.out]
      exact ⟨HT2.out, HR2.out, _, rfl⟩
    | some q =>
      obtain ⟨l, y, d⟩ := q
      have HB := Lib.hid (show altR k' x = some (.row l, y, d) by unfold altR; rw [hac]; rfl)
      rw [HB.out] at HA
      have hyl := alt_fits hac
      have hst := pat_step hac
      cases ha : aheadM [124] y
      all_goals
        rw [ha] at hst
        have HST := Lib.hid hst
        clear hG hr ht hq hac hst
        go_wp2_with (first
          | (go_at_call 125; refine HS.out.mono ?_; rintro e w4 ⟨rfl, hr4, ht4⟩; have HR4 := Lib.hid hr4; have HT4 := Lib.hid ht4; clear hr4 ht4)
          | (at_builtin; refine app_node rfl (.tmp 14) (.tmp 16) 175 rfl Tryz.underlying175 (.slice A pre.length cc) rfl HG.out HT.out HT2.out hX HN2.out HM2.out hpre 1 rfl ?_
             intro v3 w3 hG3 ht3 hx3
             have HS := Lib.hid (skip_prog (HR2.out.stay hx3) ⟨#[124]⟩)
             simp only [HD, ha, Bool.false_eq_true, if_false, if_true] at HS
             obtain ⟨A3, c3, hv3⟩ := hG3.slice
             generalize (pre ++ [Re.row l]).length = ln at hv3
             subst hv3
             have HG3 := Lib.hid hG3
             have HT3 := Lib.hid ht3
             clear hG3 ht3 hx3)
          | (go_at_call 124; refine HA.out.mono ?_; rintro e w2 ⟨ht2, hr2, v2, M2, rfl, hN2, hM2⟩; obtain ⟨T2, y2, rfl⟩ := node_form hN2; have HT2 := Lib.hid ht2; have HR2 := Lib.hid hr2; have HN2 := Lib.hid hN2; have HM2 := Lib.hid hM2; clear hr2 ht2 hN2 hM2))
      · go_ret2
        have HN := show patR n x0 = some (.alt (pre ++ [.row l]), y, max dd d) by unfold patR; rw [HQ.out, HST.out]; simp [contA]
        rw [HN]
        obtain ⟨M, hN, hM⟩ := (HG3.out.two HT4.out hX).alt (by rw [List.length_append, List.length_singleton]; omega)
        refine ⟨HT3.out.trans HT4.out, ?_, _, M, rfl, hN, hM⟩
        rw [show max dp (op + max dd d) = max (max dp (op + dd)) (op + d) by omega]; exact HR4.out
      · have hl := tail_len ha
        refine ⟨⟨pre ++ [.row l], y.tail, max dd d, k', HG3.out.two HT4.out hX, ?_, HT3.out.trans HT4.out, by omega, by rw [List.length_append, List.length_singleton]; omega, ?_⟩, ?_⟩
        · rw [show max dp (op + max dd d) = max (max dp (op + dd)) (op + d) by omega]; exact HR4.out
        · rw [HQ.out, HST.out]; simp only [if_true]; exact contA_step _ _ _ _ _
        · rw [HR4.out.rest, hrl]; omega
theorem all_read : ∀ m, PatAll m ∧ AltAll m ∧ PieceAll m := by
  intro m
  induction m using Nat.strongRecOn with
  | ind m ih =>
    have hg : ∀ n, 4 * m ≤ n → ∀ k, k < m → GrpReads n k := fun n hn k hk => group_prog ((ih k hk).1 n (by omega))
    have hat : ∀ n, 4 * m + 1 ≤ n → Reads 138 (atomM n) m := by
      intro n hn
      obtain ⟨k, rfl⟩ : ∃ k, n = k + 1 := ⟨n - 1, by omega⟩
      exact atom_prog (hg k (by omega)) (by omega)
    have hpi : PieceAll m := by
      intro n hn
      obtain ⟨k, rfl⟩ : ∃ k, n = k + 1 := ⟨n - 1, by omega⟩
      exact piece_prog (hat k (by omega))
    have hal : AltAll m := alt_prog fun k hk => by
      rcases Nat.lt_or_ge k m with h | h
      · exact (ih k h).2.2
      · obtain rfl : k = m := by omega
        exact hpi
    exact ⟨pat_prog fun k hk => by
      rcases Nat.lt_or_ge k m with h | h
      · exact (ih k h).2.1
      · obtain rfl : k = m := by omega
        exact hal, hal, hpi⟩
/-- What parse tells. -/
def ParTold (w w' : World) (e : Ending) (q : Int × Re) : Prop :=
  Below w.heap.size w w' ∧ ∃ v, e = .returned (.tuple #[v, .int .i64 q.1]) ∧ (q.1 = 0 → ∃ M, NodeAt w' q.2 v M ∧ ∀ k ∈ M, w.heap.size ≤ k)
theorem two_fresh {w w1 w' : World} {X : Nat} (hb : Below w.heap.size w w1) (h : Two w1 w' X X) (hX : w.heap.size ≤ X) : Below w.heap.size w w' := Two.below hb h hb.size hX hX
set_option maxHeartbeats 1000000 in
theorem parse_prog (w : World) (s : ByteArray) {n : Nat} (hn : 260 ≤ n) :
    Calls Tryz.prog 106 #[.string s] w fun e w' => ParTold w w' e (parseM n (strL s)) := by
  have hl := strL_length s
  by_cases hb : 64 < s.size
  · have HN := Lib.hid (show parseM n (strL s) = (3, .row []) by unfold parseM; rw [if_pos (by omega)])
    clear hl
    go_enter Tryz.func106, Tryz.ntmps106
    go_wp2_with fail
    go_ret2
    rw [HN.out]
    exact ⟨Below.refl _ _, _, rfl, fun h => by cases h⟩
  · have hR : Rdr (w.alloc (.cells #[.string s, .int .i64 0, .int .i64 0] 162)) w.heap.size (strL s) 0 0 := ⟨s, rfl, Row.new w _ _⟩
    have HP := Lib.hid ((all_read 64).1 n (by omega) _ _ _ 0 0 hR (Nat.le_refl _) (by omega) (by omega))
    have HB := Lib.hid (below_one w (.cells #[.string s, .int .i64 0, .int .i64 0] 162))
    have HQ := Lib.hid (show parseM n (strL s) = (match patM n (strL s) with | none => (14, .row []) | some (ls, y, d) => if y.isEmpty then (if 8 < d then (15, .row []) else (0, .alt ls)) else (14, .row [])) by unfold parseM; rw [if_neg (by omega)]; cases patM n (strL s) <;> rfl)
    clear hl hR
    cases hq : patM n (strL s) with
    | none =>
      rw [show patR n (strL s) = none by unfold patR; rw [hq]; rfl] at HP
      rw [hq] at HQ
      go_enter Tryz.func106, Tryz.ntmps106
      go_wp2_with (go_at_call 117; refine HP.out.mono ?_; rintro e w2 ⟨ht2, hr2, v2, rfl⟩; have HT2 := Lib.hid ht2; clear hr2 ht2)
      go_ret2
      rw [HQ.out]
      exact ⟨two_fresh HB.out HT2.out (Nat.le_refl _), _, rfl, fun h => by cases h⟩
    | some q =>
      obtain ⟨ls, y, d⟩ := q
      rw [show patR n (strL s) = some (.alt ls, y, d) by unfold patR; rw [hq]; rfl] at HP
      rw [hq] at HQ
      simp only at HQ
      cases y with
      | cons c t =>
        simp only [List.isEmpty_cons, Bool.false_eq_true, if_false] at HQ
        go_enter Tryz.func106, Tryz.ntmps106
        go_wp2_with (go_at_call 117; refine HP.out.mono ?_; rintro e w2 ⟨ht2, ⟨s2, hs2, hr2⟩, v2, M2, rfl, hN2, hM2⟩
                     have c0 : w2.cell? ⟨w.heap.size, 0, none⟩ = some (.string s2) := hr2.cell 0
                     have e1 : (s2.toList == []) = false := by rw [empty_text hs2]; simp
                     have HT2 := Lib.hid ht2; clear hr2 ht2 hs2 hN2 hM2)
        go_ret2
        rw [HQ.out]
        exact ⟨two_fresh HB.out HT2.out (Nat.le_refl _), _, rfl, fun h => by cases h⟩
      | nil =>
        simp only [List.isEmpty_nil, if_true] at HQ
        by_cases hd : 8 < d
        · rw [if_pos hd] at HQ
          go_enter Tryz.func106, Tryz.ntmps106
          go_wp2_with (go_at_call 117; refine HP.out.mono ?_; rintro e w2 ⟨ht2, ⟨s2, hs2, hr2⟩, v2, M2, rfl, hN2, hM2⟩
                       have c0 : w2.cell? ⟨w.heap.size, 0, none⟩ = some (.string s2) := hr2.cell 0
                       have c2 : w2.cell? ⟨w.heap.size, 2, none⟩ = some (.int .i64 (d : Int)) := by have := hr2.cell 2; rw [show max 0 (0 + d) = d by omega] at this; exact this
                       have e1 : (s2.toList == []) = true := by rw [empty_text hs2]; simp
                       have HT2 := Lib.hid ht2; clear hr2 ht2 hs2 hN2 hM2)
          go_ret2
          rw [HQ.out]
          exact ⟨two_fresh HB.out HT2.out (Nat.le_refl _), _, rfl, fun h => by cases h⟩
        · rw [if_neg hd] at HQ
          go_enter Tryz.func106, Tryz.ntmps106
          go_wp2_with (go_at_call 117; refine HP.out.mono ?_; rintro e w2 ⟨ht2, ⟨s2, hs2, hr2⟩, v2, M2, rfl, hN2, hM2⟩
                       have c0 : w2.cell? ⟨w.heap.size, 0, none⟩ = some (.string s2) := hr2.cell 0
                       have c2 : w2.cell? ⟨w.heap.size, 2, none⟩ = some (.int .i64 (d : Int)) := by have := hr2.cell 2; rw [show max 0 (0 + d) = d by omega] at this; exact this
                       have e1 : (s2.toList == []) = true := by rw [empty_text hs2]; simp
                       have HN2 := Lib.hid hN2
                       have HM2 := Lib.hid hM2
                       have HT2 := Lib.hid ht2; clear hr2 ht2 hs2 hN2 hM2)
          go_ret2
          rw [HQ.out]
          exact ⟨two_fresh HB.out HT2.out (Nat.le_refl _), _, rfl, fun _ => ⟨M2, HN2.out, fun k hk => Nat.le_trans HB.out.size (HM2.out k hk)⟩⟩
theorem check_prog (w : World) (s : ByteArray) {n : Nat} (hn : 260 ≤ n) :
    Calls Tryz.prog 84 #[.string s] w fun e w' => e = .returned (.int .i64 (parseM n (strL s)).1) ∧ Below w.heap.size w w' := by
  have HP := Lib.hid (parse_prog w s hn)
  go_enter Tryz.func84, Tryz.ntmps84
  go_wp2_with (go_at_call 106; refine HP.out.mono ?_; rintro e w1 ⟨hb1, v1, rfl, hv1⟩)
  go_ret
  exact ⟨rfl, hb1⟩
set_option maxHeartbeats 1000000 in
theorem fits_prog (w : World) (p s : ByteArray) {n : Nat} (hn : 260 ≤ n) :
    Calls Tryz.prog 107 #[.string p, .string s] w fun e w' => e = .returned (.tuple #[.bool (fitV n (strL p) (strL s)).1, .int .i64 (fitV n (strL p) (strL s)).2]) ∧ Below w.heap.size w w' := by
  have HP := Lib.hid (parse_prog w p hn)
  have hl := strL_length s
  generalize hq : parseM n (strL p) = q at HP
  obtain ⟨c, r⟩ := q
  by_cases h0 : c = 0
  · subst h0
    by_cases hb : 64 < s.size
    · have HV := Lib.hid (show fitV n (strL p) (strL s) = (false, 3) by unfold fitV; rw [hq]; simp only [if_true]; rw [if_pos (by omega)])
      clear hq hl
      go_enter Tryz.func107, Tryz.ntmps107
      go_wp2_with (go_at_call 106; refine HP.out.mono ?_; rintro e w1 ⟨hb1, v1, rfl, hv1⟩)
      go_ret2
      rw [HV.out]
      exact ⟨rfl, hb1⟩
    · have HV := Lib.hid (show fitV n (strL p) (strL s) = (fitsM r (strL s), 0) by unfold fitV; rw [hq]; simp only [if_true]; rw [if_neg (by omega)])
      clear hq hl
      go_enter Tryz.func107, Tryz.ntmps107
      go_wp2_with (first
        | (go_at_call 118; refine HF.out.mono ?_; rintro e w2 ⟨rfl, ht2⟩; have HT2 := Lib.hid ht2; clear ht2)
        | (go_at_call 106; refine HP.out.mono ?_; rintro e w1 ⟨hb1, v1, rfl, hv1⟩
           obtain ⟨M, hN, hM⟩ := hv1 rfl
           have HF := Lib.hid (fitsI_prog hN s (by omega))
           have HM := Lib.hid hM
           clear hN hM hv1))
      go_ret2
      rw [HV.out]
      refine ⟨rfl, ⟨HT2.out.os.trans hb1.os, HT2.out.tape.trans hb1.tape, HT2.out.output.trans hb1.output, Nat.le_trans hb1.size HT2.out.size, fun k hk => (HT2.out.block k (Nat.lt_of_lt_of_le hk hb1.size) (fun hm => by have := HM.out k hm; omega)).trans (hb1.block k hk)⟩⟩
  · have HV := Lib.hid (show fitV n (strL p) (strL s) = (false, c) by unfold fitV; rw [hq]; simp only [h0, if_false])
    have d0 : (c == 0) = false := by rw [beq_eq_false_iff_ne]; exact h0
    clear hq hl
    go_enter Tryz.func107, Tryz.ntmps107
    go_wp2_with (go_at_call 106; refine HP.out.mono ?_; rintro e w1 ⟨hb1, v1, rfl, hv1⟩)
    go_ret2
    rw [HV.out]
    exact ⟨rfl, hb1⟩
end Go.Proofs.YtpcjnagdanmdpaaGreat
