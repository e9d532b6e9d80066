/- The document's own Unquoted, at any text. -/
import Derived.Test.YtnhaehjkepmbaaaDoorMtQuo
import Derived.Test.YtnhaehjkepmbaaaDoorLbDigRef
namespace Go.Proofs.YtnhaehjkepmbaaaDoor
open Go.RowKit
set_option linter.unusedVariables false

theorem strL_at (s : ByteArray) {k : Nat} (h : k < s.size) : (strL s)[k]? = some s[k] := by
  rw [List.getElem?_eq_getElem (by rw [strL_length]; exact h)]; rfl
theorem strL_out (s : ByteArray) {k : Nat} (h : s.size ≤ k) : (strL s)[k]? = none := List.getElem?_eq_none (by rw [strL_length]; exact h)
/-- Where the reading of a value stands (behind k bytes), and what it has read. -/
inductive UQ (L : List UInt8) : Nat → List UInt8 → Prop
  | start : UQ L 1 []
  | mark {k : Nat} {x : List UInt8} {c : UInt8} : UQ L k x → L[k]? = some 92 → L[k + 1]? = some c → (c = 92 ∨ c = 34) → UQ L (k + 2) (x ++ [c])
  | hex {k : Nat} {x : List UInt8} {a b : UInt8} : UQ L k x → L[k]? = some 92 → L[k + 1]? = some 120 → L[k + 2]? = some a → L[k + 3]? = some b → 0 ≤ digV a → 0 ≤ digV b →
      UQ L (k + 4) (x ++ [UInt8.ofNat (16 * digV a + digV b).toNat])
  | plain {k : Nat} {x : List UInt8} {c : UInt8} : UQ L k x → L[k]? = some c → c ≠ 34 → c ≠ 92 → UQ L (k + 1) (x ++ [c])
/-- Why a text begins with no value's text. -/
inductive NoUQ (L : List UInt8) : Prop
  | head : L[0]? ≠ some 34 → NoUQ L
  | esc {k : Nat} {x : List UInt8} : UQ L k x → L[k]? = some 92 → (∀ c, L[k + 1]? = some c → c ≠ 92 ∧ c ≠ 34) → (∀ a b, L[k + 1]? = some 120 → L[k + 2]? = some a → L[k + 3]? = some b → digV a < 0 ∨ digV b < 0) → NoUQ L
  | last {k : Nat} {x : List UInt8} : UQ L k x → L.length ≤ k → NoUQ L
  | form {k : Nat} {x : List UInt8} : UQ L k x → L[k]? = some 34 → quoL (txt x) ≠ L.take (k + 1) → NoUQ L
def UnqTold (s : ByteArray) (e : Ending) : Prop :=
  (e = .returned (.tuple #[.string ⟨#[]⟩, .int .i64 0]) ∧ NoUQ (strL s)) ∨
    ∃ (k : Nat) (x : List UInt8), e = .returned (.tuple #[.string (txt x), .int .i64 ((k : Int) + 1)]) ∧ k < s.size ∧ UQ (strL s) k x ∧ (strL s)[k]? = some 34 ∧ quoL (txt x) = (strL s).take (k + 1)
theorem ubyte_is {b : UInt8} {n : Nat} (hn : n < 256) (h : b = UInt8.ofNat n) : ((b.toNat : Int) == (n : Int)) = true := by
  subst h
  rw [beq_iff_eq]
  have : (UInt8.ofNat n).toNat = n := by simp; omega
  omega
theorem ubyte_no {b : UInt8} {n : Nat} (hn : n < 256) (h : b ≠ UInt8.ofNat n) : ((b.toNat : Int) == (n : Int)) = false := by
  rw [beq_eq_false_iff_ne]
  intro e
  exact h (UInt8.toNat_inj.1 (by have : (UInt8.ofNat n).toNat = n := by simp; omega
                                 omega))
theorem own_bys' {w : World} {base : Nat} {B : Option Addr} {d : Nat} {x : List UInt8} (h : Own w base (.slice B x.length d) x) : Bys w B x := by
  obtain ⟨B', d', hv, hB, _⟩ := own_slice' h
  simp only [Value.slice.injEq] at hv
  obtain ⟨rfl, _, _⟩ := hv
  exact hB
theorem strL_front2 (s : ByteArray) (k : Nat) : (s.extract 0 k).data.toList = (strL s).take k := by
  simp [strL, ByteArray.data_extract]
attribute [-go_sem] Builtin.append_
set_option maxRecDepth 100000 in
set_option maxHeartbeats 4000000 in
theorem unq_ref (s : ByteArray) (w : World) (hs : s.size ≤ 35184372088000) :
    Calls Tryd.prog 12 #[.string s] w fun e w' => UnqTold s e ∧ Below w.heap.size w w' := by
  by_cases h0 : s.size = 0
  · have hn : NoUQ (strL s) := .head (by rw [strL_out s (by omega)]; simp)
    obtain rfl : s = ⟨#[]⟩ := by
      cases s with | mk d => have : d.size = 0 := h0; rw [Array.size_eq_zero_iff] at this; rw [this]
    clear h0
    go_enter Tryd.func12, Tryd.ntmps12
    go_wp2_with fail
    go_ret2
    exact ⟨.inl ⟨rfl, hn⟩, Below.refl _ _⟩
  have hp : 0 < s.size := by omega
  have te : s.toList.isEmpty = false := by
    rw [ByteArray.toList_eq, List.isEmpty_eq_false_iff]
    intro e
    have e2 := congrArg List.length e
    rw [Array.length_toList] at e2
    exact h0 e2
  by_cases h34 : s[0] = UInt8.ofNat 34
  rotate_left
  · have hn : NoUQ (strL s) := .head (by rw [strL_at s hp]; simpa using h34)
    have d1 : ((s[0].toNat : Int) == 34) = false := ubyte_no (n := 34) (by omega) h34
    have d2 : ((s[0].toNat : Int) != 34) = true := by rw [bne, d1]; rfl
    clear h34 h0
    go_enter Tryd.func12, Tryd.ntmps12
    go_wp2_with fail
    go_ret2
    exact ⟨.inl ⟨rfl, hn⟩, Below.refl _ _⟩
  have d1 : ((s[0].toNat : Int) == 34) = true := ubyte_is (n := 34) (by omega) h34
  have d2 : ((s[0].toNat : Int) != 34) = false := by rw [bne, d1]; rfl
  clear h34 h0
  go_enter Tryd.func12, Tryd.ntmps12
  go_wp2_with fail
  go_loopw [5, 4] (fun i u wr => ∃ (k : Nat) (x : List UInt8), k ≤ s.size ∧ x.length ≤ k ∧ i = .int .i64 (k : Int) ∧ UQ (strL s) k x ∧ Own wr w.heap.size u x ∧ Below w.heap.size w wr) (fun i _ _ => s.size - (intOf i).toNat)
  case atStart => exact ⟨1, [], hp, by simp, rfl, .start, own_nil _ _, Below.refl _ _⟩
  case round =>
    obtain ⟨k, x, hk, hx, rfl, hu, ho, hbr⟩ := hrel
    clear d1 d2 te
    have hsz := hbr.size
    have HU := Lib.hid hu
    have HO := Lib.hid ho
    have HBR := Lib.hid hbr
    clear hu ho hbr
    by_cases hlt : k < s.size
    rotate_left
    · obtain rfl : k = s.size := by omega
      have hn : NoUQ (strL s) := .last HU.out (by rw [strL_length]; exact Nat.le_refl _)
      have lk : decide ((s.size : Int) ≤ (s.size : Int)) = true := by simp
      go_upto_region 17 with fail
      go_region
      go_wp2_with fail
      go_ret2
      exact ⟨.inl ⟨rfl, hn⟩, HBR.out.drew⟩
    by_cases c34 : s[k] = UInt8.ofNat 34
    · have a1 : ((s[k].toNat : Int) == 34) = true := ubyte_is (n := 34) (by omega) c34
      have a2 : ((s[k].toNat : Int) != 34) = false := by rw [bne, a1]; rfl
      have h34 : (strL s)[k]? = some 34 := by rw [strL_at s hlt, c34]; rfl
      have lk : decide ((s.size : Int) ≤ (k : Int)) = false := by simp; omega
      have lkn : decide (s.size ≤ k) = false := by simp; omega
      have lkp : ¬ s.size ≤ k := by omega
      have lki : ¬ (s.size : Int) ≤ (k : Int) := by omega
      have zk : (0 : Int) ≤ (k : Int) + 1 := by omega
      have tk : ((k : Int) + 1).toNat = k + 1 := by omega
      have uk : (k : Int) + 1 ≤ (s.size : Int) := by omega
      have wk : IntKind.i64.wrap ((k : Int) + 1) = (k : Int) + 1 := by rw [IntKind.wrap_i64]; omega
      obtain ⟨B, d, hv, hB, _⟩ := own_slice' HO.out
      subst hv
      have hcv := conv_bys wr.drew B x d hB
      have hts : (txt x).size = x.length := by show x.toArray.size = _; simp
      have HQ := Lib.hid (fun W => refquo_prog (txt x) W (by omega))
      have HW := Lib.hid (fun W (h : Below wr.heap.size wr W) => conv_bys W B x d (own_bys' (own_below HO.out h)))
      have HF : Hid (((txt (quoL (txt x))).toList == (s.extract 0 (k + 1)).toList) = true → quoL (txt x) = (strL s).take (k + 1)) := Lib.hid (fun h => by
        rw [beq_iff_eq, ByteArray.toList_eq, ByteArray.toList_eq] at h
        have h2 : (txt (quoL (txt x))).data.toList = quoL (txt x) := strL_txt _
        rw [h2] at h
        rw [h]
        exact strL_front2 s (k + 1))
      have HG : Hid (((txt (quoL (txt x))).toList == (s.extract 0 (k + 1)).toList) = false → quoL (txt x) ≠ (strL s).take (k + 1)) := Lib.hid (fun h e => by
        rw [beq_eq_false_iff_ne, ByteArray.toList_eq, ByteArray.toList_eq] at h
        have h2 : (txt (quoL (txt x))).data.toList = quoL (txt x) := strL_txt _
        rw [h2, e] at h
        exact h (strL_front2 s (k + 1)).symm)
      clear c34 hB
      generalize txt (quoL (txt x)) = tq at HQ HF HG
      cases hq : (tq.toList == (s.extract 0 (k + 1)).toList)
      · have q2 : (tq.toList != (s.extract 0 (k + 1)).toList) = true := by rw [bne, hq]; rfl
        have hn : NoUQ (strL s) := .form HU.out h34 (HG.out hq)
        go_upto_region 17 with fail
        -- REGION A
        refine wp_region_held_drew (S := fun _ => True) (by kernel_rfl) ?_ (fun hHeld => ?_)
        · trivial
        refine wpAnyH_take (i := 0) (oi := { dst := some 117, op := Go.Op.move (Go.Operand.tmp 5), type := 3, pos := "ref.go:202", after := #[], guard := none }) (v := ?_) rfl (by kernel_rfl) (by kernel_rfl) (by kernel_rfl) (fun _ _ _ h => h) (Or.inl ⟨by rfl, ?_⟩) (by assumption) ?_
        rotate_left 1
        · (intro w hSw; (try dsimp only at hSw); go_simp; try with_reducible rfl)
        try simp only [Act.put, List.setIfInBounds_toArray, List.set_cons_zero, List.set_cons_succ]
        refine wpAnyH_take (i := 1) (oi := { dst := some 118, op := Go.Op.move (Go.Operand.tmp 0), type := 9, pos := "ref.go:202", after := #[], guard := none }) (v := ?_) rfl (by kernel_rfl) (by kernel_rfl) (by kernel_rfl) (fun _ _ _ h => h) (Or.inl ⟨by rfl, ?_⟩) (by assumption) ?_
        rotate_left 1
        · (intro w hSw; (try dsimp only at hSw); go_simp; try with_reducible rfl)
        try simp only [Act.put, List.setIfInBounds_toArray, List.set_cons_zero, List.set_cons_succ]
        refine wpAnyH_take (i := 2) (oi := { dst := some 119, op := Go.Op.call { callee := Go.Callee.builtin Go.Builtin.len, args := #[Go.Operand.tmp 118], argTypes := #[9] }, type := 3, pos := "ref.go:202", after := #[{ on := 1, ground := Go.Ground.data }], guard := none }) (v := ?_) rfl (by kernel_rfl) (by kernel_rfl) (by kernel_rfl) (fun _ _ _ h => h) (Or.inl ⟨by rfl, ?_⟩) (by assumption) ?_
        rotate_left 1
        · (intro w hSw; (try dsimp only at hSw); go_simp; try with_reducible rfl)
        try simp only [Act.put, List.setIfInBounds_toArray, List.set_cons_zero, List.set_cons_succ]
        refine wpAnyH_take (i := 3) (oi := { dst := some 120, op := Go.Op.binOp Go.BinOp.geq 3 (Go.Operand.tmp 117) (Go.Operand.tmp 119) 3, type := 4, pos := "ref.go:202", after := #[{ on := 0, ground := Go.Ground.data }, { on := 2, ground := Go.Ground.data }], guard := none }) (v := ?_) rfl (by kernel_rfl) (by kernel_rfl) (by kernel_rfl) (fun _ _ _ h => h) (Or.inl ⟨by rfl, ?_⟩) (by assumption) ?_
        rotate_left 1
        · (intro w hSw; (try dsimp only at hSw); go_simp; try with_reducible rfl)
        try simp only [Act.put, List.setIfInBounds_toArray, List.set_cons_zero, List.set_cons_succ]
        refine wpAnyH_take (i := 4) (oi := { dst := some 121, op := Go.Op.move (Go.Operand.tmp 120), type := 4, pos := "ref.go:202", after := #[{ on := 3, ground := Go.Ground.data }], guard := none }) (v := ?_) rfl (by kernel_rfl) (by kernel_rfl) (by kernel_rfl) (fun _ _ _ h => h) (Or.inl ⟨by rfl, ?_⟩) (by assumption) ?_
        rotate_left 1
        · (intro w hSw; (try dsimp only at hSw); go_simp; try with_reducible rfl)
        try simp only [Act.put, List.setIfInBounds_toArray, List.set_cons_zero, List.set_cons_succ]
        refine wpAnyH_take (i := 5) (oi := { dst := some 122, op := Go.Op.move (Go.Operand.tmp 4), type := 39, pos := "ref.go:202", after := #[{ on := 4, ground := Go.Ground.guard }], guard := some (4, false) }) (v := ?_) rfl (by kernel_rfl) (by kernel_rfl) (by kernel_rfl) (fun _ _ _ h => h) (Or.inl ⟨by rfl, ?_⟩) (by assumption) ?_
        rotate_left 1
        · (intro w hSw; (try dsimp only at hSw); go_simp; try with_reducible rfl)
        try simp only [Act.put, List.setIfInBounds_toArray, List.set_cons_zero, List.set_cons_succ]
        refine wpAnyH_take (i := 8) (oi := { dst := some 125, op := Go.Op.move (Go.Operand.tmp 0), type := 9, pos := "ref.go:202", after := #[{ on := 4, ground := Go.Ground.guard }], guard := some (4, false) }) (v := ?_) rfl (by kernel_rfl) (by kernel_rfl) (by kernel_rfl) (fun _ _ _ h => h) (Or.inl ⟨by rfl, ?_⟩) (by assumption) ?_
        rotate_left 1
        · (intro w hSw; (try dsimp only at hSw); go_simp; try with_reducible rfl)
        try simp only [Act.put, List.setIfInBounds_toArray, List.set_cons_zero, List.set_cons_succ]
        refine wpAnyH_take (i := 9) (oi := { dst := some 126, op := Go.Op.move (Go.Operand.tmp 5), type := 3, pos := "ref.go:202", after := #[{ on := 4, ground := Go.Ground.guard }], guard := some (4, false) }) (v := ?_) rfl (by kernel_rfl) (by kernel_rfl) (by kernel_rfl) (fun _ _ _ h => h) (Or.inl ⟨by rfl, ?_⟩) (by assumption) ?_
        rotate_left 1
        · (intro w hSw; (try dsimp only at hSw); go_simp; try with_reducible rfl)
        try simp only [Act.put, List.setIfInBounds_toArray, List.set_cons_zero, List.set_cons_succ]
        refine wpAnyH_take (i := 10) (oi := { dst := some 127, op := Go.Op.binOp Go.BinOp.add 3 (Go.Operand.tmp 126) (Go.Operand.const (Go.Value.int Go.IntKind.i64 1)) 3, type := 3, pos := "ref.go:202", after := #[{ on := 9, ground := Go.Ground.data }, { on := 4, ground := Go.Ground.guard }], guard := some (4, false) }) (v := ?_) rfl (by kernel_rfl) (by kernel_rfl) (by kernel_rfl) (fun _ _ _ h => h) (Or.inl ⟨by rfl, ?_⟩) (by assumption) ?_
        rotate_left 1
        · (intro w hSw; (try dsimp only at hSw); go_simp; try with_reducible rfl)
        try simp only [Act.put, List.setIfInBounds_toArray, List.set_cons_zero, List.set_cons_succ]
        refine wpAnyH_take (i := 11) (oi := { dst := some 128, op := Go.Op.slice 9 (Go.Operand.tmp 125) none (some (Go.Operand.tmp 127)) none, type := 9, pos := "ref.go:202", after := #[{ on := 8, ground := Go.Ground.data }, { on := 10, ground := Go.Ground.data }, { on := 4, ground := Go.Ground.guard }], guard := some (4, false) }) (v := ?_) rfl (by kernel_rfl) (by kernel_rfl) (by kernel_rfl) (fun _ _ _ h => h) (Or.inl ⟨by rfl, ?_⟩) (by assumption) ?_
        rotate_left 1
        · (intro w hSw; (try dsimp only at hSw); go_simp; try with_reducible rfl)
        try simp only [Act.put, List.setIfInBounds_toArray, List.set_cons_zero, List.set_cons_succ]
        refine wpAnyH_ready (rs := [6]) (by kernel_rfl) (by simp) ?_
        refine AllReadyH.cons (o := { dst := some 123, op := Go.Op.convert 39 9 (Go.Operand.tmp 122), type := 9, pos := "ref.go:202", after := #[{ on := 5, ground := Go.Ground.data }, { on := 4, ground := Go.Ground.guard }], guard := some (4, false) }) rfl (fun K hK => ?_) AllReadyH.nil
        go_simp
        refine hK.out _ _ ?_ (fun hHeld => ?_)
        · trivial
        clear hK K
        try simp only [Act.put, List.setIfInBounds_toArray, List.set_cons_zero, List.set_cons_succ]
        refine wpAnyH_ready (rs := [7]) (by kernel_rfl) (by simp) ?_
        refine AllReadyH.cons (o := { dst := some 124, op := Go.Op.call { callee := Go.Callee.value (Go.Operand.func 15), args := #[Go.Operand.tmp 123], argTypes := #[9] }, type := 9, pos := "ref.go:202", after := #[{ on := 6, ground := Go.Ground.data }, { on := 4, ground := Go.Ground.chain }, { on := 4, ground := Go.Ground.guard }], guard := some (4, false) }) rfl (fun K hK => ?_) AllReadyH.nil
        go_simp
        go_at_call 15
        refine (HQ.out _).mono ?_
        rintro e w1 ⟨rfl, hb1⟩
        have HB1 := Lib.hid (HBR.out.drew.trans (hb1.mono hsz))
        have HC1 := Lib.hid (show Below wr.heap.size wr w1 from (Below.refl _ _).drew.trans hb1)
        clear hb1
        refine hK.out _ _ ?_ (fun hHeld => ?_)
        · trivial
        clear hK K
        try simp only [Act.put, List.setIfInBounds_toArray, List.set_cons_zero, List.set_cons_succ]
        refine wpAnyH_take (i := 12) (oi := { dst := some 129, op := Go.Op.binOp Go.BinOp.neq 9 (Go.Operand.tmp 124) (Go.Operand.tmp 128) 9, type := 4, pos := "ref.go:202", after := #[{ on := 7, ground := Go.Ground.data }, { on := 11, ground := Go.Ground.data }, { on := 4, ground := Go.Ground.guard }], guard := some (4, false) }) (v := ?_) rfl (by kernel_rfl) (by kernel_rfl) (by kernel_rfl) (fun _ _ _ h => h) (Or.inl ⟨by rfl, ?_⟩) (by assumption) ?_
        rotate_left 1
        · (intro w hSw; (try dsimp only at hSw); go_simp; try with_reducible rfl)
        try simp only [Act.put, List.setIfInBounds_toArray, List.set_cons_zero, List.set_cons_succ]
        refine wpAnyH_take (i := 13) (oi := { dst := some 130, op := Go.Op.pick (Go.Operand.tmp 121) (Go.Operand.const (Go.Value.bool true)) (Go.Operand.tmp 129), type := 4, pos := "ref.go:202", after := #[{ on := 4, ground := Go.Ground.data }, { on := 12, ground := Go.Ground.data }], guard := none }) (v := ?_) rfl (by kernel_rfl) (by kernel_rfl) (by kernel_rfl) (fun _ _ _ h => h) (Or.inl ⟨by rfl, ?_⟩) (by assumption) ?_
        rotate_left 1
        · (intro w hSw; (try dsimp only at hSw); go_simp; try with_reducible rfl)
        try simp only [Act.put, List.setIfInBounds_toArray, List.set_cons_zero, List.set_cons_succ]
        refine wpAnyH_done (by kernel_rfl) ?_ _
        -- END A
        go_wp2_with fail
        go_ret2
        exact ⟨.inl ⟨rfl, hn⟩, HB1.out⟩
      · have q2 : (tq.toList != (s.extract 0 (k + 1)).toList) = false := by rw [bne, hq]; rfl
        have hn := HF.out hq
        go_upto_region 17 with fail
        -- REGION B
        refine wp_region_held_drew (S := fun _ => True) (by kernel_rfl) ?_ (fun hHeld => ?_)
        · trivial
        refine wpAnyH_take (i := 0) (oi := { dst := some 117, op := Go.Op.move (Go.Operand.tmp 5), type := 3, pos := "ref.go:202", after := #[], guard := none }) (v := ?_) rfl (by kernel_rfl) (by kernel_rfl) (by kernel_rfl) (fun _ _ _ h => h) (Or.inl ⟨by rfl, ?_⟩) (by assumption) ?_
        rotate_left 1
        · (intro w hSw; (try dsimp only at hSw); go_simp; try with_reducible rfl)
        try simp only [Act.put, List.setIfInBounds_toArray, List.set_cons_zero, List.set_cons_succ]
        refine wpAnyH_take (i := 1) (oi := { dst := some 118, op := Go.Op.move (Go.Operand.tmp 0), type := 9, pos := "ref.go:202", after := #[], guard := none }) (v := ?_) rfl (by kernel_rfl) (by kernel_rfl) (by kernel_rfl) (fun _ _ _ h => h) (Or.inl ⟨by rfl, ?_⟩) (by assumption) ?_
        rotate_left 1
        · (intro w hSw; (try dsimp only at hSw); go_simp; try with_reducible rfl)
        try simp only [Act.put, List.setIfInBounds_toArray, List.set_cons_zero, List.set_cons_succ]
        refine wpAnyH_take (i := 2) (oi := { dst := some 119, op := Go.Op.call { callee := Go.Callee.builtin Go.Builtin.len, args := #[Go.Operand.tmp 118], argTypes := #[9] }, type := 3, pos := "ref.go:202", after := #[{ on := 1, ground := Go.Ground.data }], guard := none }) (v := ?_) rfl (by kernel_rfl) (by kernel_rfl) (by kernel_rfl) (fun _ _ _ h => h) (Or.inl ⟨by rfl, ?_⟩) (by assumption) ?_
        rotate_left 1
        · (intro w hSw; (try dsimp only at hSw); go_simp; try with_reducible rfl)
        try simp only [Act.put, List.setIfInBounds_toArray, List.set_cons_zero, List.set_cons_succ]
        refine wpAnyH_take (i := 3) (oi := { dst := some 120, op := Go.Op.binOp Go.BinOp.geq 3 (Go.Operand.tmp 117) (Go.Operand.tmp 119) 3, type := 4, pos := "ref.go:202", after := #[{ on := 0, ground := Go.Ground.data }, { on := 2, ground := Go.Ground.data }], guard := none }) (v := ?_) rfl (by kernel_rfl) (by kernel_rfl) (by kernel_rfl) (fun _ _ _ h => h) (Or.inl ⟨by rfl, ?_⟩) (by assumption) ?_
        rotate_left 1
        · (intro w hSw; (try dsimp only at hSw); go_simp; try with_reducible rfl)
        try simp only [Act.put, List.setIfInBounds_toArray, List.set_cons_zero, List.set_cons_succ]
        refine wpAnyH_take (i := 4) (oi := { dst := some 121, op := Go.Op.move (Go.Operand.tmp 120), type := 4, pos := "ref.go:202", after := #[{ on := 3, ground := Go.Ground.data }], guard := none }) (v := ?_) rfl (by kernel_rfl) (by kernel_rfl) (by kernel_rfl) (fun _ _ _ h => h) (Or.inl ⟨by rfl, ?_⟩) (by assumption) ?_
        rotate_left 1
        · (intro w hSw; (try dsimp only at hSw); go_simp; try with_reducible rfl)
        try simp only [Act.put, List.setIfInBounds_toArray, List.set_cons_zero, List.set_cons_succ]
        refine wpAnyH_take (i := 5) (oi := { dst := some 122, op := Go.Op.move (Go.Operand.tmp 4), type := 39, pos := "ref.go:202", after := #[{ on := 4, ground := Go.Ground.guard }], guard := some (4, false) }) (v := ?_) rfl (by kernel_rfl) (by kernel_rfl) (by kernel_rfl) (fun _ _ _ h => h) (Or.inl ⟨by rfl, ?_⟩) (by assumption) ?_
        rotate_left 1
        · (intro w hSw; (try dsimp only at hSw); go_simp; try with_reducible rfl)
        try simp only [Act.put, List.setIfInBounds_toArray, List.set_cons_zero, List.set_cons_succ]
        refine wpAnyH_take (i := 8) (oi := { dst := some 125, op := Go.Op.move (Go.Operand.tmp 0), type := 9, pos := "ref.go:202", after := #[{ on := 4, ground := Go.Ground.guard }], guard := some (4, false) }) (v := ?_) rfl (by kernel_rfl) (by kernel_rfl) (by kernel_rfl) (fun _ _ _ h => h) (Or.inl ⟨by rfl, ?_⟩) (by assumption) ?_
        rotate_left 1
        · (intro w hSw; (try dsimp only at hSw); go_simp; try with_reducible rfl)
        try simp only [Act.put, List.setIfInBounds_toArray, List.set_cons_zero, List.set_cons_succ]
        refine wpAnyH_take (i := 9) (oi := { dst := some 126, op := Go.Op.move (Go.Operand.tmp 5), type := 3, pos := "ref.go:202", after := #[{ on := 4, ground := Go.Ground.guard }], guard := some (4, false) }) (v := ?_) rfl (by kernel_rfl) (by kernel_rfl) (by kernel_rfl) (fun _ _ _ h => h) (Or.inl ⟨by rfl, ?_⟩) (by assumption) ?_
        rotate_left 1
        · (intro w hSw; (try dsimp only at hSw); go_simp; try with_reducible rfl)
        try simp only [Act.put, List.setIfInBounds_toArray, List.set_cons_zero, List.set_cons_succ]
        refine wpAnyH_take (i := 10) (oi := { dst := some 127, op := Go.Op.binOp Go.BinOp.add 3 (Go.Operand.tmp 126) (Go.Operand.const (Go.Value.int Go.IntKind.i64 1)) 3, type := 3, pos := "ref.go:202", after := #[{ on := 9, ground := Go.Ground.data }, { on := 4, ground := Go.Ground.guard }], guard := some (4, false) }) (v := ?_) rfl (by kernel_rfl) (by kernel_rfl) (by kernel_rfl) (fun _ _ _ h => h) (Or.inl ⟨by rfl, ?_⟩) (by assumption) ?_
        rotate_left 1
        · (intro w hSw; (try dsimp only at hSw); go_simp; try with_reducible rfl)
        try simp only [Act.put, List.setIfInBounds_toArray, List.set_cons_zero, List.set_cons_succ]
        refine wpAnyH_take (i := 11) (oi := { dst := some 128, op := Go.Op.slice 9 (Go.Operand.tmp 125) none (some (Go.Operand.tmp 127)) none, type := 9, pos := "ref.go:202", after := #[{ on := 8, ground := Go.Ground.data }, { on := 10, ground := Go.Ground.data }, { on := 4, ground := Go.Ground.guard }], guard := some (4, false) }) (v := ?_) rfl (by kernel_rfl) (by kernel_rfl) (by kernel_rfl) (fun _ _ _ h => h) (Or.inl ⟨by rfl, ?_⟩) (by assumption) ?_
        rotate_left 1
        · (intro w hSw; (try dsimp only at hSw); go_simp; try with_reducible rfl)
        try simp only [Act.put, List.setIfInBounds_toArray, List.set_cons_zero, List.set_cons_succ]
        refine wpAnyH_ready (rs := [6]) (by kernel_rfl) (by simp) ?_
        refine AllReadyH.cons (o := { dst := some 123, op := Go.Op.convert 39 9 (Go.Operand.tmp 122), type := 9, pos := "ref.go:202", after := #[{ on := 5, ground := Go.Ground.data }, { on := 4, ground := Go.Ground.guard }], guard := some (4, false) }) rfl (fun K hK => ?_) AllReadyH.nil
        go_simp
        refine hK.out _ _ ?_ (fun hHeld => ?_)
        · trivial
        clear hK K
        try simp only [Act.put, List.setIfInBounds_toArray, List.set_cons_zero, List.set_cons_succ]
        refine wpAnyH_ready (rs := [7]) (by kernel_rfl) (by simp) ?_
        refine AllReadyH.cons (o := { dst := some 124, op := Go.Op.call { callee := Go.Callee.value (Go.Operand.func 15), args := #[Go.Operand.tmp 123], argTypes := #[9] }, type := 9, pos := "ref.go:202", after := #[{ on := 6, ground := Go.Ground.data }, { on := 4, ground := Go.Ground.chain }, { on := 4, ground := Go.Ground.guard }], guard := some (4, false) }) rfl (fun K hK => ?_) AllReadyH.nil
        go_simp
        go_at_call 15
        refine (HQ.out _).mono ?_
        rintro e w1 ⟨rfl, hb1⟩
        have HB1 := Lib.hid (HBR.out.drew.trans (hb1.mono hsz))
        have HC1 := Lib.hid (show Below wr.heap.size wr w1 from (Below.refl _ _).drew.trans hb1)
        clear hb1
        refine hK.out _ _ ?_ (fun hHeld => ?_)
        · trivial
        clear hK K
        try simp only [Act.put, List.setIfInBounds_toArray, List.set_cons_zero, List.set_cons_succ]
        refine wpAnyH_take (i := 12) (oi := { dst := some 129, op := Go.Op.binOp Go.BinOp.neq 9 (Go.Operand.tmp 124) (Go.Operand.tmp 128) 9, type := 4, pos := "ref.go:202", after := #[{ on := 7, ground := Go.Ground.data }, { on := 11, ground := Go.Ground.data }, { on := 4, ground := Go.Ground.guard }], guard := some (4, false) }) (v := ?_) rfl (by kernel_rfl) (by kernel_rfl) (by kernel_rfl) (fun _ _ _ h => h) (Or.inl ⟨by rfl, ?_⟩) (by assumption) ?_
        rotate_left 1
        · (intro w hSw; (try dsimp only at hSw); go_simp; try with_reducible rfl)
        try simp only [Act.put, List.setIfInBounds_toArray, List.set_cons_zero, List.set_cons_succ]
        refine wpAnyH_take (i := 13) (oi := { dst := some 130, op := Go.Op.pick (Go.Operand.tmp 121) (Go.Operand.const (Go.Value.bool true)) (Go.Operand.tmp 129), type := 4, pos := "ref.go:202", after := #[{ on := 4, ground := Go.Ground.data }, { on := 12, ground := Go.Ground.data }], guard := none }) (v := ?_) rfl (by kernel_rfl) (by kernel_rfl) (by kernel_rfl) (fun _ _ _ h => h) (Or.inl ⟨by rfl, ?_⟩) (by assumption) ?_
        rotate_left 1
        · (intro w hSw; (try dsimp only at hSw); go_simp; try with_reducible rfl)
        try simp only [Act.put, List.setIfInBounds_toArray, List.set_cons_zero, List.set_cons_succ]
        refine wpAnyH_done (by kernel_rfl) ?_ _
        -- END B
        have hcv2 := HW.out w1 HC1.out
        go_wp2_with fail
        go_ret2
        exact ⟨.inr ⟨k, x, by go_num, hlt, HU.out, h34, hn⟩, HB1.out⟩
    have a1 : ((s[k].toNat : Int) == 34) = false := ubyte_no (n := 34) (by omega) c34
    have a2 : ((s[k].toNat : Int) != 34) = true := by rw [bne, a1]; rfl
    by_cases c92 : s[k] = UInt8.ofNat 92
    rotate_left
    · have b1 : ((s[k].toNat : Int) == 92) = false := ubyte_no (n := 92) (by omega) c92
      have HN := Lib.hid (UQ.plain HU.out (strL_at s hlt) c34 c92)
      clear c34 c92
      go_wp2_with (at_builtin; refine app_u8 rfl (.tmp 111) (.tmp 113) rfl w.heap.size _ _ rfl (own_alloc HO.out _) _ [s[k]] 1 rfl (row_bys1 (Row.new _ _ _)) (by simp only [List.length_cons, List.length_nil]; omega) (Nat.le_trans hsz (by simp)) ?_; intro v1 w1 hown1 hb1 _; have HO1 := Lib.hid hown1; have HB1 := Lib.hid ((HBR.out.alloc hsz _).trans hb1); clear hown1 hb1)
      go_roundw
      case rel => exact ⟨k + 1, x ++ [s[k]], by omega, by simp; omega, by go_num, HN.out, HO1.out, HB1.out⟩
      case measure => simp [intOf]; omega
    have b1 : ((s[k].toNat : Int) == 92) = true := ubyte_is (n := 92) (by omega) c92
    have h92 : (strL s)[k]? = some 92 := by rw [strL_at s hlt, c92]; rfl
    by_cases k1 : k + 1 < s.size
    rotate_left
    · have hn : NoUQ (strL s) := .esc HU.out h92 (fun c h => by rw [strL_out s (by omega)] at h; simp at h) (fun a b h => by rw [strL_out s (by omega)] at h; simp at h)
      clear c34 c92 h92
      go_wp2_with fail
      go_ret2
      exact ⟨.inl ⟨rfl, hn⟩, HBR.out⟩
    by_cases e92 : s[k + 1] = UInt8.ofNat 92
    · have b2 : ((s[k + 1].toNat : Int) == 92) = true := ubyte_is (n := 92) (by omega) e92
      have HN := Lib.hid (UQ.mark HU.out h92 (strL_at s k1) (.inl e92))
      clear c34 c92 h92 e92
      go_wp2_with (at_builtin; refine app_u8 rfl (.tmp 50) (.tmp 55) rfl w.heap.size _ _ rfl (own_alloc HO.out _) _ [s[k + 1]] 1 rfl (row_bys1 (Row.new _ _ _)) (by simp only [List.length_cons, List.length_nil]; omega) (Nat.le_trans hsz (by simp)) ?_; intro v1 w1 hown1 hb1 _; have HO1 := Lib.hid hown1; have HB1 := Lib.hid ((HBR.out.alloc hsz _).trans hb1); clear hown1 hb1)
      go_roundw
      case rel => exact ⟨k + 2, x ++ [s[k + 1]], by omega, by simp; omega, by go_num, HN.out, HO1.out, HB1.out⟩
      case measure => simp [intOf]; omega
    have b2 : ((s[k + 1].toNat : Int) == 92) = false := ubyte_no (n := 92) (by omega) e92
    by_cases e34 : s[k + 1] = UInt8.ofNat 34
    · have b3 : ((s[k + 1].toNat : Int) == 34) = true := ubyte_is (n := 34) (by omega) e34
      have HN := Lib.hid (UQ.mark HU.out h92 (strL_at s k1) (.inr e34))
      clear c34 c92 h92 e92 e34
      go_wp2_with (at_builtin; refine app_u8 rfl (.tmp 50) (.tmp 55) rfl w.heap.size _ _ rfl (own_alloc HO.out _) _ [s[k + 1]] 1 rfl (row_bys1 (Row.new _ _ _)) (by simp only [List.length_cons, List.length_nil]; omega) (Nat.le_trans hsz (by simp)) ?_; intro v1 w1 hown1 hb1 _; have HO1 := Lib.hid hown1; have HB1 := Lib.hid ((HBR.out.alloc hsz _).trans hb1); clear hown1 hb1)
      go_roundw
      case rel => exact ⟨k + 2, x ++ [s[k + 1]], by omega, by simp; omega, by go_num, HN.out, HO1.out, HB1.out⟩
      case measure => simp [intOf]; omega
    have b3 : ((s[k + 1].toNat : Int) == 34) = false := ubyte_no (n := 34) (by omega) e34
    have hno : ∀ c, (strL s)[k + 1]? = some c → c ≠ 92 ∧ c ≠ 34 := fun c h => by
      rw [strL_at s k1] at h
      obtain rfl : s[k + 1] = c := by simpa using h
      exact ⟨e92, e34⟩
    by_cases k3 : k + 3 < s.size
    rotate_left
    · have hn : NoUQ (strL s) := .esc HU.out h92 hno (fun a b h1 h2 h3 => by rw [strL_out s (k := k + 3) (by omega)] at h3; simp at h3)
      clear c34 c92 h92 e92 e34 hno
      go_wp2_with fail
      go_ret2
      exact ⟨.inl ⟨rfl, hn⟩, HBR.out⟩
    have k2 : k + 2 < s.size := by omega
    by_cases e120 : s[k + 1] = UInt8.ofNat 120
    rotate_left
    · have b4 : ((s[k + 1].toNat : Int) == 120) = false := ubyte_no (n := 120) (by omega) e120
      have hn : NoUQ (strL s) := .esc HU.out h92 hno (fun a b h1 h2 h3 => by rw [strL_at s k1] at h1; exact absurd (by simpa using h1) e120)
      clear c34 c92 h92 e92 e34 e120 hno
      go_wp2_with fail
      go_ret2
      exact ⟨.inl ⟨rfl, hn⟩, HBR.out⟩
    have b4 : ((s[k + 1].toNat : Int) == 120) = true := ubyte_is (n := 120) (by omega) e120
    have h120 : (strL s)[k + 1]? = some 120 := by rw [strL_at s k1, e120]; rfl
    obtain ⟨g1, g2⟩ := digV_range s[k + 2]
    obtain ⟨g3, g4⟩ := digV_range s[k + 3]
    have D1 := Lib.hid (fun W => digit_ref s[k + 2] W)
    have D2 := Lib.hid (fun W => digit_ref s[k + 3] W)
    by_cases n1 : 0 ≤ digV s[k + 2]
    rotate_left
    · have m1 : decide ((0 : Int) ≤ digV s[k + 2]) = false := by simp; omega
      have hn : NoUQ (strL s) := .esc HU.out h92 hno (fun a b h1 h2 h3 => by
        rw [strL_at s k2] at h2
        obtain rfl : s[k + 2] = a := by simpa using h2
        left; omega)
      clear c34 c92 h92 e92 e34 e120 h120 hno
      go_wp2_with (first
      | (go_at_call 21; (with_reducible refine (D1.out _).mono ?_); rintro e w1 ⟨rfl, rfl⟩)
      | (go_at_call 21; (with_reducible refine (D2.out _).mono ?_); rintro e w2 ⟨rfl, rfl⟩))
      go_ret2
      exact ⟨.inl ⟨rfl, hn⟩, HBR.out⟩
    have m1 : decide ((0 : Int) ≤ digV s[k + 2]) = true := by simp; omega
    by_cases n2 : 0 ≤ digV s[k + 3]
    rotate_left
    · have m2 : decide ((0 : Int) ≤ digV s[k + 3]) = false := by simp; omega
      have hn : NoUQ (strL s) := .esc HU.out h92 hno (fun a b h1 h2 h3 => by
        rw [strL_at s k3] at h3
        obtain rfl : s[k + 3] = b := by simpa using h3
        right; omega)
      clear c34 c92 h92 e92 e34 e120 h120 hno
      go_wp2_with (first
      | (go_at_call 21; (with_reducible refine (D1.out _).mono ?_); rintro e w1 ⟨rfl, rfl⟩)
      | (go_at_call 21; (with_reducible refine (D2.out _).mono ?_); rintro e w2 ⟨rfl, rfl⟩))
      go_ret2
      exact ⟨.inl ⟨rfl, hn⟩, HBR.out⟩
    have m2 : decide ((0 : Int) ≤ digV s[k + 3]) = true := by simp; omega
    have HN := Lib.hid (UQ.hex HU.out h92 h120 (strL_at s k2) (strL_at s k3) n1 n2)
    clear c34 c92 h92 e92 e34 e120 h120 hno
    generalize digV s[k + 2] = va at *
    generalize digV s[k + 3] = vb at *
    have hc : ((UInt8.ofNat (16 * va + vb).toNat).toNat : Int) = 16 * va + vb := by
      rw [UInt8.toNat_ofNat']
      omega
    generalize UInt8.ofNat (16 * va + vb).toNat = c at *
    have z2 : (0 : Int) ≤ (k : Int) + 2 := by omega
    have u2 : (k : Int) + 2 < (s.size : Int) := by omega
    have z3 : (0 : Int) ≤ (k : Int) + 3 := by omega
    have u3 : (k : Int) + 3 < (s.size : Int) := by omega
    have wk2 : IntKind.i64.wrap ((k : Int) + 2) = (k : Int) + 2 := by rw [IntKind.wrap_i64]; omega
    have wk3 : IntKind.i64.wrap ((k : Int) + 3) = (k : Int) + 3 := by rw [IntKind.wrap_i64]; omega
    have t2 : ((k : Int) + 2).toNat = k + 2 := by omega
    have t3 : ((k : Int) + 3).toNat = k + 3 := by omega
    have w1 : IntKind.i64.wrap (16 * va) = 16 * va := by rw [IntKind.wrap_i64]; omega
    have w2 : IntKind.i64.wrap (16 * va + vb) = 16 * va + vb := by rw [IntKind.wrap_i64]; omega
    have w3 : IntKind.u8.wrap (16 * va + vb) = (c.toNat : Int) := by rw [IntKind.wrap_u8]; have := c.toNat_lt; omega
    have HOx : Hid (∀ o, Own ((wr.alloc o).drew) w.heap.size u4 x) := Lib.hid (fun o => own_below HO.out ((below_one wr o).drew))
    have HBs : Hid (Bys ((wr.alloc (.cells #[.int .u8 (16 * va + vb)] 5)).drew) (some ⟨wr.heap.size, 0, none⟩) [c]) := Lib.hid (by rw [← hc]; exact row_bys1 (Row.new wr _ _))
    have HBx : Hid (∀ o, Below w.heap.size w ((wr.alloc o).drew)) := Lib.hid (fun o => (HBR.out.alloc hsz o).drew)
    have HK : Hid (∀ k, u4.ownBlock = some k → w.heap.size ≤ k) := Lib.hid (fun k hk => (World.ownsRow.lt HO.out _ hk).1)
    have HS : Hid (∀ o, w.heap.size ≤ ((wr.alloc o).drew).heap.size) := Lib.hid (fun o => by simp; omega)
    have HLN := Lib.hid (show x.length + [c].length ≤ 211106232532992 by simp only [List.length_cons, List.length_nil]; omega)
    obtain ⟨i0, hi, hz0, hz1, hz2⟩ := info_parts u8_info
    go_upto_region 11 with (first
      | (go_at_call 21; (with_reducible refine (D1.out _).mono ?_); rintro e w1 ⟨rfl, rfl⟩)
      | (go_at_call 21; (with_reducible refine (D2.out _).mono ?_); rintro e w2 ⟨rfl, rfl⟩))
    go_region_held3 (fun w' => True) (first | go_keep | (intros; trivial))
      (first
        | (go_at_call 21; (with_reducible refine (D1.out _).mono ?_); rintro e w1 ⟨rfl, rfl⟩)
        | (go_at_call 21; (with_reducible refine (D2.out _).mono ?_); rintro e w2 ⟨rfl, rfl⟩)
        | (go_at_call 21; refine (D1.out _).mono ?_; rintro e w1 ⟨rfl, rfl⟩)
        | (go_at_call 21; refine (D2.out _).mono ?_; rintro e w2 ⟨rfl, rfl⟩)
        | (refine step_app _ rfl (.tmp 91) (.tmp 105) 39 rfl w.heap.size i0 Tryd.underlying39 hi hz0 hz1 hz2 u4 x rfl (HOx.out _) (some ⟨wr.heap.size, 0, none⟩) [c] 1 rfl HBs.out HLN.out (HS.out _) ?_; intro v1 w1 hown1 hg1 _; have HO1 := Lib.hid hown1; have HB1 := Lib.hid (Below.grown (HBx.out _) hg1 (HS.out _) HK.out); clear hown1 hg1))
    all_goals
      go_wp2_with fail
      go_roundw
      case rel => exact ⟨k + 4, x ++ [c], by omega, by simp; omega, by go_num, HN.out, HO1.out, HB1.out⟩
      case measure => simp [intOf]; omega
end Go.Proofs.YtnhaehjkepmbaaaDoor
