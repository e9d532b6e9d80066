/- One entry more behind those that wait: the built-in append, at an operation of a region. -/
import Derived.Test.YtiepepikbophmaaDkKeys
namespace Go.Proofs.Ytiepepikbophmaa
open Go.RowKit Go.Maps
set_option linter.unusedVariables false

theorem ent_info : (Try.prog.info? 96).map (fun i => (i.zero, i.size, i.bytes)) = some (some (.agg #[.string ByteArray.empty, .string ByteArray.empty, .pointer none]), 3, 40) := by kernel_rfl
theorem waitC_snoc (fb : Nat → Nat) (es : List (List UInt8 × List UInt8 × Option Nat)) (x : List UInt8 × List UInt8 × Option Nat) : waitC fb (es ++ [x]) = waitC fb es ++ entC fb x := by simp [waitC]
theorem entC_one (fb : Nat → Nat) (x : List UInt8 × List UInt8 × Option Nat) : ∀ u ∈ entC fb x, u.oneCell' = true := by
  intro u hu
  unfold entC at hu
  rcases List.mem_cons.1 hu with rfl | hu
  · rfl
  · rcases List.mem_cons.1 hu with rfl | hu
    · rfl
    · rcases List.mem_cons.1 hu with rfl | hu
      · cases x.2.2 <;> rfl
      · cases hu
section
variable (w : World)
theorem run_app_ent (base ty : Nat) (v : Value) (fb : Nat → Nat) (es : List (List UInt8 × List UInt8 × Option Nat)) (n : Nat) (hown : w.ownsRow base 96 3 v n (waitC fb es)) (x : List UInt8 × List UInt8 × Option Nat) (g : Nat) (hg : Row w g 96 (entC fb x).toArray) (hn : n ≤ 1000000) (hbase : base ≤ w.heap.size) :
    ∃ g' cap w', (Builtin.append_ #[71, 71] ty #[v, .slice (some ⟨g, 0, none⟩) 1 1]).run Try.prog w = .ok (.slice (some ⟨g', 0, none⟩) (n + 1) cap) w' ∧ w'.ownsRow base 96 3 (.slice (some ⟨g', 0, none⟩) (n + 1) cap) (n + 1) (waitC fb (es ++ [x])) ∧ w.grownBy w' v.ownBlock ∧ (v.ownBlock = some g' ∨ g' = w.heap.size) := by
  obtain ⟨i0, hi, hz0, hz1, hz2⟩ := info_parts ent_info
  obtain ⟨v', w', h1, h2, h3, _, h5⟩ := run_append_own_at (P := Try.prog) w base 71 ty 96 i0 _ 3 40 Try.underlying71 hi hz0 hz1 hz2 rfl (by omega) v n (waitC fb es) hown ⟨g, 0, none⟩ 1 1 (entC fb x) rfl
    (by
      intro j u hj
      rw [add_at, Nat.zero_add, hg.cell j]
      simpa using hj) (entC_one fb x) (by simp only [maxLen]; omega) (by omega) hbase
  rw [← waitC_snoc] at h2
  rcases h2.2 with ⟨_, h0⟩ | ⟨g', cap, cur, hv, rest⟩
  · omega
  · subst hv
    refine ⟨g', cap, w', h1, h2, h3, ?_⟩
    rcases h5 with h5 | h5
    · exact .inl h5.symm
    · simp only [Value.ownBlock, Option.some.injEq] at h5
      exact .inr h5
theorem wp_app_ent {o : Oper} {a : Act} {K : Act → World → Prop} {Q : Exit → Act → World → Prop} (s y : Operand)
    (ho : o.op = .call { callee := .builtin .append, args := #[s, y], argTypes := #[71, 71] })
    (base : Nat) (v : Value) (fb : Nat → Nat) (es : List (List UInt8 × List UInt8 × Option Nat)) (n : Nat) (hs : a.eval s = v) (hown : w.ownsRow base 96 3 v n (waitC fb es)) (x : List UInt8 × List UInt8 × Option Nat) (g : Nat) (hy : a.eval y = .slice (some ⟨g, 0, none⟩) 1 1) (hg : Row w g 96 (entC fb x).toArray) (hn : n ≤ 1000000) (hbase : base ≤ w.heap.size)
    (h : ∀ g' cap w', w'.ownsRow base 96 3 (.slice (some ⟨g', 0, none⟩) (n + 1) cap) (n + 1) (waitC fb (es ++ [x])) → w.grownBy w' v.ownBlock → (v.ownBlock = some g' ∨ g' = w.heap.size) → K (a.put o.dst (.slice (some ⟨g', 0, none⟩) (n + 1) cap)) w') : o.wp Try.prog a w K Q := by
  obtain ⟨g', cap, w', hr, h2, h3, h4⟩ := run_app_ent w base o.type v fb es n hown x g hg hn hbase
  unfold Oper.wp execOp
  simp only [ho, resolve, invoke, builtin, Sem.run_bind, Sem.run_pure, Result.andThen_ok, List.map_toArray, List.map_cons, List.map_nil, hs, hy, hr]
  exact h g' cap w' h2 h3 h4
theorem step_app_ent {ops : Array Oper} {o : Oper} {a : Act} {K : Act → World → Prop} {Q : Exit → Act → World → Prop} {E : Prop} (hgd : o.guard = none) (s y : Operand)
    (ho : o.op = .call { callee := .builtin .append, args := #[s, y], argTypes := #[71, 71] })
    (base : Nat) (v : Value) (fb : Nat → Nat) (es : List (List UInt8 × List UInt8 × Option Nat)) (n : Nat) (hs : a.eval s = v) (hown : w.ownsRow base 96 3 v n (waitC fb es)) (x : List UInt8 × List UInt8 × Option Nat) (g : Nat) (hy : a.eval y = .slice (some ⟨g, 0, none⟩) 1 1) (hg : Row w g 96 (entC fb x).toArray) (hn : n ≤ 1000000) (hbase : base ≤ w.heap.size)
    (h : ∀ g' cap w', w'.ownsRow base 96 3 (.slice (some ⟨g', 0, none⟩) (n + 1) cap) (n + 1) (waitC fb (es ++ [x])) → w.grownBy w' v.ownBlock → (v.ownBlock = some g' ∨ g' = w.heap.size) → K (a.put o.dst (.slice (some ⟨g', 0, none⟩) (n + 1) cap)) w') :
    if Region.wanted o (yielded ops a.tmps) = true then Oper.wp Try.prog o a w K Q else E := by
  have hw : Region.wanted o (yielded ops a.tmps) = true := by simp [Region.wanted, hgd]
  rw [if_pos hw]
  exact wp_app_ent w s y ho base v fb es n hs hown x g hy hg hn hbase h
end
/-- Two blocks of different make are two. -/
theorem row_ne {w : World} {g h : Nat} {t u : TypeId} {cs ds : Array Value} (hg : Row w g t cs) (hh : Row w h u ds) (ht : t ≠ u) : g ≠ h := by
  intro e
  subst e
  unfold Row at hg hh
  rw [hg] at hh
  injection hh with hh
  injection hh with h1 h2 h3
  exact ht h2
theorem row_ne_dir {w : World} {g b : Nat} {t : TypeId} {cs : Array Value} {fb : Nat → Nat} {l : List Ent} (hg : Row w g t cs) (hd : DirAt w fb b l) : g ≠ b := by
  intro e
  subst e
  obtain ⟨es, clock, hb⟩ := hd.map
  unfold Row at hg
  rw [hg] at hb
  cases hb
theorem row_ne_rows {w : World} {g base e n size : Nat} {t : TypeId} {cs : Array Value} {v : Value} {xs : List Value} (hg : Row w g t cs) (hv : w.ownsRow base e size v n xs) (ht : t ≠ e) : v.ownBlock ≠ some g := by
  intro h
  rcases hv.2 with ⟨rfl, _⟩ | ⟨g', cap, cur, rfl, _, hh, _⟩
  · cases h
  · simp only [Value.ownBlock, Option.some.injEq] at h
    subst h
    exact row_ne hg (show Row w g' e cur from hh) ht rfl
theorem dir_ne_rows {w : World} {b base e n size : Nat} {fb : Nat → Nat} {l : List Ent} {v : Value} {xs : List Value} (hd : DirAt w fb b l) (hv : w.ownsRow base e size v n xs) : v.ownBlock ≠ some b := by
  intro h
  rcases hv.2 with ⟨rfl, _⟩ | ⟨g', cap, cur, rfl, _, hh, _⟩
  · cases h
  · simp only [Value.ownBlock, Option.some.injEq] at h
    subst h
    exact row_ne_dir (show Row w g' e cur from hh) hd rfl
theorem rows_ne {w : World} {base e n size base' e' n' size' : Nat} {v v' : Value} {xs xs' : List Value} (hv : w.ownsRow base e size v n xs) (hv' : w.ownsRow base' e' size' v' n' xs') (ht : e ≠ e') : ∀ k, v.ownBlock = some k → v'.ownBlock ≠ some k := by
  intro k hk
  rcases hv.2 with ⟨rfl, _⟩ | ⟨g', cap, cur, rfl, _, hh, _⟩
  · cases hk
  · simp only [Value.ownBlock, Option.some.injEq] at hk
    subst hk
    exact row_ne_rows (show Row w g' e cur from hh) hv' ht
end Go.Proofs.Ytiepepikbophmaa
