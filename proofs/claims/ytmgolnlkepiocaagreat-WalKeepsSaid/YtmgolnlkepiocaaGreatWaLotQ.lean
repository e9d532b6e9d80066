/- In one text, written by lotify.py: DkKeys, DkWait, DkEnter, DkEnter2, DkAppend. -/
import Derived.Test.YtmgolnlkepiocaaGreatShelfG
import Derived.Test.YtmgolnlkepiocaaGreatWaLotP
import Derived.Sort.OwnSorted
import Derived.RegionTactic
import Derived.Deep.RegionWith
import Derived.Deep.RegionHeld3
import Derived.Deep.RegionLaw
import Derived.StillTailTactics
namespace Go.Proofs.YtmgolnlkepiocaaGreat.Dk
open Go.RowKit Go.Maps Go.Sort Go.Shelf Go.Proofs
set_option linter.unusedVariables false

theorem sorts_str (m : Nat) : AnyZ.SortsIn Tryz.prog Tryz.dk_sorted_ren Fence.wide m :=
  ⟨fun blk off cap ss W hH hblk hsz => callsIn_wide.2 (AnyM.slices_Sort_string Tryz.dk_sort blk off cap ss W hH hblk hsz),
   fun p cap W => callsIn_wide.2 (AnyM.slices_Sort_string_none Tryz.dk_sort p cap W)⟩
theorem keys_dir (mb : Option Nat) (W : World) : Calls Tryz.prog 69 #[.map mb] W fun e w' => e = .returned (.func (.func 111) #[] #[.pointer (some ⟨W.heap.size, 0, none⟩)]) ∧ w' = W.alloc (.cells #[.map mb] 67) :=
  callsIn_wide.1 (AnyZ.keys_in Tryz.dk_keys Fence.wide 5 trivial rfl mb W)
set_option maxHeartbeats 1000000 in
theorem sorted_dir {H : Type} (b nn : Nat) (D0 : DataW H) (R : Value → Option (DataW H × List MemPlace)) (w : World) (hown : w.ownsMap Tryz.prog 9 R b nn D0) (hmax : Maps.size D0 ≤ maxLen) (hbytes : Maps.size D0 * 16 ≤ 140737488355328) :
    Calls Tryz.prog 68 #[.func (.func 111) #[] #[.pointer (some ⟨w.heap.size, 0, none⟩)]] (w.alloc (.cells #[.map (some b)] 67)) fun e w' => ∃ (v : Value) (ss : List (List UInt8)), e = .returned v ∧ ss.Perm (strKeys D0) ∧
      w'.ownsRow (w.alloc (.cells #[.map (some b)] 67)).heap.size 9 1 v ss.length ((ss.mergeSort (fun x y => decide (x ≤ y))).map encStr) ∧ (v = .slice none 0 0 ↔ ss = []) ∧ Below (w.alloc (.cells #[.map (some b)] 67)).heap.size (w.alloc (.cells #[.map (some b)] 67)) w' := by
  have hbl := hown.lt
  have hseq : SeqGives Fence.wide 2 Tryz.prog 111 #[.pointer (some ⟨w.heap.size, 0, none⟩)] encStr (fun ss => ss.Perm (strKeys D0)) (Maps.size D0) (w.alloc (.cells #[.map (some b)] 67)) :=
    AnyZ.keys_gives (ρ := Tryz.dk_keys_ren) { Tryz.dk_keys with } Fence.wide _ trivial rfl (by omega) w.heap.size b nn D0 _ (by simp) (by simp) (by
      obtain ⟨es, clock, hb, Ft, hs, hD⟩ := hown
      exact ⟨es, clock, (Below.heap_alloc _ _ b hbl).trans hb, Ft, hs, hD⟩)
  exact callsIn_wide.1 (AnyZ.sorted_in Tryz.dk_sorted Fence.wide 5 trivial trivial trivial trivial rfl (by omega) (sorts_str _) (enters_of Tryz.func110 (by kernel_rfl) rfl) 111 #[.pointer (some ⟨w.heap.size, 0, none⟩)] trivial (enters_of Tryz.func111 (by kernel_rfl) rfl) _ _ hmax hbytes _ hseq)
theorem clone_dir {w : World} {fb : Nat → Nat} {b : Nat} {l : List Ent} (h : DirAt w fb b l) :
    Calls Tryz.prog 70 #[.map (some b)] w fun e w' => e = .returned (.map (some w.heap.size)) ∧ DirAt w' fb w.heap.size l ∧ Below w.heap.size w w' ∧ w.heap.size < w'.heap.size := by
  have hcon := AnyW.maps_Clone_owns Tryz.dk_clone 9 ptrR b l.length (dirD fb l) w h
  change Calls Tryz.prog 70 _ _ _ at hcon
  exact hcon.mono fun e w' ⟨h1, h2, _, h4⟩ => ⟨h1, h2, h4, World.ownsMap.lt h2⟩

/-- The names, in order, as a slice of the call's own. -/
theorem names_prog {w : World} {fb : Nat → Nat} {b : Nat} {l : List Ent} (h : DirAt w fb b l) (hr : Rises l) (hl : l.length ≤ 1000) :
    Calls Tryz.prog 38 #[.map (some b)] w fun e w' => ∃ v, e = .returned v ∧ w'.ownsRow w.heap.size 9 1 v l.length ((l.map Ent.name).map encStr) ∧ Below w.heap.size w w' := by
  have HS := sorted_dir b l.length (dirD fb l) ptrR w h (by rw [dirD_size]; simp only [maxLen]; omega) (by rw [dirD_size]; omega)
  have HK := keys_dir (some b) w
  have HR := Lib.hid hr
  have HB := Lib.hid (below_one w (.cells #[.map (some b)] 67))
  clear h hr hl
  go_enter Tryz.func38, Tryz.ntmps38
  go_wp2_with fail
  refine HK.mono ?_
  rintro e w1 ⟨rfl, rfl⟩
  go_wp2_with fail
  refine HS.mono ?_
  rintro e w2 ⟨v, ss, rfl, hp, hrow, _, hb⟩
  have hlen := hp.length_eq
  rw [dirD_keys, List.length_map] at hlen
  rw [dirD_sorted fb HR.out hp, hlen] at hrow
  have HROW := Lib.hid hrow
  clear hrow
  go_wp2
  go_ret
  exact ⟨v, rfl, ownsRow_base_a HROW.out (by simp), HB.out.trans (hb.mono (by simp))⟩
end Go.Proofs.YtmgolnlkepiocaaGreat.Dk

namespace Go.Proofs.YtmgolnlkepiocaaGreat.Dk
open Go.RowKit Go.Maps
set_option linter.unusedVariables false

theorem ent_info : (Tryz.prog.info? 100).map (fun i => (i.zero, i.size, i.bytes)) = some (some (.agg #[.string ByteArray.empty, .string ByteArray.empty, .pointer none]), 3, 40) := by kernel_rfl
theorem waitC_snoc (fb : Nat → Nat) (es : List (List UInt8 × List UInt8 × Option Nat)) (x : List UInt8 × List UInt8 × Option Nat) : waitC fb (es ++ [x]) = waitC fb es ++ entC fb x := by simp [waitC]
theorem entC_one (fb : Nat → Nat) (x : List UInt8 × List UInt8 × Option Nat) : ∀ u ∈ entC fb x, u.oneCell' = true := by
  intro u hu
  unfold entC at hu
  rcases List.mem_cons.1 hu with rfl | hu
  · rfl
  · rcases List.mem_cons.1 hu with rfl | hu
    · rfl
    · rcases List.mem_cons.1 hu with rfl | hu
      · cases x.2.2 <;> rfl
      · cases hu
section
variable (w : World)
theorem run_app_ent (base ty : Nat) (v : Value) (fb : Nat → Nat) (es : List (List UInt8 × List UInt8 × Option Nat)) (n : Nat) (hown : w.ownsRow base 100 3 v n (waitC fb es)) (x : List UInt8 × List UInt8 × Option Nat) (g : Nat) (hg : Row w g 100 (entC fb x).toArray) (hn : n ≤ 1000000) (hbase : base ≤ w.heap.size) :
    ∃ g' cap w', (Builtin.append_ #[68, 68] ty #[v, .slice (some ⟨g, 0, none⟩) 1 1]).run Tryz.prog w = .ok (.slice (some ⟨g', 0, none⟩) (n + 1) cap) w' ∧ w'.ownsRow base 100 3 (.slice (some ⟨g', 0, none⟩) (n + 1) cap) (n + 1) (waitC fb (es ++ [x])) ∧ w.grownBy w' v.ownBlock ∧ (v.ownBlock = some g' ∨ g' = w.heap.size) := by
  obtain ⟨i0, hi, hz0, hz1, hz2⟩ := info_parts ent_info
  obtain ⟨v', w', h1, h2, h3, _, h5⟩ := run_append_own_at (P := Tryz.prog) w base 68 ty 100 i0 _ 3 40 Tryz.underlying68 hi hz0 hz1 hz2 rfl (by omega) v n (waitC fb es) hown ⟨g, 0, none⟩ 1 1 (entC fb x) rfl
    (by
      intro j u hj
      rw [add_at, Nat.zero_add, hg.cell j]
      simpa using hj) (entC_one fb x) (by simp only [maxLen]; omega) (by omega) hbase
  rw [← waitC_snoc] at h2
  rcases h2.2 with ⟨_, h0⟩ | ⟨g', cap, cur, hv, rest⟩
  · omega
  · subst hv
    refine ⟨g', cap, w', h1, h2, h3, ?_⟩
    rcases h5 with h5 | h5
    · exact .inl h5.symm
    · simp only [Value.ownBlock, Option.some.injEq] at h5
      exact .inr h5
theorem wp_app_ent {o : Oper} {a : Act} {K : Act → World → Prop} {Q : Exit → Act → World → Prop} (s y : Operand)
    (ho : o.op = .call { callee := .builtin .append, args := #[s, y], argTypes := #[68, 68] })
    (base : Nat) (v : Value) (fb : Nat → Nat) (es : List (List UInt8 × List UInt8 × Option Nat)) (n : Nat) (hs : a.eval s = v) (hown : w.ownsRow base 100 3 v n (waitC fb es)) (x : List UInt8 × List UInt8 × Option Nat) (g : Nat) (hy : a.eval y = .slice (some ⟨g, 0, none⟩) 1 1) (hg : Row w g 100 (entC fb x).toArray) (hn : n ≤ 1000000) (hbase : base ≤ w.heap.size)
    (h : ∀ g' cap w', w'.ownsRow base 100 3 (.slice (some ⟨g', 0, none⟩) (n + 1) cap) (n + 1) (waitC fb (es ++ [x])) → w.grownBy w' v.ownBlock → (v.ownBlock = some g' ∨ g' = w.heap.size) → K (a.put o.dst (.slice (some ⟨g', 0, none⟩) (n + 1) cap)) w') : o.wp Tryz.prog a w K Q := by
  obtain ⟨g', cap, w', hr, h2, h3, h4⟩ := run_app_ent w base o.type v fb es n hown x g hg hn hbase
  unfold Oper.wp execOp
  simp only [ho, resolve, invoke, builtin, Sem.run_bind, Sem.run_pure, Result.andThen_ok, List.map_toArray, List.map_cons, List.map_nil, hs, hy, hr]
  exact h g' cap w' h2 h3 h4
theorem step_app_ent {ops : Array Oper} {o : Oper} {a : Act} {K : Act → World → Prop} {Q : Exit → Act → World → Prop} {E : Prop} (hgd : o.guard = none) (s y : Operand)
    (ho : o.op = .call { callee := .builtin .append, args := #[s, y], argTypes := #[68, 68] })
    (base : Nat) (v : Value) (fb : Nat → Nat) (es : List (List UInt8 × List UInt8 × Option Nat)) (n : Nat) (hs : a.eval s = v) (hown : w.ownsRow base 100 3 v n (waitC fb es)) (x : List UInt8 × List UInt8 × Option Nat) (g : Nat) (hy : a.eval y = .slice (some ⟨g, 0, none⟩) 1 1) (hg : Row w g 100 (entC fb x).toArray) (hn : n ≤ 1000000) (hbase : base ≤ w.heap.size)
    (h : ∀ g' cap w', w'.ownsRow base 100 3 (.slice (some ⟨g', 0, none⟩) (n + 1) cap) (n + 1) (waitC fb (es ++ [x])) → w.grownBy w' v.ownBlock → (v.ownBlock = some g' ∨ g' = w.heap.size) → K (a.put o.dst (.slice (some ⟨g', 0, none⟩) (n + 1) cap)) w') :
    if Region.wanted o (yielded ops a.tmps) = true then Oper.wp Tryz.prog o a w K Q else E := by
  have hw : Region.wanted o (yielded ops a.tmps) = true := by simp [Region.wanted, hgd]
  rw [if_pos hw]
  exact wp_app_ent w s y ho base v fb es n hs hown x g hy hg hn hbase h
end
/-- Two blocks of different make are two. -/
theorem row_ne {w : World} {g h : Nat} {t u : TypeId} {cs ds : Array Value} (hg : Row w g t cs) (hh : Row w h u ds) (ht : t ≠ u) : g ≠ h := by
  intro e
  subst e
  unfold Row at hg hh
  rw [hg] at hh
  injection hh with hh
  injection hh with h1 h2 h3
  exact ht h2
theorem row_ne_dir {w : World} {g b : Nat} {t : TypeId} {cs : Array Value} {fb : Nat → Nat} {l : List Ent} (hg : Row w g t cs) (hd : DirAt w fb b l) : g ≠ b := by
  intro e
  subst e
  obtain ⟨es, clock, hb⟩ := hd.map
  unfold Row at hg
  rw [hg] at hb
  cases hb
theorem row_ne_rows {w : World} {g base e n size : Nat} {t : TypeId} {cs : Array Value} {v : Value} {xs : List Value} (hg : Row w g t cs) (hv : w.ownsRow base e size v n xs) (ht : t ≠ e) : v.ownBlock ≠ some g := by
  intro h
  rcases hv.2 with ⟨rfl, _⟩ | ⟨g', cap, cur, rfl, _, hh, _⟩
  · cases h
  · simp only [Value.ownBlock, Option.some.injEq] at h
    subst h
    exact row_ne hg (show Row w g' e cur from hh) ht rfl
theorem dir_ne_rows {w : World} {b base e n size : Nat} {fb : Nat → Nat} {l : List Ent} {v : Value} {xs : List Value} (hd : DirAt w fb b l) (hv : w.ownsRow base e size v n xs) : v.ownBlock ≠ some b := by
  intro h
  rcases hv.2 with ⟨rfl, _⟩ | ⟨g', cap, cur, rfl, _, hh, _⟩
  · cases h
  · simp only [Value.ownBlock, Option.some.injEq] at h
    subst h
    exact row_ne_dir (show Row w g' e cur from hh) hd rfl
theorem rows_ne {w : World} {base e n size base' e' n' size' : Nat} {v v' : Value} {xs xs' : List Value} (hv : w.ownsRow base e size v n xs) (hv' : w.ownsRow base' e' size' v' n' xs') (ht : e ≠ e') : ∀ k, v.ownBlock = some k → v'.ownBlock ≠ some k := by
  intro k hk
  rcases hv.2 with ⟨rfl, _⟩ | ⟨g', cap, cur, rfl, _, hh, _⟩
  · cases hk
  · simp only [Value.ownBlock, Option.some.injEq] at hk
    subst hk
    exact row_ne_rows (show Row w g' e cur from hh) hv' ht
end Go.Proofs.YtmgolnlkepiocaaGreat.Dk

namespace Go.Proofs.YtmgolnlkepiocaaGreat.Dk
open Go.RowKit Go.Maps
set_option linter.unusedVariables false

theorem fsettle_prog {w : World} {g n c : Nat} {B : Option Addr} {s : Int} (hX : Row w g 131 #[.slice B n c, .int .i64 s]) :
    Calls Tryz.prog 67 #[.pointer (some ⟨g, 0, none⟩)] w fun e w' => e = .returned (.tuple #[]) ∧ w.setCell ⟨g, 1, none⟩ (.int .i64 n) = w' := by
  have c0 : w.cell? ⟨g, 0, none⟩ = some (.slice B n c) := (hX.cell 0).trans rfl
  have c1 : w.cell? ⟨g, 1, none⟩ = some (.int .i64 s) := (hX.cell 1).trans rfl
  have f1 := hX.frozen 1
  clear hX
  go_enter Tryz.func67, Tryz.ntmps67
  go_wp2
  go_end0
  exact ⟨rfl, rfl⟩

theorem settle_prog {w : World} {X dm bm : Nat} {wv : Value} {fb : Nat → Nat} {l : List Ent} {d : Dsk} (hX : Row w X 70 (diskC d dm bm wv)) (hd : DirAt w fb dm l) :
    Calls Tryz.prog 40 #[.pointer (some ⟨X, 0, none⟩)] w fun e w' => e = .returned (.tuple #[]) ∧ Row w' X 70 (diskC d dm w.heap.size (.slice none 0 0)) ∧ DirAt w' fb dm l ∧ DirAt w' fb w.heap.size l ∧ Kept (fun k => k = X) w w' := by
  have c1 : w.cell? ⟨X, 1, none⟩ = some (.map (some dm)) := (hX.cell 1).trans rfl
  have HC := Lib.hid (clone_dir hd)
  have HX := Lib.hid hX
  have HD := Lib.hid hd
  have hlt := hX.lt
  have hXd : dm ≠ X := by
    intro e
    subst e
    obtain ⟨es, clock, hb⟩ := hd.map
    unfold Row at hX
    rw [hX] at hb
    cases hb
  clear hX hd
  go_enter Tryz.func40, Tryz.ntmps40
  go_wp2_with (go_at_call 70; refine HC.out.mono ?_; rintro e w1 ⟨rfl, hD1, hb1, hs1⟩; have hX1 := HX.out.below hb1 hlt; have f2 := hX1.frozen 2; have f3 := hX1.frozen 3; have q2 : w1.cell? ⟨X, 2, none⟩ = some (.map (some bm)) := (hX1.cell 2).trans rfl; have q3 : w1.cell? ⟨X, 3, none⟩ = some wv := (hX1.cell 3).trans rfl; have HX1 := Lib.hid hX1; have HD1 := Lib.hid hD1; have HB1 := Lib.hid hb1; clear hX1 hD1 hb1)
  go_end0
  refine ⟨rfl, (HX1.out.setAt 2 (.map (some w.heap.size))).setAt 3 (.slice none 0 0), ?_, ?_, ((Kept.below (S := fun k => k = X) HB1.out).set (p := ⟨X, 2, none⟩) (.inl rfl) _).set (p := ⟨X, 3, none⟩) (.inl rfl) _⟩
  · refine HD.out.block ?_
    rw [Below.heap_setCell _ _ _ _ hXd, Below.heap_setCell _ _ _ _ hXd]
    exact HB1.out.block dm HD.out.lt
  · refine HD1.out.block ?_
    rw [Below.heap_setCell _ _ _ _ (by show w.heap.size ≠ X; omega), Below.heap_setCell _ _ _ _ (by show w.heap.size ≠ X; omega)]

set_option maxHeartbeats 2000000 in
set_option maxRecDepth 20000 in
/-- The closure of a change of the directory: the entry is done, and waits. -/
theorem enter_do {w : World} {X dm bm b1 b2 n : Nat} {wv : Value} {fb : Nat → Nat} {l : List Ent} {d : Dsk} {es : List (List UInt8 × List UInt8 × Option Nat)} (hX : Row w X 70 (diskC d dm bm wv)) (hd : DirAt w fb dm l) (hr : Rises l) (hl : l.length ≤ 1000) (hw : w.ownsRow 0 100 3 wv n (waitC fb es)) (hn : n ≤ 1000000)
    (x : List UInt8 × List UInt8 × Option Nat) (h1 : x.1.length ≤ 1000) (h2 : x.2.1.length ≤ 1000)
    (hb1 : Row w b1 100 (entC fb x).toArray) (hb2 : Row w b2 23 #[.pointer (some ⟨X, 0, none⟩)]) (hbw : wv.ownBlock ≠ some b1) :
    Calls Tryz.prog 133 #[.pointer (some ⟨b1, 0, none⟩), .pointer (some ⟨b2, 0, none⟩)] w fun e w' => e = .returned (.tuple #[]) ∧ ∃ g' cap, Row w' X 70 (diskC d dm bm (.slice (some ⟨g', 0, none⟩) (n + 1) cap)) ∧ DirAt w' fb dm (progStep l x) ∧
      w'.ownsRow 0 100 3 (.slice (some ⟨g', 0, none⟩) (n + 1) cap) (n + 1) (waitC fb (es ++ [x])) ∧ Kept (fun k => k = X ∨ k = dm ∨ wv.ownBlock = some k) w w' ∧ (wv.ownBlock = some g' ∨ w.heap.size ≤ g') := by
  have HCH := Lib.hid (change_prog (w := w.drew) hd hr (by omega) x (by omega) (by omega))
  have c1 : w.cell? ⟨X, 1, none⟩ = some (.map (some dm)) := (hX.cell 1).trans rfl
  have e0 : w.cell? ⟨b1, 0, none⟩ = some (.string (txt x.1)) := (hb1.cell 0).trans rfl
  have e1 : w.cell? ⟨b1, 1, none⟩ = some (.string (txt x.2.1)) := (hb1.cell 1).trans rfl
  have e2 : w.cell? ⟨b1, 2, none⟩ = some (fileV fb x.2.2) := (hb1.cell 2).trans rfl
  have p0 : w.cell? ⟨b2, 0, none⟩ = some (.pointer (some ⟨X, 0, none⟩)) := (hb2.cell 0).trans rfl
  have HX := Lib.hid hX
  have Hb1 := Lib.hid hb1
  have Hb2 := Lib.hid hb2
  have HW := Lib.hid hw
  have n1 := row_ne_dir hX hd
  have n2 := row_ne_dir hb1 hd
  have n3 := row_ne_dir hb2 hd
  have n4 := dir_ne_rows hd hw
  have n5 := row_ne hX hb1 (by decide)
  have n6 := row_ne hX hb2 (by decide)
  have n7 := row_ne_rows hX hw (by decide)
  have n8 := row_ne_rows hb2 hw (by decide)
  have lX := hX.lt
  have l1 := hb1.lt
  have l2 := hb2.lt
  have ld := hd.lt
  have HLW := Lib.hid (fun k hk => (World.ownsRow.lt hw k hk).2)
  have HE := Lib.hid (show (entC fb x) = [.string (txt x.1), .string (txt x.2.1), fileV fb x.2.2] from rfl)
  generalize fileV fb x.2.2 = fv at *
  have HN := Lib.hid hn
  clear hX hb1 hb2 hd hr hl h1 h2 hw hn
  go_enter Tryz.func133, Tryz.ntmps133
  go_wp2
  go_still_tail 5, (by kernel_rfl)
  change wpList _ _ _ _ _ w.drew
  have hsz : w.drew.heap.size = w.heap.size := rfl
  go_wp2_with (go_at_call 37; refine HCH.out.mono ?_; rintro e w1 ⟨rfl, hD1, hK1⟩)
  have hK1' : Kept (fun k => k = dm) w w1 := ⟨hK1.os, hK1.tape, hK1.output, hK1.size, hK1.block⟩
  have s1 := hK1'.size
  have hX1 := row_move HX.out (hK1'.block X lX n1)
  have hb11 := row_move Hb1.out (hK1'.block b1 l1 n2)
  have hb21 := row_move Hb2.out (hK1'.block b2 l2 n3)
  have hw1 := rows_move HW.out fun k hk => hK1'.block k (HLW.out k hk) (fun e => n4 (by rw [hk, e]))
  rw [HE.out] at hb11
  have q3 : w1.cell? ⟨X, 3, none⟩ = some wv := (hX1.cell 3).trans rfl
  have f0 : w1.cell? ⟨b1, 0, none⟩ = some (.string (txt x.1)) := (hb11.cell 0).trans rfl
  have f1 : w1.cell? ⟨b1, 1, none⟩ = some (.string (txt x.2.1)) := (hb11.cell 1).trans rfl
  have f2 : w1.cell? ⟨b1, 2, none⟩ = some fv := (hb11.cell 2).trans rfl
  have g0 : w1.cell? ⟨b2, 0, none⟩ = some (.pointer (some ⟨X, 0, none⟩)) := (hb21.cell 0).trans rfl
  have HX1 := Lib.hid (show ∀ o, Row (w1.alloc o).drew X 70 (diskC d dm bm wv) from fun o => hX1.alloc o)
  have HB2 := Lib.hid (show ∀ o, Row (w1.alloc o).drew b2 23 #[.pointer (some ⟨X, 0, none⟩)] from fun o => hb21.alloc o)
  have HB1 := Lib.hid (show ∀ o, Row (w1.alloc o).drew b1 100 #[.string (txt x.1), .string (txt x.2.1), fv] from fun o => hb11.alloc o)
  have HW1 := Lib.hid (show ∀ o, (w1.alloc o).drew.ownsRow 0 100 3 wv n (waitC fb es) from fun o => World.ownsRow.alloc hw1 o)
  have HR1 := Lib.hid (show Row (w1.alloc (.cells #[.string (txt x.1), .string (txt x.2.1), fv] 100)).drew w1.heap.size 100 (entC fb x).toArray by rw [HE.out]; exact Row.new w1 _ _)
  have q3a : ∀ o, (w1.alloc o).cell? ⟨X, 3, none⟩ = some wv := fun o => ((hX1.alloc o).cell 3).trans rfl
  have f0a : ∀ o, (w1.alloc o).cell? ⟨b1, 0, none⟩ = some (.string (txt x.1)) := fun o => ((hb11.alloc o).cell 0).trans rfl
  have f1a : ∀ o, (w1.alloc o).cell? ⟨b1, 1, none⟩ = some (.string (txt x.2.1)) := fun o => ((hb11.alloc o).cell 1).trans rfl
  have f2a : ∀ o, (w1.alloc o).cell? ⟨b1, 2, none⟩ = some fv := fun o => ((hb11.alloc o).cell 2).trans rfl
  have g0a : ∀ o, (w1.alloc o).cell? ⟨b2, 0, none⟩ = some (.pointer (some ⟨X, 0, none⟩)) := fun o => ((hb21.alloc o).cell 0).trans rfl
  have HD1 := Lib.hid hD1
  have HK1 := Lib.hid hK1'
  clear hX1 hb11 hb21 hw1 hD1 hK1 hK1' HCH e0 e1 e2 p0 c1
  have fin := Lib.hid (show ∀ (g' cap : Nat) (w2 : World), Row w2 X 70 (diskC d dm bm wv) → w2.ownsRow 0 100 3 (.slice (some ⟨g', 0, none⟩) (n + 1) cap) (n + 1) (waitC fb (es ++ [x])) → (w1.alloc (.cells #[.string (txt x.1), .string (txt x.2.1), fv] 100)).drew.grownBy w2 wv.ownBlock → (wv.ownBlock = some g' ∨ g' = (w1.alloc (.cells #[.string (txt x.1), .string (txt x.2.1), fv] 100)).drew.heap.size) →
      (∃ g'' cap', Row (w2.setCell ⟨X, 3, none⟩ (.slice (some ⟨g', 0, none⟩) (n + 1) cap)) X 70 (diskC d dm bm (.slice (some ⟨g'', 0, none⟩) (n + 1) cap')) ∧ DirAt (w2.setCell ⟨X, 3, none⟩ (.slice (some ⟨g', 0, none⟩) (n + 1) cap)) fb dm (progStep l x) ∧
        (w2.setCell ⟨X, 3, none⟩ (.slice (some ⟨g', 0, none⟩) (n + 1) cap)).ownsRow 0 100 3 (.slice (some ⟨g'', 0, none⟩) (n + 1) cap') (n + 1) (waitC fb (es ++ [x])) ∧ Kept (fun k => k = X ∨ k = dm ∨ wv.ownBlock = some k) w (w2.setCell ⟨X, 3, none⟩ (.slice (some ⟨g', 0, none⟩) (n + 1) cap)) ∧ (wv.ownBlock = some g'' ∨ w.heap.size ≤ g'')) by
    intro g' cap w2 h1 h2 h3 h4
    have hdl := HD1.out.lt
    have hs3 := h3.size
    have K1 : Kept (fun k => k = X ∨ k = dm ∨ wv.ownBlock = some k) w (w1.alloc (.cells #[.string (txt x.1), .string (txt x.2.1), fv] 100)).drew := by
      have K0 : Kept (fun k => k = X ∨ k = dm ∨ wv.ownBlock = some k) w w1 := HK1.out.mono fun k hk => Or.inr (Or.inl hk)
      have K0a := K0.alloc (.cells #[.string (txt x.1), .string (txt x.2.1), fv] 100)
      exact ⟨K0a.os, K0a.tape, K0a.output, K0a.size, K0a.block⟩
    refine ⟨g', cap, h1.setAt 3 _, ?_, ?_, ?_, ?_⟩
    · refine HD1.out.block ?_
      rw [Below.heap_setCell _ _ _ _ (Ne.symm n1)]
      exact (h3.block dm (by show dm < (w1.alloc _).heap.size; simp; omega) (fun e => n4 e.symm)).trans (Below.heap_alloc _ _ _ hdl)
    · refine rows_move h2 fun k hk => Below.heap_setCell _ _ _ _ ?_
      rintro rfl
      exact row_ne_rows h1 h2 (by decide) hk
    · exact (K1.trans (Kept.grown h3 fun k hk => hk) fun i hi => .inl (.inr (.inr hi))).set (p := ⟨X, 3, none⟩) (.inl (.inl rfl)) _
    · rcases h4 with h4 | h4
      · exact .inl h4
      · refine .inr ?_
        rw [h4]
        show w.heap.size ≤ (w1.alloc _).heap.size
        simp
        omega)
  go_wp2
  go_region_law
    (first
      | (refine step_app_ent _ rfl (.tmp 12) (.tmp 14) rfl 0 wv fb es n rfl (HW1.out _) x w1.heap.size rfl HR1.out HN.out (Nat.zero_le _) ?_
         intro g' cap w2 hown2 hg2 hat2
         have hX2 : Row w2 X 70 (diskC d dm bm wv) := grown_row (HX1.out _) hg2 (fun e => n7 e.symm)
         have y0 : w2.cell? ⟨b2, 0, none⟩ = some (.pointer (some ⟨X, 0, none⟩)) := ((grown_row (HB2.out _) hg2 (fun e => n8 e.symm)).cell 0).trans rfl
         have r1 := grown_row (HB1.out _) hg2 (fun e => hbw e.symm)
         have y5 : w2.cell? ⟨b1, 0, none⟩ = some (.string (txt x.1)) := (r1.cell 0).trans rfl
         have y6 : w2.cell? ⟨b1, 1, none⟩ = some (.string (txt x.2.1)) := (r1.cell 1).trans rfl
         have y7 : w2.cell? ⟨b1, 2, none⟩ = some fv := (r1.cell 2).trans rfl
         have y3 : w2.cell? ⟨X, 3, none⟩ = some wv := (hX2.cell 3).trans rfl
         have z3 := hX2.frozen 3
         have HX2 := Lib.hid hX2
         have HO2 := Lib.hid hown2
         have HG2 := Lib.hid hg2
         have HA2 := Lib.hid hat2
         clear hX2 hown2 hg2 hat2 r1))
  all_goals
    go_end0
    exact ⟨rfl, fin.out _ _ _ HX2.out HO2.out HG2.out HA2.out⟩
end Go.Proofs.YtmgolnlkepiocaaGreat.Dk

namespace Go.Proofs.YtmgolnlkepiocaaGreat.Dk
open Go.RowKit Go.Maps
set_option linter.unusedVariables false

/-- Numbers that stay small. -/
structure Few (d : Dsk) : Prop where
  count : d.count ≤ 1000
  wait : d.wait.length ≤ 1000
  left : d.left ≤ 9223372036854775807
theorem lacking_none {d : Dsk} (h : Fine d) : lacking (live d) [] = live d := by
  unfold lacking
  rw [List.filter_eq_self]
  intro x hx
  have := (h.live_in x hx).2
  cases hn : x.name with
  | nil => rw [hn] at this; cases this
  | cons a r => simp
theorem prog_step {d : Dsk} (h : Fine d) (s : Stp) : progStep (live d) (entOf (live d) s) = stepDir (live d) s := by
  cases s with
  | lay n f =>
    show put (lacking (live d) []) ⟨n, f⟩ = put (live d) ⟨n, f⟩
    rw [lacking_none h]
  | move n t => rfl
  | take n => rfl
theorem entOf_small {l : List Ent} {s : Stp} (h : match s with | .lay n _ => n.length ≤ 24 | .move n t => n.length ≤ 24 ∧ t.length ≤ 24 | .take n => n.length ≤ 24) : (entOf l s).1.length ≤ 1000 ∧ (entOf l s).2.1.length ≤ 1000 := by
  cases s with
  | lay n f => exact ⟨by simp [entOf], by simp only [entOf]; simp only at h; omega⟩
  | move n t => simp only [entOf]; simp only at h; omega
  | take n => simp only at h; exact ⟨by simp only [entOf]; omega, by simp [entOf]⟩
section
variable {w : World} {X dm bm : Nat} {wv : Value} {fb : Nat → Nat} {vb : Nat → Value} {d : Dsk}
theorem DiskIn.apart (h : DiskIn w X dm bm wv fb vb d) : X ≠ dm ∧ X ≠ bm ∧ wv.ownBlock ≠ some X ∧ wv.ownBlock ≠ some dm ∧ wv.ownBlock ≠ some bm ∧ (∀ i, i < d.files.length → fb i ≠ X ∧ fb i ≠ dm ∧ fb i ≠ bm ∧ wv.ownBlock ≠ some (fb i) ∧
    (vb i).ownBlock ≠ some X ∧ (vb i).ownBlock ≠ some dm ∧ (vb i).ownBlock ≠ some bm ∧ (∀ k, wv.ownBlock = some k → (vb i).ownBlock ≠ some k) ∧ ∀ j, j < d.files.length → (vb i).ownBlock ≠ some (fb j)) :=
  ⟨row_ne_dir h.row h.dir, row_ne_dir h.row h.base, row_ne_rows h.row h.wait (by decide), dir_ne_rows h.dir h.wait, dir_ne_rows h.base h.wait, fun i hi =>
    ⟨row_ne (h.file i hi) h.row (by decide), row_ne_dir (h.file i hi) h.dir, row_ne_dir (h.file i hi) h.base, row_ne_rows (h.file i hi) h.wait (by decide),
      row_ne_rows h.row (h.byts i hi) (by decide), dir_ne_rows h.dir (h.byts i hi), dir_ne_rows h.base (h.byts i hi), rows_ne h.wait (h.byts i hi) (by decide), fun j hj => row_ne_rows (h.file j hj) (h.byts i hi) (by decide)⟩⟩
/-- What is left of a disk when its struct, its directory and its waiting row alone have turned. -/
theorem DiskIn.entered (h : DiskIn w X dm bm wv fb vb d) {w' : World} {wv' : Value} {d' : Dsk} (hr : Row w' X 70 (diskC d' dm bm wv')) (hd : DirAt w' fb dm (live d')) (hw : w'.ownsRow 0 100 3 wv' d'.wait.length (waitC fb (entsOf d'.base d'.wait)))
    (hb : d'.base = d.base) (hfs : d'.files = d.files) (hK : Kept (fun k => k = X ∨ k = dm ∨ wv.ownBlock = some k) w w') : DiskIn w' X dm bm wv' fb vb d' := by
  obtain ⟨a1, a2, a3, a4, a5, a6⟩ := h.apart
  refine ⟨hr, hd, ?_, h.ne, hw, ?_, ?_, ?_, ?_⟩
  · rw [hb]
    exact h.base.block (hK.block bm h.base.lt (by rintro (e | e | e); exact a2 e.symm; exact h.ne e.symm; exact a5 e))
  · intro i hi
    rw [hfs] at hi ⊢
    obtain ⟨b1, b2, b3, b4, _⟩ := a6 i hi
    exact row_move (h.file i hi) (hK.block _ (h.file i hi).lt (by rintro (e | e | e); exact b1 e; exact b2 e; exact b4 e))
  · intro i hi
    rw [hfs] at hi ⊢
    obtain ⟨_, _, _, _, b5, b6, b7, b8, _⟩ := a6 i hi
    exact own_move (h.byts i hi) fun k hk => hK.block _ (World.ownsRow.lt (h.byts i hi) k hk).2 (by rintro (e | e | e); (subst e; exact b5 hk); (subst e; exact b6 hk); exact b8 k e hk)
  · rw [hfs]
    exact h.fbs
  · rw [hfs]
    exact h.vbs
theorem power_wait {d : Dsk} (h : (power d).2 = 0) (s : Stp) : live { (power d).1 with wait := d.wait ++ [s] } = stepDir (live d) s := by
  obtain ⟨_, _, _, _, _, b5, _, _⟩ := power_ok h
  show dirOf (power d).1.base (d.wait ++ [s]) = _
  rw [b5, dirOf_snoc]
  rfl

set_option maxRecDepth 20000 in
theorem enter_no (h : DiskIn w X dm bm wv fb vb d) (hp : (power d).2 ≠ 0) (x : List UInt8 × List UInt8 × Option Nat) :
    Calls Tryz.prog 114 #[.pointer (some ⟨X, 0, none⟩), .agg #[.string (txt x.1), .string (txt x.2.1), fileV fb x.2.2]] w fun e w' => e = .returned (.int .i64 6) ∧ Row w' X 70 (diskC (power d).1 dm bm wv) ∧ Kept (fun k => k = X) w w' := by
  generalize fileV fb x.2.2 = fv
  have HD := fun v => do_no ((h.row.alloc (.cells #[.pointer (some ⟨X, 0, none⟩)] 23)).alloc (.cells #[.string (txt x.1), .string (txt x.2.1), fv] 100)) hp v
  have HK := Lib.hid (((Kept.refl (fun k => k = X) w).alloc (.cells #[.pointer (some ⟨X, 0, none⟩)] 23)).alloc (.cells #[.string (txt x.1), .string (txt x.2.1), fv] 100))
  have hmf : ∀ (fn : Fn) (first cap : Array Value) (w : World), (Instr.makeFunc fn first cap).run Tryz.prog w = .ok (.func fn first cap) w := fun _ _ _ _ => rfl
  have HDH := Lib.hid HD
  clear h hp HD
  go_enter Tryz.func114, Tryz.ntmps114
  go_wp2_with fail
  refine (HDH.out _).mono ?_
  rintro e w1 ⟨rfl, h1, h2⟩
  have H1 := Lib.hid h1
  have H2 := Lib.hid h2
  clear h1 h2
  go_wp2
  go_ret
  exact ⟨rfl, H1.out, HK.out.trans H2.out fun i hi => .inl hi⟩

set_option maxRecDepth 20000 in
theorem enter_ok (h : DiskIn w X dm bm wv fb vb d) (hF : Fine d) (hq : Few d) (hp : (power d).2 = 0) (s : Stp) (hs : match s with | .lay n _ => n.length ≤ 24 | .move n t => n.length ≤ 24 ∧ t.length ≤ 24 | .take n => n.length ≤ 24) :
    Calls Tryz.prog 114 #[.pointer (some ⟨X, 0, none⟩), .agg #[.string (txt (entOf (live d) s).1), .string (txt (entOf (live d) s).2.1), fileV fb (entOf (live d) s).2.2]] w fun e w' => e = .returned (.int .i64 0) ∧
      ∃ wv', DiskIn w' X dm bm wv' fb vb { (power d).1 with wait := d.wait ++ [s] } ∧ Kept (fun k => k = X ∨ k = dm ∨ wv.ownBlock = some k) w w' ∧ (∀ k, wv'.ownBlock = some k → wv.ownBlock = some k ∨ w.heap.size ≤ k) := by
  obtain ⟨a1, a2, a3, a4, a5, a6⟩ := h.apart
  obtain ⟨sx1, sx2⟩ := entOf_small (l := live d) hs
  obtain ⟨_, _, _, _, p5, p6, p7, _⟩ := power_ok hp
  have hps := prog_step hF s
  have hlw := power_wait hp s
  generalize hx : entOf (live d) s = x at *
  have hX2 := (h.row.alloc (.cells #[.pointer (some ⟨X, 0, none⟩)] 23)).alloc (.cells #[.string (txt x.1), .string (txt x.2.1), fileV fb x.2.2] 100)
  have hb2 : Row ((w.alloc (.cells #[.pointer (some ⟨X, 0, none⟩)] 23)).alloc (.cells #[.string (txt x.1), .string (txt x.2.1), fileV fb x.2.2] 100)) w.heap.size 23 #[.pointer (some ⟨X, 0, none⟩)] := (Row.new w _ _).alloc _
  have hb1 : Row ((w.alloc (.cells #[.pointer (some ⟨X, 0, none⟩)] 23)).alloc (.cells #[.string (txt x.1), .string (txt x.2.1), fileV fb x.2.2] 100)) (w.heap.size + 1) 100 (entC fb x).toArray := row_at w _ _ _
  have hB : Below w.heap.size w ((w.alloc (.cells #[.pointer (some ⟨X, 0, none⟩)] 23)).alloc (.cells #[.string (txt x.1), .string (txt x.2.1), fileV fb x.2.2] 100)) := (below_one w _).alloc (by simp) _
  have hsz : ((w.alloc (.cells #[.pointer (some ⟨X, 0, none⟩)] 23)).alloc (.cells #[.string (txt x.1), .string (txt x.2.1), fileV fb x.2.2] 100)).heap.size = w.heap.size + 2 := by simp
  have hmf : ∀ (fn : Fn) (first cap : Array Value) (w : World), (Instr.makeFunc fn first cap).run Tryz.prog w = .ok (.func fn first cap) w := fun _ _ _ _ => rfl
  have hlX := h.row.lt
  have hld := h.dir.lt
  have hlw2 := fun k hk => (World.ownsRow.lt h.wait k hk).2
  have HD := Lib.hid (do_ok_enter hX2 hp hF.left hq.left (by have := hq.count; omega) (w.heap.size + 1) w.heap.size
    (fun w' => ∃ wv', DiskIn w' X dm bm wv' fb vb { (power d).1 with wait := d.wait ++ [s] } ∧ Kept (fun k => k = X ∨ k = dm ∨ wv.ownBlock = some k) w w' ∧ (∀ k, wv'.ownBlock = some k → wv.ownBlock = some k ∨ w.heap.size ≤ k))
    (by
      intro w1 hX1 hK1 hs1
      have hd1 : DirAt w1 fb dm (live d) := (h.dir.block (hB.block dm hld)).block (hK1.block dm (by omega) (Ne.symm a1))
      have hw1 := rows_move (rows_move h.wait fun k hk => hB.block k (hlw2 k hk)) (w' := w1) fun k hk => hK1.block k (by have := hlw2 k hk; omega) (by rintro rfl; exact a3 hk)
      have hr1 := row_move hb1 (hK1.block _ (by omega) (by show w.heap.size + 1 ≠ X; omega))
      have hr2 := row_move hb2 (hK1.block _ (by omega) (by show w.heap.size ≠ X; omega))
      refine (enter_do hX1 hd1 hF.live_rises (by have := hF.live_few; omega) hw1 (by have := hq.wait; omega) x sx1 sx2 hr1 hr2 (fun e => by have := hlw2 _ e; omega)).mono ?_
      rintro e w' ⟨he, g', cap, q1, q2, q3, q4, q5⟩
      have hK2 : Kept (fun k => k = X ∨ k = dm ∨ wv.ownBlock = some k) w w' := ((Kept.below hB).trans (hK1.mono fun k hk => (.inl hk : k = X ∨ k = dm ∨ wv.ownBlock = some k)) fun i hi => .inl hi).trans q4 fun i hi => .inl hi
      refine ⟨he, .slice (some ⟨g', 0, none⟩) (d.wait.length + 1) cap, h.entered q1 ?_ ?_ p6 p5 hK2, hK2, ?_⟩
      · rw [hlw, ← hps]
        exact q2
      · show w'.ownsRow 0 _ 3 _ (d.wait ++ [s]).length (waitC fb (entsOf (power d).1.base (d.wait ++ [s])))
        rw [List.length_append, List.length_singleton, p6, entsOf_snoc]
        rw [show entOf (dirOf d.base d.wait) s = x from hx]
        exact q3
      · intro k hk
        simp only [Value.ownBlock, Option.some.injEq] at hk
        subst hk
        rcases q5 with q5 | q5
        · exact .inl q5
        · exact .inr (by omega)))
  generalize fileV fb x.2.2 = fv at *
  clear h hF hq hp hs sx1 sx2 hps hlw hX2 hb2 hb1 hB hsz hx p5 p6 p7 a1 a2 a3 a4 a5 a6 hlX hld hlw2
  go_enter Tryz.func114, Tryz.ntmps114
  go_wp2_with fail
  refine HD.out.mono ?_
  rintro e w1 ⟨rfl, h1⟩
  have H1 := Lib.hid h1
  clear h1
  go_wp2
  go_ret
  exact ⟨rfl, H1.out⟩
end
end Go.Proofs.YtmgolnlkepiocaaGreat.Dk

namespace Go.Proofs.YtmgolnlkepiocaaGreat.Dk
open Go.RowKit Go.Maps
set_option linter.unusedVariables false

set_option maxRecDepth 20000 in
set_option maxHeartbeats 2000000 in
theorem append_do {w : World} {b1 b2 g : Nat} {v : Value} {s : Int} {x l : List UInt8} {A : Option Addr} {c : Nat} (hb1 : Row w b1 98 #[.pointer (some ⟨g, 0, none⟩)]) (hb2 : Row w b2 48 #[.slice A l.length c]) (hg : Row w g 131 #[v, .int .i64 s]) (hv : Own w 0 v x) (hA : Bys w A l) (hn : x.length + l.length ≤ 211106232532992) :
    Calls Tryz.prog 61 #[.pointer (some ⟨b1, 0, none⟩), .pointer (some ⟨b2, 0, none⟩)] w fun e w' => e = .returned (.tuple #[]) ∧ ∃ v', Row w' g 131 #[v', .int .i64 s] ∧ Own w' 0 v' (x ++ l) ∧ Kept (fun k => k = g ∨ v.ownBlock = some k) w w' ∧ (v'.ownBlock = v.ownBlock ∨ v'.ownBlock = some w.heap.size) := by
  obtain ⟨i0, hi, hz0, hz1, hz2⟩ := info_parts u8_info
  obtain ⟨B0, d0, hv0, _, _⟩ := own_slice' hv
  have p1 : w.cell? ⟨b1, 0, none⟩ = some (.pointer (some ⟨g, 0, none⟩)) := (hb1.cell 0).trans rfl
  have p2 : w.cell? ⟨b2, 0, none⟩ = some (.slice A l.length c) := (hb2.cell 0).trans rfl
  have g0 : w.cell? ⟨g, 0, none⟩ = some v := (hg.cell 0).trans rfl
  have HV0 := Lib.hid hv0
  rw [hv0] at g0
  have n1 := row_ne_rows hb1 hv (by decide)
  have n3 := row_ne_rows hg hv (by decide)
  have lg := hg.lt
  have HV : Hid (Own w.drew 0 v x) := Lib.hid hv
  have HA : Hid (Bys w.drew A l) := Lib.hid hA
  have HG : Hid (Row w.drew g 131 #[v, .int .i64 s]) := Lib.hid hg
  have HB1 : Hid (Row w.drew b1 98 #[.pointer (some ⟨g, 0, none⟩)]) := Lib.hid hb1
  have HN := Lib.hid hn
  have fin := Lib.hid (show ∀ (v' : Value) (w2 : World), Own w2 0 v' (x ++ l) → w.drew.grownBy w2 v.ownBlock → (v'.ownBlock = v.ownBlock ∨ v'.ownBlock = some w.drew.heap.size) →
      (∃ v'', Row (w2.setCell ⟨g, 0, none⟩ v') g 131 #[v'', .int .i64 s] ∧ Own (w2.setCell ⟨g, 0, none⟩ v') 0 v'' (x ++ l) ∧ Kept (fun k => k = g ∨ v.ownBlock = some k) w (w2.setCell ⟨g, 0, none⟩ v') ∧ (v''.ownBlock = v.ownBlock ∨ v''.ownBlock = some w.heap.size)) by
    intro v' w2 h1 h2 h3
    have hg2 := grown_row HG.out h2 (fun e => n3 e.symm)
    have K0 : Kept (fun k => k = g ∨ v.ownBlock = some k) w w.drew := ⟨rfl, rfl, rfl, Nat.le_refl _, fun _ _ _ => rfl⟩
    refine ⟨v', (hg2.setAt 0 v'), own_setFar h1 (row_ne_rows hg2 h1 (by decide)) _, (K0.trans (Kept.grown h2 fun k hk => hk) fun i hi => .inl (.inr hi)).set (p := ⟨g, 0, none⟩) (.inl (.inl rfl)) _, h3⟩)
  clear hb1 hb2 hg hv hA hn hv0
  go_enter Tryz.func61, Tryz.ntmps61
  go_wp2
  go_region_law
    (first
      | (refine step_app _ rfl (.tmp 6) (.tmp 7) 48 rfl 0 i0 Tryz.underlying48 hi hz0 hz1 hz2 v x HV0.out.symm HV.out A l c rfl HA.out HN.out (Nat.zero_le _) ?_
         intro v1 w2 hown2 hg2 hat2
         have y0 : w2.cell? ⟨b1, 0, none⟩ = some (.pointer (some ⟨g, 0, none⟩)) := ((grown_row HB1.out hg2 (fun e => n1 e.symm)).cell 0).trans rfl
         have hgr := grown_row HG.out hg2 (fun e => n3 e.symm)
         have y3 : w2.cell? ⟨g, 0, none⟩ = some v := (hgr.cell 0).trans rfl
         have z3 := hgr.frozen 0
         obtain ⟨B1, d1, hv1, _, _⟩ := own_slice' hown2
         have HLX := Lib.hid (show (x ++ l).length = (x ++ l).length from rfl)
         generalize hll : (x ++ l).length = ln at hv1
         subst hv1
         have HO2 := Lib.hid hown2
         have HG2 := Lib.hid hg2
         have HA2 := Lib.hid hat2
         clear hgr hown2 hg2 hat2 hll))
  all_goals
    go_end0
    exact ⟨rfl, fin.out _ _ HO2.out HG2.out HA2.out⟩
end Go.Proofs.YtmgolnlkepiocaaGreat.Dk
