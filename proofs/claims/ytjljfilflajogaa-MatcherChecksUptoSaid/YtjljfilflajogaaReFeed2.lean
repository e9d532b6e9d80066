/- A byte goes through a part that may come again, and through every tree. -/
import Derived.Test.YtjljfilflajogaaReFeed
import Derived.StillTailTactics
namespace Go.Proofs.Ytjljfilflajogaa
open Go.RowKit
set_option linter.unusedVariables false

/-- The walk of a still head, its own unfolding out of sight: where operations are passed over, nothing runs on by itself. -/
theorem still_opaque {P : Program} {ops : Array Oper} {w : World} {Q : Act → Prop} {l : List Oper} {a : Act}
    (h : ∀ Z : List Oper → Act → Prop, (∀ a, Q a → Z [] a) → (∀ o rest a, (∀ K : Act → Prop, (∀ a, Z rest a → K a) → if Region.wanted o (yielded ops a.tmps) then o.still P a w K else K (a.put o.dst undef)) → Z (o :: rest) a) → Z l a) : wpStill P ops w Q l a :=
  h _ (fun _ h => h) (fun _ _ _ h => wpStill_step h)

set_option maxRecDepth 100000 in
set_option maxHeartbeats 2000000 in
theorem feed_rep_ (r : Re) (no many : Bool) (ih : FeedP r) : FeedP (.rep r no many) := by
  intro w v M c b0 h
  simp only [NodeAt, feedM] at h ⊢
  obtain ⟨x, rfl, hN⟩ := h
  have HM := Lib.hid (fun (hk : w.heap.size ∈ M) => Nat.lt_irrefl _ (hN.lt _ hk))
  have hN1 : NodeAt (w.alloc (.cells #[x, .bool no, .bool many] 92)).drew r x M := hN.below (below_one w (.cells #[x, .bool no, .bool many] 92)).drew
  obtain ⟨T, y, f, rfl, hm, he, hc⟩ := done_all r (w.alloc (.cells #[x, .bool no, .bool many] 92)).drew x M hN1
  have R1 : Row (w.alloc (.cells #[.iface T y, .bool no, .bool many] 92)).drew w.heap.size 92 #[.iface T y, .bool no, .bool many] := Row.new w _ _
  have c0 : (w.alloc (.cells #[.iface T y, .bool no, .bool many] 92)).drew.cell? ⟨w.heap.size, 0, none⟩ = some (.iface T y) := R1.cell 0
  have c2 : (w.alloc (.cells #[.iface T y, .bool no, .bool many] 92)).drew.cell? ⟨w.heap.size, 2, none⟩ = some (.bool many) := R1.cell 2
  have HI := Lib.hid ih
  have HC := Lib.hid hc
  have HR := Lib.hid R1
  have HN := Lib.hid hN1
  have HW := Lib.hid (below_one w (.cells #[.iface T y, .bool no, .bool many] 92)).drew
  clear hc R1 hN1 hN ih
  cases b0
  · cases many
    · have HRa := Lib.hid (show Row (w.alloc (.cells #[.iface T y, .bool no, .bool false] 92)) w.heap.size 92 #[.iface T y, .bool no, .bool false] from Row.new w _ _)
      go_enter Try.func54, Try.ntmps54
      go_wp2_with fail
      have k0 : (w.alloc (.cells #[.iface T y, .bool no, .bool false] 92)).cell? ⟨w.heap.size, 0, none⟩ = some (.iface T y) := HRa.out.cell 0
      have k2 : (w.alloc (.cells #[.iface T y, .bool no, .bool false] 92)).cell? ⟨w.heap.size, 2, none⟩ = some (.bool false) := HRa.out.cell 2
      generalize w.alloc (.cells #[.iface T y, .bool no, .bool false] 92) = wa at *
      go_still_tail 13, (by kernel_rfl)
      change wpList _ _ _ _ _ wa.drew
      go_wp2_with (go_at_call 54; refine (HI.out _ _ M c _ HN.out).mono ?_; rintro e w2 ⟨rfl, hn1, ht1⟩; have HN1 := Lib.hid hn1; have HT1 := Lib.hid ht1)
      go_end0
      exact ⟨rfl, ⟨_, rfl, by simpa using HN1.out⟩, (Touch.of_below HW.out).trans HT1.out⟩
    · go_enter Try.func54, Try.ntmps54
      go_wp2_with fail
      go_region_held3 (fun w' => w'.cell? ⟨w.heap.size, 0, none⟩ = some (.iface T y) ∧ w'.cell? ⟨w.heap.size, 2, none⟩ = some (.bool true)) (go_keep)
        (first
          | (go_at_fn f; refine HC.out.mono ?_; rintro e w1 ⟨rfl, hb1⟩; have HB1 := Lib.hid hb1
             have HR1 := Lib.hid (HR.out.below hb1 HR.out.lt)
             have d0 : w1.cell? ⟨w.heap.size, 0, none⟩ = some (.iface T y) := HR1.out.cell 0
             have d2 : w1.cell? ⟨w.heap.size, 2, none⟩ = some (.bool true) := HR1.out.cell 2
             clear hb1)
          | (go_at_call 54; refine (HI.out _ _ M c _ (HN.out.below HB1.out)).mono ?_; rintro e w2 ⟨rfl, hn1, ht1⟩; have HN1 := Lib.hid hn1; have HT1 := Lib.hid ht1
             have e0 : w2.cell? ⟨w.heap.size, 0, none⟩ = some (.iface T y) := (World.cell?_of_block (a := ⟨w.heap.size, 0, none⟩) (ht1.block w.heap.size HR1.out.lt HM.out)).trans d0
             have e2 : w2.cell? ⟨w.heap.size, 2, none⟩ = some (.bool true) := (World.cell?_of_block (a := ⟨w.heap.size, 2, none⟩) (ht1.block w.heap.size HR1.out.lt HM.out)).trans d2
             clear hn1 ht1))
      all_goals
        go_wp2_with fail
        go_end0
        exact ⟨rfl, ⟨_, rfl, by simpa using HN1.out⟩, (Touch.of_below HW.out).trans ((Touch.of_below HB1.out).trans HT1.out)⟩
  · · have HRa := Lib.hid (show Row (w.alloc (.cells #[.iface T y, .bool no, .bool many] 92)) w.heap.size 92 #[.iface T y, .bool no, .bool many] from Row.new w _ _)
      go_enter Try.func54, Try.ntmps54
      go_wp2_with fail
      have k0 : (w.alloc (.cells #[.iface T y, .bool no, .bool many] 92)).cell? ⟨w.heap.size, 0, none⟩ = some (.iface T y) := HRa.out.cell 0
      have k2 : (w.alloc (.cells #[.iface T y, .bool no, .bool many] 92)).cell? ⟨w.heap.size, 2, none⟩ = some (.bool many) := HRa.out.cell 2
      generalize w.alloc (.cells #[.iface T y, .bool no, .bool many] 92) = wa at *
      refine wp_region_still_tail 13 (by kernel_rfl) (by kernel_rfl) ?_
      simp only [List.take_succ_cons, List.take_zero, List.drop_succ_cons, List.drop_zero]
      refine still_opaque (fun Z z0 z1 => ?_)
      iterate 13 (refine z1 _ _ _ (fun K hK => ?_); go_simp; refine hK _ ?_; clear hK K)
      refine z0 _ ?_
      change wpList _ _ _ _ _ wa.drew
      go_wp2_with (go_at_call 54; refine (HI.out _ _ M c _ HN.out).mono ?_; rintro e w2 ⟨rfl, hn1, ht1⟩; have HN1 := Lib.hid hn1; have HT1 := Lib.hid ht1)
      go_end0
      exact ⟨rfl, ⟨_, rfl, by simpa using HN1.out⟩, (Touch.of_below HW.out).trans HT1.out⟩
mutual
theorem feed_all : ∀ (r : Re), FeedP r
  | .atom sp neg tk => feed_atom sp neg tk
  | .row l => feed_row_ l (feed_list l)
  | .alt l => feed_alt_ l (feed_list l)
  | .rep r no many => feed_rep_ r no many (feed_all r)
theorem feed_list : ∀ (l : List Re), ∀ r ∈ l, FeedP r
  | [], r, h => nomatch h
  | r0 :: l, r, h => (List.mem_cons.1 h).elim (fun e => e ▸ feed_all r0) (fun h => feed_list l r h)
end
end Go.Proofs.Ytjljfilflajogaa
