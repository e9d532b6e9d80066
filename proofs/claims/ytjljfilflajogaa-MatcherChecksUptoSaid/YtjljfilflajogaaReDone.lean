/- done and empty of each make of node, as the trees' own doneM and emptyM. -/
import Derived.Test.YtjljfilflajogaaReMem
import Derived.Deep.RegionWith
import Derived.Outline
namespace Go.Proofs.Ytjljfilflajogaa
open Go.RowKit
set_option linter.unusedVariables false

theorem done_atom (sp : List (UInt8 × UInt8)) (neg tk : Bool) : DoneP (.atom sp neg tk) := by
  intro w v M h
  simp only [NodeAt] at h
  obtain ⟨b, A, c, K, rfl, hs, hr, hB, hn, rfl⟩ := h
  refine ⟨_, _, 107, rfl, fun w => m_done_atom b w, enters_of Try.func107 (by kernel_rfl) rfl, ?_⟩
  have c2 : w.cell? ⟨b, 2, none⟩ = some (.bool tk) := hr.cell 2
  go_enter Try.func107, Try.ntmps107
  go_wp2_with fail
  go_ret
  exact ⟨rfl, Below.refl _ _⟩
theorem empty_atom (sp : List (UInt8 × UInt8)) (neg tk : Bool) : EmptyP (.atom sp neg tk) := by
  intro w v M h
  simp only [NodeAt] at h
  obtain ⟨b, A, c, K, rfl, hs, hr, hB, hn, rfl⟩ := h
  refine ⟨_, _, 108, rfl, fun w => m_empty_atom b w, enters_of Try.func108 (by kernel_rfl) rfl, ?_⟩
  go_enter Try.func108, Try.ntmps108
  go_wp2_with fail
  go_ret
  exact ⟨rfl, Below.refl _ _⟩
theorem done_rep (r : Re) (no many : Bool) (ih : DoneP r) : DoneP (.rep r no many) := by
  intro w v M h
  simp only [NodeAt] at h
  obtain ⟨x, rfl, hN⟩ := h
  refine ⟨_, _, 111, rfl, fun w => m_done_rep x no many w, enters_of Try.func111 (by kernel_rfl) rfl, ?_⟩
  obtain ⟨T, y, f, rfl, hm, he, hc⟩ := ih (w.alloc (.cells #[x, .bool no, .bool many] 92)) x M (hN.below (below_one w _))
  have HC := Lib.hid hc
  clear hc hN
  go_enter Try.func111, Try.ntmps111
  go_wp2_with (go_at_fn f; refine HC.out.mono ?_; rintro e w1 ⟨rfl, hb1⟩)
  go_ret
  exact ⟨rfl, below_then (below_one w _) hb1⟩
theorem empty_rep (r : Re) (no many : Bool) (ih : EmptyP r) : EmptyP (.rep r no many) := by
  intro w v M h
  simp only [NodeAt] at h
  obtain ⟨x, rfl, hN⟩ := h
  refine ⟨_, _, 112, rfl, fun w => m_empty_rep x no many w, enters_of Try.func112 (by kernel_rfl) rfl, ?_⟩
  obtain ⟨T, y, f, rfl, hm, he, hc⟩ := ih (w.alloc (.cells #[x, .bool no, .bool many] 92)) x M (hN.below (below_one w _))
  have HC := Lib.hid hc
  clear hc hN
  cases no
  · go_enter Try.func112, Try.ntmps112
    go_wp2_with (go_at_fn f; refine HC.out.mono ?_; rintro e w1 ⟨rfl, hb1⟩)
    go_ret
    exact ⟨by simp [emptyM], below_then (below_one w _) hb1⟩
  · go_enter Try.func112, Try.ntmps112
    go_wp2_with (go_at_fn f; refine HC.out.mono ?_; rintro e w1 ⟨rfl, hb1⟩)
    go_ret
    exact ⟨by simp [emptyM], below_one w _⟩

/-- A suffix, one shorter. -/
theorem drop_at {α : Type} {l : List α} {k : Nat} {r : α} (h : l[k]? = some r) : l.drop k = r :: l.drop (k + 1) := by
  obtain ⟨hk, rfl⟩ := List.getElem?_eq_some_iff.1 h
  exact List.drop_eq_getElem_cons hk
theorem part_at {α : Type} (l : List α) {k : Nat} (h : k < l.length) : ∃ r, l[k]? = some r ∧ r ∈ l := ⟨l[k], List.getElem?_eq_getElem h, List.getElem_mem h⟩

theorem done_alt_ (l : List Re) (ih : ∀ r ∈ l, DoneP r) : DoneP (.alt l) := by
  intro w v M h
  simp only [NodeAt] at h
  obtain ⟨A, c, vs, K, Ms, rfl, hs, hB, hN, hS, rfl⟩ := h
  refine ⟨_, _, 105, rfl, fun w => m_done_alt A l.length c w, enters_of Try.func105 (by kernel_rfl) rfl, ?_⟩
  have HB := Lib.hid hB
  have HN := Lib.hid hN
  have HI := Lib.hid ih
  clear hB hN ih hS
  go_enter Try.func105, Try.ntmps105
  go_wp2_with fail
  go_loopw [7] (fun i wr => ∃ k : Nat, k ≤ l.length ∧ i = .int .i64 (k : Int) ∧ doneAny (l.drop k) = doneAny l ∧ Below w.heap.size w wr) (fun i _ => l.length - (intOf i).toNat)
  case atStart => exact ⟨0, Nat.zero_le _, rfl, rfl, Below.refl _ _⟩
  case round =>
    obtain ⟨k, hk, rfl, hd, hbr⟩ := hrel
    by_cases hlt : k < l.length
    · obtain ⟨r, hr, hmem⟩ := part_at l hlt
      obtain ⟨v, M, hv, hM, hNr⟩ := HN.out.at_ k r hr
      obtain ⟨b, rfl, rfl, hb, hcell⟩ := HB.out.cell hv
      have c0 := (hbr.cell (p := ⟨b, k, none⟩) hb).trans (hcell k v hv)
      obtain ⟨T, y, f, rfl, hm, he, hc⟩ := HI.out r hmem wr v M (hNr.below hbr)
      rw [drop_at hr, doneAny] at hd
      have HD := Lib.hid hd
      have HC := Lib.hid hc
      clear hc hd hNr hcell hv hM hr hmem
      cases hdr : doneM r
      · rw [hdr] at HC HD
        go_wp2_with fail
        go_at_fn f
        refine HC.out.mono ?_
        rintro e w1 ⟨rfl, hb1⟩
        go_wp2_with fail
        exact ⟨⟨k + 1, by omega, by go_num, by rw [← HD.out]; simp, below_then hbr hb1⟩, by simp [intOf]; omega⟩
      · rw [hdr] at HC HD
        go_wp2_with fail
        go_at_fn f
        refine HC.out.mono ?_
        rintro e w1 ⟨rfl, hb1⟩
        go_wp2_with fail
        go_ret
        exact ⟨by simp only [doneM]; rw [← HD.out]; simp, below_then hbr hb1⟩
    · obtain rfl : k = l.length := by omega
      rw [List.drop_length, doneAny] at hd
      have HD := Lib.hid hd
      clear hd
      go_wp2_with fail
      go_ret
      exact ⟨by simp only [doneM]; rw [← HD.out]; rfl, hbr⟩
end Go.Proofs.Ytjljfilflajogaa
