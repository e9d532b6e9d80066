/- A directory's copy, and its names in order: the library's contracts on maps.Clone and slices.Sorted(maps.Keys(m)), laid in ShelfG (shelfg.sh: SlLaysZ.n7 Ggz 7 maps.Keys[..] dk_keys, SlLaysZ.n6 Ggz 6 slices.Sorted[string] dk_sorted, SlLaysM.n6 Slgm 6 slices.Sort[[]string,string] dk_sort, SlLaysW.n5 Slmc 5 maps.Clone[..] dk_clone). -/
import Derived.Test.YtiepepikbophmaaShelfG
import Derived.Test.YtiepepikbophmaaDkStep
import Derived.Sort.OwnSorted
namespace Go.Proofs.Ytiepepikbophmaa
open Go.RowKit Go.Maps Go.Sort Go.Shelf Go.Proofs
set_option linter.unusedVariables false

theorem sorts_str (m : Nat) : AnyZ.SortsIn Try.prog Try.dk_sorted_ren Fence.wide m :=
  ⟨fun blk off cap ss W hH hblk hsz => callsIn_wide.2 (AnyM.slices_Sort_string Try.dk_sort blk off cap ss W hH hblk hsz),
   fun p cap W => callsIn_wide.2 (AnyM.slices_Sort_string_none Try.dk_sort p cap W)⟩
theorem keys_dir (mb : Option Nat) (W : World) : Calls Try.prog 95 #[.map mb] W fun e w' => e = .returned (.func (.func 102) #[] #[.pointer (some ⟨W.heap.size, 0, none⟩)]) ∧ w' = W.alloc (.cells #[.map mb] 70) :=
  callsIn_wide.1 (AnyZ.keys_in Try.dk_keys Fence.wide 5 trivial rfl mb W)
set_option maxHeartbeats 1000000 in
theorem sorted_dir {H : Type} (b nn : Nat) (D0 : DataW H) (R : Value → Option (DataW H × List MemPlace)) (w : World) (hown : w.ownsMap Try.prog 9 R b nn D0) (hmax : Maps.size D0 ≤ maxLen) (hbytes : Maps.size D0 * 16 ≤ 140737488355328) :
    Calls Try.prog 94 #[.func (.func 102) #[] #[.pointer (some ⟨w.heap.size, 0, none⟩)]] (w.alloc (.cells #[.map (some b)] 70)) fun e w' => ∃ (v : Value) (ss : List (List UInt8)), e = .returned v ∧ ss.Perm (strKeys D0) ∧
      w'.ownsRow (w.alloc (.cells #[.map (some b)] 70)).heap.size 9 1 v ss.length ((ss.mergeSort (fun x y => decide (x ≤ y))).map encStr) ∧ (v = .slice none 0 0 ↔ ss = []) ∧ Below (w.alloc (.cells #[.map (some b)] 70)).heap.size (w.alloc (.cells #[.map (some b)] 70)) w' := by
  have hbl := hown.lt
  have hseq : SeqGives Fence.wide 2 Try.prog 102 #[.pointer (some ⟨w.heap.size, 0, none⟩)] encStr (fun ss => ss.Perm (strKeys D0)) (Maps.size D0) (w.alloc (.cells #[.map (some b)] 70)) :=
    AnyZ.keys_gives (ρ := Try.dk_keys_ren) { Try.dk_keys with } Fence.wide _ trivial rfl (by omega) w.heap.size b nn D0 _ (by simp) (by simp) (by
      obtain ⟨es, clock, hb, Ft, hs, hD⟩ := hown
      exact ⟨es, clock, (Below.heap_alloc _ _ b hbl).trans hb, Ft, hs, hD⟩)
  exact callsIn_wide.1 (AnyZ.sorted_in Try.dk_sorted Fence.wide 5 trivial trivial trivial trivial rfl (by omega) (sorts_str _) (enters_of Try.func101 (by kernel_rfl) rfl) 102 #[.pointer (some ⟨w.heap.size, 0, none⟩)] trivial (enters_of Try.func102 (by kernel_rfl) rfl) _ _ hmax hbytes _ hseq)
theorem clone_dir {w : World} {fb : Nat → Nat} {b : Nat} {l : List Ent} (h : DirAt w fb b l) :
    Calls Try.prog 93 #[.map (some b)] w fun e w' => e = .returned (.map (some w.heap.size)) ∧ DirAt w' fb w.heap.size l ∧ Below w.heap.size w w' ∧ w.heap.size < w'.heap.size := by
  have hcon := AnyW.maps_Clone_owns Try.dk_clone 9 ptrR b l.length (dirD fb l) w h
  change Calls Try.prog 93 _ _ _ at hcon
  exact hcon.mono fun e w' ⟨h1, h2, _, h4⟩ => ⟨h1, h2, h4, World.ownsMap.lt h2⟩

/-- The names, in order, as a slice of the call's own. -/
theorem names_prog {w : World} {fb : Nat → Nat} {b : Nat} {l : List Ent} (h : DirAt w fb b l) (hr : Rises l) (hl : l.length ≤ 1000) :
    Calls Try.prog 76 #[.map (some b)] w fun e w' => ∃ v, e = .returned v ∧ w'.ownsRow w.heap.size 9 1 v l.length ((l.map Ent.name).map encStr) ∧ Below w.heap.size w w' := by
  have HS := sorted_dir b l.length (dirD fb l) ptrR w h (by rw [dirD_size]; simp only [maxLen]; omega) (by rw [dirD_size]; omega)
  have HK := keys_dir (some b) w
  have HR := Lib.hid hr
  have HB := Lib.hid (below_one w (.cells #[.map (some b)] 70))
  clear h hr hl
  go_enter Try.func76, Try.ntmps76
  go_wp2_with fail
  refine HK.mono ?_
  rintro e w1 ⟨rfl, rfl⟩
  go_wp2_with fail
  refine HS.mono ?_
  rintro e w2 ⟨v, ss, rfl, hp, hrow, _, hb⟩
  have hlen := hp.length_eq
  rw [dirD_keys, List.length_map] at hlen
  rw [dirD_sorted fb HR.out hp, hlen] at hrow
  have HROW := Lib.hid hrow
  clear hrow
  go_wp2
  go_ret
  exact ⟨v, rfl, ownsRow_base_a HROW.out (by simp), HB.out.trans (hb.mono (by simp))⟩
end Go.Proofs.Ytiepepikbophmaa
