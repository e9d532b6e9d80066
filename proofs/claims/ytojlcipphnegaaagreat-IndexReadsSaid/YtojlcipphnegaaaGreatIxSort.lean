/- A row of texts, and one of numbers, of the call's own, put in order by the library: its contracts in this seat's words (laid in ShelfG: 'SlLaysM.n6 Slgm 6 slices.Sort[[]string,string] ix_sort_s', 'SlLaysM.n5 Slgm 5 slices.Sort[[]int,int] ix_sort_i'). -/
import Derived.Test.YtojlcipphnegaaaGreatShelfG
import Derived.Test.YtojlcipphnegaaaGreatIxLotM
import Derived.Test.YtojlcipphnegaaaGreatIxLotD
import Derived.Sort.OwnSorted
import Derived.Sort.OwnSortedInts
namespace Go.Proofs.YtojlcipphnegaaaGreat
open Go.RowKit Go.Maps Go.Sort Go.Shelf Go.Proofs
set_option linter.unusedVariables false

def bytesOf (s : ByteArray) : List UInt8 := s.data.toList
def mkText (l : List UInt8) : ByteArray := ⟨l.toArray⟩
theorem mk_bytes (s : ByteArray) : mkText (bytesOf s) = s := by unfold mkText bytesOf; rw [Array.toArray_toList]
theorem bytes_mk (l : List UInt8) : bytesOf (mkText l) = l := rfl
theorem map_enc (ts : List ByteArray) : (ts.map bytesOf).map encStr = ts.map Value.string := by
  rw [List.map_map]
  apply List.map_congr_left
  intro s _
  show Value.string (mkText (bytesOf s)) = _
  rw [mk_bytes]
theorem enc_map (ls : List (List UInt8)) : (ls.map mkText).map Value.string = ls.map encStr := by
  rw [List.map_map]
  rfl
theorem less_lt : ∀ (a b : List UInt8), Op.bytesLess a b = true → a < b := by
  intro a
  induction a with
  | nil =>
    intro b h
    cases b with
    | nil => simp [Op.bytesLess] at h
    | cons y s => exact List.nil_lt_cons _ _
  | cons x r ih =>
    intro b h
    cases b with
    | nil => simp [Op.bytesLess] at h
    | cons y s =>
      simp only [Op.bytesLess, Bool.or_eq_true, Bool.and_eq_true, decide_eq_true_eq, beq_iff_eq] at h
      rw [List.cons_lt_cons_iff]
      rcases h with h | ⟨rfl, h⟩
      · exact .inl h
      · exact .inr ⟨rfl, ih s h⟩
theorem le_cmpB {a b : List UInt8} (h : a ≤ b) : cmpB (mkText a) (mkText b) ≤ 0 := by
  refine Classical.byContradiction fun hn => ?_
  have h1 := cmpB_cmp.swap (mkText a) (mkText b)
  have h2 : Op.bytesLess (mkText b).toList (mkText a).toList = true := by
    rw [less_cmp]
    refine decide_eq_true ?_
    rcases cmpB_cmp.rng (mkText b) (mkText a) with h | h | h <;> omega
  rw [ByteArray.toList_eq, ByteArray.toList_eq] at h2
  exact absurd (less_lt _ _ h2) h
theorem sort_s {w : World} {base : Nat} {v : Value} {ts : List ByteArray} (h : OwnTx w base v ts) (hl : ts.length ≤ 1000000) :
    Calls Tryz.prog 80 #[v] w fun e w' => e = .returned (.tuple #[]) ∧ ∃ us, OwnTx w' base v us ∧ us.Perm ts ∧ us.Pairwise (fun a b => cmpB a b ≤ 0) ∧ w.grownBy w' v.ownBlock := by
  have h0 := h
  rcases h.2 with ⟨rfl, hn⟩ | ⟨g, cap, cur, rfl, hbase, hb, h1, h2, h3, h4⟩
  · have hts := List.length_eq_zero_iff.1 hn
    subst hts
    refine (AnyM.slices_Sort_string_none Tryz.ix_sort_s none 0 w).mono ?_
    rintro e w' ⟨rfl, rfl⟩
    exact ⟨rfl, [], h0, List.Perm.refl _, List.Pairwise.nil, World.grownBy.refl _ _⟩
  · have e : (ts.map bytesOf).length = ts.length := by simp
    have hH : Holds encStr w g 0 (ts.map bytesOf).toArray := holds_of_block hb (by rw [e, map_enc]; simpa using h4)
    have hc := AnyM.slices_Sort_string Tryz.ix_sort_s g 0 cap (ts.map bytesOf) w hH (Array.getElem?_eq_some_iff.1 hb).1 (by rw [e]; omega)
    rw [e] at hc
    refine Calls.mono hc ?_
    rintro e' w' ⟨rfl, n, os, rfl⟩
    have tr : ∀ a b c : List UInt8, decide (a ≤ b) = true → decide (b ≤ c) = true → decide (a ≤ c) = true := fun a b c h1 h2 => by simp only [decide_eq_true_eq] at *; exact List.le_trans h1 h2
    have tot : ∀ a b : List UInt8, (decide (a ≤ b) || decide (b ≤ a)) = true := fun a b => by simp only [Bool.or_eq_true, decide_eq_true_eq]; exact List.le_total a b
    have hlen : ((ts.map bytesOf).mergeSort fun x y => decide (x ≤ y)).length = (ts.map bytesOf).length := by simp
    have ho := ownsRow_sorted (base := base) (n := n) (os := os) hlen hbase hb (by rw [e]; exact h1) h2 h3
    refine ⟨rfl, ((ts.map bytesOf).mergeSort fun x y => decide (x ≤ y)).map mkText, ?_, ?_, ?_, grownBy_sorted _⟩
    · unfold OwnTx
      rw [List.length_map, hlen, enc_map, e]
      rw [e] at ho
      exact ho
    · have h5 := (List.mergeSort_perm (ts.map bytesOf) fun x y => decide (x ≤ y)).map mkText
      refine h5.trans (List.Perm.of_eq ?_)
      rw [List.map_map]
      conv => rhs; rw [← List.map_id ts]
      apply List.map_congr_left
      intro s _
      exact mk_bytes s
    · rw [List.pairwise_map]
      refine (List.pairwise_mergeSort tr tot (ts.map bytesOf)).imp fun {a b} h => ?_
      exact le_cmpB (of_decide_eq_true h)
theorem flat_int (l : List Int) : l.flatMap intE = l.map (Value.int .i64) := by
  induction l with
  | nil => rfl
  | cons x l ih => rw [List.flatMap_cons, ih]; rfl
theorem sort_i {w : World} {base : Nat} {v : Value} {zs : List Int} (h : OwnZ w base v zs) (hl : zs.length ≤ 1000000) :
    Calls Tryz.prog 69 #[v] w fun e w' => e = .returned (.tuple #[]) ∧ ∃ us, OwnZ w' base v us ∧ us.Perm zs ∧ us.Pairwise (fun a b => a ≤ b) ∧ w.grownBy w' v.ownBlock := by
  have h0 := h
  rcases h.2 with ⟨rfl, hn⟩ | ⟨g, cap, cur, rfl, hbase, hb, h1, h2, h3, h4⟩
  · have hts := List.length_eq_zero_iff.1 hn
    subst hts
    refine (AnyM.slices_Sort_int_none Tryz.ix_sort_i none 0 w).mono ?_
    rintro e w' ⟨rfl, rfl⟩
    exact ⟨rfl, [], h0, List.Perm.refl _, List.Pairwise.nil, World.grownBy.refl _ _⟩
  · have hH : Holds (Value.int .i64) w g 0 zs.toArray := holds_of_blockI hb (by rw [flat_int] at h4; simpa using h4)
    have hc := AnyM.slices_Sort_int Tryz.ix_sort_i g 0 cap zs w hH (Array.getElem?_eq_some_iff.1 hb).1 (by omega)
    refine Calls.mono hc ?_
    rintro e' w' ⟨rfl, n, os, rfl⟩
    have tr : ∀ a b c : Int, decide (a ≤ b) = true → decide (b ≤ c) = true → decide (a ≤ c) = true := fun a b c h1 h2 => by simp only [decide_eq_true_eq] at *; omega
    have tot : ∀ a b : Int, (decide (a ≤ b) || decide (b ≤ a)) = true := fun a b => by simp only [Bool.or_eq_true, decide_eq_true_eq]; omega
    have hlen : (zs.mergeSort fun x y => decide (x ≤ y)).length = zs.length := by simp
    have ho := ownsRow_sortedI (base := base) (n := n) (os := os) hlen hbase hb h1 h2 h3
    refine ⟨rfl, zs.mergeSort fun x y => decide (x ≤ y), ?_, List.mergeSort_perm _ _, ?_, grownBy_sortedI _⟩
    · unfold OwnZ
      rw [hlen, flat_int]
      exact ho
    · exact (List.pairwise_mergeSort tr tot zs).imp fun {a b} h => of_decide_eq_true h
end Go.Proofs.YtojlcipphnegaaaGreat
