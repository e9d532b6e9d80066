/- Plain mathematics of WalKeeps: what is sure of a log behind a crash. No program in this text. -/
import Derived.Test.YtmgolnlkepiocaaGreatWaLotO
import Derived.Test.YtmgolnlkepiocaaGreatWaLotJ
namespace Go.Proofs.YtmgolnlkepiocaaGreat
open Dk
set_option linter.unusedVariables false

/-- The disk's file holds these records, and what is sure of it holds the first ones, so many. -/
def HasK (d : Dsk) (rs : List RecV) (sure : Nat) : Prop := Rights rs ∧ sure ≤ rs.length ∧ ∃ s, LogAt d (logL rs) s ∧ (logL (rs.take sure)).length ≤ s ∧ s ≤ (logL rs).length
theorem log_take_le (rs : List RecV) (j : Nat) : (logL (rs.take j)).length ≤ (logL rs).length := by
  have e : logL rs = logL (rs.take j) ++ logL (rs.drop j) := by rw [← logL_app, List.take_append_drop]
  rw [e, List.length_append]
  omega
theorem log_take (rs : List RecV) (j : Nat) : (logL rs).take (logL (rs.take j)).length = logL (rs.take j) := by
  have e : logL rs = logL (rs.take j) ++ logL (rs.drop j) := by rw [← logL_app, List.take_append_drop]
  rw [e, List.take_left]
theorem hask_new {d : Dsk} (h : LogAt d [] 0) : HasK d [] 0 := ⟨rights_nil, Nat.le_refl _, 0, h, Nat.le_refl _, Nat.le_refl _⟩
theorem HasK.fuse {d : Dsk} {rs : List RecV} {sure : Nat} (h : HasK d rs sure) (n : Int) : HasK (fuseD d n) rs sure := by
  obtain ⟨h1, h2, s, h3, h4, h5⟩ := h
  exact ⟨h1, h2, s, h3.fuse n, h4, h5⟩
theorem HasK.no {d : Dsk} {rs : List RecV} {sure : Nat} (h : HasK d rs sure) {kind : Int} {name tu x : List UInt8} (hn : (change d kind name tu x).2 ≠ 0) : HasK (change d kind name tu x).1 rs sure := by
  obtain ⟨h1, h2, s, h3, h4, h5⟩ := h
  exact ⟨h1, h2, s, h3.no hn, h4, h5⟩
theorem HasK.app {d : Dsk} {rs : List RecV} {sure : Nat} (h : HasK d rs sure) {R : RecV} (hc : recChk R = 0) (hy : (change d 2 logN [] (frameL (recL R))).2 = 0) : HasK (change d 2 logN [] (frameL (recL R))).1 (rs ++ [R]) sure := by
  obtain ⟨h1, h2, s, h3, h4, h5⟩ := h
  refine ⟨fun r hr => ?_, by rw [List.length_append]; omega, s, by rw [logL_snoc]; exact h3.append hy, by rw [List.take_append_of_le_length h2]; exact h4, by rw [logL_snoc, List.length_append]; omega⟩
  rcases List.mem_append.1 hr with hr | hr
  · exact h1 r hr
  · obtain rfl := List.mem_singleton.1 hr; exact hc
theorem HasK.sync {d : Dsk} {rs : List RecV} {sure : Nat} (h : HasK d rs sure) (hy : (change d 5 logN [] []).2 = 0) : HasK (change d 5 logN [] []).1 rs rs.length := by
  obtain ⟨h1, h2, s, h3, h4, h5⟩ := h
  exact ⟨h1, Nat.le_refl _, _, h3.sync hy, by rw [List.take_length]; exact Nat.le_refl _, Nat.le_refl _⟩
/-- What Open tells behind a crash. -/
structure Again (d1 : Dsk) (rs : List RecV) (sure j p : Nat) : Prop where
  lo : sure ≤ j
  hi : j ≤ rs.length
  wh : WH (readD d1 logN).1 0 (rs.take j) p
  b : (readD d1 logN).1.length ≤ 1000000000
  ok : (openD d1 logN p).2 = 0
  has : HasK (openD d1 logN p).1 (rs.take j) j
  len : p = (logL (rs.take j)).length
theorem HasK.crash {d : Dsk} {rs : List RecV} {sure : Nat} (h : HasK d rs sure) (hl : rs.length ≤ 100) (dirs : Int) (ks : List Int) : ∃ j p, Again (crashD d dirs ks) rs sure j p := by
  obtain ⟨h1, h2, s, h3, h4, h5⟩ := h
  obtain ⟨k, c1, c2, c3, c4⟩ := h3.crash h5 dirs ks
  obtain ⟨j, j1, j2, j3, j4⟩ := wh_cut rs h1 k c2
  have hlen := logL_len h1
  have hrd := c3.read c4.1
  have hbk : ((logL rs).take k).length = k := by rw [List.length_take]; omega
  have hsj : sure ≤ j := j3 sure h2 (by omega)
  obtain ⟨o1, o2, s', o3, o4, o5⟩ := c3.opened c4 (by omega) (p := (logL (rs.take j)).length) (by omega)
  refine ⟨j, (logL (rs.take j)).length, hsj, j1, by rw [hrd]; exact j4, by rw [hrd]; show ((logL rs).take k).length ≤ _; omega, o1, ?_, rfl⟩
  have e : ((logL rs).take k).take (logL (rs.take j)).length = logL (rs.take j) := by rw [List.take_take, Nat.min_eq_left j2, log_take]
  rw [e] at o3
  have hs' : s' = (logL (rs.take j)).length := by
    rcases Nat.lt_or_ge (logL (rs.take j)).length ((logL rs).take k).length with hlt | hge
    · exact o4 hlt
    · have := o5 (by omega)
      omega
  rw [hs'] at o3
  exact ⟨fun r hr => h1 r (List.mem_of_mem_take hr), by rw [List.length_take]; omega, _, o3, by rw [List.take_take, Nat.min_self]; exact Nat.le_refl _, Nat.le_refl _⟩
end Go.Proofs.YtmgolnlkepiocaaGreat
