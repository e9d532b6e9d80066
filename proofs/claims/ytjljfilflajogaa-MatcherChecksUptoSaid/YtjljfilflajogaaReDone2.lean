/- done and empty of rows and of alternatives, and of every tree. -/
import Derived.Test.YtjljfilflajogaaReDone
namespace Go.Proofs.Ytjljfilflajogaa
open Go.RowKit
set_option linter.unusedVariables false

theorem empty_alt_ (l : List Re) (ih : ∀ r ∈ l, EmptyP r) : EmptyP (.alt l) := by
  intro w v M h
  simp only [NodeAt] at h
  obtain ⟨A, c, vs, K, Ms, rfl, hs, hB, hN, hS, rfl⟩ := h
  refine ⟨_, _, 106, rfl, fun w => m_empty_alt A l.length c w, enters_of Try.func106 (by kernel_rfl) rfl, ?_⟩
  have HB := Lib.hid hB
  have HN := Lib.hid hN
  have HI := Lib.hid ih
  clear hB hN ih hS
  go_enter Try.func106, Try.ntmps106
  go_wp2_with fail
  go_loopw [7] (fun i wr => ∃ k : Nat, k ≤ l.length ∧ i = .int .i64 (k : Int) ∧ emptyAny (l.drop k) = emptyAny l ∧ Below w.heap.size w wr) (fun i _ => l.length - (intOf i).toNat)
  case atStart => exact ⟨0, Nat.zero_le _, rfl, rfl, Below.refl _ _⟩
  case round =>
    obtain ⟨k, hk, rfl, hd, hbr⟩ := hrel
    by_cases hlt : k < l.length
    · obtain ⟨r, hr, hmem⟩ := part_at l hlt
      obtain ⟨v, M, hv, hM, hNr⟩ := HN.out.at_ k r hr
      obtain ⟨b, rfl, rfl, hb, hcell⟩ := HB.out.cell hv
      have c0 := (hbr.cell (p := ⟨b, k, none⟩) hb).trans (hcell k v hv)
      obtain ⟨T, y, f, rfl, hm, he, hc⟩ := HI.out r hmem wr v M (hNr.below hbr)
      rw [drop_at hr, emptyAny] at hd
      have HD := Lib.hid hd
      have HC := Lib.hid hc
      clear hc hd hNr hcell hv hM hr hmem
      cases hdr : emptyM r
      · rw [hdr] at HC HD
        go_wp2_with fail
        go_at_fn f
        refine HC.out.mono ?_
        rintro e w1 ⟨rfl, hb1⟩
        go_wp2_with fail
        exact ⟨⟨k + 1, by omega, by go_num, by rw [← HD.out]; simp, below_then hbr hb1⟩, by simp [intOf]; omega⟩
      · rw [hdr] at HC HD
        go_wp2_with fail
        go_at_fn f
        refine HC.out.mono ?_
        rintro e w1 ⟨rfl, hb1⟩
        go_wp2_with fail
        go_ret
        exact ⟨by simp only [emptyM]; rw [← HD.out]; simp, below_then hbr hb1⟩
    · obtain rfl : k = l.length := by omega
      rw [List.drop_length, emptyAny] at hd
      have HD := Lib.hid hd
      clear hd
      go_wp2_with fail
      go_ret
      exact ⟨by simp only [emptyM]; rw [← HD.out]; rfl, hbr⟩
theorem empty_row_ (l : List Re) (ih : ∀ r ∈ l, EmptyP r) : EmptyP (.row l) := by
  intro w v M h
  simp only [NodeAt] at h
  obtain ⟨A, c, vs, K, Ms, rfl, hs, hB, hN, hS, rfl⟩ := h
  refine ⟨_, _, 110, rfl, fun w => m_empty_row A l.length c w, enters_of Try.func110 (by kernel_rfl) rfl, ?_⟩
  have HB := Lib.hid hB
  have HN := Lib.hid hN
  have HI := Lib.hid ih
  clear hB hN ih hS
  go_enter Try.func110, Try.ntmps110
  go_wp2_with fail
  go_loopw [7] (fun i wr => ∃ k : Nat, k ≤ l.length ∧ i = .int .i64 (k : Int) ∧ emptyAll (l.drop k) = emptyAll l ∧ Below w.heap.size w wr) (fun i _ => l.length - (intOf i).toNat)
  case atStart => exact ⟨0, Nat.zero_le _, rfl, rfl, Below.refl _ _⟩
  case round =>
    obtain ⟨k, hk, rfl, hd, hbr⟩ := hrel
    by_cases hlt : k < l.length
    · obtain ⟨r, hr, hmem⟩ := part_at l hlt
      obtain ⟨v, M, hv, hM, hNr⟩ := HN.out.at_ k r hr
      obtain ⟨b, rfl, rfl, hb, hcell⟩ := HB.out.cell hv
      have c0 := (hbr.cell (p := ⟨b, k, none⟩) hb).trans (hcell k v hv)
      obtain ⟨T, y, f, rfl, hm, he, hc⟩ := HI.out r hmem wr v M (hNr.below hbr)
      rw [drop_at hr, emptyAll] at hd
      have HD := Lib.hid hd
      have HC := Lib.hid hc
      clear hc hd hNr hcell hv hM hr hmem
      cases hdr : emptyM r
      rotate_left
      · rw [hdr] at HC HD
        go_wp2_with fail
        go_at_fn f
        refine HC.out.mono ?_
        rintro e w1 ⟨rfl, hb1⟩
        go_wp2_with fail
        exact ⟨⟨k + 1, by omega, by go_num, by rw [← HD.out]; simp, below_then hbr hb1⟩, by simp [intOf]; omega⟩
      · rw [hdr] at HC HD
        go_wp2_with fail
        go_at_fn f
        refine HC.out.mono ?_
        rintro e w1 ⟨rfl, hb1⟩
        go_wp2_with fail
        go_ret
        exact ⟨by simp only [emptyM]; rw [← HD.out]; simp, below_then hbr hb1⟩
    · obtain rfl : k = l.length := by omega
      rw [List.drop_length, emptyAll] at hd
      have HD := Lib.hid hd
      clear hd
      go_wp2_with fail
      go_ret
      exact ⟨by simp only [emptyM]; rw [← HD.out]; rfl, hbr⟩
theorem done_row_ (l : List Re) (ih : ∀ r ∈ l, DoneP r) (ie : ∀ r ∈ l, EmptyP r) : DoneP (.row l) := by
  intro w v M h
  simp only [NodeAt] at h
  obtain ⟨A, c, vs, K, Ms, rfl, hs, hB, hN, hS, rfl⟩ := h
  refine ⟨_, _, 109, rfl, fun w => m_done_row A l.length c w, enters_of Try.func109 (by kernel_rfl) rfl, ?_⟩
  have HB := Lib.hid hB
  have HN := Lib.hid hN
  have HI := Lib.hid ih
  have HE := Lib.hid ie
  clear hB hN ih ie hS
  go_enter Try.func109, Try.ntmps109
  go_wp2_with fail
  go_loopw [3, 8] (fun d i wr => ∃ (k : Nat) (dd : Bool), k ≤ l.length ∧ d = .bool dd ∧ i = .int .i64 (k : Int) ∧ doneRow dd (l.drop k) = doneRow false l ∧ Below w.heap.size w wr) (fun _ i _ => l.length - (intOf i).toNat)
  case atStart => exact ⟨0, false, Nat.zero_le _, rfl, rfl, rfl, Below.refl _ _⟩
  case round =>
    obtain ⟨k, dd, hk, rfl, rfl, hd, hbr⟩ := hrel
    by_cases hlt : k < l.length
    · obtain ⟨r, hr, hmem⟩ := part_at l hlt
      obtain ⟨v, M, hv, hM, hNr⟩ := HN.out.at_ k r hr
      obtain ⟨b, rfl, rfl, hb, hcell⟩ := HB.out.cell hv
      have c0 := (hbr.cell (p := ⟨b, k, none⟩) hb).trans (hcell k v hv)
      obtain ⟨T, y, f, rfl, hm, he, hc⟩ := HI.out r hmem wr v M (hNr.below hbr)
      rw [drop_at hr, doneRow] at hd
      have HD := Lib.hid hd
      have HC := Lib.hid hc
      have HNr := Lib.hid (hNr.below hbr)
      have HEr := Lib.hid (HE.out r hmem)
      clear hc hd hNr hcell hv hM hr hmem
      cases hdr : doneM r
      · cases dd
        · rw [hdr] at HC HD
          go_wp2_with fail
          go_at_fn f
          refine HC.out.mono ?_
          rintro e w1 ⟨rfl, hb1⟩
          go_wp2_with fail
          exact ⟨⟨k + 1, false, by omega, rfl, by go_num, by rw [← HD.out]; simp, below_then hbr hb1⟩, by simp [intOf]; omega⟩
        · rw [hdr] at HC HD
          go_wp2_with fail
          go_at_fn f
          refine HC.out.mono ?_
          rintro e w1 ⟨rfl, hb1⟩
          obtain ⟨T2, y2, f2, e2, hm2, he2, hc2⟩ := HEr.out w1 _ M (HNr.out.below hb1)
          injection e2 with e2 e3
          subst e2
          subst e3
          have HC2 := Lib.hid hc2
          clear hc2
          go_wp2_with fail
          go_at_fn f2
          refine HC2.out.mono ?_
          rintro e w2 ⟨rfl, hb2⟩
          go_wp2_with fail
          exact ⟨⟨k + 1, emptyM r, by omega, rfl, by go_num, by rw [← HD.out]; simp, below_then (below_then hbr hb1) hb2⟩, by simp [intOf]; omega⟩
      · rw [hdr] at HC HD
        go_wp2_with fail
        go_at_fn f
        refine HC.out.mono ?_
        rintro e w1 ⟨rfl, hb1⟩
        go_wp2_with fail
        exact ⟨⟨k + 1, true, by omega, rfl, by go_num, by rw [← HD.out]; simp, below_then hbr hb1⟩, by simp [intOf]; omega⟩
    · obtain rfl : k = l.length := by omega
      rw [List.drop_length, doneRow] at hd
      have HD := Lib.hid hd
      clear hd
      go_wp2_with fail
      go_ret
      exact ⟨by simp only [doneM]; rw [← HD.out]; rfl, hbr⟩
mutual
theorem empty_all : ∀ (r : Re), EmptyP r
  | .atom sp neg tk => empty_atom sp neg tk
  | .row l => empty_row_ l (empty_list l)
  | .alt l => empty_alt_ l (empty_list l)
  | .rep r no many => empty_rep r no many (empty_all r)
theorem empty_list : ∀ (l : List Re), ∀ r ∈ l, EmptyP r
  | [], r, h => nomatch h
  | r0 :: l, r, h => (List.mem_cons.1 h).elim (fun e => e ▸ empty_all r0) (fun h => empty_list l r h)
end
mutual
theorem done_all : ∀ (r : Re), DoneP r
  | .atom sp neg tk => done_atom sp neg tk
  | .row l => done_row_ l (done_list l) (empty_list l)
  | .alt l => done_alt_ l (done_list l)
  | .rep r no many => done_rep r no many (done_all r)
theorem done_list : ∀ (l : List Re), ∀ r ∈ l, DoneP r
  | [], r, h => nomatch h
  | r0 :: l, r, h => (List.mem_cons.1 h).elim (fun e => e ▸ done_all r0) (fun h => done_list l r h)
end
end Go.Proofs.Ytjljfilflajogaa
