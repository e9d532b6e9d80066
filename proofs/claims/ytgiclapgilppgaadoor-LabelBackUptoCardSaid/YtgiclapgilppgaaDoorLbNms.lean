/- Rows of names: whether one is among them, as the program and as the document's own answer ask it; how a law's argument of that type is opened. -/
import Derived.Test.YtgiclapgilppgaaDoorLbCmp2
namespace Go.Proofs.YtgiclapgilppgaaDoor
open Go.ChangeShapes Go.WideShapes Go.ChangeAt Go.RowKit Go.Joins Go.Maps
set_option linter.unusedVariables false

theorem eqB (a b : ByteArray) : (a.toList == b.toList) = decide (a = b) := by
  rw [eq_cmp, decide_eq_decide, cmpB_cmp.zero]
def Nms (w : World) (V : Option Addr) (ns : List ByteArray) : Prop := At w V (ns.map Value.string)
theorem Nms.below {w w' : World} {V : Option Addr} {ns : List ByteArray} (h : Nms w V ns) (hb : Below w.heap.size w w') : Nms w' V ns := At.below h hb
theorem Nms.at_ {w : World} {V : Option Addr} {ns : List ByteArray} (h : Nms w V ns) {i : Nat} (hi : i < ns.length) :
    ∃ b o, V = some ⟨b, o, none⟩ ∧ b < w.heap.size ∧ w.cell? ⟨b, o + i, none⟩ = some (.string (ns.getD i ⟨#[]⟩)) := by
  rcases h with h | ⟨b, o, rfl, hb, hc⟩
  · have : ns = [] := by simpa using h
    rw [this] at hi; simp at hi
  · refine ⟨b, o, rfl, hb, hc i _ ?_⟩
    rw [List.getElem?_map, getD_some ns ⟨#[]⟩ hi]
    rfl
theorem open_nms {H : Type} {enc : TypeId × Value → H} {W : World} {base : Nat} {sp : Nat → Bool} {held : Bool} {fuel : Nat} {v : Value} {x : DataW H × List MemPlace} (hf : DataW.trod enc Tryd.prog W base sp held fuel 29 [v] = some x) (hw : ∀ n ∈ x.1.weights Tryd.prog 29, n ≤ reachBytes) :
    ∃ (V : Option Addr) (l : List ByteArray) (c : Nat), v = .slice V l.length c ∧ Nms W V l ∧ True ∧ l.length * 16 ≤ 140737488351232 ∧ l.length ≤ c := by
  rcases Go.Deep.open_strs Tryd.underlying29 Tryd.underlying9 (by kernel_rfl) hf with ⟨hcs, hx⟩ | ⟨a, len, cap, m, Sx, hcs, hb, hl, hm, hmm, hx, hcell⟩
  · simp only [List.cons.injEq, and_true] at hcs
    subst hcs
    exact ⟨none, [], 0, rfl, .inl rfl, trivial, by simp, Nat.le_refl _⟩
  · simp only [List.cons.injEq, and_true] at hcs
    subst hcs
    have hml : len ≤ m := by rw [hmm]; split <;> omega
    rw [hx] at hw
    simp only [DataW.weights, Tryd.underlying29] at hw
    have hbytes : Tryd.prog.bytesOf 9 = 16 := by kernel_rfl
    have hlen16 := hw ((((List.range len).map fun i => (DataW.lit (Lit.string (Sx i).data.toList) : DataW H)).length + ((List.range (m - len)).map fun j => (DataW.lit (Lit.string (Sx (len + j)).data.toList) : DataW H)).length) * Tryd.prog.bytesOf 9) (by simp)
    rw [hbytes] at hlen16
    simp only [List.length_map, List.length_range] at hlen16
    rw [reach_is] at hlen16
    have hlen : ((List.range len).map Sx).length = len := by simp
    refine ⟨some a, (List.range len).map Sx, cap, by rw [hlen], ?_, trivial, by rw [hlen]; omega, by rw [hlen]; exact hl⟩
    rcases Nat.eq_zero_or_pos len with h0 | h0
    · subst h0; exact .inl rfl
    · obtain ⟨b, o, spot⟩ := a
      have hc := (hcell 0 (by omega)).1
      have hspot : spot = none := by
        have := World.cell?_spot hc
        simpa [Addr.add] using this
      subst hspot
      have hc0 : W.cell? ⟨b, o, none⟩ = some (.string (Sx 0)) := by simpa [Addr.add] using hc
      refine .inr ⟨b, o, rfl, cell_lt hc0, fun j u hj => ?_⟩
      have hj2 : j < len := by
        have := (List.getElem?_eq_some_iff.1 hj).1
        simpa using this
      have := (hcell j (by omega)).1
      rw [add_at] at this
      rw [this, ← hj]
      simp [hj2]

/-- Is s among them? -/
def hasB (ns : List ByteArray) (s : ByteArray) : Bool := ns.any fun x => decide (x = s)
/-- Is s none of the first k? -/
theorem none_step {ns : List ByteArray} {s : ByteArray} {k : Nat} (h : ∀ j, j < k → ns.getD j ⟨#[]⟩ ≠ s) (h2 : ns.getD k ⟨#[]⟩ ≠ s) : ∀ j, j < k + 1 → ns.getD j ⟨#[]⟩ ≠ s := by
  intro j hj
  rcases Nat.lt_or_ge j k with h3 | h3
  · exact h j h3
  · rw [show j = k from by omega]; exact h2
theorem mem_at {ns : List ByteArray} {s : ByteArray} {k : Nat} (hk : k < ns.length) (h : ns.getD k ⟨#[]⟩ = s) : hasB ns s = true := by
  unfold hasB
  rw [List.any_eq_true]
  rw [getD_in ns _ hk] at h
  exact ⟨_, List.getElem_mem hk, by rw [h]; simp⟩
theorem mem_no {ns : List ByteArray} {s : ByteArray} (h : ∀ j, j < ns.length → ns.getD j ⟨#[]⟩ ≠ s) : hasB ns s = false := by
  unfold hasB
  rw [List.any_eq_false]
  intro x hx
  obtain ⟨j, hj, e⟩ := List.mem_iff_getElem.1 hx
  have := h j hj
  rw [getD_in ns _ hj, e] at this
  simpa using this

theorem has_ref (V : Option Addr) (ns : List ByteArray) (nc : Nat) (s : ByteArray) (w : World) (hV : Nms w V ns) (hl : ns.length ≤ 100000000000000) :
    Calls Tryd.prog 40 #[.slice V ns.length nc, .string s] w fun e w' => e = .returned (.bool (hasB ns s)) ∧ w = w' := by
  have HV := Lib.hid hV
  clear hV
  go_enter Tryd.func40, Tryd.ntmps40
  go_wp2_with fail
  go_loop [5] (fun i => ∃ k : Nat, k ≤ ns.length ∧ i = .int .i64 (k : Int) ∧ ∀ j, j < k → ns.getD j ⟨#[]⟩ ≠ s) (fun i => ns.length - (intOf i).toNat)
  case atStart => exact ⟨0, Nat.zero_le _, rfl, fun j hj => absurd hj (Nat.not_lt_zero j)⟩
  case round =>
    obtain ⟨k, hk, rfl, hno⟩ := hrel
    have HN := Lib.hid hno
    clear hno
    by_cases hlt : k < ns.length
    · obtain ⟨b, o, rfl, hb, g0⟩ := HV.out.at_ hlt
      have hq := eqB (ns.getD k ⟨#[]⟩) s
      by_cases he : ns.getD k ⟨#[]⟩ = s
      · have HM := Lib.hid (mem_at hlt he)
        rw [decide_eq_true he] at hq
        clear he
        generalize ns.getD k ⟨#[]⟩ = u at *
        go_wp2_with fail
        go_ret
        exact ⟨ret_bool HM.out.symm, rfl⟩
      · have HS := Lib.hid (none_step HN.out he)
        rw [decide_eq_false he] at hq
        clear he
        generalize ns.getD k ⟨#[]⟩ = u at *
        go_wp2_with fail
        exact ⟨⟨k + 1, by omega, by go_num, HS.out⟩, by simp [intOf]; omega⟩
    · obtain rfl : k = ns.length := by omega
      have HM := Lib.hid (mem_no HN.out)
      go_wp2_with fail
      go_ret
      exact ⟨ret_bool HM.out.symm, rfl⟩
theorem sindex_prog (V : Option Addr) (ns : List ByteArray) (nc : Nat) (s : ByteArray) (w : World) (hV : Nms w V ns) (hl : ns.length ≤ 100000000000000) :
    Calls Tryd.prog 60 #[.slice V ns.length nc, .string s] w fun e w' => (∃ r : Int, e = .returned (.int .i64 r) ∧ decide (0 ≤ r) = hasB ns s) ∧ w = w' := by
  have HV := Lib.hid hV
  clear hV
  go_enter Tryd.func60, Tryd.ntmps60
  go_wp2_with fail
  go_loop [8] (fun i => ∃ k : Nat, k ≤ ns.length ∧ i = .int .i64 (k : Int) ∧ ∀ j, j < k → ns.getD j ⟨#[]⟩ ≠ s) (fun i => ns.length - (intOf i).toNat)
  case atStart => exact ⟨0, Nat.zero_le _, rfl, fun j hj => absurd hj (Nat.not_lt_zero j)⟩
  case round =>
    obtain ⟨k, hk, rfl, hno⟩ := hrel
    have HN := Lib.hid hno
    clear hno
    by_cases hlt : k < ns.length
    · obtain ⟨b, o, rfl, hb, g0⟩ := HV.out.at_ hlt
      have hq := eqB s (ns.getD k ⟨#[]⟩)
      by_cases he : ns.getD k ⟨#[]⟩ = s
      · have HM := Lib.hid (mem_at hlt he)
        rw [decide_eq_true he.symm] at hq
        clear he
        generalize ns.getD k ⟨#[]⟩ = u at *
        go_wp2_with fail
        go_ret
        exact ⟨⟨_, rfl, by rw [HM.out, decide_eq_true_eq]; omega⟩, rfl⟩
      · have HS := Lib.hid (none_step HN.out he)
        rw [decide_eq_false (fun h => he h.symm)] at hq
        clear he
        generalize ns.getD k ⟨#[]⟩ = u at *
        go_wp2_with fail
        exact ⟨⟨k + 1, by omega, by go_num, HS.out⟩, by simp [intOf]; omega⟩
    · obtain rfl : k = ns.length := by omega
      have HM := Lib.hid (mem_no HN.out)
      go_wp2_with fail
      go_ret
      exact ⟨⟨_, rfl, by rw [HM.out]; decide⟩, rfl⟩
theorem contains_prog (V : Option Addr) (ns : List ByteArray) (nc : Nat) (s : ByteArray) (w : World) (hV : Nms w V ns) (hl : ns.length ≤ 100000000000000) :
    Calls Tryd.prog 39 #[.slice V ns.length nc, .string s] w fun e w' => e = .returned (.bool (hasB ns s)) ∧ w = w' := by
  have HI := Lib.hid (sindex_prog V ns nc s w hV hl)
  clear hV
  generalize hasB ns s = bb at *
  go_enter Tryd.func39, Tryd.ntmps39
  go_wp2_with (first | (go_at_call 60; refine HI.out.mono ?_; rintro e w1 ⟨⟨r, rfl, hr⟩, rfl⟩))
  go_ret
  exact ⟨rfl, rfl⟩
/-- The closures of Keep and of Drop: they read the names out of their box. -/
theorem keep_fn (X : Nat) (V : Option Addr) (ns : List ByteArray) (nc : Nat) (x : Lbl) (w : World) (hX : Row w X 29 #[.slice V ns.length nc]) (hV : Nms w V ns) (hl : ns.length ≤ 100000000000000) :
    Calls Tryd.prog 38 #[.agg #[.string x.1, .string x.2], .pointer (some ⟨X, 0, none⟩)] w fun e w' => e = .returned (.bool (hasB ns x.1)) ∧ Below w.heap.size w w' := by
  have hX1 := (hX.alloc (.cells #[.string x.1, .string x.2] 58)).cell 0
  have HC := Lib.hid (fun W (h : Below w.heap.size w W) => contains_prog V ns nc x.1 W (hV.below h) hl)
  have HB := Lib.hid (below_one w (.cells #[.string x.1, .string x.2] 58))
  clear hX hV
  generalize hasB ns x.1 = bb at *
  go_enter Tryd.func38, Tryd.ntmps38
  go_wp2_with (first | (go_at_call 39; refine (HC.out _ HB.out).mono ?_; rintro e w1 ⟨rfl, hw1⟩; subst hw1))
  go_ret
  exact ⟨rfl, HB.out⟩
theorem drop_fn (X : Nat) (V : Option Addr) (ns : List ByteArray) (nc : Nat) (x : Lbl) (w : World) (hX : Row w X 29 #[.slice V ns.length nc]) (hV : Nms w V ns) (hl : ns.length ≤ 100000000000000) :
    Calls Tryd.prog 41 #[.agg #[.string x.1, .string x.2], .pointer (some ⟨X, 0, none⟩)] w fun e w' => e = .returned (.bool (!hasB ns x.1)) ∧ Below w.heap.size w w' := by
  have hX1 := (hX.alloc (.cells #[.string x.1, .string x.2] 58)).cell 0
  have HC := Lib.hid (fun W (h : Below w.heap.size w W) => contains_prog V ns nc x.1 W (hV.below h) hl)
  have HB := Lib.hid (below_one w (.cells #[.string x.1, .string x.2] 58))
  clear hX hV
  generalize hasB ns x.1 = bb at *
  go_enter Tryd.func41, Tryd.ntmps41
  go_wp2_with (first | (go_at_call 39; refine (HC.out _ HB.out).mono ?_; rintro e w1 ⟨rfl, hw1⟩; subst hw1))
  go_ret
  exact ⟨rfl, HB.out⟩
end Go.Proofs.YtgiclapgilppgaaDoor
