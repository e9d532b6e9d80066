/- What the tied card's condition gives LabelTexts' walk: strconv.ErrSyntax holds an error. -/
import Derived.Test.YtnhaehjkepmbaaaDoorLbPuErr
import Derived.Test.YtnhaehjkepmbaaaDoorLtLotM
import Derived.Test.YtnhaehjkepmbaaaDoorCards
import Derived.MakeChecks
namespace Go.Proofs.YtnhaehjkepmbaaaDoor
open Go.RowKit
theorem laidVars_mem {P : Program} {w : World} : ∀ {l : List (String × DataW Unit)} {ps : List MemPlace}, DataW.LaidVars P w l ps → ∀ x ∈ l, ∃ g t cs fuel p,
    P.globalNamed x.1 = some g ∧ (P.globals[g]?).map (·.type) = some t ∧ w.var? P x.1 = some cs ∧ DataW.trod (fun _ => ()) P w 0 (fun _ => true) false fuel t cs.toList = some (x.2, p)
  | [], _, _, x, hx => by cases hx
  | y :: r, ps, h, x, hx => by
    obtain ⟨g, t, cs, fuel, p, q, h1, h2, h3, h4, h5, _⟩ := h
    rcases List.mem_cons.1 hx with rfl | hx
    · exact ⟨g, t, cs, fuel, p, h1, h2, h3, h4⟩
    · exact laidVars_mem h5 x hx
theorem lb_es : Tryd.prog.globalNamed "strconv.ErrSyntax" = some 1 := by kernel_rfl
theorem lb_est : (Tryd.prog.globals[1]?).map (·.type) = some 57 := by kernel_rfl
theorem errAt_of {W : World} (h : laidMetH Tryd.prog Rows.labelTextsUptoRow.laid W) : ErrAt W := by
  rw [MakeChecks.laidMetH_plain _ _ _ (by kernel_rfl)] at h
  obtain ⟨ps, h, _⟩ := h
  obtain ⟨g, t, cs, fuel, p, h1, h2, h3, h4⟩ := laidVars_mem h ("strconv.ErrSyntax", Rows.laid_strconv_ErrSyntax) (List.mem_of_getElem? (i := 4) rfl)
  have e1 : g = 1 := Option.some.inj (h1.symm.trans lb_es)
  subst e1
  have e2 : t = 57 := Option.some.inj (h2.symm.trans lb_est)
  subst e2
  have h5 := World.var?_cell lb_es h3 0
  have key : ∃ ev, cs[0]? = some ev ∧ (ev = .nilIface ∨ ∃ te pe, ev = .iface te pe) := by
    obtain ⟨l⟩ := cs
    cases fuel with
    | zero => simp [DataW.trod] at h4
    | succ n =>
      have hu := Tryd.underlying57
      dsimp only at h4
      generalize Rows.laid_strconv_ErrSyntax = d at h4
      rcases l with _ | ⟨c, _ | ⟨c2, r⟩⟩
      · simp [DataW.trod, hu] at h4
      · cases c <;> simp [DataW.trod, hu] at h4
        · exact ⟨_, rfl, .inr ⟨_, _, rfl⟩⟩
        · exact ⟨_, rfl, .inl rfl⟩
      · simp [DataW.trod, hu] at h4
  obtain ⟨ev, k1, k2⟩ := key
  rw [k1] at h5
  exact ⟨cell_lt h5, ev, h5, k2⟩
end Go.Proofs.YtnhaehjkepmbaaaDoor
