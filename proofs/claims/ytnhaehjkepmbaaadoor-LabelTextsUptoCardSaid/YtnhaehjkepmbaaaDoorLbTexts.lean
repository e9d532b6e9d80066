/- LabelTexts' walk: both sides' Parse of any text tell the same; both sides' Print of any labels, too. -/
import Derived.Test.YtnhaehjkepmbaaaDoorLbGuessAny
import Derived.Test.YtnhaehjkepmbaaaDoorLbParseBack
import Derived.Test.YtnhaehjkepmbaaaDoorLbLives
import Derived.Test.YtnhaehjkepmbaaaDoorLbBulk
namespace Go.Proofs.YtnhaehjkepmbaaaDoor
open Go.RowKit Go.Maps
set_option linter.unusedVariables false
/-- What is told of a text: labels of its own memory, and why not. -/
def TextTold (L : List Lbl) (E : Int) (w : World) (e : Ending) (w' : World) : Prop := (∃ v, e = .returned (.tuple #[v, .int .i64 E]) ∧ OwnL w' w.heap.size v L) ∧ Below w.heap.size w w'
theorem text_told (s : ByteArray) (hs : s.size ≤ 1048576) : ∃ (L : List Lbl) (E : Int), L.length ≤ 8 ∧
    (∀ w, 0 < w.heap.size → (∃ m, w.cell? ⟨0, 0, none⟩ = some (.int .i64 m)) → ErrAt w → Calls Tryd.prog 4 #[.string s] w (TextTold L E w)) ∧
    ∀ w, Calls Tryd.prog 5 #[.string s] w (TextTold L E w) := by
  by_cases h : ∃ l0, lbChk l0 = 0 ∧ printL l0 = strL s
  · obtain ⟨l0, h0, hp⟩ := h
    have hs0 : txt (printL l0) = s := by rw [hp, txt_strL]
    refine ⟨l0, 0, (lbChk_ok.1 h0).1, fun w hw ⟨m, hm⟩ _ => ?_, fun w => ?_⟩
    · have := parse_back l0 h0 m w hw hm
      rw [hs0] at this
      refine this.mono ?_
      rintro e w' ⟨v, h1, h2, h3⟩
      exact ⟨⟨v, h1, h2⟩, h3⟩
    · refine (dparse_ref (some l0) s w (fun l1 h1 => by cases h1; exact ⟨h0, hp⟩) (by omega)).mono ?_
      rintro e w' ⟨⟨_, h1⟩ | ⟨v, l, h1, h2, h3, h4⟩, hb⟩
      · cases h1
      · have : l = l0 := printL_inj h3 h0 (h4.trans hp.symm)
        subst this
        exact ⟨⟨v, h1, h2⟩, hb⟩
  · refine ⟨[], 14, by simp, fun w hw ⟨m, hm⟩ hg => ?_, fun w => ?_⟩
    · refine (parse_no s (by omega) (fun l0 h1 h2 => h ⟨l0, h1, h2⟩) m w hw hm hg).mono ?_
      rintro e w' ⟨h1, hb⟩
      exact ⟨⟨_, h1, ownl_nil _ _⟩, hb⟩
    · refine (dparse_ref none s w (fun l1 h1 => by cases h1) (by omega)).mono ?_
      rintro e w' ⟨⟨h1, _⟩ | ⟨v, l, h1, h2, h3, h4⟩, hb⟩
      · exact ⟨⟨_, h1, ownl_nil _ _⟩, hb⟩
      · exact absurd ⟨l, h3, h4⟩ h
set_option maxHeartbeats 1000000 in
theorem labelTexts_walk (w : World) (hw : (0 < w.heap.size ∧ ∃ m, w.cell? ⟨0, 0, none⟩ = some (.int .i64 m)) ∧ ErrAt w) (A : Option Addr) (l : List Lbl) (c : Nat) (hA : Lbls w A l) (hz : ∀ y ∈ l, y.1.size ≤ 1048576 ∧ y.2.size ≤ 1048576) (hl : l.length ≤ 1048576) (hlc : l.length ≤ c)
    (s : ByteArray) (hs : s.size ≤ 1048576) :
    Calls Tryd.prog 3 #[.slice A l.length c, .string s] w fun e w' => e = .returned (.bool true) ∧ Below w.heap.size w w' := by
  obtain ⟨L, E, hL8, h1, h2⟩ := text_told s hs
  have HX := Lib.hid (h1 w hw.1.1 hw.1.2 hw.2)
  have HY := Lib.hid h2
  have HA := Lib.hid hA
  have hcost := cost_small hz hl
  have HP := Lib.hid (fun (x : World) (hx : Below w.heap.size w x) => print_prog A l c x (hA.below hx) (by omega) hcost)
  have HQ := Lib.hid (fun (x : World) (hx : Below w.heap.size w x) => refprint_prog A l c x (hA.below hx) (by omega) hcost)
  have HS := Lib.hid (fun P Q pc qc W (h1 : Lbls W P L) (h2 : Lbls W Q L) => same_ref P Q L L pc qc W h1 h2 (by omega) (by omega))
  rw [show decide (L = L) = true from decide_eq_true rfl] at HS
  have hq : ((txt (printL l)).toList == (txt (printL l)).toList) = true := beq_self_eq_true _
  have hee : (E == E) = true := beq_self_eq_true _
  generalize txt (printL l) = T at *
  clear hw hA hz hl hlc hs h1 h2 hcost hL8
  go_enter Tryd.func3, Tryd.ntmps3
  go_wp2_with (first
    | (go_at_call 4; refine HX.out.mono ?_; rintro e w1 ⟨⟨v1, rfl, ho1⟩, hb1⟩; obtain ⟨P1, c1, hv1, _, hL1, _⟩ := ownl_slice ho1; subst hv1; have HL1 := Lib.hid hL1; have HB1 := Lib.hid hb1; clear ho1 hb1 hL1)
    | (go_at_call 5; refine (HY.out _).mono ?_; rintro e w2 ⟨⟨v2, rfl, ho2⟩, hb2⟩; obtain ⟨P2, c2, hv2, _, hL2, _⟩ := ownl_slice ho2; subst hv2; have HL2 := Lib.hid hL2; have HL12 := Lib.hid (HL1.out.below hb2); have HB2 := Lib.hid (below_then HB1.out hb2); clear ho2 hb2 hL2)
    | (go_at_call 6; refine (HP.out _ HB2.out).mono ?_; rintro e w3 ⟨rfl, hb3⟩; have HL13 := Lib.hid (HL12.out.below hb3); have HL23 := Lib.hid (HL2.out.below hb3); have HB3 := Lib.hid (below_then HB2.out hb3); clear hb3)
    | (go_at_call 7; refine (HQ.out _ HB3.out).mono ?_; rintro e w4 ⟨rfl, hb4⟩; have HL14 := Lib.hid (HL13.out.below hb4); have HL24 := Lib.hid (HL23.out.below hb4); have HB4 := Lib.hid (below_then HB3.out hb4); clear hb4)
    | (go_at_call 8; refine (HS.out P1 P2 c1 c2 _ HL14.out HL24.out).mono ?_; rintro e w5 ⟨rfl, hb5⟩; have HB5 := Lib.hid (below_then HB4.out hb5); clear hb5)
    | (go_at_call 9; refine (lives_true _).mono ?_; rintro e w6 ⟨rfl, hb6⟩; have HB6 := Lib.hid (below_then HB5.out hb6); clear hb6))
  go_ret
  exact ⟨rfl, HB6.out⟩
end Go.Proofs.YtnhaehjkepmbaaaDoor
