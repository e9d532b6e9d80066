/- Those of labels whose names are some, or are not: the document's own answer; labels that are lent with one more behind; whether they were kept. -/
import Derived.Test.YtgiclapgilppgaaDoorLbPick
import Derived.Deep.RegionHeld3
import Derived.Deep.Cut
namespace Go.Proofs.YtgiclapgilppgaaDoor
open Go.RowKit Go.Maps
set_option linter.unusedVariables false

theorem pick_ref (A V : Option Addr) (l : List Lbl) (c : Nat) (ns : List ByteArray) (nc : Nat) (some_ : Bool) (w : World) (hA : Lbls w A l) (hV : Nms w V ns) (hl : l.length * 32 ≤ 140737488351232) (hn : ns.length ≤ 100000000000000) :
    Calls Tryd.prog 21 #[.slice A l.length c, .slice V ns.length nc, .bool some_] w fun e w' => ∃ v, e = .returned v ∧ OwnL w' w.heap.size v (l.filter fun x => hasB ns x.1 == some_) ∧ Below w.heap.size w w' := by
  have HA := Lib.hid hA
  have HV := Lib.hid hV
  have HL := Lib.hid hl
  clear hA hV hl
  have hl2 : l.length ≤ 4398046511000 := by have := HL.out; omega
  go_enter Tryd.func21, Tryd.ntmps21
  go_wp2_with fail
  go_loopw [8, 7] (fun i u wr => ∃ k : Nat, k ≤ l.length ∧ i = .int .i64 (k : Int) ∧ OwnL wr w.heap.size u ((l.take k).filter fun x => hasB ns x.1 == some_) ∧ Below w.heap.size w wr) (fun i _ _ => l.length - (intOf i).toNat)
  case atStart => exact ⟨0, Nat.zero_le _, rfl, ownl_nil _ _, Below.refl _ _⟩
  case round =>
    obtain ⟨k, hk, rfl, ho, hbr⟩ := hrel
    have hsz := hbr.size
    by_cases hlt : k < l.length
    · obtain ⟨b, o, rfl, hb, g0, g1⟩ := HA.out.at_ hlt
      have c0 := (hbr.cell (p := ⟨b, o + k * 2, none⟩) hb).trans g0
      have c1 := (hbr.cell (p := ⟨b, o + k * 2 + 1, none⟩) hb).trans g1
      have i2 : (k : Int) < (l.length : Int) := by omega
      have HT := Lib.hid (take_filter l (fun x => hasB ns x.1 == some_) hlt)
      have HTL := Lib.hid (take_filter_len l (fun x => hasB ns x.1 == some_) k)
      have HC := Lib.hid (has_ref V ns nc (nmOf l k) wr (HV.out.below (hbr.mono (Nat.le_refl _))) hn)
      have HO := Lib.hid ho
      have HBR := Lib.hid hbr
      clear ho hbr g0 g1
      cases hs : (hasB ns (nmOf l k) == some_)
      · rw [hs] at HT
        go_wp2_with (first
          | (go_at_call 40; refine HC.out.mono ?_; rintro e w2 ⟨rfl, hw2⟩; subst hw2))
        go_roundw
        case rel => exact ⟨k + 1, by omega, by go_num, by rw [HT.out]; simpa using HO.out, HBR.out⟩
        case measure => simp [intOf]; omega
      · rw [hs] at HT
        go_wp2_with (first
          | (go_at_call 40; refine HC.out.mono ?_; rintro e w2 ⟨rfl, hw2⟩; subst hw2)
          | (at_builtin; refine app_lbls rfl (.tmp 24) (.tmp 29) rfl w.heap.size _ _ rfl (ownl_below HO.out (below_one _ _)) _ [(nmOf l k, vlOf l k)] 1 rfl (lbls_cell (Row.new _ _ _)) (by have := HTL.out; have := HL.out; simp only [List.length_cons, List.length_nil]; omega) (Nat.le_trans HBR.out.size (by simp)) ?_; intro v3 w3 hown3 hb3 _; have HO3 := Lib.hid hown3; have HB3 := Lib.hid ((HBR.out.alloc HBR.out.size _).trans hb3); clear hown3 hb3))
        go_roundw
        case rel => exact ⟨k + 1, by omega, by go_num, by rw [HT.out]; simpa using HO3.out, HB3.out⟩
        case measure => simp [intOf]; omega
    · obtain rfl : k = l.length := by omega
      rw [List.take_of_length_le (Nat.le_refl _)] at ho
      go_wp2_with fail
      go_ret
      exact ⟨_, rfl, ho, hbr⟩

def behindL : Lbl := (⟨#[98, 101, 104, 105, 110, 100]⟩, ⟨#[]⟩)
theorem own_law (A : Option Addr) (l : List Lbl) (c : Nat) (w : World) (hA : Lbls w A l) (hl : l.length * 32 ≤ 140737488351232) :
    Calls Tryd.prog 16 #[.slice A l.length c] w fun e w' => ∃ G cap,
      e = .returned (.slice (some ⟨G, 0, none⟩) l.length cap) ∧ Lbls w' (some ⟨G, 0, none⟩) (l ++ [behindL]) ∧ l.length + 1 ≤ cap ∧ w.heap.size ≤ G ∧ Below w.heap.size w w' := by
  have HA := Lib.hid hA
  clear hA
  have hl2 : l.length ≤ 4398046511000 := by omega
  have HL := Lib.hid hl
  clear hl
  go_enter Tryd.func16, Tryd.ntmps16
  go_wp2_with (first
    | (at_builtin; refine app_lbls rfl (.tmp 3) (.tmp 4) rfl w.heap.size _ [] rfl (ownl_empty (Row.new w _ _) (Nat.le_refl _)) A l c rfl (HA.out.below (below_one w _)) (by have := HL.out; simp only [List.length_nil]; omega) (by simp) ?_; intro v1 w1 hown1 hb1' _; have HO1 := Lib.hid hown1; have HB1 := Lib.hid ((below_one w (.cells #[] 58)).trans hb1'); clear hown1 hb1')
    | (at_builtin; refine app_lbls rfl (.tmp 5) (.tmp 7) rfl w.heap.size _ ([] ++ l) rfl (ownl_below HO1.out (below_one _ _)) _ [behindL] 1 rfl (lbls_cell (Row.new _ _ _)) (by have := HL.out; simp only [List.nil_append, List.length_cons, List.length_nil]; omega) (Nat.le_trans HB1.out.size (by simp)) ?_; intro v2 w2 hown2 hb2' _; obtain ⟨P2, c2, hv2, hc2, hL2, hG2⟩ := ownl_slice hown2; obtain ⟨g, cap, hv3⟩ := Go.Joins.ownsRow_form hown2 (by simp); rw [hv2] at hv3; injection hv3 with e1 e2 e3; subst e1 e3; have hln : ([] ++ l ++ [behindL]).length = l.length + 1 := (by simp); rw [hln] at hv2 hc2; subst hv2; have HL2 := Lib.hid hL2; have HG2 := Lib.hid (hG2 _ rfl); have HB2 := Lib.hid ((HB1.out.alloc HB1.out.size _).trans hb2'); clear hown2 hb2' hL2 hG2 hln e2))
  go_ret
  exact ⟨_, _, rfl, by simpa using HL2.out, hc2, HG2.out, HB2.out⟩
theorem kept_law (A : Option Addr) (l : List Lbl) (c G cap : Nat) (w : World) (hA : Lbls w A l) (hl : l.length * 32 ≤ 140737488351232) (hG : Lbls w (some ⟨G, 0, none⟩) (l ++ [behindL])) (hcap : l.length + 1 ≤ cap) :
    Calls Tryd.prog 23 #[.slice (some ⟨G, 0, none⟩) l.length cap, .slice A l.length c] w fun e w' => e = .returned (.bool true) ∧ Below w.heap.size w w' := by
  have hG1 : Lbls w (some ⟨G, 0, none⟩) l := by have := hG.front l.length; simpa using this
  obtain ⟨b, o, hbo, hb, g0, _⟩ := hG.at_ (i := l.length) (by simp)
  injection hbo with hbo
  injection hbo with e1 e2 _
  subst e1 e2
  have hn : nmOf (l ++ [behindL]) l.length = ⟨#[98, 101, 104, 105, 110, 100]⟩ := by unfold nmOf; simp [behindL]
  rw [hn, Nat.zero_add] at g0
  have HS := Lib.hid (same_ref (some ⟨G, 0, none⟩) A l l cap c w hG1 hA (by omega) (by omega))
  rw [show decide (l = l) = true from by simp] at HS
  have HC := Lib.hid (fun W (h : Below w.heap.size w W) => (h.cell (p := ⟨G, l.length * 2, none⟩) hb).trans g0)
  have hl2 : l.length ≤ 4398046511000 := by omega
  clear hA hG hG1 g0 hn hl
  go_enter Tryd.func23, Tryd.ntmps23
  go_wp2_with (first
    | (go_at_call 19; refine HS.out.mono ?_; rintro e w2 ⟨rfl, hb2⟩; have q0 := HC.out _ hb2; have HB2 := Lib.hid hb2; clear hb2))
  go_ret
  exact ⟨rfl, HB2.out⟩
end Go.Proofs.YtgiclapgilppgaaDoor
