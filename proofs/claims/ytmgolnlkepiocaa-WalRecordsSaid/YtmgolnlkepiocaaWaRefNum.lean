/- So many numbers, as the document reads them (gaugeref11.numbers), and what stands behind. -/
import Derived.Test.YtmgolnlkepiocaaWaRead
import Derived.Test.YtmgolnlkepiocaaWaLotG
import Derived.Test.YtmgolnlkepiocaaPoReadRef
namespace Go.Proofs.Ytmgolnlkepiocaa
open Go.RowKit Go.Maps
set_option linter.unusedVariables false

def NumsTold (w : World) (xs : List Nat) (p : Int) (E : Nat) (e' : Ending) (w' : World) : Prop := ∃ v, e' = .returned (.tuple #[v, .int .i64 p, .bool (decide (E = 0))]) ∧ OwnZ w' w.heap.size v (if E = 0 then intL xs else []) ∧ Below w.heap.size w w'
set_option maxRecDepth 20000 in
set_option maxHeartbeats 2000000 in
theorem refnums_prog {l : List UInt8} {k : Nat} {a : Int} {xs : List Nat} {p : Int} {E : Nat} (h : GS l k a xs p E) (hk : k ≤ 1000) (A : Option Addr) (c : Nat) (w : World) (hA : Bys w A l) (hlc : l.length ≤ c) (hl : l.length ≤ 140737488355328) :
    Calls Try.prog 71 #[.slice A l.length c, .int .i64 a, .int .i64 k] w (NumsTold w xs p E) := by
  have HA := Lib.hid hA
  have HG := Lib.hid h
  clear hA h
  go_enter Try.func71, Try.ntmps71
  go_wp2_with fail
  go_loopw [1, 9, 10] (fun u1 u9 i wr => ∃ (j : Nat) (a2 : Int) (ys zs : List Nat), j ≤ k ∧ i = .int .i64 (j : Int) ∧ u1 = .int .i64 a2 ∧ GS l (k - j) a2 zs p E ∧ OwnZ wr w.heap.size u9 (intL ys) ∧ ys.length = j ∧ (E = 0 → xs = ys ++ zs) ∧ Below w.heap.size w wr) (fun _ _ i _ => k - (intOf i).toNat)
  case atStart => exact ⟨0, a, [], xs, Nat.zero_le _, rfl, rfl, HG.out, ownz_nil _ _, rfl, fun _ => rfl, Below.refl _ _⟩
  case round =>
    obtain ⟨j, a2, ys, zs, hj, rfl, rfl, hgs, ho, hyl, hxx, hbr⟩ := hrel
    have HO := Lib.hid ho
    have HB := Lib.hid hbr
    have HXX := Lib.hid hxx
    have HYL := Lib.hid hyl
    obtain ⟨P1, d1, hv1, _, _, _⟩ := ownz_slice ho
    rw [show (intL ys).length = j by rw [← hyl]; unfold intL; rw [List.length_map]] at hv1
    subst hv1
    by_cases hlt : j < k
    · have i1 : (j : Int) < (k : Int) := by omega
      rw [show k - j = (k - (j + 1)) + 1 from by omega] at hgs
      obtain ⟨n, nx, e0, hg, hres⟩ := gs_step hgs
      have HT := Lib.hid (gx_ref hg A c wr (HA.out.below hbr) hlc hl)
      have HRES := Lib.hid hres
      clear hgs hres ho hyl hxx hbr hg
      by_cases he0 : e0 = 0
      · subst he0
        rcases HRES.out with ⟨h1, _⟩ | ⟨_, ls', rfl, hgz⟩
        · exact absurd rfl h1
        have HGZ := Lib.hid hgz
        clear HRES hgz
        go_wp2_with (first
          | (go_at_call 98; refine HT.out.mono ?_; rintro e w3 ⟨rfl, hb3⟩
             have HB3 := Lib.hid hb3
             clear hb3)
          | (at_builtin; refine app_zs rfl (.tmp 28) (.tmp 30) rfl w.heap.size (.slice P1 j d1) (intL ys) rfl (ownz_below HO.out (HB3.out.alloc HB3.out.size _)) _ [(n : Int)] 1 rfl (zs_cell (Row.new _ _ _)) (by have := HYL.out; simp [intL]; omega) (Nat.le_trans HB.out.size (Nat.le_trans HB3.out.size (by simp))) ?_
             intro v4 w4 ho4 hb4 _
             have HO4 := Lib.hid ho4
             have HB4 := Lib.hid ((HB.out.trans ((HB3.out.alloc HB3.out.size _).mono HB.out.size)).trans hb4)
             clear ho4 hb4))
        go_roundw
        case rel => exact ⟨j + 1, nx, ys ++ [n], ls', hlt, by go_num, rfl, HGZ.out, by have := HO4.out; unfold intL at this ⊢; rw [List.map_append]; exact this, by rw [List.length_append, HYL.out]; rfl, fun h => by rw [HXX.out h, List.append_assoc]; rfl, HB4.out⟩
        case measure => simp [intOf]; omega
      · have i3 : ((e0 : Int) != 0) = true := bne_iff_ne.2 (by omega)
        have i4 : ((e0 : Int) == 0) = false := beq_eq_false_iff_ne.2 (by omega)
        have HE := Lib.hid (show p = 0 ∧ E = e0 ∧ E ≠ 0 by
          rcases HRES.out with ⟨h1, h2, h3⟩ | ⟨h1, _⟩
          · exact ⟨h2, h3, by rw [h3]; exact h1⟩
          · exact absurd h1 he0)
        clear HRES he0
        go_wp2_with (go_at_call 98; refine HT.out.mono ?_; rintro e w3 ⟨rfl, hb3⟩; have HB3 := Lib.hid (HB.out.trans (hb3.mono HB.out.size)); clear hb3)
        go_ret3
        obtain ⟨e1, e2, e3⟩ := HE.out
        refine ⟨_, (by rw [e1, decide_eq_false e3]; rfl), ?_, HB3.out⟩
        rw [if_neg e3]
        exact ownz_nil _ _
    · obtain rfl : j = k := by omega
      rw [Nat.sub_self] at hgs
      obtain ⟨rfl, rfl, rfl⟩ := gs_end hgs
      have HV := Lib.hid (show xs = ys by have := hxx rfl; simpa using this)
      clear hgs hxx ho hbr HXX hyl
      go_wp2_with fail
      go_ret3
      refine ⟨_, rfl, ?_, HB.out⟩
      rw [if_pos rfl, HV.out]
      exact HO.out
end Go.Proofs.Ytmgolnlkepiocaa
