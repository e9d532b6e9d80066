/- Labels laid behind bytes: as the document's own answer does it. -/
import Derived.Test.YtgiclapgilppgaaDoorLbPut2
namespace Go.Proofs.YtgiclapgilppgaaDoor
open Go.RowKit Go.Maps
set_option linter.unusedVariables false

theorem bytesL_pos (l : List Lbl) : ∀ k, 0 < (bytesF l k).length := by
  intro k
  induction k with
  | zero => exact uintL_pos _
  | succ k ih => rw [bytesF, List.length_append, List.length_append]; omega
attribute [-go_sem] Builtin.append_
set_option maxRecDepth 100000 in
set_option maxHeartbeats 4000000 in
theorem bytes_ref (B : Option Addr) (l : List Lbl) (d : Nat) (w : World) (hB : Lbls w B l) (h : lbChk l = 0) :
    Calls Tryd.prog 54 #[.slice B l.length d] w fun e w' => ∃ v, e = .returned v ∧ Own w' w.heap.size v (bytesL l) ∧ Below w.heap.size w w' := by
  have h8 := (lbChk_ok.1 h).1
  have HU := Lib.hid (uint_ref l.length w (by omega))
  have HB := Lib.hid hB
  have HSM := Lib.hid (fun (k : Nat) (hk : k ≤ l.length) => bytesF_small h hk)
  have HRT := Lib.hid (fun (k : Nat) (hk : k < l.length) => right_at h hk)
  clear hB h
  go_enter Tryd.func54, Tryd.ntmps54
  go_wp2_with (first
    | (go_at_call 69; refine HU.out.mono ?_; rintro e w2 ⟨v2, rfl, ho2, hb2⟩; have HO2 := Lib.hid ho2; have HB2 := Lib.hid hb2; clear ho2 hb2))
  go_loopw [4, 3] (fun i u wr => ∃ k : Nat, k ≤ l.length ∧ i = .int .i64 (k : Int) ∧ Own wr w.heap.size u (bytesF l k) ∧ Below w.heap.size w wr) (fun i _ _ => l.length - (intOf i).toNat)
  case atStart => exact ⟨0, Nat.zero_le _, rfl, HO2.out, HB2.out⟩
  case round =>
    obtain ⟨k, hk, rfl, ho, hbr⟩ := hrel
    have hsz := hbr.size
    by_cases hlt : k < l.length
    · obtain ⟨bb, o, rfl, hbl, g0, g1⟩ := HB.out.at_ hlt
      have i2 : (k : Int) < (l.length : Int) := by omega
      have HT : Hid (bytesF l (k + 1) = (bytesF l k ++ textL (nmOf l k)) ++ textL (vlOf l k)) := Lib.hid rfl
      have HL1 := Lib.hid (HSM.out k hk)
      have HL2 := Lib.hid (HRT.out k hlt)
      have HBZ : Hid (Below w.heap.size w wr.drew) := Lib.hid hbr.drew
      have HOZ : Hid (Own wr.drew w.heap.size u3 (bytesF l k)) := Lib.hid ho
      have HC := Lib.hid (fun W (h : Below w.heap.size w W) => (show W.cell? ⟨bb, o + k * 2, none⟩ = some (.string (nmOf l k)) ∧ W.cell? ⟨bb, o + k * 2 + 1, none⟩ = some (.string (vlOf l k)) from ⟨(h.cell hbl).trans g0, (h.cell hbl).trans g1⟩))
      have HX1 := Lib.hid (fun W => text_ref (nmOf l k) W (by have := HL2.out; omega))
      have HX2 := Lib.hid (fun W => text_ref (vlOf l k) W (by have := HL2.out; omega))
      have HTL1 := Lib.hid (show (textL (nmOf l k)).length ≤ 109 by have := textL_len HL2.out.1 (by omega); omega)
      have HTL2 := Lib.hid (show (textL (vlOf l k)).length ≤ 109 by have := textL_len HL2.out.2 (by omega); omega)
      obtain ⟨c0, c1⟩ := HC.out wr.drew hbr.drew
      have HKV : Hid (∀ k, u3.ownBlock = some k → w.heap.size ≤ k) := Lib.hid (fun k hk => (World.ownsRow.lt ho _ hk).1)
      generalize textL (nmOf l k) = t1 at *
      generalize textL (vlOf l k) = t2 at *
      obtain ⟨x, hx⟩ : ∃ x, bytesF l k = x := ⟨_, rfl⟩
      rw [hx] at HT HL1 HOZ
      obtain ⟨i0, hi, hz0, hz1, hz2⟩ := info_parts u8_info
      have HN1 := Lib.hid (show x.length + t1.length ≤ 211106232532992 by have := HL1.out; have := HTL1.out; omega)
      have HN2 := Lib.hid (show (x ++ t1).length + t2.length ≤ 211106232532992 by rw [List.length_append]; have := HL1.out; have := HTL1.out; have := HTL2.out; omega)
      clear ho hbr g0 g1 hx
      go_upto_region 5 with fail
      go_region_held3 (fun w' => w'.cell? ⟨bb, o + k * 2, none⟩ = some (.string (nmOf l k)) ∧ w'.cell? ⟨bb, o + k * 2 + 1, none⟩ = some (.string (vlOf l k)))
        (first | exact ⟨c0, c1⟩ | exact c0 | exact c1 | exact ⟨d0, d1⟩ | exact d0 | exact d1 | exact ⟨e0, e1⟩ | exact e0 | exact e1 | exact ⟨f0, f1⟩ | exact f0 | exact f1 | exact ⟨g0, g1⟩ | exact g0 | exact g1 | go_keep)
        (first
          | (go_at_call_of 70 (Value.string (nmOf l k)); refine (HX1.out _).mono ?_; rintro e w3 ⟨v3, rfl, ho3, hb3⟩
             obtain ⟨P3, d3, hv3, hP3, _⟩ := own_slice' ho3
             subst hv3
             have HB3 : Hid (Below w.heap.size w w3) := Lib.hid (HBZ.out.trans (hb3.mono HBZ.out.size))
             have HO3 : Hid (Own w3 w.heap.size u3 x) := Lib.hid (own_below HOZ.out hb3)
             have HP3 := Lib.hid hP3
             obtain ⟨d0, d1⟩ := HC.out _ HB3.out
             clear ho3 hb3 hP3)
          | (refine step_app _ rfl (.tmp 14) (.tmp 20) 42 rfl w.heap.size i0 Tryd.underlying42 hi hz0 hz1 hz2 u3 x rfl HO3.out P3 t1 d3 rfl HP3.out HN1.out HB3.out.size ?_
             intro v4 w4 hown4 hg4 _
             have HB4 : Hid (Below w.heap.size w w4) := Lib.hid (Below.grown HB3.out hg4 HB3.out.size HKV.out)
             have HO4 := Lib.hid hown4
             obtain ⟨e0, e1⟩ := HC.out _ HB4.out
             clear hown4 hg4)
          | (go_at_call_of 70 (Value.string (vlOf l k)); refine (HX2.out _).mono ?_; rintro e w5 ⟨v5, rfl, ho5, hb5⟩
             obtain ⟨P5, d5, hv5, hP5, _⟩ := own_slice' ho5
             subst hv5
             have HB5 : Hid (Below w.heap.size w w5) := Lib.hid (HB4.out.trans (hb5.mono HB4.out.size))
             have HO5 : Hid (Own w5 w.heap.size v4 (x ++ t1)) := Lib.hid (own_below HO4.out hb5)
             have HP5 := Lib.hid hP5
             obtain ⟨f0, f1⟩ := HC.out _ HB5.out
             clear ho5 hb5 hP5)
          | (refine step_app _ rfl (.tmp 21) (.tmp 27) 42 rfl w.heap.size i0 Tryd.underlying42 hi hz0 hz1 hz2 v4 (x ++ t1) rfl HO5.out P5 t2 d5 rfl HP5.out HN2.out HB5.out.size ?_
             intro v6 w6 hown6 hg6 _
             have HB6 : Hid (Below w.heap.size w w6) := Lib.hid (Below.grown HB5.out hg6 HB5.out.size (fun k hk => (World.ownsRow.lt HO5.out _ hk).1))
             have HO6 := Lib.hid hown6
             obtain ⟨g0, g1⟩ := HC.out _ HB6.out
             clear hown6 hg6))
      all_goals
        go_wp2_with fail
        go_roundw
        case rel => exact ⟨k + 1, by omega, by go_num, by rw [HT.out]; exact HO6.out, HB6.out⟩
        case measure => simp [intOf]; omega
    · obtain rfl : k = l.length := by omega
      go_wp2_with fail
      go_ret
      exact ⟨_, rfl, ho, hbr⟩
end Go.Proofs.YtgiclapgilppgaaDoor
