/- A posting list laid behind bytes: as the document's own answer does it. -/
import Derived.Test.YtmgolnlkepiocaaWaLotI
namespace Go.Proofs.Ytmgolnlkepiocaa
open Go.RowKit Go.Maps
set_option linter.unusedVariables false

set_option maxRecDepth 100000 in
set_option maxHeartbeats 2000000 in
theorem po_bytes_ref (B : Option Addr) (l : List Int) (d : Nat) (w : World) (hB : Zi w B l) (h : pchk l = 0) :
    Calls Try.prog 32 #[.slice B l.length d] w fun e w' => ∃ v, e = .returned v ∧ Own w' w.heap.size v (postL l) ∧ Below w.heap.size w w' := by
  have h8 := (pchk_zero.1 h).1
  have HU1 := Lib.hid (uint_ref l.length w (by omega))
  have HB := Lib.hid hB
  have HH := Lib.hid h
  have HU0 := Lib.hid (uintL_9 (n := l.length) (by omega))
  clear hB h
  go_enter Try.func32, Try.ntmps32
  go_wp2_with (first
    | (go_at_call 29; refine HU1.out.mono ?_; rintro e w2 ⟨v2, rfl, ho2, hb2⟩; have HO2 := Lib.hid ho2; have HB2 := Lib.hid hb2; clear ho2 hb2))
  go_loopw [5, 3, 4] (fun i v u wr => ∃ (k : Nat) (x : List UInt8), k ≤ l.length ∧ i = .int .i64 (k : Int) ∧ u = .int .i64 (before l k) ∧ Own wr w.heap.size v x ∧ x ++ riseF (before l k) (l.drop k) = postL l ∧ x.length ≤ 9 * (k + 1) ∧ Below w.heap.size w wr) (fun i _ _ _ => l.length - (intOf i).toNat)
  case atStart => exact ⟨0, _, Nat.zero_le _, rfl, rfl, HO2.out, rfl, by have := HU0.out; omega, HB2.out⟩
  case round =>
    obtain ⟨k, x, hk, rfl, rfl, ho, hcat, hxl, hbr⟩ := hrel
    have hsz := hbr.size
    by_cases hlt : k < l.length
    · obtain ⟨bb, o, rfl, hbl, g0⟩ := HB.out.at_ hlt
      have i2 : (k : Int) < (l.length : Int) := by omega
      obtain ⟨r1, r2, r3⟩ := rise_at HH.out hlt
      rw [rise_next l hlt] at hcat
      have HBS := Lib.hid (before_succ l k)
      obtain ⟨q, hq⟩ : ∃ q : Nat, l.getD k 0 - before l k = (q : Int) := ⟨(l.getD k 0 - before l k).toNat, by omega⟩
      have hq9 : q ≤ 1099511627776 := by omega
      have hwr : IntKind.i64.wrap (l.getD k 0 - before l k) = (q : Int) := by rw [hq]; exact IntWalk.i64_in _ (by omega)
      have HU := Lib.hid (uintL_9 (n := q) (by omega))
      have HX1 := Lib.hid (fun W => uint_ref q W (by omega))
      rw [hq] at hcat
      rw [show ((q : Nat) : Int).toNat = q from rfl] at hcat
      have HC := Lib.hid (fun W (h : Below w.heap.size w W) => (show W.cell? ⟨bb, o + k, none⟩ = some (.int .i64 (l.getD k 0)) from (h.cell hbl).trans g0))
      have c0 := (hbr.cell (p := ⟨bb, o + k, none⟩) hbl).trans g0
      have HBZ : Hid (Below w.heap.size w wr) := Lib.hid hbr
      have HOZ : Hid (Own wr w.heap.size u3 x) := Lib.hid ho
      have HCAT := Lib.hid hcat
      have HXL := Lib.hid hxl
      have HN1 := Lib.hid (show x.length + (uintL q).length ≤ 211106232532992 by have := HU.out; omega)
      clear hcat ho hbr g0 hxl r1 r2 r3
      generalize before l k = last at *
      generalize l.getD k 0 = n at *
      generalize uintL q = y at *
      clear hq
      go_wp2_with (first
        | (go_at_call 29; refine (HX1.out _).mono ?_; rintro e w3 ⟨v3', rfl, ho3, hb3⟩
           obtain ⟨P3, d3, hv3, hP3, _⟩ := own_slice' ho3
           subst hv3
           have HB3 : Hid (Below w.heap.size w w3) := Lib.hid (HBZ.out.trans (hb3.mono HBZ.out.size))
           have HO3 : Hid (Own w3 w.heap.size u3 x) := Lib.hid (own_below HOZ.out hb3)
           have HP3 := Lib.hid hP3
           clear ho3 hb3 hP3)
        | (at_builtin; refine app_u8 rfl (.tmp 15) (.tmp 22) rfl w.heap.size _ x rfl HO3.out P3 y d3 rfl HP3.out HN1.out HB3.out.size ?_
           intro v4 w4 hown4 hb4 _
           have HB4 : Hid (Below w.heap.size w w4) := Lib.hid (HB3.out.trans hb4)
           have HO4 := Lib.hid hown4
           have e0 := HC.out _ HB4.out
           clear hown4 hb4))
      go_roundw
      case rel => exact ⟨k + 1, _, by omega, by go_num, by rw [HBS.out], HO4.out, by rw [List.append_assoc]; exact HCAT.out, by have := HXL.out; have := HU.out; rw [List.length_append]; omega, HB4.out⟩
      case measure => simp [intOf]; omega
    · obtain rfl : k = l.length := by omega
      rw [List.drop_length] at hcat
      have hx : x = postL l := by rw [← hcat]; simp [riseF]
      rw [hx] at ho
      clear hcat hx hxl
      generalize before l l.length = last at *
      go_wp2_with fail
      go_ret
      exact ⟨_, rfl, ho, hbr⟩
end Go.Proofs.Ytmgolnlkepiocaa
