/- Any series may be a block or not, and have the bytes that the document says: BlockWrites' walk. -/
import Derived.Test.YtgdmcnoogacdaaaGreatDoorBlLives
import Derived.Test.YtgdmcnoogacdaaaGreatDoorBlChk
import Derived.Test.YtgdmcnoogacdaaaGreatDoorBlOwn
import Derived.Test.YtgdmcnoogacdaaaGreatDoorBlSame
namespace Go.Proofs.YtgdmcnoogacdaaaGreatDoor
open Go.RowKit Go.Maps
open Ch
set_option linter.unusedVariables false
set_option linter.unusedSimpArgs false
set_option maxRecDepth 100000
set_option maxHeartbeats 8000000 in
theorem blockWrites_walk (w : World) (hD : Door w) (A : Option Addr) (S : List Ser) (c : Nat) (hA : Sers w A S) (hf : ∀ s ∈ S, SerFit s) (hr : S.length * 48 ≤ 140737488351232) (hlc : S.length ≤ c) :
    Calls Tryz.prog 3 #[.slice A S.length c] w fun e w' => e = .returned (.bool true) ∧ Below w.heap.size w w' := by
  have HO := Lib.hid (own12_prog A S c w hA hf hr)
  have HW := Lib.hid (fun P d (x : World) (h : Sers x P S) (hd : S.length ≤ d) => write_prog P S d x h hf hr hd)
  have HC := Lib.hid (fun P d (x : World) (h : Sers x P S) (hd : S.length ≤ d) => blcheck_prog P S d x h hf hr hd)
  have HRW := Lib.hid (fun x (hx : Below w.heap.size w x) => write12_ref A S c x (hA.below hx) hf hr hlc)
  have HRC := Lib.hid (fun x (hx : Below w.heap.size w x) => check12_ref A S c x (hA.below hx) hf hr hlc)
  have HSM := Lib.hid (fun P d (x : World) (h : Sers x P S) (hx : Below w.heap.size w x) => same12_ref P A S d c x h (hA.below hx) (fun s hs => by have := hf s hs; have h1 := this.ll; have h2 := this.sl; omega) (by omega))
  have HX := Lib.hid (fun x hx => blLives_true x hx)
  have HD := Lib.hid hD
  clear hA hf hD
  obtain ⟨n, hn⟩ : ∃ n, S.length = n := ⟨_, rfl⟩
  have HN := Lib.hid hn
  rw [hn] at HO HW HC HRW HRC HSM hr hlc ⊢
  clear hn
  go_enter Tryz.func3, Tryz.ntmps3
  go_wp2_with fail
  refine HO.out.mono ?_
  rintro e w2 ⟨v2, rfl, ho2, hb2⟩
  obtain ⟨P2, d2, hv2, hd2, hS2⟩ := ownsers_slice ho2
  rw [HN.out] at hv2 hd2
  have HB2 := Lib.hid hb2
  have HS2 := Lib.hid hS2
  have HD2 := Lib.hid hd2
  subst hv2
  clear ho2 hb2 hS2 hd2
  go_wp2_with fail
  refine (HW.out _ _ _ HS2.out HD2.out).mono ?_
  rintro e w3 ⟨hb3, h3⟩
  obtain ⟨P3, L, d3, he3, hP3⟩ : ∃ P3 L d3, e = .returned (.tuple #[.slice P3 L d3, .int .i64 (blChk S)]) ∧ ∃ x : List UInt8, x.length = L ∧ Bys w3 P3 x ∧ x = if blChk S = 0 then blL S else [] := by
    rcases h3 with ⟨hz, rfl⟩ | ⟨hz, v, rfl, ho⟩
    · exact ⟨none, 0, 0, rfl, [], rfl, Bys.empty _ _, by rw [if_neg hz]⟩
    · obtain ⟨P, d, rfl, hP, _⟩ := own_slice' ho
      exact ⟨P, _, d, by rw [hz], blL S, rfl, hP, by rw [if_pos hz]⟩
  obtain ⟨x3, hx3, hP3, hxe3⟩ := hP3
  subst he3
  have HB3 := Lib.hid (below_then HB2.out hb3)
  have HS3 := Lib.hid (HS2.out.below hb3)
  have HP3 := Lib.hid hP3
  have HX3 := Lib.hid (And.intro hx3 hxe3)
  clear hb3 h3 hP3 hx3 hxe3
  go_wp2_with fail
  refine (HRW.out _ HB3.out).mono ?_
  rintro e w4 ⟨hb4, h4⟩
  obtain ⟨P4, L4, d4, he4, hP4⟩ : ∃ P4 L4 d4, e = .returned (.tuple #[.slice P4 L4 d4, .int .i64 (blChk S)]) ∧ ∃ x : List UInt8, x.length = L4 ∧ Bys w4 P4 x ∧ x = if blChk S = 0 then blL S else [] := by
    rcases h4 with ⟨hz, rfl⟩ | ⟨hz, v, rfl, ho⟩
    · exact ⟨none, 0, 0, rfl, [], rfl, Bys.empty _ _, by rw [if_neg hz]⟩
    · obtain ⟨P, d, rfl, hP, _⟩ := own_slice' ho
      exact ⟨P, _, d, by rw [hz], blL S, rfl, hP, by rw [if_pos hz]⟩
  obtain ⟨x4, hx4, hP4, hxe4⟩ := hP4
  subst he4
  obtain rfl : x4 = x3 := by rw [hxe4, HX3.out.2]
  have HB4 := Lib.hid (below_then HB3.out hb4)
  have HS4 := Lib.hid (HS3.out.below hb4)
  have HP34 := Lib.hid (HP3.out.below hb4)
  have HP4 := Lib.hid hP4
  have HX4 := Lib.hid hx4
  clear hb4 h4 hP4 hx4 hxe4
  go_wp2_with fail
  refine (HC.out _ _ _ HS4.out HD2.out).mono ?_
  rintro e w5 ⟨rfl, hb5⟩
  have HB5 := Lib.hid (below_then HB4.out hb5)
  have HS5 := Lib.hid (HS4.out.below hb5)
  have HP35 := Lib.hid (HP34.out.below hb5)
  have HP45 := Lib.hid (HP4.out.below hb5)
  clear hb5
  go_wp2_with fail
  refine (HRC.out _ HB5.out).mono ?_
  rintro e w6 ⟨rfl, hb6⟩
  have HB6 := Lib.hid (below_then HB5.out hb6)
  have HS6 := Lib.hid (HS5.out.below hb6)
  have k1 : (convert 24 9 (.slice P3 L d3)).run Tryz.prog w6 = .ok (.string (txt x4)) w6 := by rw [← HX3.out.1]; exact conv_bys w6 P3 x4 d3 (HP35.out.below hb6)
  have k2 : (convert 24 9 (.slice P4 L4 d4)).run Tryz.prog w6 = .ok (.string (txt x4)) w6 := by rw [← HX4.out]; exact conv_bys w6 P4 x4 d4 (HP45.out.below hb6)
  generalize txt x4 = T at *
  have q1 : (T.toList == T.toList) = true := by simp
  generalize blChk S = E at *
  have q2 : (E == E) = true := by simp
  clear hb6
  go_wp2_with fail
  refine (HSM.out _ _ _ HS6.out HB6.out).mono ?_
  rintro e w7 ⟨rfl, hb7⟩
  have HB7 := Lib.hid (below_then HB6.out hb7)
  clear hb7
  go_wp2_with fail
  refine (HX.out _ (HD.out.below HB7.out)).mono ?_
  rintro e w8 ⟨rfl, hb8⟩
  have HB8 := Lib.hid (below_then HB7.out hb8)
  clear hb8
  go_wp2
  go_ret
  exact ⟨rfl, HB8.out⟩
end Go.Proofs.YtgdmcnoogacdaaaGreatDoor
