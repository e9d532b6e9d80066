/- A nil index tells nothing: a walk of the law. -/
import Derived.Test.YtojlcipphnegaaaGreatIxLives
namespace Go.Proofs.YtojlcipphnegaaaGreat
open Go.RowKit Go.Maps
set_option linter.unusedVariables false
set_option maxHeartbeats 4000000 in
theorem indexNil_walk (w : World) (x0 : Int) (b0 : -9223372036854775808 ≤ x0 ∧ x0 ≤ 9223372036854775807) (s1 : ByteArray) (hr1 : s1.size ≤ reachBytes) (A : Option Addr) (l : List Mt) (c : Nat) (hA : Mts w A l) (hf : MFits l) (hr : l.length * 40 ≤ 140737488351232) (hlc : l.length ≤ c) :
    Calls Tryz.prog 9 #[.int .i64 x0, .string s1, .slice A l.length c] w fun e w' => e = .returned (.bool true) ∧ Below w.heap.size w w' := by
  clear hA hf hr hlc hr1 b0
  have HL := Lib.hid (labels_nil x0 w)
  have HF := Lib.hid (find_nil (.slice A l.length c) w)
  have HN := Lib.hid (len_nil w)
  have HM := Lib.hid (names_nil w)
  have HV := Lib.hid (fun x => values_nil s1 x)
  have HB := Lib.hid (fun x => bytes_nil x)
  have HX := Lib.hid (fun x => ixLives_true x)
  generalize l.length = n at *
  go_enter Tryz.func9, Tryz.ntmps9
  go_wp2_with fail
  refine HL.out.mono ?_
  rintro e w' ⟨rfl, rfl⟩
  go_wp2_with fail
  refine HF.out.mono ?_
  rintro e w' ⟨rfl, rfl⟩
  go_wp2_with fail
  refine HN.out.mono ?_
  rintro e w' ⟨rfl, rfl⟩
  go_wp2_with fail
  refine HM.out.mono ?_
  rintro e w1 ⟨v1, rfl, ho1, hb1⟩
  obtain ⟨P1, c1, rfl, _⟩ := rows_slice ho1
  have HB1 := Lib.hid hb1
  clear ho1 hb1
  go_wp2_with fail
  refine (HV.out _).mono ?_
  rintro e w2 ⟨v2, rfl, ho2, hb2⟩
  obtain ⟨P2, c2, rfl, _⟩ := rows_slice ho2
  have HB2 := Lib.hid (below_then HB1.out hb2)
  clear ho2 hb2
  go_wp2_with fail
  refine (HB.out _).mono ?_
  rintro e w' ⟨rfl, rfl⟩
  go_wp2_with fail
  refine (HX.out _).mono ?_
  rintro e w3 ⟨rfl, hb3⟩
  have HB3 := Lib.hid (below_then HB2.out hb3)
  clear hb3
  go_wp2
  go_ret
  exact ⟨rfl, HB3.out⟩
end Go.Proofs.YtojlcipphnegaaaGreat
