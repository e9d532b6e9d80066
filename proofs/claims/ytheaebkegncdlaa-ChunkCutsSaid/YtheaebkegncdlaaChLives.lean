/- The chapter's examples, as every law asks them: they live. -/
import Derived.Test.YtheaebkegncdlaaChDecode2
import Derived.Test.YtheaebkegncdlaaChRef2
namespace Go.Proofs.Ytheaebkegncdlaa
open Go.RowKit Go.Maps
set_option linter.unusedVariables false

theorem no_empty : NoChunk [] := by
  intro lw h1 h2
  have h3 := wit_count h1
  rw [h2] at h3
  unfold gnum at h3
  have hr : rightB [] ((8 * ([] : List UInt8).length : Nat) : Int) = true := right_nil
  rw [if_neg (by rw [hr]; simp), if_pos (by simp)] at h3
  simp at h3
theorem first_enc : encL [(10, 5)] = [3, 9, 65, 40] := by decide +kernel
theorem first_chk : chk [(10, 5)] = 0 := by decide +kernel
theorem lives_true (w : World) : Calls Try.prog 18 #[] w fun e w' => e = .returned (.bool true) ∧ Below w.heap.size w w' := by
  have hS : Smps (w.alloc (.cells #[.int .i64 10, .int .i64 5] 44)) (some ⟨w.heap.size, 0, none⟩) [(10, 5)] := smps_cell (Row.new w _ _)
  have HE := Lib.hid (encode_prog (some ⟨w.heap.size, 0, none⟩) [(10, 5)] 1 _ hS (by simp))
  have hb1 := below_one w (.cells #[.int .i64 10, .int .i64 5] 44)
  rw [first_chk, if_pos rfl, first_enc] at HE
  have HB1 := Lib.hid hb1
  have q1 : ((txt [3, 9, 65, 40]).toList == [3, 9, 65, 40]) = true := by decide +kernel
  clear hS hb1
  go_enter Try.func18, Try.ntmps18
  go_wp2_with fail
  refine HE.out.mono ?_
  rintro e w2 ⟨v, rfl, hv, hb2⟩
  obtain ⟨B, d, hvv, hB, _⟩ := own_slice' hv
  have hlen : ([3, 9, 65, 40] : List UInt8).length = 4 := rfl
  rw [hlen] at hvv
  subst hvv
  have HB := Lib.hid hB
  clear hv hB hlen
  go_wp2_with fail
  refine (decode_no (Bys.empty _ none) (by simp) no_empty).mono ?_
  rintro e w3 ⟨rfl, hb3⟩
  have c1 : (convert 24 9 (.slice B 4 d)).run Try.prog w3 = .ok (.string (txt [3, 9, 65, 40])) w3 := conv_bys _ _ [3, 9, 65, 40] d (HB.out.below hb3)
  have HB3 := Lib.hid (HB1.out.trans (hb2.mono HB1.out.size) |>.trans (hb3.mono (Nat.le_trans HB1.out.size hb2.size)))
  clear hb2 hb3
  go_wp2_with fail
  go_ret
  exact ⟨rfl, HB3.out⟩
end Go.Proofs.Ytheaebkegncdlaa
