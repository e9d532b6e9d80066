/- The text of a right set read back: as the program does it. -/
import Derived.Test.YtnhaehjkepmbaaaDoorLbUnesc2
import Derived.Test.YtnhaehjkepmbaaaDoorLbCut
import Derived.Test.YtnhaehjkepmbaaaDoorLbPrint
import Derived.Test.YtnhaehjkepmbaaaDoorLbPick
namespace Go.Proofs.YtnhaehjkepmbaaaDoor
open Go.RowKit Go.Maps
set_option linter.unusedVariables false

theorem trim_txt (X Y Z : List UInt8) (h : Lib.trimPrefix X Y = Z) (w : World) : Calls Tryd.prog 17 #[.string (txt X), .string (txt Y)] w fun e w' => e = .returned (.string (txt Z)) ∧ w' = w := by
  have := Tryd.strings_TrimPrefix (txt X) (txt Y) w
  rw [show (txt X).data.toList = X from strL_txt X, show (txt Y).data.toList = Y from strL_txt Y, h] at this
  exact this
theorem cut_txt (X Y A B : List UInt8) (f : Bool) (h : Lib.cut X Y = (A, B, f)) (m : Int) (w : World) (hs : X.length < 4294967281) (hm : w.cell? ⟨0, 0, none⟩ = some (.int .i64 m)) :
    Calls Tryd.prog 18 #[.string (txt X), .string (txt Y)] w fun e w' => e = .returned (.tuple #[.string (txt A), .string (txt B), .bool f]) ∧ ∃ n, w' = w.drewN n := by
  have hz : (txt X).size = X.length := by simp [txt, ByteArray.size]
  have := Tryd.strings_Cut (txt X) (txt Y) m w (by omega) hm
  rw [show (txt X).data.toList = X from strL_txt X, show (txt Y).data.toList = Y from strL_txt Y, h] at this
  exact this
theorem unesc_txt (V R : List UInt8) (hsz : (escL V ++ 34 :: R).length ≤ 100000000) (w : World) :
    Calls Tryd.prog 19 #[.string (txt (escL V ++ 34 :: R))] w fun e w' => e = .returned (.tuple #[.string (txt V), .string (txt R)]) ∧ Below w.heap.size w w' :=
  unesc_prog (txt (escL V ++ 34 :: R)) V R (strL_txt _) (by simpa [txt, ByteArray.size] using hsz) w
theorem restL_le (l : List Lbl) {k : Nat} (h : k ≤ l.length) : (restL (l.drop k)).length ≤ (restL l).length := by
  induction k with
  | zero => exact Nat.le_refl _
  | succ k ih =>
    have h1 := ih (by omega)
    have h2 : (restL (l.drop (k + 1))).length ≤ (restL (l.drop k)).length := by
      rw [List.drop_eq_getElem_cons (show k < l.length by omega), restL_cons, List.length_append]
      cases h3 : l.drop (k + 1) with
      | nil =>
        show 1 ≤ _
        have : (sepL []).length = 1 := rfl
        omega
      | cons y r =>
        show (restL (y :: r)).length ≤ _ + ([44, 32] ++ restL (y :: r)).length
        rw [List.length_append]
        omega
    omega
theorem take_one' (l : List Lbl) {k : Nat} (h : k < l.length) : l.take (k + 1) = l.take k ++ [(nmOf l k, vlOf l k)] := by
  rw [List.take_succ_eq_append_getElem h]
  congr 2
  unfold nmOf vlOf
  rw [List.getD_eq_getElem?_getD, List.getElem?_eq_getElem h]
  rfl
def sizeOfS : Value → Nat
  | .string s => s.size
  | _ => 0
set_option maxHeartbeats 1000000 in
theorem guess_prog (l : List Lbl) (hn : ∀ k, k < l.length → nameB (strL (nmOf l k)) = true) (h8 : l.length ≤ 1000) (hsz : (restL l).length ≤ 10000000) (m : Int) (w : World) (hw : 0 < w.heap.size) (hm : w.cell? ⟨0, 0, none⟩ = some (.int .i64 m)) :
    Calls Tryd.prog 10 #[.string (txt (printL l))] w fun e w' => ∃ v, e = .returned v ∧ OwnL w' w.heap.size v l ∧ Below w.heap.size w w' := by
  have HT0 := Lib.hid (trim_txt (printL l) [123] (restL l) (trim_front l) w)
  have HN := Lib.hid hn
  have HMM := Lib.hid (fun W (h : Below w.heap.size w W) => (h.cell (p := ⟨0, 0, none⟩) hw).trans hm)
  have HLE := Lib.hid (fun (k : Nat) (h : k ≤ l.length) => restL_le l h)
  obtain ⟨pl, hpl⟩ : ∃ pl, txt (printL l) = pl := ⟨_, rfl⟩
  rw [hpl] at HT0 ⊢
  have hb1 : txt [123] = ⟨#[123]⟩ := rfl
  have hb2 : txt [61, 34] = ⟨#[61, 34]⟩ := rfl
  have hb3 : txt [44, 32] = ⟨#[44, 32]⟩ := rfl
  rw [hb1] at HT0
  clear hn hm hpl hb1
  go_enter Tryd.func10, Tryd.ntmps10
  go_wp2_with (first | (go_at_call 17; refine HT0.out.mono ?_; rintro e w1 ⟨rfl, hw1⟩; rw [hw1]; clear hw1))
  go_loopw [4, 3] (fun t u wr => ∃ k : Nat, k ≤ l.length ∧ t = .string (txt (restL (l.drop k))) ∧ OwnL wr w.heap.size u (l.take k) ∧ Below w.heap.size w wr) (fun t _ _ => sizeOfS t)
  case atStart => exact ⟨0, Nat.zero_le _, by simp, ownl_nil _ _, Below.refl _ _⟩
  case round =>
    obtain ⟨k, hk, rfl, ho, hbr⟩ := hrel
    have HBR := Lib.hid hbr
    have HO := Lib.hid ho
    have HSZ := Lib.hid hsz
    by_cases hlt : k < l.length
    · have hdr : l.drop k = l.getD k lbl0 :: l.drop (k + 1) := by
        rw [List.drop_eq_getElem_cons hlt, List.getD_eq_getElem?_getD, List.getElem?_eq_getElem hlt]; rfl
      obtain ⟨nx, hnx⟩ : ∃ nx, sepL (l.drop (k + 1)) = nx := ⟨_, rfl⟩
      have hrest : restL (l.drop k) = strL (nmOf l k) ++ 61 :: 34 :: (escL (strL (vlOf l k)) ++ 34 :: nx) := by
        rw [hdr, restL_cons, hnx]
        show (strL (nmOf l k) ++ [61, 34] ++ escL (strL (vlOf l k)) ++ [34]) ++ nx = _
        simp
      have hle := HLE.out k hk
      have hC := cut_txt (restL (l.drop k)) [61, 34] (strL (nmOf l k)) (escL (strL (vlOf l k)) ++ 34 :: nx) true (by rw [hrest]; exact cut_mark _ _ (name_no_mark (HN.out k hlt))) m wr (by omega) (HMM.out _ hbr)
      rw [hb2] at hC
      have HC := Lib.hid hC
      have hU := fun W => unesc_txt (strL (vlOf l k)) nx (by
        have := congrArg List.length hrest
        simp only [List.length_append, List.length_cons] at this ⊢
        omega) W
      have HU := Lib.hid hU
      have hT := fun W => trim_txt nx [44, 32] (restL (l.drop (k + 1))) (by rw [← hnx]; exact trim_sep _) W
      rw [hb3] at hT
      have HT := Lib.hid hT
      have HT1 := Lib.hid (take_one' l hlt)
      have hless : (restL (l.drop (k + 1))).length < (restL (l.drop k)).length := by
        have h1 := congrArg List.length hrest
        have h2 : (restL (l.drop (k + 1))).length ≤ nx.length := by
          rw [← hnx]
          cases l.drop (k + 1) with
          | nil => exact Nat.le_refl _
          | cons y r => show _ ≤ ([44, 32] ++ restL (y :: r)).length; rw [List.length_append]; omega
        simp only [List.length_append, List.length_cons] at h1
        omega
      have hs1 : (txt (restL (l.drop k))).size = (restL (l.drop k)).length := by simp [txt, ByteArray.size]
      have hs2 : (txt (restL (l.drop (k + 1)))).size = (restL (l.drop (k + 1))).length := by simp [txt, ByteArray.size]
      have HLT := Lib.hid (show (txt (restL (l.drop (k + 1)))).size < (txt (restL (l.drop k))).size by omega)
      obtain ⟨t1, ht1⟩ : ∃ t, txt (restL (l.drop k)) = t := ⟨_, rfl⟩
      obtain ⟨t2, ht2⟩ : ∃ t, txt (restL (l.drop (k + 1))) = t := ⟨_, rfl⟩
      obtain ⟨t3, ht3⟩ : ∃ t, txt (escL (strL (vlOf l k)) ++ 34 :: nx) = t := ⟨_, rfl⟩
      obtain ⟨t4, ht4⟩ : ∃ t, txt nx = t := ⟨_, rfl⟩
      rw [ht1] at HC HLT ⊢
      rw [ht2] at HT HLT
      rw [ht3] at HC HU
      rw [ht4] at HU HT
      rw [txt_strL] at HC HU
      have HE2 := Lib.hid ht2
      clear hdr hnx hrest hle hC hU hT hless hs1 hs2 ht1 ht2 ht3 ht4 ho hbr hb2 hb3
      have HTL := Lib.hid (show (l.take k).length ≤ 1000 by rw [List.length_take]; omega)
      go_wp2_with (first
        | (go_at_call 18; refine HC.out.mono ?_; rintro e w2 ⟨rfl, n2, hw2⟩; rw [hw2]; clear hw2; have HB2 := Lib.hid (below_drewN' HBR.out n2); have HO2 := Lib.hid (ownl_below HO.out (below_drewN' (Below.refl wr.heap.size wr) n2)))
        | (go_at_call 19; refine (HU.out _).mono ?_; rintro e w3 ⟨rfl, hb3'⟩; have HB3 := Lib.hid (HB2.out.trans (hb3'.mono HB2.out.size)); have HO3 := Lib.hid (ownl_below HO2.out hb3'); clear hb3')
        | (go_at_call 17; refine (HT.out _).mono ?_; rintro e w5 ⟨rfl, hw5⟩; rw [hw5]; clear hw5)
        | (at_builtin; refine app_lbls rfl (.tmp 26) (.tmp 30) rfl w.heap.size _ _ rfl (ownl_below HO3.out (below_one _ _)) _ [(nmOf l k, vlOf l k)] 1 rfl (lbls_cell (Row.new _ _ _)) (by have := HTL.out; simp only [List.length_cons, List.length_nil]; omega) (Nat.le_trans HB3.out.size (by simp)) ?_; intro v4 w4 hown4 hb4 _; have HO4 := Lib.hid hown4; have HB4 := Lib.hid ((HB3.out.alloc HB3.out.size _).trans hb4); clear hown4 hb4))
      go_roundw
      case rel => exact ⟨k + 1, by omega, by rw [HE2.out], by rw [HT1.out]; exact HO4.out, HB4.out⟩
      case measure => have := HLT.out; simpa [sizeOfS] using this
    · obtain rfl : k = l.length := by omega
      have hC := cut_txt [125] [61, 34] [125] [] false cut_end m wr (by simp) (HMM.out _ hbr)
      rw [hb2] at hC
      have hd : restL (l.drop l.length) = [125] := by rw [List.drop_of_length_le (Nat.le_refl _)]; rfl
      rw [hd]
      have HC := Lib.hid hC
      rw [List.take_of_length_le (Nat.le_refl _)] at ho
      have HO := Lib.hid ho
      clear hC hd ho hbr
      obtain ⟨t1, ht1⟩ : ∃ t, txt [125] = t := ⟨_, rfl⟩
      rw [ht1] at HC ⊢
      clear ht1
      go_wp2_with (first
        | (go_at_call 18; refine HC.out.mono ?_; rintro e w2 ⟨rfl, n2, hw2⟩; rw [hw2]; clear hw2; have HB2 := Lib.hid (below_drewN' HBR.out n2); have HO2 := Lib.hid (ownl_below HO.out (below_drewN' (Below.refl wr.heap.size wr) n2))))
      go_ret
      exact ⟨_, rfl, HO2.out, HB2.out⟩
end Go.Proofs.YtnhaehjkepmbaaaDoor
