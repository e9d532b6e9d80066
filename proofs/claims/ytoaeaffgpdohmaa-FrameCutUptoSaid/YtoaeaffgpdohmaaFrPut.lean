/- A frame laid down behind bytes, as the program and as the document's own answer do it. -/
import Derived.Test.YtoaeaffgpdohmaaFrPutUint
import Derived.Test.YtoaeaffgpdohmaaFrameMath2
namespace Go.Proofs.Ytoaeaffgpdohmaa
open Go.RowKit
set_option linter.unusedVariables false

theorem bys_2 {w : World} {g : Nat} {x y : UInt8} (h : Row w g 5 #[.int .u8 (x.toNat : Int), .int .u8 (y.toNat : Int)]) : Bys w (some ⟨g, 0, none⟩) [x, y] := Row.bys (l := [x, y]) h
theorem byte_mod (n : Nat) : (n : Int) % 256 = ((UInt8.ofNat n).toNat : Int) := by rw [UInt8.toNat_ofNat']; omega
theorem le4_at (s k : Nat) (hk : k < 4) : (le4 s).take (k + 1) = (le4 s).take k ++ [UInt8.ofNat (s / 2 ^ (8 * k))] := by
  have : k = 0 ∨ k = 1 ∨ k = 2 ∨ k = 3 := by omega
  rcases this with rfl | rfl | rfl | rfl <;> simp [le4]
theorem headL_length (x : List UInt8) : (headL x).length = x.length + 2 := by simp [headL]

set_option maxHeartbeats 1000000 in
theorem put_prog (A : Option Addr) (l : List UInt8) (c : Nat) (V : Option Addr) (x : List UInt8) (cx : Nat) (w : World) (hA : Bys w A l) (hV : Bys w V x) (hl : l.length ≤ 140737488351232) (hx : x.length ≤ 65535) :
    Calls Try.prog 27 #[.slice A l.length c, .slice V x.length cx] w fun e w' => ∃ v, e = .returned (.tuple #[v, .int .i64 0]) ∧ Own w' w.heap.size v (l ++ frameL x) ∧ Below w.heap.size w w' := by
  have d0 : decide ((65535 : Int) < (x.length : Int)) = false := by simp; omega
  have hhl := headL_length x
  have Hb0 := Lib.hid (show (x.length : Int) / 256 = ((UInt8.ofNat (x.length / 256)).toNat : Int) by rw [UInt8.toNat_ofNat']; omega)
  have Hhead := Lib.hid (show (l ++ [UInt8.ofNat (x.length / 256), UInt8.ofNat x.length]) ++ x = l ++ headL x by simp [headL])
  have Hf := Lib.hid (show l ++ frameL x = (l ++ headL x) ++ le4 (sumN (headL x)) by simp [frameL])
  go_enter Try.func27, Try.ntmps27
  go_wp2_with fail
  refine (longer_prog A l c _ w hA (by omega) (by omega) (by omega)).mono ?_
  rintro e w1 ⟨v1, rfl, hown1, hb1⟩
  obtain ⟨B1, d1, rfl, _⟩ := own_slice' hown1
  have hs1 := hb1.size
  have hV1 := hV.below hb1
  have HO1 := Lib.hid hown1
  have Hb1 := Lib.hid hb1
  clear hown1 hb1
  go_wp2_with (first
    | (at_builtin; refine app_u8 rfl (.tmp 18) (.tmp 26) rfl w.heap.size _ l rfl (own_alloc HO1.out _) _ [UInt8.ofNat (x.length / 256), UInt8.ofNat x.length] 2 rfl (bys_2 (by rw [← Hb0.out, ← byte_mod]; exact Row.new _ _ _)) (by simp only [List.length_cons, List.length_nil]; omega) (Nat.le_trans hs1 (by simp)) ?_; intro v2 w2 hown2 hb2' hg2; have hb2 : Below w.heap.size w w2 := (Hb1.out.alloc hs1 _).trans hb2'; have hV2 := hV.below hb2; clear hg2 hb2')
    | (at_builtin; refine app_u8 rfl (.tmp 28) (.tmp 29) rfl w.heap.size _ _ rfl hown2 V x cx rfl hV2 (by simp; omega) hb2.size ?_; intro v3 w3 hown3 hb3' hg3; rw [Hhead.out] at hown3; have hb3 : Below w.heap.size w w3 := hb2.trans hb3'; obtain ⟨g, cap, hv3, hgb, hglt, hcap, hmax, _⟩ := own_form hown3 (by rw [List.length_append]; omega); subst hv3; have hq : ¬ cap = l.length := (by rw [List.length_append] at hcap; omega); have HO3 := Lib.hid hown3; clear hown3 hcap hg3 hb3' hown2 hb2 hV2))
  have hB3 : Bys w3 (some ⟨g, l.length, none⟩) (headL x) := by
    have := (own_bys HO3.out).from l.length
    rwa [Nat.zero_add, List.drop_left] at this
  have HS := sum_prog _ (headL x) (cap - l.length) w3 hB3 (by omega)
  rw [hhl] at HS
  refine HS.mono ?_
  rintro e w4 ⟨rfl, rfl⟩
  have hS := sumN_lt (headL x)
  generalize sumN (headL x) = S at *
  generalize hY : l ++ headL x = Y at *
  have hYl : Y.length = l.length + (x.length + 2) := by rw [← hY, List.length_append, hhl]
  have HYl := Lib.hid hYl
  clear HS hB3 hY hYl
  go_wp2_with fail
  go_loopw [6, 36] (fun v i wr => ∃ k : Nat, k ≤ 4 ∧ i = .int .i64 k ∧ Own wr w.heap.size v (Y ++ (le4 S).take k) ∧ Below w.heap.size w wr) (fun _ i _ => 4 - (intOf i).toNat)
  case atStart =>
    refine ⟨0, by omega, rfl, ?_, hb3⟩
    have := HO3.out
    rw [HYl.out] at this
    simpa using this
  case round =>
    obtain ⟨k, hk, rfl, hor, hbr⟩ := hrel
    have hlen : (Y ++ (le4 S).take k).length ≤ 140737488500000 := by
      have := HYl.out
      have h4 : (le4 S).length = 4 := rfl
      rw [List.length_append, List.length_take]
      omega
    by_cases hlt : k < 4
    · have HT := Lib.hid (le4_at S k hlt)
      have Hd := Lib.hid (show (S : Int) / 2 ^ (8 * k) % 256 = ((UInt8.ofNat (S / 2 ^ (8 * k))).toNat : Int) by
        have e : (S : Int) / 2 ^ (8 * k) = ((S / 2 ^ (8 * k) : Nat) : Int) := by simp
        rw [e, byte_mod])
      have hs := hbr.size
      go_wp2_with (at_builtin; refine app_u8 rfl (.tmp 39) (.tmp 45) rfl w.heap.size _ _ rfl (own_alloc hor _) _ [UInt8.ofNat (S / 2 ^ (8 * k))] 1 rfl (bys_1 (by rw [← Hd.out]; exact Row.new _ _ _)) (by simp only [List.length_cons, List.length_nil]; omega) (Nat.le_trans hs (by simp)) ?_; intro v5 w5 hown5 hb5 hg5)
      go_roundw
      case rel => exact ⟨k + 1, by omega, by go_num, by rw [HT.out, ← List.append_assoc]; exact hown5, (hbr.alloc hs _).trans hb5⟩
      case measure => simp [intOf]; omega
    · obtain rfl : k = 4 := by omega
      rw [show (le4 S).take 4 = le4 S from rfl] at hor
      go_wp2
      go_ret2
      exact ⟨_, rfl, by rw [Hf.out]; exact hor, hbr⟩
theorem put_big (A V : Option Addr) (l c n cx : Nat) (w : World) (hn : 65535 < n) (hm : n ≤ 281474976710656) :
    Calls Try.prog 27 #[.slice A l c, .slice V n cx] w fun e w' => e = .returned (.tuple #[.slice none 0 0, .int .i64 3]) ∧ w = w' := by
  have d0 : decide ((65535 : Int) < (n : Int)) = true := by simp; omega
  go_enter Try.func27, Try.ntmps27
  go_wp2
  go_ret2
  exact ⟨rfl, rfl⟩
theorem put_ref_big (A V : Option Addr) (l c n cx : Nat) (w : World) (hn : 65535 < n) (hm : n ≤ 281474976710656) :
    Calls Try.prog 28 #[.slice A l c, .slice V n cx] w fun e w' => e = .returned (.tuple #[.slice none 0 0, .int .i64 3]) ∧ w = w' := by
  have d0 : decide ((65535 : Int) < (n : Int)) = true := by simp; omega
  go_enter Try.func28, Try.ntmps28
  go_wp2
  go_ret2
  exact ⟨rfl, rfl⟩

theorem bys_4 {w : World} {g : Nat} {x y z t : UInt8} (h : Row w g 5 #[.int .u8 (x.toNat : Int), .int .u8 (y.toNat : Int), .int .u8 (z.toNat : Int), .int .u8 (t.toNat : Int)]) : Bys w (some ⟨g, 0, none⟩) [x, y, z, t] := Row.bys (l := [x, y, z, t]) h
theorem own_2 {w : World} {base g : Nat} {x y : UInt8} (h : Row w g 5 #[.int .u8 (x.toNat : Int), .int .u8 (y.toNat : Int)]) (hb : base ≤ g) : Own w base (.slice (some ⟨g, 0, none⟩) 2 2) [x, y] := own_whole (x := [x, y]) h hb (by simp [maxLen])

theorem frame_ref (V : Option Addr) (x : List UInt8) (cx : Nat) (w : World) (hV : Bys w V x) (hx : x.length ≤ 65535) :
    Calls Try.prog 39 #[.slice V x.length cx] w fun e w' => ∃ v, e = .returned v ∧ Own w' w.heap.size v (frameL x) ∧ Below w.heap.size w w' := by
  have hhl := headL_length x
  have Hb0 := Lib.hid (show (x.length : Int) / 256 = ((UInt8.ofNat (x.length / 256)).toNat : Int) by rw [UInt8.toNat_ofNat']; omega)
  have Hhead := Lib.hid (show [UInt8.ofNat (x.length / 256), UInt8.ofNat x.length] ++ x = headL x by simp [headL])
  have Hf := Lib.hid (show frameL x = headL x ++ le4 (sumN (headL x)) from rfl)
  go_enter Try.func39, Try.ntmps39
  go_wp2_with (at_builtin; refine app_u8 rfl (.tmp 13) (.tmp 14) rfl w.heap.size _ [UInt8.ofNat (x.length / 256), UInt8.ofNat x.length] rfl (own_2 (by rw [← Hb0.out, ← byte_mod]; exact Row.new _ _ _) (Nat.le_refl _)) V x cx rfl (hV.alloc _) (by simp only [List.length_cons, List.length_nil]; omega) (by simp) ?_; intro v1 w1 hown1 hb1' hg1; rw [Hhead.out] at hown1; have hb1 : Below w.heap.size w w1 := (below_one _ _).trans hb1'; obtain ⟨B1, d1, hv1, hB1, _⟩ := own_slice' hown1; rw [hhl] at hv1; subst hv1; have HO1 := Lib.hid hown1; clear hown1 hg1 hb1')
  have HS := sum_prog B1 (headL x) d1 w1 hB1 (by omega)
  have HSr := sum_ref B1 (headL x) d1 w1 hB1 (by omega)
  rw [hhl] at HSr
  refine HSr.mono ?_
  rintro e w4 ⟨rfl, rfl⟩
  have hS := sumN_lt (headL x)
  generalize sumN (headL x) = S at *
  have hs1 := hb1.size
  have Hc := Lib.hid (show [UInt8.ofNat S, UInt8.ofNat (S / 256), UInt8.ofNat (S / 65536), UInt8.ofNat (S / 16777216)] = le4 S from rfl)
  have Hd0 := Lib.hid (byte_mod S)
  have Hd1 := Lib.hid (show (S : Int) / 256 % 256 = ((UInt8.ofNat (S / 256)).toNat : Int) by rw [← byte_mod]; omega)
  have Hd2 := Lib.hid (show (S : Int) / 65536 % 256 = ((UInt8.ofNat (S / 65536)).toNat : Int) by rw [← byte_mod]; omega)
  have Hd3 := Lib.hid (show (S : Int) / 16777216 = ((UInt8.ofNat (S / 16777216)).toNat : Int) by rw [← byte_mod]; omega)
  clear HS HSr hB1
  go_wp2_with (at_builtin; refine app_u8 rfl (.tmp 18) (.tmp 33) rfl w.heap.size _ (headL x) rfl (own_alloc HO1.out _) _ (le4 S) 4 rfl (by rw [← Hc.out]; exact bys_4 (by rw [← Hd0.out, ← Hd1.out, ← Hd2.out, ← Hd3.out]; exact Row.new _ _ _)) (by simp only [le4, List.length_cons, List.length_nil]; omega) (Nat.le_trans hs1 (by simp)) ?_; intro v5 w5 hown5 hb5 hg5)
  go_ret
  exact ⟨_, rfl, by rw [Hf.out]; exact hown5, (hb1.alloc hs1 _).trans hb5⟩

theorem put_ref (A : Option Addr) (l : List UInt8) (c : Nat) (V : Option Addr) (x : List UInt8) (cx : Nat) (w : World) (hA : Bys w A l) (hV : Bys w V x) (hl : l.length ≤ 140737488351232) (hx : x.length ≤ 65535) :
    Calls Try.prog 28 #[.slice A l.length c, .slice V x.length cx] w fun e w' => ∃ v, e = .returned (.tuple #[v, .int .i64 0]) ∧ Own w' w.heap.size v (l ++ frameL x) ∧ Below w.heap.size w w' := by
  have d0 : decide ((65535 : Int) < (x.length : Int)) = false := by simp; omega
  have HFL := Lib.hid (frameL_length x)
  go_enter Try.func28, Try.ntmps28
  go_wp2_with (first
    | (go_at_call 39; refine (frame_ref V x cx _ (hV.below hb1) hx).mono ?_; rintro e w2 ⟨v2, rfl, hown2, hb2⟩; obtain ⟨B2, d2, hv2, hB2, _⟩ := own_slice' hown2; subst hv2; have hown1' := own_below hown1 hb2; have hb2' := hb1.trans (hb2.mono hb1.size))
    | (at_builtin; refine app_u8 rfl (.tmp 9) (.tmp 10) rfl w.heap.size _ [] rfl (own_empty (Row.new w _ _) (Nat.le_refl _)) A l c rfl (hA.alloc _) (by simp only [List.length_nil]; omega) (by simp) ?_; intro v1 w1 hown1 hb1' hg1; have hb1 : Below w.heap.size w w1 := ((Below.refl _ _).alloc (Nat.le_refl _) _).trans hb1'; clear hg1)
    | (at_builtin; refine app_u8 rfl (.tmp 11) (.tmp 13) rfl w.heap.size _ l rfl hown1' B2 (frameL x) d2 rfl hB2 (by have := HFL.out; omega) hb2'.size ?_; intro v3 w3 hown3 hb3 hg3))
  go_ret2
  exact ⟨v3, rfl, hown3, hb2'.trans hb3⟩
end Go.Proofs.Ytoaeaffgpdohmaa
