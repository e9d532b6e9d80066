/- The walk of a law of layer 5: any sample is laid behind any chunk as the document says, or refused. -/
import Derived.Test.YtheaebkegncdlaaChAppendRef
namespace Go.Proofs.Ytheaebkegncdlaa
open Go.RowKit Go.Maps
set_option linter.unusedVariables false

set_option maxHeartbeats 2000000 in
/-- Both answers alike. -/
theorem chunkAppends_any (R : List UInt8) (code : Int) (w : World) (A : Option Addr) (b : List UInt8) (c : Nat) (t v : Int) (hA : Bys w A b) (hl : b.length ≤ 140737488351232)
    (hp : ∀ (V : Option Addr) (cc : Nat) (W : World), Bys W V b → Calls Try.prog 24 #[.slice V b.length cc, .agg #[.int .i64 t, .int .i64 v]] W fun e w' => (∃ B d, e = .returned (.tuple #[.slice B R.length d, .int .i64 code]) ∧ Bys w' B R) ∧ Below W.heap.size W w')
    (hq : ∀ (V : Option Addr) (cc : Nat) (W : World), Bys W V b → Calls Try.prog 25 #[.slice V b.length cc, .agg #[.int .i64 t, .int .i64 v]] W fun e w' => (∃ B d, e = .returned (.tuple #[.slice B R.length d, .int .i64 code]) ∧ Bys w' B R) ∧ Below W.heap.size W w') :
    Calls Try.prog 5 #[.slice A b.length c, .agg #[.int .i64 t, .int .i64 v]] w fun e w' => e = .returned (.bool true) ∧ Below w.heap.size w w' := by
  have hb0 := below_one w (.cells #[.int .i64 t, .int .i64 v] 44)
  have hX : Row (w.alloc (.cells #[.int .i64 t, .int .i64 v] 44)) w.heap.size 44 #[.int .i64 t, .int .i64 v] := Row.new w _ _
  have HA := Lib.hid (fun W (hW : Below w.heap.size w W) => hA.below hW)
  have hR : Row ((w.alloc (.cells #[.int .i64 t, .int .i64 v] 44)).alloc (.cells #[] 5)) (w.heap.size + 1) 5 #[] := row_at w _ _ _
  have HO := Lib.hid (own_empty hR (Nat.le_refl _))
  have hW1 : Below w.heap.size w ((w.alloc (.cells #[.int .i64 t, .int .i64 v] 44)).alloc (.cells #[] 5)) := hb0.alloc (by simp) _
  have hA1 := HA.out _ hW1
  have hs1 : w.heap.size + 1 ≤ ((w.alloc (.cells #[.int .i64 t, .int .i64 v] 44)).alloc (.cells #[] 5)).heap.size := by simp
  have HX1 := Lib.hid (hX.alloc (.cells #[] 5))
  have q2 : ((txt R).toList == (txt R).toList) = true := beq_self_eq_true _
  have q3 : ((txt b).toList == (txt b).toList) = true := beq_self_eq_true _
  have q4 : (code == code) = true := beq_self_eq_true _
  have hlz : ([] : List UInt8).length + b.length ≤ 211106232532992 := by simp; omega
  have Hp := Lib.hid hp
  have Hq := Lib.hid hq
  clear hA hR hX hb0 hp hq
  go_enter Try.func5, Try.ntmps5
  go_wp2_with (at_builtin; refine app_u8 rfl (.tmp 10) (.tmp 11) rfl (w.heap.size + 1) _ [] rfl HO.out A b c rfl hA1 hlz hs1 ?_; intro v1 w1 hO1 hb1 _; rw [List.nil_append] at hO1; obtain ⟨P1, c1, hv1, hB1, _⟩ := own_slice' hO1; have HB1 := Lib.hid hB1; have HW1 := Lib.hid (hW1.trans (hb1.mono (Nat.le_succ _))); have hX1 := HX1.out.below hb1 (Nat.lt_succ_self _); have x0 : w1.cell? ⟨w.heap.size, 0, none⟩ = some (.int .i64 t) := hX1.cell 0; have x1 : w1.cell? ⟨w.heap.size, 1, none⟩ = some (.int .i64 v) := hX1.cell 1; have HX2 := Lib.hid hX1; subst hv1; clear hO1 hb1 hB1 hX1)
  refine (Hp.out P1 c1 _ HB1.out).mono ?_
  rintro e w2 ⟨⟨B2, d2, rfl, hB2⟩, hb2⟩
  have HW2 := Lib.hid (HW1.out.trans (hb2.mono HW1.out.size))
  have HB12 := Lib.hid (HB1.out.below hb2)
  have HB2 := Lib.hid hB2
  have hX2 := HX2.out.below hb2 HX2.out.lt
  have y0 : w2.cell? ⟨w.heap.size, 0, none⟩ = some (.int .i64 t) := hX2.cell 0
  have y1 : w2.cell? ⟨w.heap.size, 1, none⟩ = some (.int .i64 v) := hX2.cell 1
  clear x0 x1 hX2 hB2 hb2
  go_wp2_with fail
  refine (Hq.out A c _ (HA.out _ HW2.out)).mono ?_
  rintro e w3 ⟨⟨B3, d3, rfl, hB3⟩, hb3⟩
  have HW3 := Lib.hid (HW2.out.trans (hb3.mono HW2.out.size))
  have k1 : (convert 24 9 (.slice B2 R.length d2)).run Try.prog w3 = .ok (.string (txt R)) w3 := conv_bys _ _ _ _ (HB2.out.below hb3)
  have k2 : (convert 24 9 (.slice B3 R.length d3)).run Try.prog w3 = .ok (.string (txt R)) w3 := conv_bys _ _ _ _ hB3
  have k3 : (convert 24 9 (.slice P1 b.length c1)).run Try.prog w3 = .ok (.string (txt b)) w3 := conv_bys _ _ _ _ (HB12.out.below hb3)
  have k4 : (convert 24 9 (.slice A b.length c)).run Try.prog w3 = .ok (.string (txt b)) w3 := conv_bys _ _ _ _ (HA.out _ HW3.out)
  clear y0 y1 hB3 hb3
  go_wp2_with fail
  refine (lives_true _).mono ?_
  rintro e w8 ⟨rfl, hb8⟩
  go_wp2_with fail
  go_ret
  exact ⟨rfl, HW3.out.trans (hb8.mono HW3.out.size)⟩

theorem chunkAppends_walk (w : World) (A : Option Addr) (b : List UInt8) (c : Nat) (hA : Bys w A b) (hl : b.length ≤ 140737488351232) (hlc : b.length ≤ c) (s : Smp) (hs : Fit s) :
    Calls Try.prog 5 #[.slice A b.length c, .agg (smpE s).toArray] w fun e w' => e = .returned (.bool true) ∧ Below w.heap.size w w' := by
  obtain ⟨t, v⟩ := s
  show Calls Try.prog 5 #[.slice A b.length c, .agg #[.int .i64 t, .int .i64 v]] w _
  rcases chunk_or b with ⟨l, h0, he⟩ | hno
  · by_cases hf : l.length = 120
    · refine chunkAppends_any [] 7 w A b c t v hA hl (fun V cc W hV => ?_) (fun V cc W hV => ?_)
      · exact (append_full t v hV (by omega) h0 he hf).mono fun e w' ⟨h1, h2⟩ => ⟨⟨none, 0, h1, Bys.empty _ _⟩, h2⟩
      · exact (aref_full t v hV (by omega) h0 he hf).mono fun e w' ⟨h1, h2⟩ => ⟨⟨none, 0, h1, Bys.empty _ _⟩, h2⟩
    · refine chunkAppends_any (if chk (l ++ [(t, v)]) = 0 then encL (l ++ [(t, v)]) else []) (chk (l ++ [(t, v)])) w A b c t v hA hl (fun V cc W hV => ?_) (fun V cc W hV => ?_)
      · refine (append_yes t v hV (by omega) h0 he hf).mono ?_
        rintro e w' ⟨u, rfl, hu, hb⟩
        obtain ⟨B, d, rfl, hB, _⟩ := own_slice' hu
        exact ⟨⟨B, d, rfl, hB⟩, hb⟩
      · refine (aref_yes t v hV (by omega) h0 he hf).mono ?_
        rintro e w' ⟨u, rfl, ⟨B, d, rfl, hB⟩, hb⟩
        exact ⟨⟨B, d, rfl, hB⟩, hb⟩
  · refine chunkAppends_any [] 5 w A b c t v hA hl (fun V cc W hV => ?_) (fun V cc W hV => ?_)
    · exact (append_no t v hV (by omega) hno).mono fun e w' ⟨h1, h2⟩ => ⟨⟨none, 0, h1, Bys.empty _ _⟩, h2⟩
    · exact (aref_no t v hV (by omega) hno).mono fun e w' ⟨h1, h2⟩ => ⟨⟨none, 0, h1, Bys.empty _ _⟩, h2⟩
end Go.Proofs.Ytheaebkegncdlaa
