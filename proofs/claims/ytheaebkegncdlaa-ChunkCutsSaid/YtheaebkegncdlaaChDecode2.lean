/- Decode: its walk, behind a deferred function that recovers. -/
import Derived.Test.YtheaebkegncdlaaChDecode
namespace Go.Proofs.Ytheaebkegncdlaa
open Go.RowKit Go.Maps
set_option linter.unusedVariables false

/-- What Decode tells. -/
def DecTold (w : World) (b : List UInt8) (base : Nat) (e : Ending) (w' : World) : Prop :=
  (∃ v l, e = .returned (.tuple #[v, .int .i64 0]) ∧ OwnS w' base v l ∧ chk l = 0 ∧ encL l = b) ∨ (e = .returned (.tuple #[.slice none 0 0, .int .i64 5]) ∧ NoChunk b)

/-- The frame's end behind a panic that was recovered from. -/
theorem caught {w : World} {C D : Nat} {x : Value} {y : Int} (hC : Row w C 22 #[x]) (hD : Row w D 25 #[.int .i64 y]) (hCD : C ≠ D) :
    Row ((w.setCell ⟨C, 0, none⟩ (.slice none 0 0)).setCell ⟨D, 0, none⟩ (.int .i64 5)) C 22 #[.slice none 0 0] ∧ Row ((w.setCell ⟨C, 0, none⟩ (.slice none 0 0)).setCell ⟨D, 0, none⟩ (.int .i64 5)) D 25 #[.int .i64 5] :=
  ⟨(hC.setAt 0 _).setFar (p := ⟨D, 0, none⟩) hCD _, (hD.setFar (p := ⟨C, 0, none⟩) (Ne.symm hCD) _).setAt 0 _⟩

set_option maxRecDepth 20000 in
set_option maxHeartbeats 2000000 in
theorem samples_prog {w : World} {A : Option Addr} {b : List UInt8} {c : Nat} (hA : Bys w A b) (hl : b.length ≤ 140737488355328) :
    Calls Try.prog 34 #[.slice A b.length c] w fun e w' => DecTold w b w.heap.size e w' ∧ Below w.heap.size w w' := by
  have hmf : ∀ (fn : Fn) (first cap : Array Value) (w : World), (Instr.makeFunc fn first cap).run Try.prog w = .ok (.func fn first cap) w := fun _ _ _ _ => rfl
  obtain ⟨N, hN⟩ : ∃ N : Nat, 8 * b.length = N := ⟨_, rfl⟩
  have w8 : (8 : Int) * (b.length : Int) = (N : Int) := by omega
  have w8' : IntKind.i64.wrap (8 * (b.length : Int)) = (N : Int) := by rw [w8]; exact IntWalk.i64_in _ (by omega)
  have w8'' : IntKind.i64.wrap (N : Int) = (N : Int) := IntWalk.i64_in _ (by omega)
  have HN := Lib.hid hN
  clear hN
  go_enter_defers Try.func34, Try.ntmps34
  go_wp2_with fail
  have hW1 := below_one w (.cells #[.slice none 0 0] 22)
  have hW2 : Below w.heap.size w ((w.alloc (.cells #[.slice none 0 0] 22)).alloc (.cells #[.int .i64 0] 25)) := hW1.alloc (by simp) _
  have hW3 : Below w.heap.size w (((w.alloc (.cells #[.slice none 0 0] 22)).alloc (.cells #[.int .i64 0] 25)).alloc (.cells #[.slice A b.length c, .int .i64 (N : Int), .int .i64 0] 82)) := hW2.alloc (by simp; omega) _
  have hC : Row (((w.alloc (.cells #[.slice none 0 0] 22)).alloc (.cells #[.int .i64 0] 25)).alloc (.cells #[.slice A b.length c, .int .i64 (N : Int), .int .i64 0] 82)) w.heap.size 22 #[.slice none 0 0] := ((Row.new w _ _).alloc _).alloc _
  have hD : Row (((w.alloc (.cells #[.slice none 0 0] 22)).alloc (.cells #[.int .i64 0] 25)).alloc (.cells #[.slice A b.length c, .int .i64 (N : Int), .int .i64 0] 82)) (w.heap.size + 1) 25 #[.int .i64 0] := (row_at w _ _ _).alloc _
  have hX : Row (((w.alloc (.cells #[.slice none 0 0] 22)).alloc (.cells #[.int .i64 0] 25)).alloc (.cells #[.slice A b.length c, .int .i64 (N : Int), .int .i64 0] 82)) (w.heap.size + 1 + 1) 82 #[.slice A b.length c, .int .i64 (N : Int), .int .i64 0] := by
    have := Row.new ((w.alloc (.cells #[.slice none 0 0] 22)).alloc (.cells #[.int .i64 0] 25)) 82 #[.slice A b.length c, .int .i64 (N : Int), .int .i64 0]
    rw [show ((w.alloc (.cells #[.slice none 0 0] 22)).alloc (.cells #[.int .i64 0] 25)).heap.size = w.heap.size + 1 + 1 from by simp] at this
    exact this
  generalize (((w.alloc (.cells #[.slice none 0 0] 22)).alloc (.cells #[.int .i64 0] 25)).alloc (.cells #[.slice A b.length c, .int .i64 (N : Int), .int .i64 0] 82)) = w1 at *
  have hRd : Rd w1 (w.heap.size + 1 + 1) A b c 0 := by unfold Rd; rw [HN.out]; exact hX
  clear hX hW1 hW2
  refine (read_prog (base := w.heap.size + 1 + 1) hRd (fun W hW => hA.below (hW3.trans (hW.mono (by omega)))) (Nat.le_refl _) hl).mono ?_
  rintro e w2 ⟨h, hb2⟩
  have KB : Below w.heap.size w w2 := hW3.trans (hb2.mono (by omega))
  have KC := hC.below hb2 (by omega)
  have KD := hD.below hb2 (by omega)
  clear hC hD hRd hW3 hb2
  rcases h with ⟨v, l, us, rfl, hO, h120, hR2, hSt, hGd, hWit⟩ | ⟨rfl, hno⟩
  · obtain ⟨P, cc, hv, _, _, _⟩ := owns_slice hO
    subst hv
    have c0 : w2.cell? ⟨w.heap.size, 0, none⟩ = some (.slice none 0 0) := KC.cell 0
    have cf := KC.frozen 0
    have hR3 : Rd (w2.setCell ⟨w.heap.size, 0, none⟩ (.slice P l.length cc)) (w.heap.size + 1 + 1) A b c (endN 0 us) := Row.setFar hR2 (p := ⟨w.heap.size, 0, none⟩) (by show w.heap.size + 1 + 1 ≠ w.heap.size; omega) _
    have hO3 : OwnS (w2.setCell ⟨w.heap.size, 0, none⟩ (.slice P l.length cc)) (w.heap.size + 1 + 1) (.slice P l.length cc) l := rows_move hO fun k hk => by have := World.ownsRow.lt hO k hk; exact Below.heap_setCell w2 ⟨w.heap.size, 0, none⟩ _ k (by show k ≠ w.heap.size; omega)
    have KB3 := KB.setCell (p := ⟨w.heap.size, 0, none⟩) (Nat.le_refl _) (.slice P l.length cc)
    have KC3 := KC.setAt 0 (.slice P l.length cc)
    have KD3 := KD.setFar (p := ⟨w.heap.size, 0, none⟩) (by show w.heap.size + 1 ≠ w.heap.size; omega) (.slice P l.length cc)
    obtain ⟨P', cc', hv', _, hS3, _⟩ := owns_slice hO3
    injection hv' with e1 _ e3
    subst e1
    have hpos := stand_end us 0 (Nat.zero_le _) hSt
    have hA2 := hA.below KB
    have HA3 := Lib.hid (hA.below KB3)
    have HCK := Lib.hid (chk_prog P l cc _ hS3 (by omega))
    have HR3 := Lib.hid hR3
    have HO3 := Lib.hid hO3
    have HKB3 := Lib.hid KB3
    have HKC3 := Lib.hid KC3
    have HKD3 := Lib.hid KD3
    have HSt := Lib.hid hSt
    have HGd := Lib.hid hGd
    have HWit := Lib.hid hWit
    clear hO hR2 hR3 hO3 KB3 KC3 KD3 hS3 hSt hGd hWit KB KC KD e3
    go_wp2_with fail
    refine HCK.out.mono ?_
    rintro e w4 ⟨rfl, hb4⟩
    have KB := HKB3.out.trans (hb4.mono HKB3.out.size)
    have KC : Row w4 w.heap.size 22 #[.slice P l.length cc] := HKC3.out.below hb4 HKC3.out.lt
    have KD := HKD3.out.below hb4 HKD3.out.lt
    have hR4 : Rd w4 (w.heap.size + 1 + 1) A b c (endN 0 us) := HR3.out.below hb4 (Row.lt HR3.out)
    have hO4 := owns_below HO3.out hb4
    have hA4 := HA3.out.below hb4
    clear hb4 c0 cf
    by_cases hc : chk l = 0
    · rw [hc]
      have hgood := HGd.out (chk_zero.1 hc).2.2
      cases hr : rightB b (endN 0 us : Int)
      · have HNo : Hid (NoChunk b) := Lib.hid (by
          intro lw h1 h2
          have e := HWit.out lw h1 h2
          rw [← e] at h2
          have h3 := enc_right l
          rw [h2, ← hgood, hr] at h3
          cases h3)
        have HE := Lib.hid (end_no hR4 hA4 hl hpos hr)
        clear hR4 hA4 hr hc
        go_wp2_with fail
        refine (must_yes _).mono ?_
        rintro e w5 ⟨rfl, rfl⟩
        go_wp2_with fail
        refine HE.out.mono ?_
        rintro e w5 ⟨rfl, hb5⟩
        replace KB := KB.trans (hb5.mono KB.size)
        replace KC : Row w5 w.heap.size 22 #[.slice P l.length cc] := KC.below hb5 KC.lt
        replace KD := KD.below hb5 KD.lt
        go_wp2_with fail
        refine leaves_cons (f := 47) (args := #[.pointer (some ⟨w.heap.size, 0, none⟩), .pointer (some ⟨w.heap.size + 1, 0, none⟩)]) (by simp) (by simp [go_sem]) ?_
        refine (catch_panicking 25 (.int .i64 5) [] _ KC KD (by rfl) (by omega)).mono ?_
        rintro e u' w'' ⟨rfl, rfl, rfl⟩
        obtain ⟨k1, k2⟩ := caught KC KD (by omega)
        have q1 := k1.cell 0
        have q2 := k2.cell 0
        simp only [List.getElem?_toArray, List.getElem?_cons_zero] at q1 q2
        have HBZ := Lib.hid ((KB.setCell (p := ⟨w.heap.size, 0, none⟩) (Nat.le_refl _) (.slice none 0 0)).setCell (p := ⟨w.heap.size + 1, 0, none⟩) (by show w.heap.size ≤ w.heap.size + 1; omega) (.int .i64 5))
        simp [Leaves, settle, results, Try.results34, go_sem, q1, q2]
        exact ⟨.inr ⟨rfl, HNo.out⟩, HBZ.out⟩
      · have heq := stand_whole HSt.out hr
        rw [hgood] at heq
        have HEQ := Lib.hid (show encL l = b from heq.symm)
        have HCC := Lib.hid hc
        have HE := Lib.hid (end_yes hR4 hA4 hl hpos hr)
        clear hR4 hA4 hr hc heq
        go_wp2_with fail
        refine (must_yes _).mono ?_
        rintro e w5 ⟨rfl, rfl⟩
        go_wp2_with fail
        refine HE.out.mono ?_
        rintro e w5 ⟨rfl, hb5⟩
        have KB' := KB.trans (hb5.mono KB.size)
        have KC' : Row w5 w.heap.size 22 #[.slice P l.length cc] := KC.below hb5 KC.lt
        have KD' : Row w5 (w.heap.size + 1) 25 #[.int .i64 0] := KD.below hb5 KD.lt
        have hO5 := owns_below hO4 hb5
        have c0 : w5.cell? ⟨w.heap.size, 0, none⟩ = some (.slice P l.length cc) := KC'.cell 0
        have cf := KC'.frozen 0
        have d0 : w5.cell? ⟨w.heap.size + 1, 0, none⟩ = some (.int .i64 0) := KD'.cell 0
        have df := KD'.frozen 0
        have HC5 := Lib.hid KC'
        have HD5 := Lib.hid KD'
        have HB5 := Lib.hid KB'
        have HO5 := Lib.hid hO5
        clear KB KC KD KB' KC' KD' hO4 hO5 hb5
        go_wp2_with fail
        have r1 := (HC5.out.setAt 0 (.slice P l.length cc)).setFar (p := ⟨w.heap.size + 1, 0, none⟩) (by show w.heap.size ≠ w.heap.size + 1; omega) (.int .i64 0)
        have r2 := (HD5.out.setFar (p := ⟨w.heap.size, 0, none⟩) (by show w.heap.size + 1 ≠ w.heap.size; omega) (.slice P l.length cc)).setAt 0 (.int .i64 0)
        have q1 := r1.cell 0
        have q2 := r2.cell 0
        simp only [List.setIfInBounds_toArray, List.set_cons_zero, List.getElem?_toArray, List.getElem?_cons_zero] at q1 q2
        have HO7 := Lib.hid (show OwnS ((w5.setCell ⟨w.heap.size, 0, none⟩ (.slice P l.length cc)).setCell ⟨w.heap.size + 1, 0, none⟩ (.int .i64 0)) w.heap.size (.slice P l.length cc) l from
          owns_lower (rows_move (rows_move HO5.out fun k hk => by have := World.ownsRow.lt HO5.out k hk; exact Below.heap_setCell w5 ⟨w.heap.size, 0, none⟩ (.slice P l.length cc) k (by show k ≠ w.heap.size; omega)) fun k hk => by have := World.ownsRow.lt HO5.out k hk; exact Below.heap_setCell (w5.setCell ⟨w.heap.size, 0, none⟩ (.slice P l.length cc)) ⟨w.heap.size + 1, 0, none⟩ (.int .i64 0) k (by show k ≠ w.heap.size + 1; omega)) (by omega))
        have HB7 := Lib.hid ((HB5.out.setCell (p := ⟨w.heap.size, 0, none⟩) (Nat.le_refl _) (.slice P l.length cc)).setCell (p := ⟨w.heap.size + 1, 0, none⟩) (by show w.heap.size ≤ w.heap.size + 1; omega) (.int .i64 0))
        refine leaves_cons (f := 47) (args := #[.pointer (some ⟨w.heap.size, 0, none⟩), .pointer (some ⟨w.heap.size + 1, 0, none⟩)]) (by simp) (by simp [go_sem]) ?_
        refine (catch_idle _ _ _).mono ?_
        rintro e u' w'' ⟨rfl, rfl, rfl⟩
        simp [Leaves, settle, results, Try.results34, go_sem, q1, q2]
        exact ⟨.inl ⟨_, l, rfl, HO7.out, HCC.out, HEQ.out⟩, HB7.out⟩
    · have HNo : Hid (NoChunk b) := Lib.hid (by
        intro lw h1 h2
        have e := HWit.out lw h1 h2
        exact hc (by rw [e]; exact h1))
      have hq : (chk l == 0) = false := by rw [beq_eq_false_iff_ne]; exact hc
      generalize chk l = ck at *
      clear hc hR4 hA4 hO4
      go_wp2_with fail
      refine (must_no _).mono ?_
      rintro e w5 ⟨rfl, rfl⟩
      go_wp2_with fail
      refine leaves_cons (f := 47) (args := #[.pointer (some ⟨w.heap.size, 0, none⟩), .pointer (some ⟨w.heap.size + 1, 0, none⟩)]) (by simp) (by simp [go_sem]) ?_
      refine (catch_panicking 25 (.int .i64 5) [] _ KC KD (by rfl) (by omega)).mono ?_
      rintro e u' w'' ⟨rfl, rfl, rfl⟩
      obtain ⟨k1, k2⟩ := caught KC KD (by omega)
      have q1 := k1.cell 0
      have q2 := k2.cell 0
      simp only [List.getElem?_toArray, List.getElem?_cons_zero] at q1 q2
      have HBZ := Lib.hid ((KB.setCell (p := ⟨w.heap.size, 0, none⟩) (Nat.le_refl _) (.slice none 0 0)).setCell (p := ⟨w.heap.size + 1, 0, none⟩) (by show w.heap.size ≤ w.heap.size + 1; omega) (.int .i64 5))
      simp [Leaves, settle, results, Try.results34, go_sem, q1, q2]
      exact ⟨.inr ⟨rfl, HNo.out⟩, HBZ.out⟩
  · have HNo := Lib.hid hno
    clear hno
    go_wp2_with fail
    refine leaves_cons (f := 47) (args := #[.pointer (some ⟨w.heap.size, 0, none⟩), .pointer (some ⟨w.heap.size + 1, 0, none⟩)]) (by simp) (by simp [go_sem]) ?_
    refine (catch_panicking 25 (.int .i64 5) [] _ KC KD (by rfl) (by omega)).mono ?_
    rintro e u' w'' ⟨rfl, rfl, rfl⟩
    obtain ⟨k1, k2⟩ := caught KC KD (by omega)
    have q1 := k1.cell 0
    have q2 := k2.cell 0
    simp only [List.getElem?_toArray, List.getElem?_cons_zero] at q1 q2
    have HBZ := Lib.hid ((KB.setCell (p := ⟨w.heap.size, 0, none⟩) (Nat.le_refl _) (.slice none 0 0)).setCell (p := ⟨w.heap.size + 1, 0, none⟩) (by show w.heap.size ≤ w.heap.size + 1; omega) (.int .i64 5))
    simp [Leaves, settle, results, Try.results34, go_sem, q1, q2]
    exact ⟨.inr ⟨rfl, HNo.out⟩, HBZ.out⟩

/-- Decode tells the samples of a chunk, or that bytes are none. -/
theorem decode_told {w : World} {A : Option Addr} {b : List UInt8} {c : Nat} (hA : Bys w A b) (hl : b.length ≤ 140737488355328) :
    Calls Try.prog 19 #[.slice A b.length c] w fun e w' => DecTold w b w.heap.size e w' ∧ Below w.heap.size w w' := by
  have HS := Lib.hid (samples_prog (c := c) hA hl)
  clear hA
  go_enter Try.func19, Try.ntmps19
  go_wp2_with fail
  refine HS.out.mono ?_
  rintro e w2 ⟨⟨v, l, rfl, hO, h1, h2⟩ | ⟨rfl, hno⟩, hb2⟩
  · obtain ⟨P, cc, hv, _, _, _⟩ := owns_slice hO
    have HO := Lib.hid hO
    have HH := Lib.hid (And.intro h1 h2)
    generalize hll : l.length = ll at hv
    clear h1 h2 hO hll
    subst hv
    go_wp2_with fail
    go_ret2
    exact ⟨.inl ⟨_, l, rfl, HO.out, HH.out.1, HH.out.2⟩, hb2⟩
  · have HH := Lib.hid hno
    clear hno
    go_wp2_with fail
    go_ret2
    exact ⟨.inr ⟨rfl, HH.out⟩, hb2⟩
theorem decode_yes {w : World} {A : Option Addr} {b : List UInt8} {c : Nat} {l : List Smp} (hA : Bys w A b) (hl : b.length ≤ 140737488355328) (hc : chk l = 0) (he : encL l = b) :
    Calls Try.prog 19 #[.slice A b.length c] w fun e w' => ∃ v, e = .returned (.tuple #[v, .int .i64 0]) ∧ OwnS w' w.heap.size v l ∧ Below w.heap.size w w' := by
  refine (decode_told hA hl).mono ?_
  rintro e w2 ⟨⟨v, m, rfl, hO, h1, h2⟩ | ⟨rfl, hno⟩, hb2⟩
  · have := enc_one h1 hc (h2.trans he.symm)
    subst this
    exact ⟨v, rfl, hO, hb2⟩
  · exact absurd he (hno l hc)
theorem decode_no {w : World} {A : Option Addr} {b : List UInt8} {c : Nat} (hA : Bys w A b) (hl : b.length ≤ 140737488355328) (hno : NoChunk b) :
    Calls Try.prog 19 #[.slice A b.length c] w fun e w' => e = .returned (.tuple #[.slice none 0 0, .int .i64 5]) ∧ Below w.heap.size w w' := by
  refine (decode_told hA hl).mono ?_
  rintro e w2 ⟨⟨v, m, rfl, hO, h1, h2⟩ | ⟨rfl, _⟩, hb2⟩
  · exact absurd h2 (hno m h1)
  · exact ⟨rfl, hb2⟩
/-- Either bytes are the chunk of right samples, or no chunk. -/
theorem chunk_or (b : List UInt8) : (∃ l, chk l = 0 ∧ encL l = b) ∨ NoChunk b := by
  by_cases h : ∃ l, chk l = 0 ∧ encL l = b
  · exact .inl h
  · exact .inr fun lw h1 h2 => h ⟨lw, h1, h2⟩
theorem enc_few {l : List Smp} (h : chk l = 0) : (encL l).length ≤ 3000 := by
  have h1 := encN_len (nums l)
  have h2 := rowB_few h (Nat.le_refl _)
  unfold rowB at h2
  rw [putNs_end] at h2
  have h3 : endN 0 (nums l) ≤ 20000 := h2
  show (encN (nums l)).length ≤ 3000
  omega
end Go.Proofs.Ytheaebkegncdlaa
