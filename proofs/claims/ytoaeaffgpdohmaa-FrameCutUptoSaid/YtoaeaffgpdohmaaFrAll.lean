/- All frames from the front on, as the program and as the document's own answer read them; are rows of bytes the same? -/
import Derived.Test.YtoaeaffgpdohmaaFrRows
import Derived.Test.YtoaeaffgpdohmaaFrGet
import Derived.Test.YtoaeaffgpdohmaaFrGetRef
import Derived.Test.YtoaeaffgpdohmaaFrameMath4
namespace Go.Proofs.Ytoaeaffgpdohmaa
open Go.RowKit
set_option linter.unusedVariables false

theorem fresh_old {w w2 : World} {base : Nat} {v : Value} {vs : List Value} {xs : List (List UInt8)} {a : Value} {l : List UInt8} (hF : Fs w base v vs xs) (hx : Own w2 w.heap.size a l) :
    ∀ k, a.ownBlock = some k → ∀ i, i < xs.length → (vs.getD i undef).ownBlock ≠ some k := by
  intro k hk i hi e
  have h1 := (World.ownsRow.lt hx _ hk).1
  have h2 := (World.ownsRow.lt (hF.each i hi) _ e).2
  omega

theorem af_inv {l : List UInt8} {a : Nat} {xs : List (List UInt8)} {s : Nat} (h : AF l a xs s) : (∃ n e x, FG l a x n e ∧ e ≠ 0 ∧ xs = [] ∧ s = a) ∨ (∃ n x xs', FG l a x n 0 ∧ AF l n xs' s ∧ xs = x :: xs') := by
  cases h with
  | stop _ n e x h he => exact .inl ⟨_, _, _, h, he, rfl, rfl⟩
  | next _ n _ x xs h r => exact .inr ⟨_, _, _, h, r, rfl⟩
set_option maxHeartbeats 1000000 in
theorem all_prog (A : Option Addr) (l : List UInt8) (c : Nat) (xs : List (List UInt8)) (s : Nat) (w : World) (hA : Bys w A l) (hlc : l.length ≤ c) (hl : l.length ≤ 8000000) (haf : AF l 0 xs s) :
    Calls Try.prog 31 #[.slice A l.length c] w fun e w' => ∃ v vs, e = .returned (.tuple #[v, .int .i64 s]) ∧ Fs w' w.heap.size v vs xs ∧ Below w.heap.size w w' := by
  go_enter Try.func31, Try.ntmps31
  go_wp2
  go_step3
  go_wp2
  go_step3
  go_wp2
  go_loopw [4, 5] (fun v a wr => ∃ (vs : List Value) (ps rs : List (List UInt8)) (k : Nat), a = .int .i64 k ∧ ps ++ rs = xs ∧ AF l k rs s ∧ Fs wr w.heap.size v vs ps ∧ Below w.heap.size w wr ∧ k ≤ l.length ∧ ps.length * 6 ≤ k) (fun _ a _ => l.length - (intOf a).toNat)
  case atStart => exact ⟨[], [], xs, 0, rfl, rfl, haf, Fs.none_ _ _, Below.refl _ _, by omega, by simp⟩
  case round =>
    obtain ⟨vs, ps, rs, k, rfl, hps, hr, hF, hbr, hk, h6⟩ := hrel
    have hAr := hA.below hbr
    have hs := hbr.size
    have HF := Lib.hid hF
    have HP := Lib.hid hps
    rcases af_inv hr with ⟨n, e, x, h, he, rfl, hsk⟩ | ⟨n, x, xs', h, r, rfl⟩
    · clear hr
      have Hsk := Lib.hid hsk
      clear hsk
      have HG := Lib.hid (get_prog A l c k x n e wr hAr hlc (by omega) hk h)
      have q : ((e : Int) == 0) = false := by rw [beq_eq_false_iff_ne]; omega
      obtain ⟨rfl, rfl⟩ := fg_none h he
      obtain ⟨Bv, dv, hv, _⟩ := ownV_slice hF.row
      generalize vs.length = nv at hv
      subst hv
      clear hF hps hAr
      go_wp2_with fail
      refine HG.out.mono ?_
      rintro e' w2 ⟨v2, rfl, hown2, hb2⟩
      obtain ⟨B2, d2, rfl, _⟩ := own_slice' hown2
      clear hown2
      go_wp2
      rw [Exit.noGoto_ret]
      go_ret2
      refine ⟨_, vs, by rw [Hsk.out]; rfl, ?_, below_then hbr hb2⟩
      have := HF.out.below hb2
      have e2 := HP.out
      rw [List.append_nil] at e2
      rw [← e2]
      exact this
    · clear hr
      have hn := fg_next h rfl
      have HG := Lib.hid (get_prog A l c k x n 0 wr hAr hlc (by omega) hk h)
      clear hF hps hAr
      go_wp2_with fail
      refine HG.out.mono ?_
      rintro e' w2 ⟨v2, rfl, hown2, hb2⟩
      obtain ⟨B2, d2, rfl, _⟩ := own_slice' hown2
      have HO := Lib.hid hown2
      have hF2 := HF.out.below hb2
      have hfr := fresh_old HF.out hown2
      have hs2 := hb2.size
      clear hown2
      go_wp2_with (at_builtin; refine app_fs rfl (.tmp 19) (.tmp 21) rfl w.heap.size _ vs ps rfl hF2 B2 x d2 1 (own_lower HO.out hs) rfl hfr (by omega) (Nat.le_trans hs hs2) ?_; intro v3 w3 hF3 hb3; obtain ⟨Bv, dv, hv, _⟩ := ownV_slice hF3.row; have HF3 := Lib.hid hF3; clear hF3; generalize (vs ++ [Value.slice B2 x.length d2]).length = nv at hv; subst hv)
      go_roundw
      case rel => exact ⟨_, ps ++ [x], xs', n, by go_num, by rw [List.append_assoc]; exact HP.out, r, HF3.out, (hbr.trans (hb2.mono hs)).trans hb3, by omega, by rw [List.length_append, List.length_singleton]; omega⟩
      case measure => simp [intOf]; omega

set_option maxHeartbeats 1000000 in
theorem all_ref (A : Option Addr) (l : List UInt8) (c : Nat) (xs : List (List UInt8)) (s : Nat) (w : World) (hA : Bys w A l) (hlc : l.length ≤ c) (hl : l.length ≤ 8000000) (haf : AF l 0 xs s) :
    Calls Try.prog 32 #[.slice A l.length c] w fun e w' => ∃ v vs, e = .returned (.tuple #[v, .int .i64 s]) ∧ Fs w' w.heap.size v vs xs ∧ Below w.heap.size w w' := by
  go_enter Try.func32, Try.ntmps32
  go_wp2
  go_loopw [4, 5, 6] (fun v a i wr => ∃ (vs : List Value) (ps rs : List (List UInt8)) (k j : Nat), a = .int .i64 k ∧ i = .int .i64 j ∧ j ≤ k ∧ ps ++ rs = xs ∧ AF l k rs s ∧ Fs wr w.heap.size v vs ps ∧ Below w.heap.size w wr ∧ k ≤ l.length ∧ ps.length * 6 ≤ k) (fun _ a _ _ => l.length - (intOf a).toNat)
  case atStart => exact ⟨[], [], xs, 0, 0, rfl, rfl, Nat.le_refl _, rfl, haf, Fs.none_ _ _, Below.refl _ _, by omega, by simp⟩
  case round =>
    obtain ⟨vs, ps, rs, k, j, rfl, rfl, hjk, hps, hr, hF, hbr, hk, h6⟩ := hrel
    have hAr := hA.below hbr
    have hs := hbr.size
    have HF := Lib.hid hF
    have HP := Lib.hid hps
    have hjl : (j : Int) ≤ (l.length : Int) := by omega
    rcases af_inv hr with ⟨n, e, x, h, he, rfl, hsk⟩ | ⟨n, x, xs', h, r, rfl⟩
    · clear hr
      have Hsk := Lib.hid hsk
      clear hsk
      have HG := Lib.hid (getref_prog A l c k x n e wr hAr hlc (by omega) hk h)
      have q : ((e : Int) != 0) = true := by rw [bne_iff_ne]; omega
      obtain ⟨rfl, rfl⟩ := fg_none h he
      obtain ⟨Bv, dv, hv, _⟩ := ownV_slice hF.row
      generalize vs.length = nv at hv
      subst hv
      clear hF hps hAr
      go_wp2_with fail
      refine HG.out.mono ?_
      rintro e' w2 ⟨v2, rfl, hown2, hb2⟩
      obtain ⟨B2, d2, rfl, _⟩ := own_slice' hown2
      clear hown2
      go_wp2
      go_ret2
      refine ⟨_, vs, by rw [Hsk.out]; rfl, ?_, below_then hbr hb2⟩
      have := HF.out.below hb2
      have e2 := HP.out
      rw [List.append_nil] at e2
      rw [← e2]
      exact this
    · clear hr
      have hn := fg_next h rfl
      have HG := Lib.hid (getref_prog A l c k x n 0 wr hAr hlc (by omega) hk h)
      clear hF hps hAr
      go_wp2_with fail
      refine HG.out.mono ?_
      rintro e' w2 ⟨v2, rfl, hown2, hb2⟩
      obtain ⟨B2, d2, rfl, _⟩ := own_slice' hown2
      have HO := Lib.hid hown2
      have hF2 := HF.out.below hb2
      have hfr := fresh_old HF.out hown2
      have hs2 := hb2.size
      clear hown2
      go_wp2_with (at_builtin; refine app_fs rfl (.tmp 27) (.tmp 29) rfl w.heap.size _ vs ps rfl hF2 B2 x d2 1 (own_lower HO.out hs) rfl hfr (by omega) (Nat.le_trans hs hs2) ?_; intro v3 w3 hF3 hb3; obtain ⟨Bv, dv, hv, _⟩ := ownV_slice hF3.row; have HF3 := Lib.hid hF3; clear hF3; generalize (vs ++ [Value.slice B2 x.length d2]).length = nv at hv; subst hv)
      go_roundw
      case rel => exact ⟨_, ps ++ [x], xs', n, j + 1, by go_num, by go_num, by omega, by rw [List.append_assoc]; exact HP.out, r, HF3.out, (hbr.trans (hb2.mono hs)).trans hb3, by omega, by rw [List.length_append, List.length_singleton]; omega⟩
      case measure => simp [intOf]; omega

theorem same_bool (x : ByteArray) : (x.toList != x.toList) = false := by simp
theorem same_ref (b1 b2 : Nat) (v1 v2 : Value) (vs1 vs2 : List Value) (xs : List (List UInt8)) (w : World) (h1 : Fs w b1 v1 vs1 xs) (h2 : Fs w b2 v2 vs2 xs) (hl : xs.length ≤ 4000000) :
    Calls Try.prog 33 #[v1, v2] w fun e w' => e = .returned (.bool true) ∧ Below w.heap.size w w' := by
  obtain ⟨B1, d1, e1, _⟩ := ownV_slice h1.row
  obtain ⟨B2, d2, e2, _⟩ := ownV_slice h2.row
  have H1 := Lib.hid h1
  have H2 := Lib.hid h2
  rw [h1.len] at e1
  rw [h2.len] at e2
  generalize hn : xs.length = n at *
  have Hn := Lib.hid hn
  subst e1
  subst e2
  clear h1 h2 hn
  go_enter Try.func33, Try.ntmps33
  go_wp2
  go_loopw [5] (fun i wr => ∃ k : Nat, k ≤ n ∧ i = .int .i64 k ∧ ∃ q, wr = w.drewN q) (fun i _ => n - (intOf i).toNat)
  case atStart => exact ⟨0, Nat.zero_le _, rfl, 0, rfl⟩
  case round =>
    obtain ⟨k, hk, rfl, q, rfl⟩ := hrel
    by_cases hlt : k < n
    · have hkx : k < xs.length := by rw [Hn.out]; exact hlt
      have l1 := H1.out.len
      have l2 := H2.out.len
      obtain ⟨g1, c1, f1, _, _, _, hc1⟩ := ownV_form H1.out.row (by omega)
      obtain ⟨g2, c2, f2, _, _, _, hc2⟩ := ownV_form H2.out.row (by omega)
      have x1 := hc1 k (by omega)
      have x2 := hc2 k (by omega)
      obtain ⟨C1, t1, r1, hb1, _⟩ := own_slice' (H1.out.each k hkx)
      obtain ⟨C2, t2, r2, hb2, _⟩ := own_slice' (H2.out.each k hkx)
      rw [r1] at x1
      rw [r2] at x2
      have z1 : ∀ m, (convert 22 9 (.slice C1 (xs.getD k []).length t1)).run Try.prog (w.drewN m) = .ok (.string (txt (xs.getD k []))) (w.drewN m) := fun m => conv_bys _ _ _ _ hb1
      have z2 : ∀ m, (convert 22 9 (.slice C2 (xs.getD k []).length t2)).run Try.prog (w.drewN m) = .ok (.string (txt (xs.getD k []))) (w.drewN m) := fun m => conv_bys _ _ _ _ hb2
      have q0 := same_bool (txt (xs.getD k []))
      simp only [Value.slice.injEq] at f1 f2
      obtain ⟨rfl, _, rfl⟩ := f1
      obtain ⟨rfl, _, rfl⟩ := f2
      have hi1 : (k : Int) < (n : Int) := by omega
      clear hc1 hc2 hb1 hb2 r1 r2 l1 l2 hkx
      generalize txt (xs.getD k []) = T at *
      generalize (xs.getD k []).length = ln at *
      go_wp2_with fail
      go_quiet (fail)
      go_wp2
      go_roundw
      case rel => exact ⟨k + 1, by omega, by go_num, _, rfl⟩
      case measure => simp [intOf]; omega
    · go_wp2
      go_ret
      exact ⟨rfl, below_drewN' (Below.refl _ _) _⟩
end Go.Proofs.Ytoaeaffgpdohmaa
