/- A head's Select, whole; its Labels. -/
import Derived.Test.YtpcjnagdanmdpaaHdSelect
namespace Go.Proofs.Ytpcjnagdanmdpaa
open Go.RowKit Go.Maps
open Ch
set_option linter.unusedVariables false
set_option linter.unusedSimpArgs false
set_option maxRecDepth 100000
section
variable {S T : Nat → Prop} {w w' w1 w2 : World} {X : Nat} {p : Plc} {h h' : List Ser} {c c' : Int}
set_option maxHeartbeats 1000000 in
theorem hdselect_yes (hi : HeadIn w X p h c) (hk : HeadOk h) (i : Nat) (hl : i < h.length) (lo hiT : Int) : Calls Try.prog 19 #[.pointer (some ⟨X, 0, none⟩), .int .i64 (i : Int), .int .i64 lo, .int .i64 hiT] w fun e w' =>
    ∃ v, e = .returned (.tuple #[v, .int .i64 0]) ∧ OwnS w' w.heap.size v ((h.getD i ser0).2.filter (inB lo hiT)) ∧ Below w.heap.size w w' := by
  have hmf : ∀ (fn : Fn) (first cap : Array Value) (w : World), (Instr.makeFunc fn first cap).run Try.prog w = .ok (.func fn first cap) w := fun _ _ _ _ => rfl
  have hb2 : Below w.heap.size w ((w.alloc (.cells #[.int .i64 lo] 3)).alloc (.cells #[.int .i64 hiT] 3)) := ((Below.refl w.heap.size w).alloc (Nat.le_refl _) _).alloc (by simp) _
  have hL0 : Row ((w.alloc (.cells #[.int .i64 lo] 3)).alloc (.cells #[.int .i64 hiT] 3)) w.heap.size 3 #[.int .i64 lo] := (Row.new w _ _).alloc _
  have hH0 : Row ((w.alloc (.cells #[.int .i64 lo] 3)).alloc (.cells #[.int .i64 hiT] 3)) (w.heap.size + 1) 3 #[.int .i64 hiT] := by
    have := Row.new (w.alloc (.cells #[.int .i64 lo] 3)) 3 #[.int .i64 hiT]
    rwa [show (w.alloc (.cells #[.int .i64 lo] 3)).heap.size = w.heap.size + 1 by simp] at this
  have hin := hi.below hb2
  have HB2 := Lib.hid hb2
  obtain ⟨W, hW⟩ : ∃ W, ((w.alloc (.cells #[.int .i64 lo] 3)).alloc (.cells #[.int .i64 hiT] 3)) = W := ⟨_, rfl⟩
  rw [hW] at hL0 hH0 hin HB2
  have hlen := (hdlens hk hl).1
  have hgood := (hk.right _ (ser_at hl)).2
  have HAT := Lib.hid (hdat_yes hin i hl)
  have HF := Lib.hid (fun x (hx : Below W.heap.size W x) => from_place (hin.below hx) hl hgood (by omega) (hL0.below hx hL0.lt))
  have HT := Lib.hid (fun x (hx : Below W.heap.size W x) => to_place (hin.below hx) hl hgood (by omega) (hH0.below hx hH0.lt))
  have HSR := Lib.hid (fun x (hx : Below W.heap.size W x) => (hin.below hx).series hl)
  generalize p.fb i = g at *
  have HBT := Lib.hid (fun k m hk hm => between_places (l := (h.getD i ser0).2) (lo := lo) (hi := hiT) (k := k) (m := m) hk hm)
  obtain ⟨l, hll⟩ : ∃ l, (h.getD i ser0).2 = l := ⟨_, rfl⟩
  rw [hll] at HF HT HSR HBT hlen ⊢
  unfold fromF at HF
  unfold toF at HT
  clear hi hin hgood hL0 hH0 hb2 hll hk
  go_enter Try.func19, Try.ntmps19
  go_wp2_with (first | (go_at_call 40; refine HAT.out.mono ?_; rintro e w2 ⟨rfl, rfl⟩) | fail)
  refine (HF.out _ (Below.refl _ _)).mono ?_
  rintro e w3 ⟨⟨k, rfl, hk⟩, hb3⟩
  have HB3 := Lib.hid hb3
  have HK := Lib.hid hk
  have hkl := hk.le
  clear hb3 hk
  go_wp2_with fail
  refine (HT.out _ HB3.out).mono ?_
  rintro e w4 ⟨⟨m, rfl, hm⟩, hb4⟩
  have hml := hm.le
  have HSEL := Lib.hid (HBT.out k m HK.out hm)
  have HB4 := Lib.hid (below_then HB3.out hb4)
  obtain ⟨L, lc, Q, sc, _, _, _, hsc, _, s1, _, hS⟩ := HSR.out _ HB4.out
  have HS := Lib.hid hS
  clear hb4 hm hS
  obtain ⟨n, hn⟩ : ∃ n, l.length = n := ⟨_, rfl⟩
  have HN := Lib.hid hn
  rw [hn] at s1 hsc hlen hkl hml
  clear hn
  have hmx : (max (k : Int) (m : Int)).toNat = max k m := by omega
  have hfl : (l.filter (inB lo hiT)).length = max k m - k := by
    rw [← HSEL.out, List.length_take, List.length_drop, HN.out]
    omega
  have HMX := Lib.hid hmx
  have HFL := Lib.hid hfl
  have HC1 := Lib.hid (show sc = k → Calls Try.prog 32 #[.slice Q ((max (k : Int) (m : Int)).toNat - k) 0] w4 fun e w' => ∃ v, e = .returned v ∧ OwnS w' w4.heap.size v (l.filter (inB lo hiT)) ∧ Below w4.heap.size w4 w' from fun hsk => by
    have hz : l.filter (inB lo hiT) = [] := List.length_eq_zero_iff.1 (by rw [hfl]; omega)
    rw [hmx, ← hfl, hz]
    exact hclone_prog Q [] 0 w4 (Smps.nil _ _) (by simp))
  have HC2 := Lib.hid (show ∀ c2, Calls Try.prog 32 #[.slice (Option.map (fun x => x.add (k * 2)) Q) ((max (k : Int) (m : Int)).toNat - k) c2] w4 fun e w' => ∃ v, e = .returned v ∧ OwnS w' w4.heap.size v (l.filter (inB lo hiT)) ∧ Below w4.heap.size w4 w' from fun c2 => by
    rw [hmx, ← hfl]
    refine hclone_prog _ _ c2 w4 ?_ (by rw [hfl]; omega)
    rcases Nat.eq_zero_or_pos (l.filter (inB lo hiT)).length with h0 | h0
    · rw [List.length_eq_zero_iff.1 h0]
      exact Smps.nil _ _
    · obtain ⟨b, o, hQ, _⟩ := HS.out.all (by have := List.length_filter_le (inB lo hiT) l; omega)
      subst hQ
      rw [← HSEL.out]
      show Smps w4 (some (Addr.add ⟨b, o, none⟩ (k * 2))) _
      rw [add_at]
      exact (HS.out.from k (by rw [HN.out]; exact hkl)).front _)
  clear hmx hfl
  have e1 : (k : Int) ≤ max (k : Int) (m : Int) := by omega
  have e2 : max (k : Int) (m : Int) ≤ (sc : Int) := by omega
  have e3 : (k : Int) ≤ (sc : Int) := by omega
  go_wp2_with fail
  all_goals
    first
      | (refine (HC1.out (by assumption)).mono ?_)
      | (refine (HC2.out _).mono ?_)
    rintro e w5 ⟨v, rfl, ho5, hb5⟩
    have HO5 := Lib.hid (owns_lower ho5 (Nat.le_trans HB2.out.size HB4.out.size))
    have HB5 := Lib.hid (HB2.out.trans ((below_then HB4.out hb5).mono HB2.out.size))
    clear ho5 hb5
    go_wp2_with fail
    go_ret2
    exact ⟨_, rfl, HO5.out, HB5.out⟩
end
end Go.Proofs.Ytpcjnagdanmdpaa
