/- What the making of a longer row of bits does: a new row of bytes that begins with the old ones, a counter, and the closure over both. -/
import Derived.Test.YtheaebkegncdlaaBitLay
import Derived.Test.YtheaebkegncdlaaOwn
import Derived.Laws.CopyOwn
import Derived.Laws.MakeOwn
import Derived.Deep.RegionWith
import Derived.Deep.DeepFit
import Derived.Deep.DeepCutAuto
namespace Go.Proofs.Ytheaebkegncdlaa
open Go.RowKit
set_option linter.unusedVariables false

theorem Two.set_row (w : World) (g : Nat) (cs : Array Value) : Two w (w.setRow g cs) g g :=
  ⟨rfl, rfl, rfl, by simp, fun k _ h _ => setRow_other w g k cs h⟩

theorem add_plain (b o j : Nat) : (⟨b, o, none⟩ : Addr).add j = ⟨b, o + j, none⟩ := by
  unfold Addr.add
  split
  · rename_i h; subst h; rfl
  · rfl

/-- The built-in copy into a row of our own: that row alone has turned. -/
theorem copy_two {P : Program} {w : World} {ops : Array Oper} {rest : List Oper} {o : Oper} {a : Act} {Q : Exit → Act → World → Prop} (hgd : o.guard = none) (d s : Operand) (dT sT : TypeId)
    (ho : o.op = .call { callee := .builtin .copy, args := #[d, s], argTypes := #[dT, sT] }) (elem : TypeId) (hu : P.underlying dT = some (.slice elem)) (hsz : (P.info? elem).map (·.size) = some 1)
    (A : Option Addr) (g m sCap : Nat) (l : List UInt8) (hd : a.eval d = .slice (some ⟨g, 0, none⟩) m m) (hs : a.eval s = .slice A l.length sCap) (hA : Bys w A l)
    (hle : l.length ≤ m) (t : TypeId) (hg : Row w g t (bcells (List.replicate m 0)))
    (h : ∀ w', Row w' g t (bcells (l ++ List.replicate (m - l.length) 0)) → Two w w' g g → wpList P ops Q rest (a.put o.dst (goInt l.length)) w') : wpList P ops Q (o :: rest) a w := by
  have hmin : Nat.min l.length m = l.length := Nat.min_eq_left hle
  rcases hA with rfl | ⟨b, off, rfl, hb, hc⟩
  · exact wpList_copy_nothing hgd d s dT sT ho elem hu hsz _ _ _ _ _ _ hd hs hmin (h w (by simpa using hg) (Two.refl _ _ _))
  · refine wpList_copy_own hgd d s dT sT ho elem hu hsz g 0 m m ⟨b, off, none⟩ l.length sCap hd hs (bcells (List.replicate m 0)) t hg (bcells l).toList ?_ ?_ ?_ ?_ ?_
    · rw [hmin]; simp [bcells]
    · intro j v hj
      have hjl : j < l.length := by
        have := (List.getElem?_eq_some_iff.1 hj).1
        simpa [bcells] using this
      have := hc j hjl
      have hv : v = .int .u8 ((l.getD j 0).toNat : Int) := by
        have e := bcells_get l j hjl
        rw [← Array.getElem?_toList] at e
        rw [e] at hj
        injection hj with hj
        exact hj.symm
      rw [hv, add_plain]
      exact this
    · simp [bcells]; exact hle
    · intro v hv
      simp [bcells] at hv
      obtain ⟨x, _, rfl⟩ := hv
      rfl
    · have hlen : (bcells l).toList.length = l.length := by simp [bcells]
      rw [hlen]
      refine h _ ?_ (Two.set_row _ _ _)
      have := setRow_heap w g _ (((bcells (List.replicate m 0)).toList.take 0 ++ ((bcells l).toList ++ (bcells (List.replicate m 0)).toList.drop (0 + (bcells l).toList.length))).toArray) t _ hg
      rw [hlen] at this
      have e : ((bcells (List.replicate m 0)).toList.take 0 ++ ((bcells l).toList ++ (bcells (List.replicate m 0)).toList.drop (0 + l.length))).toArray = bcells (l ++ List.replicate (m - l.length) 0) := by
        simp [bcells]
      unfold Row
      rw [← e]
      exact this

theorem make_bytes (m : Nat) (hm : m ≤ 281474976710656) (W : World) :
    (Instr.makeSlice 24 (.int .i64 (m : Int)) (.int .i64 (m : Int))).run Try.prog W = .ok (.slice (some ⟨W.heap.size, 0, none⟩) m m) (W.alloc (.cells (bcells (List.replicate m 0)) 5)) := by
  obtain ⟨i0, hi, hz0, hz1, hz2⟩ := info_parts u8_info
  have hr := run_make (P := Try.prog) W 24 5 i0 (.int .u8 0) Try.underlying24 hi hz0 .i64 .i64 m m (by omega) (by omega) (by rw [hz2]; omega) (by omega)
  simp only [Int.toNat_natCast, hz1, made_bytes] at hr
  exact hr

theorem two_alloc (W0 : World) (g : Nat) (hg : W0.heap.size = g) (c1 c2 : Array Value) (t1 t2 : TypeId) :
    Row ((W0.alloc (.cells c1 t1)).alloc (.cells c2 t2)).drew g t1 c1 ∧ Row ((W0.alloc (.cells c1 t1)).alloc (.cells c2 t2)).drew (g + 1) t2 c2 ∧ Below g W0 ((W0.alloc (.cells c1 t1)).alloc (.cells c2 t2)).drew := by
  subst hg
  refine ⟨(Row.new W0 t1 c1).alloc _, ?_, (((Below.refl _ _).alloc (Nat.le_refl _) _).alloc (by simp) _).drew⟩
  have := Row.new (W0.alloc (.cells c1 t1)) t2 c2
  rw [show (W0.alloc (.cells c1 t1)).heap.size = W0.heap.size + 1 from by simp] at this
  exact this

theorem bytesOf_sum (a b m : Nat) (w : World) (h : a + b ≤ 9223372036854775807) (hm : Hid ((a + b + 7) / 8 = m)) :
    Calls Try.prog 63 #[.int .i64 ((a : Int) + b)] w fun e w' => e = .returned (.int .i64 (m : Nat)) ∧ w = w' := by
  rw [← hm.out, ← Int.natCast_add]
  exact bytesOf_prog (a + b) w h

set_option maxHeartbeats 4000000 in
theorem extend_prog (A : Option Addr) (l : List UInt8) (c N more : Nat) (F : Nat → Nat) (w : World) (hA : Bys w A l) (hl : l.length ≤ 281474976710000) (hr : rightB l (N : Int) = true)
    (hF2 : ∀ i, F i < 2) (hF : ∀ i, i < N → F i = bitN l i) (hm : more ≤ 128) :
    Calls Try.prog 56 #[.agg #[.slice A l.length c, .int .i64 N], .int .i64 more] w fun e w' => ∃ L At G,
      e = .returned (.tuple #[.agg #[.slice (some ⟨G, 0, none⟩) ((N + more + 7) / 8) ((N + more + 7) / 8), .int .i64 (N + more : Nat)], .func (.func 64) #[] #[.pointer (some ⟨L, 0, none⟩), .pointer (some ⟨At, 0, none⟩)]]) ∧
      Row w' L 58 #[.slice (some ⟨G, 0, none⟩) ((N + more + 7) / 8) ((N + more + 7) / 8), .int .i64 (N + more : Nat)] ∧ Row w' At 3 #[.int .i64 N] ∧
      Row w' G 5 (bcells (mk ((N + more + 7) / 8) (cutF F N))) ∧ Below w.heap.size w w' ∧ w.heap.size ≤ L ∧ w.heap.size ≤ At ∧ w.heap.size ≤ G ∧ At ≠ G ∧ L ≠ At ∧ L ≠ G := by
  have hlen := (rightB_iff.1 hr).2.1
  rw [Int.toNat_natCast] at hlen
  have hN : N ≤ 8 * l.length := by omega
  have hle : l.length ≤ (N + more + 7) / 8 := by omega
  have hmle : (N + more + 7) / 8 ≤ 281474976710656 := by omega
  have hst := copy_start hr hF2 hF hle
  have Hst := Lib.hid hst
  clear hst hlen
  obtain ⟨m, hmm⟩ : ∃ m, (N + more + 7) / 8 = m := ⟨_, rfl⟩
  rw [hmm] at hle hmle Hst ⊢
  have Hm := Lib.hid hmm
  clear hmm
  have hmk := fun W => make_bytes m hmle W
  have hmf : ∀ (fn : Fn) (first cap : Array Value) (w : World), (Instr.makeFunc fn first cap).run Try.prog w = .ok (.func fn first cap) w := fun _ _ _ _ => rfl
  have hbd : N + more ≤ 9223372036854775807 := by omega
  go_enter Try.func56, Try.ntmps56
  go_upto_region 1 with fail
  go_cut [6] (fun s6 wx => ∃ L G, s6 = .pointer (some ⟨L, 0, none⟩) ∧ Row wx L 58 #[.slice (some ⟨G, 0, none⟩) m m, .int .i64 ((N : Int) + more)] ∧ Row wx G 5 (bcells (List.replicate m 0)) ∧
    w.heap.size + 2 ≤ L ∧ w.heap.size + 2 ≤ G ∧ L ≠ G ∧ Below (w.heap.size + 2) ((w.alloc (.cells #[.slice A l.length c, .int .i64 N] 58)).alloc (.cells #[.slice none 0 0, .int .i64 0] 58)) wx)
  case first =>
    have hwr : IntKind.i64.wrap ((N : Int) + more) = (N : Int) + more := IntWalk.i64_in _ (by omega)
    clear hA hl hr hF2 hF hN hle hmle Hst hm
    go_region_with ((go_at_call 63; refine (bytesOf_sum N more m _ hbd Hm).mono ?_; rintro e w1 ⟨rfl, rfl⟩))
    all_goals (go_wp2_with fail; go_meet)
    all_goals first
      | (obtain ⟨r1, r2, r3⟩ := two_alloc ((w.alloc (.cells #[.slice A l.length c, .int .i64 N] 58)).alloc (.cells #[.slice none 0 0, .int .i64 0] 58)) (w.heap.size + 1 + 1) (by simp) (bcells (List.replicate m 0)) #[.slice (some ⟨w.heap.size + 1 + 1, 0, none⟩) m m, .int .i64 ((N : Int) + more)] 5 58
         exact ⟨_, _, rfl, r2, r1, by omega, by omega, by omega, r3⟩)
      | (obtain ⟨r1, r2, r3⟩ := two_alloc ((w.alloc (.cells #[.slice A l.length c, .int .i64 N] 58)).alloc (.cells #[.slice none 0 0, .int .i64 0] 58)) (w.heap.size + 1 + 1) (by simp) #[.slice (some ⟨w.heap.size + 1 + 1 + 1, 0, none⟩) m m, .int .i64 ((N : Int) + more)] (bcells (List.replicate m 0)) 58 5
         exact ⟨_, _, rfl, r1, r2, by omega, by omega, by omega, r3⟩)
  case rest =>
    obtain ⟨L, G, rfl, hL, hG, hL2, hG2, hLG, hbx⟩ := hcut
    have hB0 : wc.cell? ⟨w.heap.size, 0, none⟩ = some (.slice A l.length c) := by
      rw [hbx.cell (by simp), World.cell?_alloc_past _ _ _ (by simp), World.cell?_alloc_at _ _ _ _ rfl]; rfl
    have hB1 : wc.cell? ⟨w.heap.size, 1, none⟩ = some (.int .i64 N) := by
      rw [hbx.cell (by simp), World.cell?_alloc_past _ _ _ (by simp), World.cell?_alloc_at _ _ _ _ rfl]; rfl
    have hR : Row wc (w.heap.size + 1) 58 #[.slice none 0 0, .int .i64 0] := by
      have := Row.new (w.alloc (.cells #[.slice A l.length c, .int .i64 N] 58)) 58 #[.slice none 0 0, .int .i64 0]
      rw [show (w.alloc (.cells #[.slice A l.length c, .int .i64 N] 58)).heap.size = w.heap.size + 1 from by simp] at this
      exact this.below hbx (by omega)
    have hW : Below w.heap.size w wc := ((below_one w _).alloc (by simp) _).trans (hbx.mono (by omega))
    have hAc := hA.below hW
    have hL0 := hL.cell 0
    have hL1 := hL.cell 1
    simp only [List.getElem?_toArray, List.getElem?_cons_zero, List.getElem?_cons_succ] at hL0 hL1
    clear hbx hbd
    have HL := Lib.hid hL
    have HG := Lib.hid hG
    have HR := Lib.hid hR
    clear hL hG hR
    go_wp2_with (with_reducible refine copy_two rfl (.tmp 21) (.tmp 23) 24 24 rfl 5 Try.underlying24 u8_size A G m c l rfl rfl hAc hle 5 HG.out ?_)
    intro w3 hG3 h3
    have hsz : w.heap.size + 1 < wc.heap.size := by have := HR.out.lt; exact this
    have hB13 := (h3.cell (p := ⟨w.heap.size, 1, none⟩) (by show w.heap.size < _; omega) (by show w.heap.size ≠ _; omega) (by show w.heap.size ≠ _; omega)).trans hB1
    have hL3 : Row w3 L 58 _ := (h3.block L HL.out.lt hLG hLG).trans HL.out
    have hR3 : Row w3 (w.heap.size + 1) 58 _ := (h3.block (w.heap.size + 1) hsz (by omega) (by omega)).trans HR.out
    have hW3 : Below w.heap.size w w3 := Two.below hW h3 hW.size (by omega) (by omega)
    have hLl := hL3.lt
    have hsz3 := hR3.lt
    have hsz4 : w.heap.size < w3.heap.size := by omega
    have hGl := hG3.lt
    have hL0 := hL3.cell 0
    have hL1 := hL3.cell 1
    have hR0 := hR3.cell 0
    have hR1 := hR3.cell 1
    have hRf0 := hR3.frozen 0
    have hRf1 := hR3.frozen 1
    simp only [List.getElem?_toArray, List.getElem?_cons_zero, List.getElem?_cons_succ] at hL0 hL1 hR0 hR1
    rw [Hst.out] at hG3
    have HG3 := Lib.hid hG3
    have HL3 := Lib.hid hL3
    have HR3 := Lib.hid hR3
    clear hG3 hL3 hR3 hB0 hB1 hsz hAc
    go_wp2
    have f1 := ((HR3.out.setAt 0 (.slice (some ⟨G, 0, none⟩) m m)).setAt 1 (.int .i64 ((N : Int) + more))).alloc (.cells #[.int .i64 N] 3)
    have f2 := ((HL3.out.setFar (p := ⟨w.heap.size + 1, 0, none⟩) (by show L ≠ w.heap.size + 1; omega) (.slice (some ⟨G, 0, none⟩) m m)).setFar (p := ⟨w.heap.size + 1, 1, none⟩) (by show L ≠ w.heap.size + 1; omega) (.int .i64 ((N : Int) + more))).alloc (.cells #[.int .i64 N] 3)
    have f3 := ((HG3.out.setFar (p := ⟨w.heap.size + 1, 0, none⟩) (by show G ≠ w.heap.size + 1; omega) (.slice (some ⟨G, 0, none⟩) m m)).setFar (p := ⟨w.heap.size + 1, 1, none⟩) (by show G ≠ w.heap.size + 1; omega) (.int .i64 ((N : Int) + more))).alloc (.cells #[.int .i64 N] 3)
    have f4 := Row.new ((w3.setCell ⟨w.heap.size + 1, 0, none⟩ (.slice (some ⟨G, 0, none⟩) m m)).setCell ⟨w.heap.size + 1, 1, none⟩ (.int .i64 ((N : Int) + more))) 3 #[.int .i64 N]
    rw [show ((w3.setCell ⟨w.heap.size + 1, 0, none⟩ (.slice (some ⟨G, 0, none⟩) m m)).setCell ⟨w.heap.size + 1, 1, none⟩ (.int .i64 ((N : Int) + more))).heap.size = w3.heap.size from by simp [World.setCell]] at f4
    have f5 : Below w.heap.size w (((w3.setCell ⟨w.heap.size + 1, 0, none⟩ (.slice (some ⟨G, 0, none⟩) m m)).setCell ⟨w.heap.size + 1, 1, none⟩ (.int .i64 ((N : Int) + more))).alloc (.cells #[.int .i64 N] 3)) :=
      ((hW3.setCell (p := ⟨w.heap.size + 1, 0, none⟩) (by show _ ≤ w.heap.size + 1; omega) _).setCell (p := ⟨w.heap.size + 1, 1, none⟩) (by show _ ≤ w.heap.size + 1; omega) _).alloc (by simp [World.setCell]; omega) _
    generalize hWW : (((w3.setCell ⟨w.heap.size + 1, 0, none⟩ (.slice (some ⟨G, 0, none⟩) m m)).setCell ⟨w.heap.size + 1, 1, none⟩ (.int .i64 ((N : Int) + more))).alloc (.cells #[.int .i64 N] 3)) = WW at *
    have r0 : WW.cell? ⟨w.heap.size + 1, 0, none⟩ = some (.slice (some ⟨G, 0, none⟩) m m) := f1.cell 0
    have r1 : WW.cell? ⟨w.heap.size + 1, 1, none⟩ = some (.int .i64 ((N : Int) + more)) := f1.cell 1
    refine bodyPost_ret (v := .tuple #[.agg #[.slice (some ⟨G, 0, none⟩) m m, .int .i64 ((N : Int) + more)], .func (.func 64) #[] #[.pointer (some ⟨L, 0, none⟩), .pointer (some ⟨w3.heap.size, 0, none⟩)]])
      (by simp [results, Try.results56, go_sem, r0, r1]) rfl ⟨L, w3.heap.size, G, ?_, ?_, f4, f3, f5, by omega, by omega, by omega, by omega, by omega, hLG⟩
    · rw [Int.natCast_add]
    · rw [Int.natCast_add]; exact f2
end Go.Proofs.Ytheaebkegncdlaa
