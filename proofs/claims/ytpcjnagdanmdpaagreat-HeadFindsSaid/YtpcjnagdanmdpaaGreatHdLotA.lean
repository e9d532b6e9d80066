/- In one text, written by lotify.py: HdAt, HdRow, HdSet. -/
import Derived.Test.YtpcjnagdanmdpaaGreatHdLotI
import Derived.Test.YtpcjnagdanmdpaaGreatHdLotU
namespace Go.Proofs.YtpcjnagdanmdpaaGreat
open Go.RowKit Go.Maps
open Ch
set_option linter.unusedVariables false
set_option linter.unusedSimpArgs false
set_option maxRecDepth 100000
theorem hd_eqnil (w : World) (X : Nat) : (binOp .eql 25 (.pointer (some ⟨X, 0, none⟩)) (.pointer none)).run Tryz.prog w = .ok (.bool false) w := by kernel_rfl
section
variable {w : World} {X : Nat} {p : Plc} {h : List Ser} {c : Int}
theorem hdnew_prog (w : World) : Calls Tryz.prog 5 #[] w fun e w' => e = .returned (.pointer (some ⟨w.heap.size + 1, 0, none⟩)) ∧ HeadAt (fun k => w.heap.size ≤ k) w' (w.heap.size + 1) [] ∧ Below w.heap.size w w' := by
  have hmm := @run_makeMap Tryz.prog
  have HB := Lib.hid (((Below.refl w.heap.size w).alloc (Nat.le_refl _) (.map #[] 0)).alloc (by simp) (.cells #[.slice none 0 0, .map (some w.heap.size), .int .i64 0] 59))
  have hd0 : IdsAt (w.alloc (.map #[] 0)) w.heap.size [] := ids_made w
  have hr : Row ((w.alloc (.map #[] 0)).alloc (.cells #[.slice none 0 0, .map (some w.heap.size), .int .i64 0] 59)) (w.heap.size + 1) 59 #[.slice none 0 0, .map (some w.heap.size), .int .i64 0] := by
    have := Row.new (w.alloc (.map #[] 0)) 59 #[.slice none 0 0, .map (some w.heap.size), .int .i64 0]
    rwa [show (w.alloc (.map #[] 0)).heap.size = w.heap.size + 1 from by simp] at this
  have HD := Lib.hid (show HeadAt (fun k => w.heap.size ≤ k) ((w.alloc (.map #[] 0)).alloc (.cells #[.slice none 0 0, .map (some w.heap.size), .int .i64 0] 59)) (w.heap.size + 1) [] by
    refine ⟨⟨w.heap.size, .slice none 0 0, fun _ => 0, fun _ => .slice none 0 0, fun _ => .slice none 0 0⟩, ⟨hr, ?_, ⟨rfl, .inl ⟨rfl, rfl⟩⟩, fun i hi => (by cases hi), fun i hi => (by cases hi), fun i hi => (by cases hi), fun i j hi => (by cases hi), fun i j hi => (by cases hi)⟩, ?_⟩
    · exact hd0.block (Below.heap_alloc _ _ _ hd0.lt)
    · rintro k (e | e | e | ⟨i, hi, _⟩)
      · omega
      · simp only at e; omega
      · simp [Value.ownBlock] at e
      · cases hi)
  clear hd0 hr
  go_enter Tryz.func5, Tryz.ntmps5
  go_wp2
  go_ret
  exact ⟨rfl, HD.out, HB.out⟩
theorem hdlen_prog (hi : HeadIn w X p h c) : Calls Tryz.prog 18 #[.pointer (some ⟨X, 0, none⟩)] w fun e w' => e = .returned (.int .i64 (h.length : Int)) ∧ w' = w := by
  obtain ⟨P, cc, _, _, x0, _⟩ := hi.cells
  have q := hd_eqnil w X
  clear hi
  go_enter Tryz.func18, Tryz.ntmps18
  go_wp2_with fail
  go_ret
  exact ⟨rfl, rfl⟩
theorem hdcount_prog (hi : HeadIn w X p h c) : Calls Tryz.prog 19 #[.pointer (some ⟨X, 0, none⟩)] w fun e w' => e = .returned (.int .i64 c) ∧ w' = w := by
  obtain ⟨P, cc, _, _, _, _, x2, _⟩ := hi.cells
  have q := hd_eqnil w X
  clear hi
  go_enter Tryz.func19, Tryz.ntmps19
  go_wp2_with fail
  go_ret
  exact ⟨rfl, rfl⟩
theorem hdat_no (hi : HeadIn w X p h c) (i : Int) (hn : i < 0 ∨ (h.length : Int) ≤ i) : Calls Tryz.prog 39 #[.pointer (some ⟨X, 0, none⟩), .int .i64 i] w fun e w' => e = .returned (.tuple #[.pointer none, .int .i64 9]) ∧ w' = w := by
  obtain ⟨P, cc, _, _, x0, _⟩ := hi.cells
  have q := hd_eqnil w X
  clear hi
  by_cases h0 : i < 0
  · have q1 : decide (i < 0) = true := decide_eq_true h0
    go_enter Tryz.func39, Tryz.ntmps39
    go_wp2_with fail
    go_ret2
    exact ⟨rfl, rfl⟩
  · have q1 : decide (i < 0) = false := decide_eq_false h0
    have q2 : decide ((h.length : Int) ≤ i) = true := decide_eq_true (by omega)
    go_enter Tryz.func39, Tryz.ntmps39
    go_wp2_with fail
    go_ret2
    exact ⟨rfl, rfl⟩
theorem hdat_yes (hi : HeadIn w X p h c) (i : Nat) (hl : i < h.length) : Calls Tryz.prog 39 #[.pointer (some ⟨X, 0, none⟩), .int .i64 (i : Int)] w fun e w' => e = .returned (.tuple #[.pointer (some ⟨p.fb i, 0, none⟩), .int .i64 0]) ∧ w' = w := by
  obtain ⟨P, cc, _, hcc, x0, _, _, hall⟩ := hi.cells
  have q := hd_eqnil w X
  obtain ⟨b, rfl, hb, hc⟩ := hall (by omega)
  have g0 := hc i hl
  have q1 : decide ((i : Int) < 0) = false := decide_eq_false (by omega)
  have q2 : decide ((h.length : Int) ≤ (i : Int)) = false := decide_eq_false (by omega)
  have q3 : (i : Int) < (h.length : Int) := by omega
  generalize h.length = n at *
  generalize p.fb i = g at *
  clear hi hc hall
  go_enter Tryz.func39, Tryz.ntmps39
  go_wp2_with fail
  go_ret2
  exact ⟨rfl, rfl⟩
/-- The time of a series' last sample. -/
theorem slast_prog (hi : HeadIn w X p h c) {i : Nat} (hl : i < h.length) (hb : (h.getD i ser0).2.length ≤ 1000000) : Calls Tryz.prog 41 #[.pointer (some ⟨p.fb i, 0, none⟩)] w fun e w' => e = .returned (.int .i64 (lastT (h.getD i ser0))) ∧ Below w.heap.size w w' := by
  obtain ⟨L, lc, P, sc, _, _, _, hsc, _, s1, _, hS⟩ := hi.series hl
  unfold lastT
  generalize p.fb i = g at *
  generalize (h.getD i ser0).2 = l at *
  clear hi
  by_cases h0 : l.length = 0
  · rw [if_pos h0]
    rw [h0] at s1
    clear hS
    go_enter Tryz.func41, Tryz.ntmps41
    go_wp2_with fail
    go_ret
    exact ⟨rfl, Below.refl _ _⟩
  · rw [if_neg h0]
    obtain ⟨b, o, rfl, hb, hc⟩ := hS.all (by omega)
    obtain ⟨g0, _⟩ := hc (l.length - 1) (by omega)
    have q1 : ((l.length : Int) == 0) = false := by rw [beq_eq_false_iff_ne]; omega
    have hw1 : IntKind.i64.wrap ((l.length : Int) - 1) = ((l.length - 1 : Nat) : Int) := by
      rw [show ((l.length : Int) - 1) = ((l.length - 1 : Nat) : Int) by omega]
      exact IntWalk.i64_in _ (by omega)
    have q2 : ((l.length - 1 : Nat) : Int) < (l.length : Int) := by omega
    have q3 : l.length - 1 < l.length := by omega
    generalize hn : l.length = n at *
    generalize tOf l (n - 1) = T at *
    clear hS hc
    go_enter Tryz.func41, Tryz.ntmps41
    go_wp2_with fail
    go_region
    go_wp2_with fail
    go_ret
    exact ⟨rfl, (Below.refl _ _).drew⟩
theorem hdlast_yes (hi : HeadIn w X p h c) (i : Nat) (hl : i < h.length) (hb : (h.getD i ser0).2.length ≤ 1000000) : Calls Tryz.prog 16 #[.pointer (some ⟨X, 0, none⟩), .int .i64 (i : Int)] w fun e w' => e = .returned (.tuple #[.int .i64 (lastT (h.getD i ser0)), .int .i64 0]) ∧ Below w.heap.size w w' := by
  have H := Lib.hid (hdat_yes hi i hl)
  have H2 := Lib.hid (slast_prog hi hl hb)
  generalize lastT (h.getD i ser0) = T at *
  generalize p.fb i = g at *
  clear hi hl hb
  go_enter Tryz.func16, Tryz.ntmps16
  go_wp2_with (first | (go_at_call 39; refine H.out.mono ?_; rintro e w2 ⟨rfl, rfl⟩) | (go_at_call 41; refine H2.out.mono ?_; rintro e w3 ⟨rfl, hb3⟩))
  go_ret2
  exact ⟨rfl, hb3⟩
end
end Go.Proofs.YtpcjnagdanmdpaaGreat

namespace Go.Proofs.YtpcjnagdanmdpaaGreat
open Go.RowKit Go.Maps
open Ch
set_option linter.unusedVariables false
set_option linter.unusedSimpArgs false
section
variable {P : Program}
theorem wp_app_b {w : World} {o : Oper} {a : Act} {K : Act → World → Prop} {Q : Exit → Act → World → Prop} (s y : Operand) (t : TypeId)
    (ho : o.op = .call { callee := .builtin .append, args := #[s, y], argTypes := #[t, t] })
    (e : TypeId) (i : TypeInfo) (z : Value) (size bytes : Nat) (ht : P.underlying t = some (.slice e)) (hi : P.info? e = some i) (hz : i.zero = some z)
    (hsize : i.size = size) (hby : i.bytes = bytes) (hzs : z.cells.size = size) (hsz : 0 < size)
    (v : Value) (n : Nat) (xs : List Value) (hs : a.eval s = v) (hown : w.ownsRow 0 e size v n xs)
    (b c : Nat) (news : List Value) (hy : a.eval y = .slice (some ⟨b, 0, none⟩) 1 c) (hl : news.length = size) (hA : Row w b e news.toArray) (h1 : ∀ u ∈ news, u.oneCell' = true)
    (h63 : n + 1 ≤ maxLen) (hbytes : (n + 1) * bytes ≤ 140737488355328)
    (h : ∀ v' w', w'.ownsRow 0 e size v' (n + 1) (xs ++ news) → w.grownBy w' v.ownBlock → (v'.ownBlock = v.ownBlock ∨ v'.ownBlock = some w.heap.size) → K (a.put o.dst v') w') : o.wp P a w K Q := by
  obtain ⟨v', w', hr, h2, h3, _, h4⟩ := run_append_own_at (P := P) w 0 t o.type e i z size bytes ht hi hz hsize hby hzs hsz v n xs hown ⟨b, 0, none⟩ 1 c news (by omega) (fun j u hj => by
    rw [add_at, Nat.zero_add, hA.cell j, List.getElem?_toArray]
    exact hj) h1 h63 hbytes (Nat.zero_le _)
  unfold Oper.wp execOp
  simp only [ho, resolve, invoke, builtin, Sem.run_bind, Sem.run_pure, Result.andThen_ok, List.map_toArray, List.map_cons, List.map_nil, hs, hy, hr]
  exact h v' w' h2 h3 h4
end
section
variable {w : World} {ops : Array Oper} {rest : List Oper} {o : Oper} {a : Act} {K : Act → World → Prop} {Q : Exit → Act → World → Prop} {E : Prop}
theorem ptr_info : (Tryz.prog.info? 74).map (fun i => (i.zero, i.size, i.bytes)) = some (some (.pointer none), 1, 8) := by kernel_rfl
/-- What an append of one pointer makes. -/
def AppP (w : World) (v : Value) (n g : Nat) (xs : List Value) (v' : Value) (w' : World) : Prop := w'.ownsRow 0 74 1 v' (n + 1) (xs ++ [ptrV g]) ∧ w.grownBy w' v.ownBlock ∧ (v'.ownBlock = v.ownBlock ∨ v'.ownBlock = some w.heap.size)
theorem wp_app_ptr (s y : Operand) (ho : o.op = .call { callee := .builtin .append, args := #[s, y], argTypes := #[57, 57] })
    (v : Value) (n : Nat) (xs : List Value) (hs : a.eval s = v) (hown : w.ownsRow 0 74 1 v n xs) (g b c : Nat) (hy : a.eval y = .slice (some ⟨b, 0, none⟩) 1 c) (hb : Row w b 74 #[ptrV g]) (hn : n ≤ 1000)
    (h : ∀ v' w', AppP w v n g xs v' w' → K (a.put o.dst v') w') : o.wp Tryz.prog a w K Q := by
  obtain ⟨i0, hi, hz0, hz1, hz2⟩ := info_parts ptr_info
  exact wp_app_b s y _ ho _ i0 _ 1 8 Tryz.underlying57 hi hz0 hz1 hz2 rfl (by omega) v n xs hs hown b c [ptrV g] hy rfl hb (fun u hu => by rw [List.mem_singleton.1 hu]; rfl) (by simp only [maxLen]; omega) (by omega) fun v' w' h1 h2 h3 => h v' w' ⟨h1, h2, h3⟩
theorem step_app_ptr (hgd : o.guard = none) (s y : Operand) (ho : o.op = .call { callee := .builtin .append, args := #[s, y], argTypes := #[57, 57] })
    (v : Value) (n : Nat) (xs : List Value) (hs : a.eval s = v) (hown : w.ownsRow 0 74 1 v n xs) (g b c : Nat) (hy : a.eval y = .slice (some ⟨b, 0, none⟩) 1 c) (hb : Row w b 74 #[ptrV g]) (hn : n ≤ 1000)
    (h : ∀ v' w', AppP w v n g xs v' w' → K (a.put o.dst v') w') : if Region.wanted o (yielded ops a.tmps) = true then Oper.wp Tryz.prog o a w K Q else E := by
  have hw : Region.wanted o (yielded ops a.tmps) = true := by simp [Region.wanted, hgd]
  rw [if_pos hw]
  exact wp_app_ptr s y ho v n xs hs hown g b c hy hb hn h
/-- What an append of one sample makes. -/
def AppS (w : World) (v : Value) (l : List Smp) (x : Smp) (v' : Value) (w' : World) : Prop := OwnS w' 0 v' (l ++ [x]) ∧ w.grownBy w' v.ownBlock ∧ (v'.ownBlock = v.ownBlock ∨ v'.ownBlock = some w.heap.size)
theorem wp_app_smp (s y : Operand) (ho : o.op = .call { callee := .builtin .append, args := #[s, y], argTypes := #[50, 50] })
    (v : Value) (l : List Smp) (hs : a.eval s = v) (hown : OwnS w 0 v l) (t u : Int) (b c : Nat) (hy : a.eval y = .slice (some ⟨b, 0, none⟩) 1 c) (hb : Row w b 68 #[.int .i64 t, .int .i64 u]) (hn : l.length ≤ 1000000)
    (h : ∀ v' w', AppS w v l (t, u) v' w' → K (a.put o.dst v') w') : o.wp Tryz.prog a w K Q := by
  obtain ⟨i0, hi, hz0, hz1, hz2⟩ := info_parts sample_info
  refine wp_app_b s y _ ho _ i0 _ 2 16 Tryz.underlying50 hi hz0 hz1 hz2 rfl (by omega) v l.length _ hs hown b c (smpE (t, u)) hy rfl hb (fun u hu => by
    simp only [smpE, List.mem_cons, List.not_mem_nil, or_false] at hu
    rcases hu with rfl | rfl <;> rfl) (by simp only [maxLen]; omega) (by omega) fun v' w' h1 h2 h3 => h v' w' ⟨?_, h2, h3⟩
  unfold OwnS
  rw [List.flatMap_append, List.length_append]
  simpa using h1
theorem step_app_smp (hgd : o.guard = none) (s y : Operand) (ho : o.op = .call { callee := .builtin .append, args := #[s, y], argTypes := #[50, 50] })
    (v : Value) (l : List Smp) (hs : a.eval s = v) (hown : OwnS w 0 v l) (t u : Int) (b c : Nat) (hy : a.eval y = .slice (some ⟨b, 0, none⟩) 1 c) (hb : Row w b 68 #[.int .i64 t, .int .i64 u]) (hn : l.length ≤ 1000000)
    (h : ∀ v' w', AppS w v l (t, u) v' w' → K (a.put o.dst v') w') : if Region.wanted o (yielded ops a.tmps) = true then Oper.wp Tryz.prog o a w K Q else E := by
  have hw : Region.wanted o (yielded ops a.tmps) = true := by simp [Region.wanted, hgd]
  rw [if_pos hw]
  exact wp_app_smp s y ho v l hs hown t u b c hy hb hn h
/-- A call of a function by its contract, as one step of a region that draws its order. -/
theorem step_call {P : Program} {R : Ending → World → Prop} (hgd : o.guard = none) (k : Nat) (args : List Operand) (ats : Array TypeId) (vals : Array Value) (ho : o.op = .call { callee := .value (.func k), args := args.toArray, argTypes := ats })
    (hv : (args.map a.eval).toArray = vals) (he : (callFunc k vals).run P w = .ok (.enter k vals) w) (hC : Calls P k vals w R) (h : ∀ e w', R e w' → ∃ v, e = .returned v ∧ K (a.put o.dst v) w') : if Region.wanted o (yielded ops a.tmps) = true then Oper.wp P o a w K Q else E := by
  have hw : Region.wanted o (yielded ops a.tmps) = true := by simp [Region.wanted, hgd]
  rw [if_pos hw]
  unfold Oper.wp
  have hx : (execOp a.eval o).run P w = .ok (.enter k vals) w := by
    unfold execOp
    simp [ho, resolve, hv, he, invoke, Act.eval, Deferred.ofValue, Result.andThen]
  rw [hx, Oper.upon_enter]
  refine hC.mono fun e w' hr => ?_
  obtain ⟨v, rfl, hk⟩ := h e w' hr
  exact hk
end
end Go.Proofs.YtpcjnagdanmdpaaGreat

namespace Go.Proofs.YtpcjnagdanmdpaaGreat
open Go.RowKit Go.Maps
open Ch
set_option linter.unusedVariables false
set_option linter.unusedSimpArgs false
set_option maxRecDepth 100000
theorem Row.drew {w : World} {g : Nat} {t : TypeId} {cs : Array Value} (h : Row w g t cs) : Row w.drew g t cs := h
theorem rows_drew {w : World} {base e size n : Nat} {v : Value} {xs : List Value} (h : w.ownsRow base e size v n xs) : w.drew.ownsRow base e size v n xs := h
/-- Block k is a row of type t. -/
def Ty (w : World) (k : Nat) (t : TypeId) : Prop := ∃ cs, w.heap[k]? = some (.cells cs t (0, 0))
def Mp (w : World) (k : Nat) : Prop := ∃ es clock, w.heap[k]? = some (.map es clock)
section
variable {S : Nat → Prop} {w w' w1 w2 : World} {X : Nat} {p : Plc} {h h' : List Ser} {c c' : Int}
theorem Ty.ne {k k' : Nat} {t t' : TypeId} (a : Ty w k t) (b : Ty w k' t') (ht : t ≠ t') : k ≠ k' := fun e => by
  obtain ⟨cs, ha⟩ := a
  obtain ⟨cs', hb⟩ := b
  rw [e, hb] at ha
  injection ha with ha
  injection ha with _ ha _
  exact ht ha.symm
theorem Ty.mp {k k' : Nat} {t : TypeId} (a : Ty w k t) (b : Mp w k') : k ≠ k' := fun e => by
  obtain ⟨cs, ha⟩ := a
  obtain ⟨es, ck, hb⟩ := b
  rw [e, hb] at ha
  cases ha
theorem ty_row {g : Nat} {t : TypeId} {cs : Array Value} (h : Row w g t cs) : Ty w g t := ⟨cs, h⟩
theorem ty_own {base e size n : Nat} {v : Value} {xs : List Value} (h : w.ownsRow base e size v n xs) {k : Nat} (hk : v.ownBlock = some k) : Ty w k e := by
  rcases h.2 with ⟨rfl, _⟩ | ⟨g, cap, cur, rfl, _, hh, _⟩
  · cases hk
  · simp only [Value.ownBlock, Option.some.injEq] at hk
    subst hk
    exact ⟨cur, hh⟩
theorem HeadIn.tx (hi : HeadIn w X p h c) : Ty w X 59 := ty_row hi.row
theorem HeadIn.tm (hi : HeadIn w X p h c) : Mp w p.mb := hi.ids.map
theorem HeadIn.tp (hi : HeadIn w X p h c) {k : Nat} (hk : p.sv.ownBlock = some k) : Ty w k 74 := ty_own hi.sers hk
theorem HeadIn.tf (hi : HeadIn w X p h c) {i : Nat} (hl : i < h.length) : Ty w (p.fb i) 77 := ty_row (hi.ser i hl)
theorem HeadIn.tl (hi : HeadIn w X p h c) {i : Nat} (hl : i < h.length) {k : Nat} (hk : (p.lv i).ownBlock = some k) : Ty w k 83 := ty_own (hi.labs i hl) hk
theorem HeadIn.ts (hi : HeadIn w X p h c) {i : Nat} (hl : i < h.length) {k : Nat} (hk : (p.sm i).ownBlock = some k) : Ty w k 68 := ty_own (hi.smps i hl) hk
theorem at_turned {A : Option Addr} {xs : List Value} {b : Nat} (h : At w A xs) (ht : w.mapTurned w' b) : At w' A xs := by
  rcases h with rfl | ⟨q, o, rfl, hq, hc⟩
  · exact .inl rfl
  · refine .inr ⟨q, o, rfl, Nat.lt_of_lt_of_le hq ht.grown.size, fun j u hj => ?_⟩
    have h1 := hc j u hj
    have hne : q ≠ b := fun e => by
      obtain ⟨es, ck, _, _, hm, _⟩ := ht
      simp only [World.cell?, e, hm] at h1
      cases h1
    rw [← h1]
    exact World.cell?_of_block (w := w) (ht.grown.block q hq fun e => by injection e with e; exact hne e)
/-- What is there behind a call: the head, in blocks of S and in new ones; all else as it was. -/
def After (S : Nat → Prop) (w : World) (X : Nat) (h : List Ser) (w' : World) : Prop := HeadAt (fun k => S k ∨ w.heap.size ≤ k) w' X h ∧ Kept S w w'
theorem after_same (hi : HeadAt S w X h) (hb : Below w.heap.size w w') : After S w X h w' := ⟨(hi.below hb).mono fun k hk => .inl hk, Kept.below hb⟩
theorem after_back (hb : Below w.heap.size w w1) (ha : After S w1 X h w') : After S w X h w' :=
  ⟨ha.1.mono fun k hk => hk.imp id fun h2 => Nat.le_trans hb.size h2, (Kept.below hb).trans ha.2 fun i hi => .inl hi⟩
theorem hdlens (hk : HeadOk h) {i : Nat} (hl : i < h.length) : (h.getD i ser0).2.length ≤ 65536 ∧ (h.getD i ser0).1.length ≤ 8 := by
  have key : ∀ {h : List Ser} {i : Nat}, i < h.length → (h.getD i ser0).2.length ≤ cntS h := by
    intro h
    induction h with
    | nil => intro i hi; simp at hi
    | cons a r ih =>
      intro i hi
      cases i with
      | zero => simp only [List.getD_cons_zero, cntS]; omega
      | succ i =>
        have := ih (i := i) (by simpa using hi)
        simp only [List.getD_cons_succ, cntS]
        omega
  exact ⟨Nat.le_trans (key hl) hk.all, (lbChk_ok.1 (hk.right _ (ser_at hl)).1).1⟩
/-! ### a further series -/
def plcNew (p : Plc) (n : Nat) (sv : Value) (g : Nat) (lv : Value) : Plc :=
  { mb := p.mb, sv := sv, fb := fun i => if i = n then g else p.fb i, lv := fun i => if i = n then lv else p.lv i, sm := fun i => if i = n then .slice none 0 0 else p.sm i }
theorem HeadIn.with_new (hi : HeadIn w X p h c) (K : Kept (fun k => k = X ∨ k = p.mb ∨ p.sv.ownBlock = some k) w w') {l : List Lbl} {sv' lv : Value} {g : Nat}
    (hrow : Row w' X 59 #[sv', .map (some p.mb), .int .i64 c]) (hids : IdsAt w' p.mb (blSets (h ++ [(l, [])])))
    (hsv : w'.ownsRow 0 74 1 sv' (h.length + 1) (ptrs p.fb h.length ++ [ptrV g])) (hg : w.heap.size ≤ g) (hgr : Row w' g 77 #[lv, .slice none 0 0]) (hlv : OwnL w' 0 lv l) :
    HeadIn w' X (plcNew p h.length sv' g lv) (h ++ [(l, [])]) c := by
  have hlen : (h ++ [(l, ([] : List Smp))]).length = h.length + 1 := by simp
  have cse : ∀ i, i < (h ++ [(l, ([] : List Smp))]).length → (i < h.length ∧ i ≠ h.length ∧ (h ++ [(l, [])]).getD i ser0 = h.getD i ser0) ∨ (i = h.length ∧ (h ++ [(l, [])]).getD i ser0 = (l, [])) := by
    intro i hi
    rw [hlen] at hi
    rcases Nat.lt_or_ge i h.length with h1 | h1
    · exact .inl ⟨h1, by omega, by rw [List.getD_eq_getElem?_getD, List.getElem?_append_left h1, ← List.getD_eq_getElem?_getD]⟩
    · obtain rfl : i = h.length := by omega
      exact .inr ⟨rfl, by simp [List.getD_eq_getElem?_getD]⟩
  have ff : ∀ i, i < h.length → ¬ (p.fb i = X ∨ p.fb i = p.mb ∨ p.sv.ownBlock = some (p.fb i)) := by
    rintro i h1 (e | e | e)
    · exact (hi.tf h1).ne hi.tx (by decide) e
    · exact (hi.tf h1).mp hi.tm e
    · exact (hi.tf h1).ne (hi.tp e) (by decide) rfl
  have fl : ∀ i, i < h.length → ∀ k, (p.lv i).ownBlock = some k → ¬ (k = X ∨ k = p.mb ∨ p.sv.ownBlock = some k) := by
    rintro i h1 k hk (e | e | e)
    · exact (hi.tl h1 hk).ne hi.tx (by decide) e
    · exact (hi.tl h1 hk).mp hi.tm e
    · exact (hi.tl h1 hk).ne (hi.tp e) (by decide) rfl
  have fs : ∀ i, i < h.length → ∀ k, (p.sm i).ownBlock = some k → ¬ (k = X ∨ k = p.mb ∨ p.sv.ownBlock = some k) := by
    rintro i h1 k hk (e | e | e)
    · exact (hi.ts h1 hk).ne hi.tx (by decide) e
    · exact (hi.ts h1 hk).mp hi.tm e
    · exact (hi.ts h1 hk).ne (hi.tp e) (by decide) rfl
  refine ⟨hrow, hids, ?_, fun i hl => ?_, fun i hl => ?_, fun i hl => ?_, fun i j hl hm hne => ?_, fun i j hl hm hne k hk => ?_⟩
  · show w'.ownsRow 0 _ 1 sv' _ _
    rw [hlen, ptrs_snoc]
    simp only [plcNew, if_pos]
    rw [show ptrs (fun i => if i = h.length then g else p.fb i) h.length = ptrs p.fb h.length from ptrs_congr fun i hl => if_neg (by omega)]
    exact hsv
  · rcases cse i hl with ⟨h1, h2, _⟩ | ⟨rfl, _⟩
    · simp only [plcNew, if_neg h2]
      exact row_move (hi.ser i h1) (K.block _ (hi.tf h1 |> fun ⟨_, e⟩ => (Row.lt e)) (ff i h1))
    · simp only [plcNew, if_pos]
      exact hgr
  · rcases cse i hl with ⟨h1, h2, e⟩ | ⟨rfl, e⟩
    · simp only [plcNew, if_neg h2]
      rw [e]
      exact ownl_move (hi.labs i h1) fun k hk => K.block k (World.ownsRow.lt (hi.labs i h1) k hk).2 (fl i h1 k hk)
    · simp only [plcNew, if_pos]
      rw [e]
      exact hlv
  · rcases cse i hl with ⟨h1, h2, e⟩ | ⟨rfl, e⟩
    · simp only [plcNew, if_neg h2]
      rw [e]
      exact owns_move (hi.smps i h1) fun k hk => K.block k (World.ownsRow.lt (hi.smps i h1) k hk).2 (fs i h1 k hk)
    · simp only [plcNew, if_pos]
      rw [e]
      exact owns_nil _ _
  · rcases cse i hl with ⟨h1, h2, _⟩ | ⟨rfl, _⟩ <;> rcases cse j hm with ⟨h3, h4, _⟩ | ⟨rfl, _⟩
    · simp only [plcNew, if_neg h2, if_neg h4]
      exact hi.fbs i j h1 h3 hne
    · simp only [plcNew, if_neg h2, if_pos]
      have := (hi.ser i h1).lt
      omega
    · simp only [plcNew, if_neg h4, if_pos]
      have := (hi.ser j h3).lt
      omega
    · exact absurd rfl hne
  · rcases cse i hl with ⟨h1, h2, _⟩ | ⟨rfl, _⟩ <;> rcases cse j hm with ⟨h3, h4, _⟩ | ⟨rfl, _⟩
    · simp only [plcNew, if_neg h2] at hk
      simp only [plcNew, if_neg h4]
      exact hi.sms i j h1 h3 hne k hk
    · simp only [plcNew, if_pos]
      intro e
      cases e
    · simp only [plcNew, if_pos] at hk
      cases hk
    · exact absurd rfl hne
theorem foot_new {sv' lv : Value} {g : Nat} {n k B : Nat} (hsv : sv'.ownBlock = p.sv.ownBlock ∨ ∃ q, sv'.ownBlock = some q ∧ B ≤ q) (hg : B ≤ g) (hlv : ∀ q, lv.ownBlock = some q → B ≤ q) (hf : Foot X (plcNew p n sv' g lv) (n + 1) k) : Foot X p n k ∨ B ≤ k := by
  rcases hf with e | e | e | ⟨i, hl, e | e | e⟩
  · exact .inl (.inl e)
  · exact .inl (.inr (.inl e))
  · rcases hsv with h1 | ⟨q, h1, h2⟩
    · exact .inl (.inr (.inr (.inl (by rw [← h1]; exact e))))
    · have e2 : sv'.ownBlock = some k := e
      rw [h1] at e2
      injection e2 with e2
      omega
  · simp only [plcNew] at e
    split at e
    · omega
    · exact .inl (.inr (.inr (.inr ⟨i, by omega, .inl e⟩)))
  · simp only [plcNew] at e
    split at e
    · exact .inr (hlv k e)
    · exact .inl (.inr (.inr (.inr ⟨i, by omega, .inr (.inl e)⟩)))
  · simp only [plcNew] at e
    split at e
    · cases e
    · exact .inl (.inr (.inr (.inr ⟨i, by omega, .inr (.inr e)⟩)))
/-! ### other samples of a series -/
def plcSm (p : Plc) (i : Nat) (s' : Value) : Plc := { p with sm := fun j => if j = i then s' else p.sm j }
theorem sets_set {i : Nat} (hl : i < h.length) (l' : List Smp) : blSets (h.set i ((h.getD i ser0).1, l')) = blSets h := labels_set hl
theorem HeadIn.with_smp (hi : HeadIn w X p h c) {i : Nat} (hl : i < h.length) (K : Kept (fun k => k = X ∨ k = p.fb i ∨ (p.sm i).ownBlock = some k) w w') {s' : Value} {l' : List Smp}
    (hrow : Row w' X 59 #[p.sv, .map (some p.mb), .int .i64 c']) (hser : Row w' (p.fb i) 77 #[p.lv i, s']) (hs : OwnS w' 0 s' l')
    (hblk : s'.ownBlock = (p.sm i).ownBlock ∨ ∃ q, s'.ownBlock = some q ∧ w.heap.size ≤ q) : HeadIn w' X (plcSm p i s') (h.set i ((h.getD i ser0).1, l')) c' := by
  have hlen : (h.set i ((h.getD i ser0).1, l')).length = h.length := by simp
  have other : ∀ j, j ≠ i → (h.set i ((h.getD i ser0).1, l')).getD j ser0 = h.getD j ser0 := fun j hj => by
    rw [List.getD_eq_getElem?_getD, List.getElem?_set_ne (by omega), ← List.getD_eq_getElem?_getD]
  have same : (h.set i ((h.getD i ser0).1, l')).getD i ser0 = ((h.getD i ser0).1, l') := by simp [List.getD_eq_getElem?_getD, hl]
  have ff : ∀ j, j < h.length → j ≠ i → ¬ (p.fb j = X ∨ p.fb j = p.fb i ∨ (p.sm i).ownBlock = some (p.fb j)) := by
    rintro j h1 hj (e | e | e)
    · exact (hi.tf h1).ne hi.tx (by decide) e
    · exact hi.fbs j i h1 hl hj e
    · exact (hi.tf h1).ne (hi.ts hl e) (by decide) rfl
  have fl : ∀ j, j < h.length → ∀ k, (p.lv j).ownBlock = some k → ¬ (k = X ∨ k = p.fb i ∨ (p.sm i).ownBlock = some k) := by
    rintro j h1 k hk (e | e | e)
    · exact (hi.tl h1 hk).ne hi.tx (by decide) e
    · exact (hi.tl h1 hk).ne (hi.tf hl) (by decide) e
    · exact (hi.tl h1 hk).ne (hi.ts hl e) (by decide) rfl
  have fs : ∀ j, j < h.length → j ≠ i → ∀ k, (p.sm j).ownBlock = some k → ¬ (k = X ∨ k = p.fb i ∨ (p.sm i).ownBlock = some k) := by
    rintro j h1 hj k hk (e | e | e)
    · exact (hi.ts h1 hk).ne hi.tx (by decide) e
    · exact (hi.ts h1 hk).ne (hi.tf hl) (by decide) e
    · exact hi.sms j i h1 hl hj k hk e
  have nm : ¬ (p.mb = X ∨ p.mb = p.fb i ∨ (p.sm i).ownBlock = some p.mb) := by
    rintro (e | e | e)
    · exact hi.tx.mp hi.tm e.symm
    · exact (hi.tf hl).mp hi.tm e.symm
    · exact (hi.ts hl e).mp hi.tm rfl
  have np : ∀ k, p.sv.ownBlock = some k → ¬ (k = X ∨ k = p.fb i ∨ (p.sm i).ownBlock = some k) := by
    rintro k hk (e | e | e)
    · exact (hi.tp hk).ne hi.tx (by decide) e
    · exact (hi.tp hk).ne (hi.tf hl) (by decide) e
    · exact (hi.tp hk).ne (hi.ts hl e) (by decide) rfl
  refine ⟨hrow, ?_, ?_, fun j hj => ?_, fun j hj => ?_, fun j hj => ?_, fun j m hj hm hne => ?_, fun j m hj hm hne k hk => ?_⟩
  · rw [sets_set hl]
    exact hi.ids.block (K.block _ hi.ids.lt nm)
  · rw [hlen]
    exact rows_move hi.sers fun k hk => K.block k (World.ownsRow.lt hi.sers k hk).2 (np k hk)
  · rw [hlen] at hj
    by_cases e : j = i
    · subst e
      simp only [plcSm, if_pos]
      exact hser
    · simp only [plcSm, if_neg e]
      exact row_move (hi.ser j hj) (K.block _ (hi.ser j hj).lt (ff j hj e))
  · rw [hlen] at hj
    have hm := ownl_move (hi.labs j hj) fun k hk => K.block k (World.ownsRow.lt (hi.labs j hj) k hk).2 (fl j hj k hk)
    by_cases e : j = i
    · subst e
      rw [same]
      exact hm
    · rw [other j e]
      exact hm
  · rw [hlen] at hj
    by_cases e : j = i
    · subst e
      rw [same]
      simp only [plcSm, if_pos]
      exact hs
    · rw [other j e]
      simp only [plcSm, if_neg e]
      exact owns_move (hi.smps j hj) fun k hk => K.block k (World.ownsRow.lt (hi.smps j hj) k hk).2 (fs j hj e k hk)
  · rw [hlen] at hj hm
    exact hi.fbs j m hj hm hne
  · rw [hlen] at hj hm
    by_cases e1 : j = i
    · subst e1
      have e2 : m ≠ j := fun e => hne e.symm
      simp only [plcSm, if_pos] at hk
      simp only [plcSm, if_neg e2]
      intro hk2
      rcases hblk with hb | ⟨q, hb, hq⟩
      · exact hi.sms m j hm hj e2 k hk2 (by rw [← hb]; exact hk)
      · rw [hb] at hk
        injection hk with hk
        have := (World.ownsRow.lt (hi.smps m hm) k hk2).2
        omega
    · simp only [plcSm, if_neg e1] at hk
      by_cases e2 : m = i
      · subst e2
        simp only [plcSm, if_pos]
        intro hk2
        rcases hblk with hb | ⟨q, hb, hq⟩
        · exact hi.sms j m hj hm hne k hk (by rw [← hb]; exact hk2)
        · rw [hb] at hk2
          injection hk2 with hk2
          have := (World.ownsRow.lt (hi.smps j hj) k hk).2
          omega
      · simp only [plcSm, if_neg e2]
        exact hi.sms j m hj hm hne k hk
theorem foot_smp {s' : Value} {i n k B : Nat} (hl : i < n) (hblk : s'.ownBlock = (p.sm i).ownBlock ∨ ∃ q, s'.ownBlock = some q ∧ B ≤ q) (hf : Foot X (plcSm p i s') n k) : Foot X p n k ∨ B ≤ k := by
  rcases hf with e | e | e | ⟨j, hj, e | e | e⟩
  · exact .inl (.inl e)
  · exact .inl (.inr (.inl e))
  · exact .inl (.inr (.inr (.inl e)))
  · exact .inl (.inr (.inr (.inr ⟨j, hj, .inl e⟩)))
  · exact .inl (.inr (.inr (.inr ⟨j, hj, .inr (.inl e)⟩)))
  · simp only [plcSm] at e
    split at e
    · rename_i e2
      subst e2
      rcases hblk with hb | ⟨q, hb, hq⟩
      · exact .inl (.inr (.inr (.inr ⟨j, hj, .inr (.inr (by rw [← hb]; exact e))⟩)))
      · rw [hb] at e
        injection e with e
        omega
    · exact .inl (.inr (.inr (.inr ⟨j, hj, .inr (.inr e)⟩)))
end
end Go.Proofs.YtpcjnagdanmdpaaGreat
