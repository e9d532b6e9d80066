/- The document's own disk: a row laid whole behind another one; a file of an own row turned. -/
import Derived.Test.YtiepepikbophmaaRkList
import Derived.Laws.OwnMore
namespace Go.Proofs.Ytiepepikbophmaa
open Go.RowKit Go.Maps
set_option linter.unusedVariables false

theorem app_all {w0 : World} {ops : Array Oper} {rest : List Oper} {o : Oper} {a : Act} {Q : Exit → Act → World → Prop} (hgd : o.guard = none) (s y : Operand) (t : TypeId)
    (ho : o.op = .call { callee := .builtin .append, args := #[s, y], argTypes := #[t, t] })
    (base : Nat) (e : TypeId) (i : TypeInfo) (z : Value) (size bytes : Nat) (ht : Try.prog.underlying t = some (.slice e)) (hi : Try.prog.info? e = some i) (hz : i.zero = some z)
    (hsize : i.size = size) (hby : i.bytes = bytes) (hzs : z.cells.size = size) (hsz : 0 < size)
    (v : Value) (n : Nat) (xs : List Value) (hs : a.eval s = v) (hown : w0.ownsRow base e size v n xs) (yv : Value) (m b2 : Nat) (ys : List Value) (hy : a.eval y = yv) (hY : w0.ownsRow b2 e size yv m ys) (h1 : ∀ u ∈ ys, u.oneCell' = true)
    (h63 : n + m ≤ maxLen) (hbytes : (n + m) * bytes ≤ 140737488355328) (hbase : base ≤ w0.heap.size)
    (h : ∀ v' w', w'.ownsRow base e size v' (n + m) (xs ++ ys) → Below base w0 w' → wpList Try.prog ops Q rest (a.put o.dst v') w') :
    wpList Try.prog ops Q (o :: rest) a w0 := by
  obtain ⟨P, c, hyv, _, hP⟩ := rows_at hY
  rcases hY.2 with ⟨hn, h0⟩ | ⟨g, cap, cur, hv, _⟩
  · have hys : ys = [] := List.eq_nil_of_length_eq_zero (by rw [hY.1, h0, Nat.zero_mul])
    subst hys
    subst h0
    have hr := run_append_owned_none (P := Try.prog) (w := w0) base t o.type e i size ht hi v n xs hown
    refine wpList_plain hgd fun K hK => ?_
    unfold Oper.wp execOp
    simp only [ho, resolve, invoke, builtin, Sem.run_bind, Sem.run_pure, Result.andThen_ok, List.map_toArray, List.map_cons, List.map_nil, hs, hy, hn, hr]
    exact hK _ _ (h v w0 (by rw [List.append_nil]; exact hown) (Below.refl _ _))
  · subst hv
    have hcell : ∀ j u, ys[j]? = some u → w0.cell? ((⟨g, 0, none⟩ : Addr).add j) = some u := fun j u hj => by
      obtain ⟨g', k1, _, _, k4⟩ := hP j u hj
      have e1 : g = g' := by
        have e2 := Value.slice.inj hyv
        have e3 := e2.1.trans k1
        have e4 := Option.some.inj e3
        exact congrArg Addr.block e4
      subst e1
      rw [add_at, Nat.zero_add]
      exact k4
    clear hP hyv
    refine wpList_append_own_at _ hgd s y t ho base e i z size bytes ht hi hz hsize hby hzs hsz v n xs hs hown ⟨g, 0, none⟩ m cap ys hy hY.1 hcell h1 h63 hbytes hbase ?_
    intro v' w' k1 k2 _ _
    exact h v' w' k1 (Below.grown (Below.refl _ _) k2 hbase (fun k hk => (World.ownsRow.lt hown _ hk).1))

/-! ### a row of files of the call's own -/
theorem flat_set : ∀ (fl : List (Option Addr × Nat × Fil)) (i : Nat) (x : Option Addr × Nat × Fil), ((fl.flatMap filC).set (i * 2) (.slice x.1 x.2.2.b.length x.2.1)).set (i * 2 + 1) (.int .i64 (x.2.2.sure : Int)) = (fl.set i x).flatMap filC := by
  intro fl
  induction fl with
  | nil => intro i x; simp
  | cons y r ih =>
    intro i x
    cases i with
    | zero => simp [filC]
    | succ i =>
      have e : (i + 1) * 2 = i * 2 + 1 + 1 := by omega
      rw [e, List.set_cons_succ, List.flatMap_cons, List.flatMap_cons, ← ih i x]
      simp [filC]
theorem rows_set {w : World} {base e k n g cap : Nat} {xs : List Value} (h : w.ownsRow base e k (.slice (some ⟨g, 0, none⟩) n cap) n xs) (j : Nat) (u : Value) (hj : j < xs.length) : (w.setCell ⟨g, j, none⟩ u).ownsRow base e k (.slice (some ⟨g, 0, none⟩) n cap) n (xs.set j u) := by
  refine ⟨by rw [List.length_set]; exact h.1, ?_⟩
  rcases h.2 with ⟨h2, _⟩ | ⟨g', cap', cur, hv, hg, hh, hnc, hcm, hcs, htk⟩
  · cases h2
  · have e1 := Value.slice.inj hv
    have e2 : g = g' := congrArg Addr.block (Option.some.inj e1.1)
    have e3 : cap = cap' := e1.2.2
    subst e2
    subst e3
    refine .inr ⟨g, cap, cur.setIfInBounds j u, rfl, hg, (show Row w g e cur from hh).setAt j u, hnc, hcm, by rw [Array.size_setIfInBounds]; exact hcs, ?_⟩
    rw [Array.toList_setIfInBounds, List.take_set, htk]
structure FO (w : World) (base : Nat) (v : Value) (fl : List (Option Addr × Nat × Fil)) : Prop where
  row : w.ownsRow base 122 2 v fl.length (fl.flatMap filC)
  each : ∀ x ∈ fl, Bys w x.1 x.2.2.b ∧ x.2.2.b.length ≤ x.2.1 ∧ (x.2.2.b = [] ∨ ∀ ad, x.1 = some ad → v.ownBlock ≠ some ad.block)
theorem FO.files {w : World} {base : Nat} {v : Value} {fl : List (Option Addr × Nat × Fil)} (h : FO w base v fl) : FilesR w 0 v (fl.map fun x => x.2.2) := ⟨fl, rfl, rows_lower h.row (Nat.zero_le _), fun x hx => ⟨(h.each x hx).1, (h.each x hx).2.1⟩⟩
theorem FO.below {w w' : World} {base : Nat} {v : Value} {fl : List (Option Addr × Nat × Fil)} (h : FO w base v fl) (hb : Below w.heap.size w w') : FO w' base v fl := ⟨rows_below h.row hb, fun x hx => ⟨(h.each x hx).1.below hb, (h.each x hx).2⟩⟩
theorem fo_set {w : World} {base g cap n : Nat} {fl : List (Option Addr × Nat × Fil)} (h : FO w base (.slice (some ⟨g, 0, none⟩) n cap) fl) (hn : n = fl.length) (i : Nat) (hi : i < fl.length) (x : Option Addr × Nat × Fil) (hx : Bys w x.1 x.2.2.b) (hc : x.2.2.b.length ≤ x.2.1) (hf : x.2.2.b = [] ∨ ∀ ad, x.1 = some ad → ad.block ≠ g) :
    FO ((w.setCell ⟨g, i * 2, none⟩ (.slice x.1 x.2.2.b.length x.2.1)).setCell ⟨g, i * 2 + 1, none⟩ (.int .i64 (x.2.2.sure : Int))) base (.slice (some ⟨g, 0, none⟩) n cap) (fl.set i x) := by
  subst hn
  have hl : (fl.flatMap filC).length = fl.length * 2 := flat_len filC 2 filC_len fl
  have h1 := rows_set h.row (i * 2) (.slice x.1 x.2.2.b.length x.2.1) (by rw [hl]; omega)
  have h2 := rows_set h1 (i * 2 + 1) (.int .i64 (x.2.2.sure : Int)) (by rw [List.length_set, hl]; omega)
  rw [flat_set] at h2
  have hk : ∀ (A : Option Addr) (l : List UInt8), Bys w A l → (l = [] ∨ ∀ ad, A = some ad → ad.block ≠ g) → Bys ((w.setCell ⟨g, i * 2, none⟩ (.slice x.1 x.2.2.b.length x.2.1)).setCell ⟨g, i * 2 + 1, none⟩ (.int .i64 (x.2.2.sure : Int))) A l := by
    intro A l hA hne
    refine bys_move hA (by simp [World.setCell]) (hne.imp id fun hne ad e => ?_)
    rw [Below.heap_setCell _ _ _ _ (hne ad e), Below.heap_setCell _ _ _ _ (hne ad e)]
  refine ⟨by rw [List.length_set]; exact h2, fun y hy => ?_⟩
  rcases List.mem_or_eq_of_mem_set hy with hy | rfl
  · obtain ⟨y1, y2, y3⟩ := h.each y hy
    refine ⟨hk _ _ y1 (y3.imp id fun hh ad e e2 => hh ad e (by rw [e2]; rfl)), y2, y3⟩
  · exact ⟨hk _ _ hx hf, hc, hf.imp id fun hh ad e e2 => hh ad e (by simp only [Value.ownBlock, Option.some.injEq] at e2; exact e2.symm)⟩
theorem file_info : (Try.prog.info? 122).map (fun i => (i.zero, i.size, i.bytes)) = some (some (.agg #[.slice none 0 0, .int .i64 0]), 2, 32) := by kernel_rfl
/-- append([]File{}, l...), at a walk's built-in. -/
theorem app_files {w0 : World} {ops : Array Oper} {rest : List Oper} {o : Oper} {a : Act} {Q : Exit → Act → World → Prop} (hgd : o.guard = none) (s y : Operand)
    (ho : o.op = .call { callee := .builtin .append, args := #[s, y], argTypes := #[27, 27] })
    (hs : a.eval s = .slice (some ⟨w0.heap.size, 0, none⟩) 0 0) (yv : Value) (fs : List Fil) (hy : a.eval y = yv) (hF : FilesR w0 0 yv fs) (hn : fs.length ≤ 1000000)
    (h : ∀ v' w' fl, fl.map (fun x => x.2.2) = fs → FO w' w0.heap.size v' fl → Below w0.heap.size w0 w' → wpList Try.prog ops Q rest (a.put o.dst v') w') :
    wpList Try.prog ops Q (o :: rest) a (w0.alloc (.cells #[] 122)) := by
  obtain ⟨i0, hi, hz0, hz1, hz2⟩ := info_parts file_info
  have hA := below_one w0 (.cells #[] 122)
  obtain ⟨fl, hfl, hrow, heach⟩ := hF
  have hl : fl.length ≤ 1000000 := by rw [← hfl, List.length_map] at hn; exact hn
  have hlit : (w0.alloc (.cells #[] 122)).ownsRow w0.heap.size 122 2 (.slice (some ⟨w0.heap.size, 0, none⟩) 0 0) 0 [] := World.ownsRow_lit w0 #[] 0 (Nat.le_refl _) (by decide) rfl
  refine app_all hgd s y _ ho w0.heap.size 122 i0 _ 2 32 Try.underlying27 hi hz0 hz1 hz2 rfl (by omega) _ 0 [] hs hlit yv fl.length 0 _ hy (rows_below hrow hA) ?_ (by simp only [maxLen]; omega) (by omega) hA.size ?_
  · intro u hu
    obtain ⟨x, _, hux⟩ := List.mem_flatMap.1 hu
    unfold filC at hux
    simp only [List.mem_cons, List.not_mem_nil, or_false] at hux
    rcases hux with rfl | rfl <;> rfl
  · intro v' w' h1 hb
    rw [Nat.zero_add, List.nil_append] at h1
    refine h v' w' fl hfl ⟨h1, fun x hx => ⟨(heach x hx).1.below (hA.trans hb), (heach x hx).2, ?_⟩⟩ (hA.trans hb)
    rcases (heach x hx).1 with h0 | ⟨b, o', hx1, hlt, _⟩
    · exact .inl h0
    · refine .inr fun ad e e2 => ?_
      rw [hx1] at e
      injection e with e
      subst e
      have := (World.ownsRow.lt h1 _ e2).1
      simp only at this
      omega
end Go.Proofs.Ytiepepikbophmaa
