/- The document's own disk (gaugeref04): rows of entries, and what is read of them and made of them. -/
import Derived.Test.YtiepepikbophmaaDkSameG
import Derived.Maps.AppendAt
import Derived.Deep.QuietTactic
import Derived.BigQuiet
namespace Go.Proofs.Ytiepepikbophmaa
open Go.RowKit Go.Maps
set_option linter.unusedVariables false

theorem flat_get {α : Type} (f : α → List Value) (k : Nat) (hf : ∀ x, (f x).length = k) : ∀ (l : List α) (i : Nat) (x : α) (j : Nat), l[i]? = some x → j < k → (l.flatMap f)[i * k + j]? = (f x)[j]? := by
  intro l
  induction l with
  | nil => intro i x j h; simp at h
  | cons y r ih =>
    intro i x j h hj
    rw [List.flatMap_cons]
    cases i with
    | zero =>
      simp only [List.getElem?_cons_zero, Option.some.injEq] at h
      subst h
      rw [Nat.zero_mul, Nat.zero_add, List.getElem?_append_left (by rw [hf]; exact hj)]
    | succ i =>
      simp only [List.getElem?_cons_succ] at h
      have e : (i + 1) * k + j = (f y).length + (i * k + j) := by rw [hf, Nat.succ_mul]; omega
      rw [e, List.getElem?_append_right (Nat.le_add_right _ _), Nat.add_sub_cancel_left]
      exact ih i x j h hj
theorem flat_len {α : Type} (f : α → List Value) (k : Nat) (hf : ∀ x, (f x).length = k) : ∀ (l : List α), (l.flatMap f).length = l.length * k := by
  intro l
  induction l with
  | nil => simp
  | cons y r ih => rw [List.flatMap_cons, List.length_append, ih, hf, List.length_cons, Nat.succ_mul]; omega
/-- What lies in a row of the call's own. -/
theorem rows_at {w : World} {base e k n : Nat} {v : Value} {xs : List Value} (h : w.ownsRow base e k v n xs) : ∃ P c, v = .slice P n c ∧ n ≤ c ∧ ∀ j u, xs[j]? = some u → ∃ g, P = some ⟨g, 0, none⟩ ∧ base ≤ g ∧ g < w.heap.size ∧ w.cell? ⟨g, j, none⟩ = some u := by
  rcases h.2 with ⟨rfl, h0⟩ | ⟨g, cap, cur, rfl, hg, hh, hnc, hcm, hcs, htk⟩
  · refine ⟨none, 0, by rw [h0], by omega, fun j u hj => ?_⟩
    have h1 := h.1
    rw [h0, Nat.zero_mul] at h1
    rw [List.eq_nil_of_length_eq_zero h1] at hj
    simp at hj
  · refine ⟨some ⟨g, 0, none⟩, cap, rfl, hnc, fun j u hj => ⟨g, rfl, hg, (Row.lt (show Row w g _ cur from hh)), ?_⟩⟩
    rw [(show Row w g _ cur from hh).cell j]
    have hlt : j < xs.length := by
      rcases Nat.lt_or_ge j xs.length with h2 | h2
      · exact h2
      · rw [List.getElem?_eq_none h2] at hj
        cases hj
    have e2 : cur.toList[j]? = xs[j]? := by
      rw [← htk, List.getElem?_take, if_pos (by have := h.1; omega)]
    rw [← Array.getElem?_toList, e2, hj]
theorem rows_below {w w' : World} {base e k n : Nat} {v : Value} {xs : List Value} (h : w.ownsRow base e k v n xs) (hb : Below w.heap.size w w') : w'.ownsRow base e k v n xs := rows_move h fun q hq => hb.block q (World.ownsRow.lt h q hq).2
theorem rows_lower {w : World} {base base' e k n : Nat} {v : Value} {xs : List Value} (h : w.ownsRow base e k v n xs) (hb : base' ≤ base) : w.ownsRow base' e k v n xs := by
  refine ⟨h.1, ?_⟩
  rcases h.2 with h2 | ⟨g, cap, cur, hv, hg, r⟩
  · exact .inl h2
  · exact .inr ⟨g, cap, cur, hv, Nat.le_trans hb hg, r⟩

/-! ### entries -/
def entE (x : Ent) : List Value := [.string (txt x.name), .int .i64 (x.file : Int)]
theorem entE_len (x : Ent) : (entE x).length = 2 := rfl
def EntsR (w : World) (base : Nat) (v : Value) (l : List Ent) : Prop := w.ownsRow base 124 2 v l.length (l.flatMap entE)
theorem ents_nil (w : World) (base : Nat) : EntsR w base (.slice none 0 0) [] := ⟨rfl, .inl ⟨rfl, rfl⟩⟩
theorem ents_at {w : World} {base : Nat} {v : Value} {l : List Ent} (h : EntsR w base v l) : ∃ P c, v = .slice P l.length c ∧ l.length ≤ c ∧ ∀ i, i < l.length → ∃ g, P = some ⟨g, 0, none⟩ ∧ base ≤ g ∧ g < w.heap.size ∧ w.cell? ⟨g, i * 2, none⟩ = some (.string (txt (l.getD i ⟨[], 0⟩).name)) ∧ w.cell? ⟨g, i * 2 + 1, none⟩ = some (.int .i64 ((l.getD i ⟨[], 0⟩).file : Int)) := by
  obtain ⟨P, c, hv, hc, hP⟩ := rows_at h
  refine ⟨P, c, hv, hc, fun i hi => ?_⟩
  have e : l[i]? = some (l.getD i ⟨[], 0⟩) := by simp [List.getD, List.getElem?_eq_getElem hi]
  obtain ⟨g, h1, h2, h3, h4⟩ := hP (i * 2 + 0) _ (flat_get entE 2 entE_len l i _ 0 e (by omega))
  obtain ⟨g', k1, _, _, k4⟩ := hP (i * 2 + 1) _ (flat_get entE 2 entE_len l i _ 1 e (by omega))
  rw [h1] at k1
  injection k1 with k1
  injection k1 with k1 _ _
  subst k1
  exact ⟨g, h1, h2, h3, h4, k4⟩
theorem entry_info : (Try.prog.info? 124).map (fun i => (i.zero, i.size, i.bytes)) = some (some (.agg #[.string ByteArray.empty, .int .i64 0]), 2, 24) := by kernel_rfl
/-- append of an entry, at a walk's built-in. -/
theorem app_ents {w0 : World} {ops : Array Oper} {rest : List Oper} {o : Oper} {a : Act} {Q : Exit → Act → World → Prop} (hgd : o.guard = none) (s y : Operand)
    (ho : o.op = .call { callee := .builtin .append, args := #[s, y], argTypes := #[28, 28] })
    (base : Nat) (v : Value) (l : List Ent) (hs : a.eval s = v) (hF : EntsR w0 base v l) (x : Ent)
    (c : Nat) (hy : a.eval y = .slice (some ⟨w0.heap.size, 0, none⟩) 1 c) (hn : l.length ≤ 4000000) (hbase : base ≤ w0.heap.size)
    (h : ∀ v' w', EntsR w' base v' (l ++ [x]) → Below base w0 w' → wpList Try.prog ops Q rest (a.put o.dst v') w') :
    wpList Try.prog ops Q (o :: rest) a (w0.alloc (.cells #[.string (txt x.name), .int .i64 (x.file : Int)] 124)) := by
  obtain ⟨i0, hi, hz0, hz1, hz2⟩ := info_parts entry_info
  have hA := below_one w0 (.cells #[.string (txt x.name), .int .i64 (x.file : Int)] 124)
  have hF1 : EntsR (w0.alloc (.cells #[.string (txt x.name), .int .i64 (x.file : Int)] 124)) base v l := rows_below hF hA
  have hg := Row.new w0 124 #[.string (txt x.name), .int .i64 (x.file : Int)]
  refine wpList_append_own_at _ hgd s y 28 ho base 124 i0 _ 2 24 Try.underlying28 hi hz0 hz1 hz2 rfl (by omega) v l.length (l.flatMap entE) hs hF1 _ 1 c (entE x) hy rfl
    (by
      intro j u hj
      rw [add_at, Nat.zero_add, hg.cell j]
      simpa [entE] using hj) (by intro u hu; unfold entE at hu; simp only [List.mem_cons, List.not_mem_nil, or_false] at hu; rcases hu with rfl | rfl <;> rfl)
    (by simp only [maxLen]; omega) (by omega) (Nat.le_trans hbase hA.size) ?_
  intro v' w' h1 h2 _ _
  refine h v' w' ?_ (Below.grown (hA.mono hbase) h2 (Nat.le_trans hbase hA.size) (fun k hk => (World.ownsRow.lt hF1 _ hk).1))
  unfold EntsR
  rw [List.flatMap_append, List.length_append]
  simpa using h1

/-! ### At -/
def atV (l : List Ent) (n : List UInt8) : Int := match whose l n with
  | some f => (f : Int)
  | none => -1
theorem whose_cons (x : Ent) (r : List Ent) (n : List UInt8) : whose (x :: r) n = if x.name = n then some x.file else whose r n := by
  unfold whose
  rw [List.find?_cons]
  by_cases h : x.name = n
  · simp [h]
  · simp [h]
theorem drop_cons {l : List Ent} {k : Nat} (h : k < l.length) : l.drop k = l.getD k ⟨[], 0⟩ :: l.drop (k + 1) := by
  rw [List.drop_eq_getElem_cons h]
  simp [List.getD, List.getElem?_eq_getElem h]
set_option maxRecDepth 20000 in
theorem at_ref {w : World} {v : Value} {l : List Ent} (h : EntsR w 0 v l) (hl : l.length ≤ 1000) (s : ByteArray) :
    Calls Try.prog 82 #[v, .string s] w fun e w' => e = .returned (.int .i64 (atV l (strL s))) ∧ w = w' := by
  obtain ⟨P, c, rfl, hc, hP⟩ := ents_at h
  have HP := Lib.hid hP
  clear h hP
  go_enter Try.func82, Try.ntmps82
  go_wp2_with fail
  go_loop [5] (fun i => ∃ k : Nat, k ≤ l.length ∧ i = .int .i64 (k : Int) ∧ whose (l.drop k) (strL s) = whose l (strL s)) (fun i => l.length - (intOf i).toNat)
  case atStart => exact ⟨0, Nat.zero_le _, rfl, rfl⟩
  case round =>
    obtain ⟨k, hk, rfl, hw⟩ := hrel
    by_cases hlt : k < l.length
    · obtain ⟨g, rfl, _, _, h0, h1⟩ := HP.out k hlt
      rw [drop_cons hlt, whose_cons] at hw
      generalize l.getD k ⟨[], 0⟩ = x at *
      obtain ⟨nm, f⟩ := x
      simp only at h0 h1 hw
      have i1 : (k : Int) < (l.length : Int) := by omega
      by_cases he : nm = strL s
      · have q1 : ((txt nm).toList == s.toList) = true := by rw [he]; simp [txt, strL, ByteArray.toList_eq]
        rw [if_pos he] at hw
        have HW := Lib.hid (show Value.int .i64 (f : Int) = .int .i64 (atV l (strL s)) by unfold atV; rw [← hw])
        clear hw he
        go_wp2_with fail
        go_ret
        exact ⟨by rw [HW.out]; rfl, rfl⟩
      · have q1 : ((txt nm).toList == s.toList) = false := by
          rw [beq_eq_false_iff_ne]
          intro h
          apply he
          have : (txt nm).toList = nm := txt_list nm
          rw [this] at h
          rw [h]
          simp [strL, ByteArray.toList_eq]
        rw [if_neg he] at hw
        have HW := Lib.hid hw
        clear hw he
        go_wp2_with fail
        go_round
        case rel => exact ⟨k + 1, by omega, by go_num, HW.out⟩
        case measure => simp [intOf]; omega
    · obtain rfl : k = l.length := by omega
      rw [List.drop_length] at hw
      have HW := Lib.hid (show Value.int .i64 (-1) = .int .i64 (atV l (strL s)) by unfold atV; rw [← hw]; rfl)
      clear hw
      go_wp2_with fail
      go_ret
      exact ⟨by rw [HW.out]; rfl, rfl⟩

/-! ### without -/
theorem lacking_take (l : List Ent) (n : List UInt8) {k : Nat} (hk : k < l.length) : lacking (l.take (k + 1)) n = lacking (l.take k) n ++ (if (l.getD k ⟨[], 0⟩).name = n then [] else [l.getD k ⟨[], 0⟩]) := by
  unfold lacking
  rw [List.take_succ_eq_append_getElem hk, List.filter_append]
  congr 1
  have e : l.getD k ⟨[], 0⟩ = l[k] := by simp [List.getD, List.getElem?_eq_getElem hk]
  rw [e]
  by_cases h : l[k].name = n
  · simp [h]
  · simp [h]
theorem name_eq {nm : List UInt8} {s : ByteArray} (h : nm = strL s) : ((txt nm).toList == s.toList) = true := by
  rw [h]
  simp [txt, strL, ByteArray.toList_eq]
theorem name_ne {nm : List UInt8} {s : ByteArray} (h : nm ≠ strL s) : ((txt nm).toList == s.toList) = false := by
  rw [beq_eq_false_iff_ne, txt_list]
  intro h2
  apply h
  rw [h2]
  simp [strL, ByteArray.toList_eq]
theorem lacking_few (l : List Ent) (n : List UInt8) : (lacking l n).length ≤ l.length := List.length_filter_le _ _
set_option maxRecDepth 20000 in
theorem without_ref {w : World} {v : Value} {l : List Ent} (h : EntsR w 0 v l) (hl : l.length ≤ 1000) (s : ByteArray) :
    Calls Try.prog 97 #[v, .string s] w fun e w' => ∃ v', e = .returned v' ∧ EntsR w' w.heap.size v' (lacking l (strL s)) ∧ Below w.heap.size w w' := by
  obtain ⟨P, c, rfl, hc, hP⟩ := ents_at h
  have HP := Lib.hid hP
  clear h hP
  go_enter Try.func97, Try.ntmps97
  go_wp2_with fail
  go_loopw [5, 6] (fun v i wr => ∃ k : Nat, k ≤ l.length ∧ i = .int .i64 (k : Int) ∧ EntsR wr w.heap.size v (lacking (l.take k) (strL s)) ∧ Below w.heap.size w wr) (fun _ i _ => l.length - (intOf i).toNat)
  case atStart => exact ⟨0, Nat.zero_le _, rfl, ents_nil _ _, Below.refl _ _⟩
  case round =>
    obtain ⟨k, hk, rfl, hF, hb⟩ := hrel
    have HF := Lib.hid hF
    have HB := Lib.hid hb
    have hs := hb.size
    obtain ⟨Po, co, hvo, _, _⟩ := ents_at hF
    have hlo := lacking_few (l.take k) (strL s)
    rw [List.length_take, Nat.min_eq_left hk] at hlo
    by_cases hlt : k < l.length
    · have htk := lacking_take l (strL s) hlt
      obtain ⟨g, rfl, _, hgl, h0, h1⟩ := HP.out k hlt
      have c0 := (hb.cell (p := ⟨g, k * 2, none⟩) hgl).trans h0
      have c1 := (hb.cell (p := ⟨g, k * 2 + 1, none⟩) hgl).trans h1
      generalize l.getD k ⟨[], 0⟩ = x at *
      have HTK := Lib.hid htk
      have i1 : (k : Int) < (l.length : Int) := by omega
      clear hb hF h0 h1 htk
      by_cases he : x.name = strL s
      · have q1 := name_eq he
        rw [if_pos he] at HTK
        clear he
        obtain ⟨nm, f⟩ := x
        simp only at c0 c1 q1
        generalize lacking (l.take k) (strL s) = ps at *
        generalize ps.length = np at *
        subst hvo
        go_wp2_with fail
        go_roundw
        case rel => exact ⟨k + 1, by omega, by go_num, by rw [HTK.out, List.append_nil]; exact HF.out, HB.out⟩
        case measure => simp [intOf]; omega
      · have q1 := name_ne he
        rw [if_neg he] at HTK
        clear he
        have hn4 : (lacking (l.take k) (strL s)).length ≤ 4000000 := by omega
        generalize lacking (l.take k) (strL s) = ps at *
        clear hvo
        obtain ⟨nm, f⟩ := x
        simp only at c0 c1 q1
        go_wp2_with (at_builtin; refine app_ents rfl (.tmp 20) (.tmp 25) rfl w.heap.size _ ps rfl HF.out ⟨nm, f⟩ 1 rfl hn4 hs ?_; intro v3 w3 hF3 hb3; have HF3 := Lib.hid hF3; have HB3 := Lib.hid hb3; obtain ⟨P3, c3, hv3, _, _⟩ := ents_at hF3; clear hF3 hb3; generalize (ps ++ [(⟨nm, f⟩ : Ent)]).length = n3 at hv3; subst hv3)
        go_roundw
        case rel => exact ⟨k + 1, by omega, by go_num, by rw [HTK.out]; exact HF3.out, HB.out.trans HB3.out⟩
        case measure => simp [intOf]; omega
    · obtain rfl : k = l.length := by omega
      rw [List.take_length] at HF hvo
      generalize (lacking l (strL s)).length = np at hvo
      subst hvo
      clear hF hb
      go_wp2_with fail
      go_ret
      exact ⟨_, rfl, HF.out, HB.out⟩
end Go.Proofs.Ytiepepikbophmaa
