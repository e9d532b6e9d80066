/- In one text, written by lotify.py: HdRefT, HdRefDo. -/
import Derived.Test.YtpcjnagdanmdpaaHdRef
import Derived.Test.YtpcjnagdanmdpaaHdOwn
import Derived.Test.YtpcjnagdanmdpaaHdLotF
import Derived.Test.YtpcjnagdanmdpaaWaRefChk
namespace Go.Proofs.Ytpcjnagdanmdpaa
open Go.RowKit Go.Maps
open Ch
set_option linter.unusedVariables false
set_option linter.unusedSimpArgs false
set_option maxRecDepth 100000
section
variable {T U : Nat → Prop} {w w' : World}
theorem lblE_nil {l : List Lbl} (h : l.flatMap lblE = []) : l = [] := by
  have := flat_len lblE 2 lblE_len l
  rw [h] at this
  exact List.eq_nil_of_length_eq_zero (by simp at this; omega)
theorem smpE_nil {l : List Smp} (h : l.flatMap smpE = []) : l = [] := by
  have := flat_len smpE 2 smpE_len l
  rw [h] at this
  exact List.eq_nil_of_length_eq_zero (by simp at this; omega)
/-- A series whose parts lie in blocks of T. -/
structure SerT (T : Nat → Prop) (w : World) (x : SPl) : Prop where
  ins : SerIn w x
  la : x.1.1 ≠ [] → ∀ ad, x.2.la = some ad → T ad.block
  sa : x.1.2 ≠ [] → ∀ ad, x.2.sa = some ad → T ad.block
theorem SerT.move {x : SPl} (h : SerT T w x) (hs : w.heap.size ≤ w'.heap.size) (hb : ∀ k, k < w.heap.size → T k → w'.heap[k]? = w.heap[k]?) : SerT T w' x := by
  refine ⟨⟨?_, ?_, h.ins.lc, h.ins.sc⟩, h.la, h.sa⟩
  · refine at_move h.ins.labels hs ?_
    by_cases e0 : x.1.1.flatMap lblE = []
    · exact .inl e0
    · exact .inr fun ad e => hb _ (at_block h.ins.labels e0 ad e) (h.la (fun q => e0 (by rw [q]; rfl)) ad e)
  · refine at_move h.ins.samples hs ?_
    by_cases e0 : x.1.2.flatMap smpE = []
    · exact .inl e0
    · exact .inr fun ad e => hb _ (at_block h.ins.samples e0 ad e) (h.sa (fun q => e0 (by rw [q]; rfl)) ad e)
theorem SerT.mono {x : SPl} (h : SerT T w x) (hT : ∀ k, T k → U k) : SerT U w x := ⟨h.ins, fun q ad e => hT _ (h.la q ad e), fun q ad e => hT _ (h.sa q ad e)⟩
/-- A list of series whose blocks are of T. -/
def SersT (T : Nat → Prop) (w : World) (A : Option Addr) (S : List Ser) : Prop :=
  ∃ ps : List SPl, ps.map (·.1) = S ∧ At w A (ps.flatMap spE) ∧ (S ≠ [] → ∀ ad, A = some ad → T ad.block) ∧ ∀ x ∈ ps, SerT T w x
theorem SersT.sers {A : Option Addr} {S : List Ser} (h : SersT T w A S) : Sers w A S := by
  obtain ⟨ps, h1, h2, _, h4⟩ := h
  exact ⟨ps, h1, h2, fun x hx => (h4 x hx).ins⟩
theorem SersT.move {A : Option Addr} {S : List Ser} (h : SersT T w A S) (hs : w.heap.size ≤ w'.heap.size) (hb : ∀ k, k < w.heap.size → T k → w'.heap[k]? = w.heap[k]?) : SersT T w' A S := by
  obtain ⟨ps, h1, h2, h3, h4⟩ := h
  refine ⟨ps, h1, at_move h2 hs ?_, h3, fun x hx => (h4 x hx).move hs hb⟩
  by_cases e0 : ps.flatMap spE = []
  · exact .inl e0
  · refine .inr fun ad e => hb _ (at_block h2 e0 ad e) (h3 (fun q => e0 ?_) ad e)
    rw [q] at h1
    rw [List.map_eq_nil_iff.1 h1]
    rfl
theorem SersT.kept {A : Option Addr} {S : List Ser} (h : SersT T w A S) (hk : Kept U w w') (hd : ∀ k, T k → ¬ U k) : SersT T w' A S := h.move hk.size fun k hl ht => hk.block k hl (hd k ht)
theorem SersT.below {A : Option Addr} {S : List Ser} (h : SersT T w A S) (hb : Below w.heap.size w w') : SersT T w' A S := h.move hb.size fun k hl _ => hb.block k hl
theorem SersT.mono {A : Option Addr} {S : List Ser} (h : SersT T w A S) (hT : ∀ k, T k → U k) : SersT U w A S := by
  obtain ⟨ps, h1, h2, h3, h4⟩ := h
  exact ⟨ps, h1, h2, fun q ad e => hT _ (h3 q ad e), fun x hx => (h4 x hx).mono hT⟩
theorem SersT.nil (T : Nat → Prop) (w : World) (A : Option Addr) : SersT T w A [] := ⟨[], rfl, .inl rfl, fun q => absurd rfl q, fun x hx => by cases hx⟩
/-- An own row of k cells an element, one cell of which is written. -/
theorem rows_write {α : Type} {f : α → List Value} {k base : Nat} {e : TypeId} {v : Value} {l : List α} (hf : ∀ x, (f x).length = k) (h : w.ownsRow base e k v l.length (l.flatMap f)) {g c : Nat} (hv : v = .slice (some ⟨g, 0, none⟩) l.length c) {i j : Nat} (hi : i < l.length) (hj : j < k) (y : α) (u : Value)
    (hy : ∀ x, l[i]? = some x → f y = (f x).set j u) : (w.setCell ⟨g, i * k + j, none⟩ u).ownsRow base e k v l.length ((l.set i y).flatMap f) := by
  rcases h.2 with ⟨e1, h0⟩ | ⟨g', cap, cur, e1, hb, hh, hn, hm, hs, ht⟩
  · omega
  rw [hv] at e1
  injection e1 with e2 _ e3
  injection e2 with e2
  injection e2 with e2
  subst e2
  have hlen := flat_len f k hf (l.set i y)
  rw [List.length_set] at hlen
  have hsz : i * k + j < l.length * k := by
    have h1 : (i + 1) * k ≤ l.length * k := Nat.mul_le_mul_right k hi
    rw [Nat.succ_mul] at h1
    omega
  refine ⟨hlen, .inr ⟨g, cap, cur.setIfInBounds (i * k + j) u, by rw [hv, e3], hb, ?_, hn, hm, by simpa using hs, ?_⟩⟩
  · exact Row.setAt (show Row w g e cur from hh) (i * k + j) u
  · rw [Array.toList_setIfInBounds, List.take_set, ht]
    apply List.ext_getElem?
    intro t
    have hl0 := flat_len f k hf l
    by_cases htk : t < l.length * k
    · have h0 : 0 < k := by omega
      have hq : t / k < l.length := Nat.div_lt_of_lt_mul (by rw [Nat.mul_comm]; exact htk)
      have hm' : t % k < k := Nat.mod_lt _ h0
      have h3 : t / k * k + t % k = t := by rw [Nat.mul_comm]; exact Nat.div_add_mod t k
      have ga := flat_get f k hf l (t / k) l[t / k] (t % k) (List.getElem?_eq_getElem hq) hm'
      have gb := flat_get f k hf (l.set i y) (t / k) ((l.set i y)[t / k]'(by simpa using hq)) (t % k) (List.getElem?_eq_getElem (by simpa using hq)) hm'
      rw [h3] at ga gb
      rw [gb, List.getElem?_set]
      by_cases he : i * k + j = t
      · subst he
        have d1 : (i * k + j) / k = i := by rw [Nat.mul_comm, Nat.mul_add_div h0, Nat.div_eq_of_lt hj, Nat.add_zero]
        have d2 : (i * k + j) % k = j := by rw [Nat.mul_comm, Nat.mul_add_mod, Nat.mod_eq_of_lt hj]
        rw [if_pos rfl, if_pos (by rw [hl0]; exact htk)]
        have hx := hy l[i] (List.getElem?_eq_getElem hi)
        simp only [d1, d2, List.getElem_set_self, hx, List.getElem?_set_self (show j < (f l[i]).length by rw [hf]; exact hj)]
      · rw [if_neg he, ga]
        by_cases hi2 : i = t / k
        · subst hi2
          have hx := hy l[t / k] (List.getElem?_eq_getElem hq)
          rw [List.getElem_set_self, hx, List.getElem?_set_ne (fun q => he (by rw [q]; exact h3))]
        · rw [List.getElem_set_ne hi2]
    · rw [List.getElem?_eq_none (by simp [hl0]; omega), List.getElem?_eq_none (by rw [hlen]; omega)]
end
theorem hcnt_step (S : List Ser) {k : Nat} (h : k < S.length) : cntS (S.take (k + 1)) = cntS (S.take k) + (S.getD k ser0).2.length := by
  rw [List.take_add_one, List.getElem?_eq_getElem h, cntS_app, List.getD_eq_getElem?_getD, List.getElem?_eq_getElem h]
  simp [cntS]
theorem hcnt_take (S : List Ser) (k : Nat) : cntS (S.take k) ≤ cntS S := by
  conv => rhs; rw [← List.take_append_drop k S, cntS_app]
  omega
set_option maxHeartbeats 4000000 in
theorem refcount_prog (A : Option Addr) (S : List Ser) (c : Nat) (w : World) (hA : Sers w A S) (hl : S.length ≤ 1000000) (h6 : cntS S ≤ 65536) :
    Calls Try.prog 27 #[.slice A S.length c] w fun e w' => e = .returned (.int .i64 (cntS S : Int)) ∧ Below w.heap.size w w' := by
  have HA := Lib.hid hA
  obtain ⟨n, hn⟩ : ∃ n, S.length = n := ⟨_, rfl⟩
  have HN := Lib.hid hn
  rw [hn] at hl ⊢
  have HCS := Lib.hid (fun k (hk : k < n) => hcnt_step S (k := k) (by omega))
  have HCT := Lib.hid (fun k => hcnt_take S k)
  clear hA hn
  go_enter Try.func27, Try.ntmps27
  go_wp2_with fail
  go_loopw [3, 4] (fun t i wr => ∃ k m : Nat, k ≤ n ∧ i = .int .i64 (k : Int) ∧ t = .int .i64 (m : Int) ∧ m = cntS (S.take k) ∧ m ≤ 65536 ∧ Below w.heap.size w wr) (fun _ i _ => n - (intOf i).toNat)
  case atStart => exact ⟨0, 0, Nat.zero_le _, rfl, rfl, rfl, by omega, Below.refl _ _⟩
  case round =>
    obtain ⟨k, m, hk, rfl, rfl, hm, hmb, hbr⟩ := hrel
    have HB := Lib.hid hbr
    by_cases hlt : k < n
    · have i1 : decide ((k : Int) < (n : Int)) = true := decide_eq_true (by omega)
      have i2 : (k : Int) < (n : Int) := by omega
      have j1 : decide ((m : Int) ≤ 65536) = true := decide_eq_true (by omega)
      have j2 : decide (m ≤ 65536) = true := decide_eq_true hmb
      obtain ⟨b, o, rfl, hb, hat⟩ := HA.out.all (by rw [HN.out]; omega)
      obtain ⟨mm, hsa⟩ := hat k (by rw [HN.out]; exact hlt)
      obtain ⟨_, g1, _⟩ := hsa.below hbr hb
      have hcs := HCS.out k hlt
      have hct := HCT.out (k + 1)
      have HM := Lib.hid (show m + (S.getD k ser0).2.length = cntS (S.take (k + 1)) by omega)
      have hm2 : m + (S.getD k ser0).2.length ≤ 65536 := by omega
      generalize (S.getD k ser0).2.length = l2 at *
      have HM2 := Lib.hid hm2
      have hw1 : IntKind.i64.wrap ((m : Int) + (l2 : Int)) = ((m + l2 : Nat) : Int) := by rw [← Int.natCast_add]; exact IntWalk.i64_in _ (by omega)
      have HK := Lib.hid (show k + 1 ≤ n from hlt)
      clear hbr hat hsa hm hcs hct hm2
      go_wp2_with fail
      go_roundw
      case rel => exact ⟨k + 1, m + l2, HK.out, by go_num, by first | rfl | go_num, HM.out, HM2.out, HB.out⟩
      case measure => simp [intOf]; omega
    · have hkn : k = S.length := by rw [HN.out]; omega
      rw [hkn, List.take_length] at hm
      have i1 : decide ((k : Int) < (n : Int)) = false := decide_eq_false (by omega)
      have i2 : ¬ (k : Int) < (n : Int) := by omega
      have HR := Lib.hid (show (m : Int) = (cntS S : Int) by rw [hm])
      clear hm hbr hkn
      go_wp2_with fail
      go_ret
      exact ⟨ret_int HR.out, HB.out⟩
/-- append of a list of series to an own row, at a walk's built-in. -/
theorem hdapp_sers {w : World} {ops : Array Oper} {rest : List Oper} {o : Oper} {a : Act} {Q : Exit → Act → World → Prop} (hgd : o.guard = none) (s y : Operand)
    (ho : o.op = .call { callee := .builtin .append, args := #[s, y], argTypes := #[25, 25] })
    (base : Nat) (v : Value) (qs : List SPl) (hs : a.eval s = v) (hown : w.ownsRow base 60 2 v qs.length (qs.flatMap spE)) (A : Option Addr) (ps : List SPl) (c : Nat) (hy : a.eval y = .slice A ps.length c) (hA : At w A (ps.flatMap spE)) (hn : qs.length + ps.length ≤ 1000000) (hbase : base ≤ w.heap.size)
    (h : ∀ v' w', w'.ownsRow base 60 2 v' (qs.length + ps.length) ((qs ++ ps).flatMap spE) → Below base w w' → w.grownBy w' v.ownBlock → wpList Try.prog ops Q rest (a.put o.dst v') w') : wpList Try.prog ops Q (o :: rest) a w := by
  obtain ⟨i0, hi, hz0, hz1, hz2⟩ := info_parts hser_info
  refine wpList_app_at hgd s y 25 ho base 60 i0 _ 2 48 Try.underlying25 hi hz0 hz1 hz2 rfl (by omega) v qs.length (qs.flatMap spE) hs hown A ps.length c (ps.flatMap spE) hy (flat_len spE 2 spE_len ps) hA (fun u hu => ?_)
    (by simp only [maxLen]; omega) (by omega) hbase ?_
  · simp only [List.mem_flatMap, spE, List.mem_cons, List.not_mem_nil, or_false] at hu
    obtain ⟨x, _, rfl | rfl⟩ := hu <;> rfl
  · intro v' w' h1 h2 h3
    refine h v' w' ?_ h2 h3
    rw [List.flatMap_append]
    exact h1
/-- What the document's Do answers. -/
def RefDone (T : Nat → Prop) (w : World) (S : List Ser) (E : Int) (e : Ending) (w' : World) : Prop :=
  ∃ A c, e = .returned (.tuple #[.slice A S.length c, .int .i64 E]) ∧ S.length ≤ c ∧ SersT (fun k => T k ∨ w.heap.size ≤ k) w' A S ∧ Below w.heap.size w w'
theorem refDone_same {T : Nat → Prop} {w w' : World} {A : Option Addr} {S : List Ser} {c : Nat} {E : Int} (hA : SersT T w A S) (hc : S.length ≤ c) (hb : Below w.heap.size w w') : RefDone T w S E (.returned (.tuple #[.slice A S.length c, .int .i64 E])) w' :=
  ⟨A, c, rfl, hc, (hA.below hb).mono fun k hk => .inl hk, hb⟩
theorem refdo_bad {T : Nat → Prop} {A : Option Addr} {S : List Ser} {c : Nat} {R : RecV} {m : RecM} {w : World} (hA : SersT T w A S) (hc : S.length ≤ c) (hR : RecIn w R m) (hF : RecFit R) (h0 : recChk R ≠ 0) :
    Calls Try.prog 9 #[.slice A S.length c, .agg (recC R m).toArray] w (RefDone T w S (recChk R)) := by
  have hb1 := below_one w (.cells (recC R m).toArray 30)
  have hx := rec_cells (Row.new w 30 (recC R m).toArray) rfl
  have HC := Lib.hid (refcheck_prog R m _ (hR.below hb1) hF)
  have HB := Lib.hid hb1
  have HA := Lib.hid hA
  have HCC := Lib.hid hc
  have q1 : (recChk R != 0) = true := bne_iff_ne.2 h0
  generalize recChk R = E at *
  obtain ⟨kd, la, ro, ids, lo, hi⟩ := R
  obtain ⟨P, ca, Bb, cb, C, cc⟩ := m
  obtain ⟨n, hn⟩ : ∃ n, S.length = n := ⟨_, rfl⟩
  have HN := Lib.hid hn
  rw [hn]
  simp only [recC] at *
  obtain ⟨x0, x1, x2, x3, x4, x5⟩ := hx
  clear hA hc hR hF hb1 h0 hn
  go_enter Try.func9, Try.ntmps9
  go_wp2_with fail
  refine HC.out.mono ?_
  rintro e w2 ⟨rfl, hb2⟩
  have HB2 := Lib.hid (HB.out.trans (hb2.mono HB.out.size))
  clear hb2
  go_wp2_with fail
  go_ret2
  rw [← HN.out]
  exact refDone_same HA.out HCC.out HB2.out
theorem refdone_new {T : Nat → Prop} {w w' : World} {ps : List SPl} {x : SPl} {P : Option Addr} {c base : Nat} (hps : ∀ y ∈ ps, SerT T w y) (hb : Below w.heap.size w w') (hrow : w'.ownsRow base 60 2 (.slice P (ps.length + 1) c) (ps.length + 1) ((ps ++ [x]).flatMap spE)) (hbase : w.heap.size ≤ base) (hx : SerIn w' x) (hla : ∀ ad, x.2.la = some ad → w.heap.size ≤ ad.block) (hsa : x.1.2 = []) {E : Int} {S : List Ser} (hS : S = ps.map (·.1) ++ [x.1]) :
    RefDone T w S E (.returned (.tuple #[.slice P (ps.length + 1) c, .int .i64 E])) w' := by
  obtain ⟨P', c', e1, h1, h2, h3⟩ := rows_slice hrow
  obtain ⟨rfl, -, rfl⟩ := Value.slice.inj e1
  have hlen : S.length = ps.length + 1 := by rw [hS]; simp
  refine ⟨P, c, by rw [hlen], by rw [hlen]; exact h1, ⟨ps ++ [x], by rw [hS]; simp, h2, fun _ ad e => .inr (Nat.le_trans hbase (h3 ad e)), fun y hy => ?_⟩, hb⟩
  rcases List.mem_append.1 hy with hy | hy
  · exact ((hps y hy).move hb.size fun k hl _ => hb.block k hl).mono fun k hk => .inl hk
  · obtain rfl := List.mem_singleton.1 hy
    exact ⟨hx, fun _ ad e => .inr (hla ad e), fun q => absurd hsa q⟩
set_option maxHeartbeats 2000000 in
theorem refdo_k1 {T : Nat → Prop} {A : Option Addr} {S : List Ser} {c : Nat} {R : RecV} {m : RecM} {w : World} (hA : SersT T w A S) (hc : S.length ≤ c) (hk : HeadOk S) (hR : RecIn w R m) (hF : RecFit R) (h0 : recChk R = 0) (h1 : R.kind = 1) :
    Calls Try.prog 9 #[.slice A S.length c, .agg (recC R m).toArray] w (RefDone T w (doH S R).1 (doH S R).2) := by
  have hb1 := below_one w (.cells (recC R m).toArray 30)
  have hrz := Row.new w 30 (recC R m).toArray
  have HC := Lib.hid (refcheck_prog R m _ (hR.below hb1) hF)
  rw [h0] at HC
  have hdo : doH S R = (if 0 ≤ idH S R.labels then (S, 10) else if 256 ≤ S.length then (S, 3) else (S ++ [(R.labels, [])], 0)) := by
    unfold doH
    rw [if_neg (by simpa using h0), if_pos h1]
  have hlab : R.labels.length ≤ 4398046511104 := by have := hF.labels; omega
  obtain ⟨D, hD⟩ : ∃ D, doH S R = D := ⟨_, rfl⟩
  rw [hD] at hdo ⊢
  clear hD
  have HB := Lib.hid hb1
  have HA := Lib.hid hA
  have HCC := Lib.hid hc
  have HR := Lib.hid hR
  obtain ⟨kd, la, ro, ids, lo, hi⟩ := R
  obtain ⟨P, ca, Bb, cb, C, cc⟩ := m
  simp only [recC] at *
  subst h1
  obtain ⟨ps, hps, hat, _, hins⟩ := hA
  have hpl : ps.length = S.length := by rw [← hps, List.length_map]
  obtain ⟨z, hz⟩ : ∃ z, w.alloc (.cells #[.int .i64 1, .slice P la.length ca, .slice Bb ro.length cb, .slice C ids.length cc, .int .i64 lo, .int .i64 hi] 30) = z := ⟨_, rfl⟩
  rw [hz] at HC HB hrz
  have HZ := Lib.hid hz
  have HX := Lib.hid (fun (x : World) (hx : Below z.heap.size z x) => rec_cells (hrz.below hx hrz.lt) rfl)
  have HAT := Lib.hid hat
  have HINS := Lib.hid hins
  have HPL := Lib.hid hpl
  have HPS := Lib.hid hps
  have h256 := hk.few
  have HID := Lib.hid (fun (x : World) (hx : Below w.heap.size w x) => refid_prog A S c P la ca x (HA.out.sers.below hx) (HR.out.labels.below hx) (fun s hs => by have := (lbChk_ok.1 (hk.right s hs).1).1; omega) (by omega) (by omega))
  obtain ⟨E, hE⟩ : ∃ E, idH S la = E := ⟨_, rfl⟩
  rw [hE] at HID hdo
  obtain ⟨n, hn⟩ : ∃ n, S.length = n := ⟨_, rfl⟩
  rw [hn] at hdo h256 HID HPL HCC ⊢
  have HDO := Lib.hid hdo
  have HN := Lib.hid hn
  clear hc hR hF hb1 h0 hz hrz hat hins hps hpl hE hn hdo
  go_enter Try.func9, Try.ntmps9
  go_upto_region 1 with fail
  rw [HZ.out]
  obtain ⟨x0, x1, x2, x3, x4, x5⟩ := HX.out _ (Below.refl _ _)
  go_wp2_with fail
  refine HC.out.mono ?_
  rintro e w2 ⟨rfl, hb2⟩
  clear x0 x1 x2 x3 x4 x5
  have HB2 := Lib.hid hb2
  have HW2 := Lib.hid (HB.out.trans (hb2.mono HB.out.size))
  have HO2 := Lib.hid (show (w2.alloc (.cells #[] 60)).ownsRow w2.heap.size 60 2 (.slice (some ⟨w2.heap.size, 0, none⟩) 0 0) ([] : List SPl).length (([] : List SPl).flatMap spE) from ⟨rfl, .inr ⟨w2.heap.size, 0, #[], rfl, Nat.le_refl _, Row.new w2 _ _, Nat.le_refl _, by simp [maxLen], by simp, by simp⟩⟩)
  have HA2 := Lib.hid (At.alloc (At.below HAT.out HW2.out) (.cells #[] 60))
  have HPV := Lib.hid (show Value.slice A n c = Value.slice A ps.length c by rw [HPL.out])
  clear hb2
  go_upto_region 5 with (at_builtin; refine hdapp_sers rfl (.tmp 18) (.tmp 19) rfl w2.heap.size _ [] rfl HO2.out A ps c HPV.out HA2.out (by have := HPL.out; simp only [List.length_nil]; omega) (by simp) ?_; intro v3 w3 ho3 hb3 hg3; rw [List.nil_append, List.length_nil, Nat.zero_add] at ho3; have HO3 := Lib.hid ho3; have HB3 := Lib.hid ((below_one w2 (.cells #[] 60)).trans hb3); clear ho3 hb3 hg3)
  obtain ⟨x0, x1, x2, x3, x4, x5⟩ := HX.out w3 (HB2.out.trans (HB3.out.mono HB2.out.size))
  have HW3 := Lib.hid (HW2.out.trans (HB3.out.mono HW2.out.size))
  have HX4 := Lib.hid (fun (x : World) (hx : Below w3.heap.size w3 x) => HX.out x ((HB2.out.trans (HB3.out.mono HB2.out.size)).trans (hx.mono (Nat.le_trans HB2.out.size HB3.out.size))))
  go_wp2_with fail
  refine (HID.out w3 HW3.out).mono ?_
  rintro e w4 ⟨rfl, hb4⟩
  have HB4 := Lib.hid hb4
  have HW4 := Lib.hid (below_then HW3.out hb4)
  clear hb4 x0 x1 x2 x3 x4 x5
  by_cases e0 : 0 ≤ E
  · have d1 : decide (0 ≤ E) = true := decide_eq_true e0
    have hd := HDO.out
    rw [if_pos e0] at hd
    subst hd
    clear e0
    go_wp2_with fail
    go_ret2
    have := refDone_same (E := 10) HA.out (by rw [HN.out]; exact HCC.out) HW4.out
    rw [HN.out] at this
    exact this
  have d1 : decide (0 ≤ E) = false := decide_eq_false e0
  have hd := HDO.out
  rw [if_neg e0] at hd
  by_cases e1 : 256 ≤ n
  · have d2 : decide ((256 : Int) ≤ (n : Int)) = true := decide_eq_true (by omega)
    rw [if_pos e1] at hd
    subst hd
    clear e0 e1
    go_wp2_with fail
    go_ret2
    have := refDone_same (E := 3) HA.out (by rw [HN.out]; exact HCC.out) HW4.out
    rw [HN.out] at this
    exact this
  have d2 : decide ((256 : Int) ≤ (n : Int)) = false := decide_eq_false (by omega)
  rw [if_neg e1] at hd
  subst hd
  obtain ⟨x0, x1, x2, x3, x4, x5⟩ := HX4.out _ (HB4.out.trans ((below_one w4 (.cells #[] 69)).mono HB4.out.size))
  have HO5 := Lib.hid (ownl_empty (base := w4.heap.size) (Row.new w4 69 #[]) (Nat.le_refl _))
  have HL5 := Lib.hid (show Lbls (w4.alloc (.cells #[] 69)) P la from (HR.out.labels.below HW4.out).alloc (.cells #[] 69))
  clear e0 e1
  go_wp2_with (at_builtin; first
    | (refine app_lbls rfl (.tmp 36) (.tmp 38) rfl w4.heap.size _ [] rfl HO5.out P la ca rfl HL5.out (by simp only [List.length_nil]; omega) (by simp) ?_
       intro v5 w5 ho5 hb5 hg5
       rw [List.nil_append] at ho5
       obtain ⟨P5, c5, hv5, hc5, hl5, _⟩ := ownl_slice ho5
       subst hv5
       have HOL5 := Lib.hid ho5
       have HB5 := Lib.hid ((below_one w4 (.cells #[] 69)).trans hb5)
       have HO6 := Lib.hid (rows_below (rows_below (rows_below HO3.out HB4.out) HB5.out) (below_one w5 (.cells #[.slice P5 la.length c5, .slice none 0 0] 60)))
       have HA6 := Lib.hid (show At (w5.alloc (.cells #[.slice P5 la.length c5, .slice none 0 0] 60)) (some ⟨w5.heap.size, 0, none⟩) ([(((la, []), ⟨P5, c5, none, 0⟩) : SPl)].flatMap spE) from At.row (Row.new w5 _ _))
       have hbase6 : w2.heap.size ≤ (w5.alloc (.cells #[.slice P5 la.length c5, .slice none 0 0] 60)).heap.size := Nat.le_trans HB3.out.size (Nat.le_trans HB4.out.size (Nat.le_trans HB5.out.size (by simp)))
       clear ho5 hb5 hg5 hl5)
    | (refine hdapp_sers rfl (.tmp 35) (.tmp 41) rfl w2.heap.size _ ps rfl HO6.out (some ⟨w5.heap.size, 0, none⟩) [((la, []), ⟨P5, c5, none, 0⟩)] 1 rfl HA6.out (by have := HPL.out; simp only [List.length_singleton]; omega) hbase6 ?_
       intro v6 w6 ho6 hb6 hg6
       obtain ⟨P6, c6, hv6, _⟩ := rows_slice ho6
       subst hv6
       have HO7 := Lib.hid ho6
       have HG6 := Lib.hid hg6
       have HB6 := Lib.hid (HW4.out.trans ((HB5.out.mono HW4.out.size).trans (((below_one w5 _).mono (Nat.le_trans HW4.out.size HB5.out.size)).trans (hb6.mono HW2.out.size))))
       have HOL6 := Lib.hid (hrows_far (rows_below HOL5.out (below_one w5 (.cells #[.slice P5 la.length c5, .slice none 0 0] 60))) hg6 HO6.out (by decide))
       clear ho6 hb6 hg6))
  go_ret2
  obtain ⟨P7, c7, hv7, hc7, hl7, hp7⟩ := ownl_slice HOL6.out
  obtain ⟨rfl, -, rfl⟩ := Value.slice.inj hv7
  exact refdone_new HINS.out HB6.out HO7.out HW2.out.size ⟨hl7, .inl rfl, hc7, Nat.le_refl _⟩ (fun ad e => Nat.le_trans HW4.out.size (hp7 ad e)) rfl (by rw [HPS.out])
end Go.Proofs.Ytpcjnagdanmdpaa
