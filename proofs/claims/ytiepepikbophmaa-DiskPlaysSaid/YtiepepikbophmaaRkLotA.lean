/- In one text, written by merge.py: RkFar, RkDirT, RkCh0, RkCh1, RkCh2, RkCh3, RkCh4, RkCh5, RkCh6, RkCrashT. -/
import Derived.Test.YtiepepikbophmaaRkCrash
import Derived.StillTailTactics
namespace Go.Proofs.Ytiepepikbophmaa
open Go.RowKit Go.Maps
set_option linter.unusedVariables false

def FarB (T : Nat → Prop) (x : Option Addr × Nat × Fil) : Prop := x.2.2.b = [] ∨ ∀ ad, x.1 = some ad → ¬ T ad.block
def FilesT (T : Nat → Prop) (w : World) (v : Value) (fs : List Fil) : Prop :=
  ∃ fl : List (Option Addr × Nat × Fil), fl.map (fun x => x.2.2) = fs ∧ w.ownsRow 0 122 2 v fl.length (fl.flatMap filC) ∧ ∀ x ∈ fl, (Bys w x.1 x.2.2.b ∧ x.2.2.b.length ≤ x.2.1) ∧ FarB T x
theorem FilesT.in_ {T : Nat → Prop} {w : World} {v : Value} {fs : List Fil} (h : FilesT T w v fs) : FilesR w 0 v fs := by
  obtain ⟨fl, h1, h2, h3⟩ := h
  exact ⟨fl, h1, h2, fun x hx => (h3 x hx).1⟩
theorem FilesT.below {T : Nat → Prop} {w w' : World} {v : Value} {fs : List Fil} (h : FilesT T w v fs) (hb : Below w.heap.size w w') : FilesT T w' v fs := by
  obtain ⟨fl, h1, h2, h3⟩ := h
  exact ⟨fl, h1, rows_below h2 hb, fun x hx => ⟨⟨(h3 x hx).1.1.below hb, (h3 x hx).1.2⟩, (h3 x hx).2⟩⟩
theorem bys_kept {T : Nat → Prop} {w w' : World} {A : Option Addr} {l : List UInt8} (h : Bys w A l) (hK : Kept T w w') (hf : l = [] ∨ ∀ ad, A = some ad → ¬ T ad.block) : Bys w' A l := by
  rcases h with h0 | ⟨b, o, rfl, hlt, hc⟩
  · exact .inl h0
  · refine bys_move (.inr ⟨b, o, rfl, hlt, hc⟩) hK.size (hf.imp id fun hh ad e => ?_)
    injection e with e
    subst e
    exact hK.block b hlt (hh _ rfl)
theorem FilesT.kept {T S : Nat → Prop} {w w' : World} {v : Value} {fs : List Fil} (h : FilesT T w v fs) (hf : Far S v) (hS : ∀ k, S k → T k) (hK : Kept S w w') : FilesT T w' v fs := by
  obtain ⟨fl, h1, h2, h3⟩ := h
  exact ⟨fl, h1, rows_kept h2 hK hf, fun x hx => ⟨⟨bys_kept (h3 x hx).1.1 hK ((h3 x hx).2.imp id fun hh ad e hs => hh ad e (hS _ hs)), (h3 x hx).1.2⟩, (h3 x hx).2⟩⟩
/-- The document's disk in memory, apart from the blocks of T. -/
structure RefT (T : Nat → Prop) (w : World) (fv bv wv : Value) (d : Dsk) : Prop where
  files : FilesT T w fv d.files
  base : EntsR w 0 bv d.base
  wait : StepsR w 0 wv d.wait
  ff : Far T fv
  fb : Far T bv
  fw : Far T wv
section
variable {T S : Nat → Prop} {w w' : World} {fv bv wv : Value} {d : Dsk}
theorem RefT.in_ (h : RefT T w fv bv wv d) : RefIn w fv bv wv d := ⟨h.files.in_, h.base, h.wait⟩
theorem RefT.below (h : RefT T w fv bv wv d) (hb : Below w.heap.size w w') : RefT T w' fv bv wv d := ⟨h.files.below hb, rows_below h.base hb, rows_below h.wait hb, h.ff, h.fb, h.fw⟩
theorem RefT.kept (h : RefT T w fv bv wv d) (hS : ∀ k, S k → T k) (hK : Kept S w w') : RefT T w' fv bv wv d :=
  ⟨h.files.kept (fun k hk hs => h.ff k hk (hS k hs)) hS hK, rows_kept h.base hK fun k hk hs => h.fb k hk (hS k hs), rows_kept h.wait hK fun k hk hs => h.fw k hk (hS k hs), h.ff, h.fb, h.fw⟩
theorem RefT.more (h : RefT T w fv bv wv d) (hS : ∀ k, S k → T k ∨ w.heap.size ≤ k) : RefT S w fv bv wv d := by
  have hfar : ∀ {e size n : Nat} {v : Value} {xs : List Value}, w.ownsRow 0 e size v n xs → Far T v → Far S v := fun h1 h2 k hk hs => by
    have := (World.ownsRow.lt h1 k hk).2
    rcases hS k hs with h3 | h3
    · exact h2 k hk h3
    · omega
  obtain ⟨fl, h1, h2, h3⟩ := h.files
  refine ⟨⟨fl, h1, h2, fun x hx => ⟨(h3 x hx).1, ?_⟩⟩, h.base, h.wait, hfar h2 h.ff, hfar h.base h.fb, hfar h.wait h.fw⟩
  rcases (h3 x hx).1.1 with h0 | ⟨b, o, e, hlt, _⟩
  · exact .inl h0
  · refine (h3 x hx).2.imp id fun hh ad e2 hs => ?_
    rcases hS _ hs with h4 | h4
    · exact hh ad e2 h4
    · rw [e] at e2
      injection e2 with e2
      subst e2
      have : w.heap.size ≤ b := h4
      omega
theorem far_own {b e size n m : Nat} {v : Value} {xs : List Value} (h : w.ownsRow b e size v n xs) (hT : ∀ i, T i → i < m) (hm : m ≤ b) : Far T v := fun k hk ht => by
  have h1 := (World.ownsRow.lt h k hk).1
  have h2 := hT k ht
  omega
theorem far_nil : Far T (.slice none 0 0) := fun k hk => by cases hk
end
theorem refT_new (T : Nat → Prop) (w : World) (room : Nat) : RefT T w (.slice none 0 0) (.slice none 0 0) (.slice none 0 0) (newD room) :=
  ⟨⟨[], rfl, ⟨rfl, .inl ⟨rfl, rfl⟩⟩, fun x hx => by cases hx⟩, ents_nil _ _, ⟨rfl, .inl ⟨rfl, rfl⟩⟩, far_nil, far_nil, far_nil⟩
theorem reft_store {T : Nat → Prop} {w w' : World} {g : Nat} {cs : Array Value} {fv bv wv : Value} {d : Dsk} (h : RefT T w fv bv wv d) (hg : Row w g 31 cs) (hn : ∀ v ∈ cs, ∀ x, v ≠ Value.int .u8 x) (hK : Kept (fun j => j = g) w w') : RefT T w' fv bv wv d := by
  obtain ⟨fl, h1, h2, h3⟩ := h.files
  exact ⟨⟨fl, h1, rows_kept h2 hK fun k hk e => row_ne_rows hg h2 (by decide) (by rw [hk, e]), fun x hx => ⟨⟨bys_far hg hn hK (h3 x hx).1.1, (h3 x hx).1.2⟩, (h3 x hx).2⟩⟩,
    rows_kept h.base hK fun q hq e => row_ne_rows hg h.base (by decide) (by rw [hq, e]), rows_kept h.wait hK fun q hq e => row_ne_rows hg h.wait (by decide) (by rw [hq, e]), h.ff, h.fb, h.fw⟩
/-- append([]File{}, l...), whatever holds of the files' places. -/
theorem app_filesP {w0 : World} {ops : Array Oper} {rest : List Oper} {o : Oper} {a : Act} {Q : Exit → Act → World → Prop} (hgd : o.guard = none) (s y : Operand)
    (ho : o.op = .call { callee := .builtin .append, args := #[s, y], argTypes := #[27, 27] })
    (hs : a.eval s = .slice (some ⟨w0.heap.size, 0, none⟩) 0 0) (yv : Value) (fs : List Fil) (hy : a.eval y = yv) (T : Nat → Prop) (hF : FilesT T w0 yv fs) (hn : fs.length ≤ 1000000)
    (h : ∀ v' w' fl, fl.map (fun x => x.2.2) = fs → FO w' w0.heap.size v' fl → (∀ x ∈ fl, (Bys w0 x.1 x.2.2.b ∧ x.2.2.b.length ≤ x.2.1) ∧ FarB T x) → Below w0.heap.size w0 w' → wpList Try.prog ops Q rest (a.put o.dst v') w') :
    wpList Try.prog ops Q (o :: rest) a (w0.alloc (.cells #[] 122)) := by
  obtain ⟨i0, hi, hz0, hz1, hz2⟩ := info_parts file_info
  have hA := below_one w0 (.cells #[] 122)
  obtain ⟨fl, hfl, hrow, heach⟩ := hF
  have hl : fl.length ≤ 1000000 := by rw [← hfl, List.length_map] at hn; exact hn
  have hlit : (w0.alloc (.cells #[] 122)).ownsRow w0.heap.size 122 2 (.slice (some ⟨w0.heap.size, 0, none⟩) 0 0) 0 [] := World.ownsRow_lit w0 #[] 0 (Nat.le_refl _) (by decide) rfl
  refine app_all hgd s y _ ho w0.heap.size 122 i0 _ 2 32 Try.underlying27 hi hz0 hz1 hz2 rfl (by omega) _ 0 [] hs hlit yv fl.length 0 _ hy (rows_below hrow hA) ?_ (by simp only [maxLen]; omega) (by omega) hA.size ?_
  · intro u hu
    obtain ⟨x, _, hux⟩ := List.mem_flatMap.1 hu
    unfold filC at hux
    simp only [List.mem_cons, List.not_mem_nil, or_false] at hux
    rcases hux with rfl | rfl <;> rfl
  · intro v' w' h1 hb
    rw [Nat.zero_add, List.nil_append] at h1
    refine h v' w' fl hfl ⟨h1, fun x hx => ⟨(heach x hx).1.1.below (hA.trans hb), (heach x hx).1.2, ?_⟩⟩ heach (hA.trans hb)
    rcases (heach x hx).1.1 with h0 | ⟨b, o', hx1, hlt, _⟩
    · exact .inl h0
    · refine .inr fun ad e e2 => ?_
      rw [hx1] at e
      injection e with e
      subst e
      have := (World.ownsRow.lt h1 _ e2).1
      simp only at this
      omega
theorem FO.filesT {T : Nat → Prop} {w : World} {base : Nat} {v : Value} {fl : List (Option Addr × Nat × Fil)} (h : FO w base v fl) (hf : ∀ x ∈ fl, FarB T x) : FilesT T w v (fl.map fun x => x.2.2) :=
  ⟨fl, rfl, rows_lower h.row (Nat.zero_le _), fun x hx => ⟨⟨(h.each x hx).1, (h.each x hx).2.1⟩, hf x hx⟩⟩
end Go.Proofs.Ytiepepikbophmaa

namespace Go.Proofs.Ytiepepikbophmaa
open Go.RowKit Go.Maps
set_option linter.unusedVariables false

set_option maxRecDepth 20000 in
set_option maxHeartbeats 1000000 in
theorem dirT_ref {T : Nat → Prop} {w : World} {fv bv wv : Value} {d : Dsk} (h : RefIn w fv bv wv d) (hF : Fine d) (hM : Met d) (m : Nat) (hm : m ≤ d.wait.length) (hwl : d.wait.length ≤ 100000) (hT : ∀ i, T i → i < w.heap.size) (hfar : Far T bv) :
    Calls Try.prog 84 #[.agg (refC d fv bv wv).toArray, .int .i64 (m : Int)] w fun e w' => ∃ v', e = .returned v' ∧ EntsR w' 0 v' (dirOf d.base (d.wait.take m)) ∧ Far T v' ∧ Below w.heap.size w w' := by
  have HB0 := Lib.hid (below_one w (.cells (refC d fv bv wv).toArray 31))
  have HR0 := Lib.hid (fun w' hb => row_cells (ref_cells (w := w) (w' := w') (d := d) (fv := fv) (bv := bv) (wv := wv) hb))
  have HIN := Lib.hid (fun w' (hb : Below w.heap.size w w') => h.below hb)
  have HFI := Lib.hid hF
  have HME := Lib.hid hM
  obtain ⟨Pw, cw, hwv, hcw, _⟩ := steps_at h.wait
  obtain ⟨Pb, cb, hbv, _, _⟩ := ents_at h.base
  obtain ⟨fl, _, hfl, _⟩ := h.files
  obtain ⟨Pf, cf, hfv, _, _⟩ := rows_at hfl
  have HTT := Lib.hid hT
  have HFB := Lib.hid hfar
  clear h hF hM hfl hT hfar
  obtain ⟨room, files, base, wait, left, dark, count⟩ := d
  simp only at hwv hbv hm hwl hcw
  simp only [refC] at *
  generalize fl.length = nf at hfv
  generalize hnb : base.length = nb at hbv
  clear hnb
  subst hwv
  subst hbv
  subst hfv
  go_enter Try.func84, Try.ntmps84
  obtain ⟨x0, x1, x2, x3, x4, x5, x6⟩ := HR0.out _ (Below.refl _ _)
  go_wp2_with fail
  clear x0 x1 x2 x3 x4 x5 x6
  go_loopw [5, 6] (fun v i wr => ∃ k : Nat, k ≤ m ∧ i = .int .i64 (k : Int) ∧ EntsR wr 0 v (dirOf base (wait.take k)) ∧ Far T v ∧ Below (w.alloc (.cells #[.int .i64 (room : Int), .slice Pf nf cf, .slice Pb nb cb, .slice Pw wait.length cw, .int .i64 left, .bool dark, .int .i64 (count : Int)] 31)).heap.size (w.alloc (.cells #[.int .i64 (room : Int), .slice Pf nf cf, .slice Pb nb cb, .slice Pw wait.length cw, .int .i64 left, .bool dark, .int .i64 (count : Int)] 31)) wr) (fun _ i _ => m - (intOf i).toNat)
  case atStart => exact ⟨0, Nat.zero_le _, rfl, (HIN.out _ HB0.out).base, HFB.out, Below.refl _ _⟩
  case round =>
    obtain ⟨k, hk, rfl, hE, hfv, hb⟩ := hrel
    have HFV := Lib.hid hfv
    clear hfv
    have hbw := below_then HB0.out hb
    have HE := Lib.hid hE
    have HBW := Lib.hid hbw
    have HB := Lib.hid hb
    obtain ⟨x0, x1, x2, x3, x4, x5, x6⟩ := HR0.out _ hb
    obtain ⟨Pe, ce, hve, _, _⟩ := ents_at hE
    by_cases hlt : k < m
    · obtain ⟨s, hs⟩ : ∃ s, wait[k]? = some s := ⟨wait[k], List.getElem?_eq_getElem (by omega)⟩
      obtain ⟨P', c', hv', _, hst⟩ := steps_at (HIN.out _ hbw).wait
      injection hv' with hv1 _ hv2
      subst hv1
      subst hv2
      obtain ⟨g, rfl, _, hgl, hc⟩ := hst k s hs
      have HTK := Lib.hid (dirOf_take (base := base) hs)
      have i1 : (k : Int) < (m : Int) := by omega
      have i2 : (k : Int) < (wait.length : Int) := by omega
      have hfew : (dirOf base (wait.take k)).length ≤ 64 := HFI.out.few k (by show k ≤ wait.length; omega)
      have HWI := Lib.hid (fun (wx : World) (q : Below wr.heap.size wr wx) (x : Ent) => with_ref (rows_below hE q) (by omega) x)
      have HWO := Lib.hid (fun (wx : World) (q : Below wr.heap.size wr wx) (z : ByteArray) => without_ref (rows_below hE q) (by omega) z)
      have HAT := Lib.hid (fun (wx : World) (q : Below wr.heap.size wr wx) (z : ByteArray) => at_ref (rows_below hE q) (by omega) z)
      have HMK := Lib.hid (fun n t (h : wait[k]? = some (.move n t)) => HME.out k n t h)
      clear hE hb hbw hst
      cases s with
      | lay n f =>
        have e0 := hc 0 _ rfl
        have e1 := hc 1 _ rfl
        have e2 := hc 2 _ rfl
        have e3 := hc 3 _ rfl
        rw [Nat.add_zero] at e0
        have hb1 := below_one wr (.cells #[.int .i64 1, .string (txt n), .string (txt []), .int .i64 (f : Int)] 127)
        have HC := Lib.hid (HWI.out _ hb1 ⟨n, f⟩)
        have HB1 := Lib.hid hb1
        generalize dirOf base (wait.take k) = L at *
        rw [hve] at HC
        generalize hnl : L.length = nl at hve HC
        clear hnl hc hb1 hs hfew
        subst hve
        go_wp2_with fail
        refine HC.out.mono ?_
        rintro e w2 ⟨v2, rfl, hE2, hb2⟩
        obtain ⟨P2, c2, hv2, _, _⟩ := ents_at hE2
        have HE2 := Lib.hid (rows_lower hE2 (Nat.zero_le _))
        have HF2 := Lib.hid (far_own hE2 HTT.out (Nat.le_trans HBW.out.size HB1.out.size))
        have HB2 := Lib.hid (HB.out.trans ((below_then HB1.out hb2).mono HB.out.size))
        clear hE2 hb2
        generalize (put L ⟨n, f⟩).length = n2 at hv2
        subst hv2
        go_wp2
        go_roundw
        case rel => exact ⟨k + 1, by omega, by go_num, by rw [HTK.out]; exact HE2.out, HF2.out, HB2.out⟩
        case measure => simp [intOf]; omega
      | move n t =>
        have e0 := hc 0 _ rfl
        have e1 := hc 1 _ rfl
        have e2 := hc 2 _ rfl
        have e3 := hc 3 _ rfl
        rw [Nat.add_zero] at e0
        have hb1 := below_one wr (.cells #[.int .i64 2, .string (txt n), .string (txt t), .int .i64 0] 127)
        have hrow := Row.new wr 127 #[.int .i64 2, .string (txt n), .string (txt t), .int .i64 0]
        have HA := Lib.hid (HAT.out _ hb1 (txt n))
        obtain ⟨f, hf⟩ := Option.isSome_iff_exists.1 (HMK.out n t hs)
        have hat : atV (dirOf base (wait.take k)) n = (f : Int) := by unfold atV; rw [hf]
        have HTK' := Lib.hid (show dirOf base (wait.take (k + 1)) = put (lacking (dirOf base (wait.take k)) n) ⟨t, f⟩ by
          rw [HTK.out]
          show put (lacking _ n) ⟨t, (whose _ n).getD 0⟩ = _
          rw [hf]
          rfl)
        have HWX := Lib.hid (show ∀ x0 : World, Below wr.heap.size wr x0 → Calls Try.prog 97 #[.slice Pe (dirOf base (wait.take k)).length ce, .string (txt n)] x0.drew fun e w' => ∃ v', e = .returned v' ∧ EntsR w' x0.heap.size v' (lacking (dirOf base (wait.take k)) n) ∧ Below x0.heap.size x0.drew w' from fun x0 hx => by
          have := HWO.out x0.drew (below_drewN' hx 1) (txt n)
          rw [strL_txt, hve] at this
          exact this)
        have HB1 := Lib.hid hb1
        have HROW := Lib.hid hrow
        rw [strL_txt, hat, hve] at HA
        have hlk := lacking_few (dirOf base (wait.take k)) n
        have hll : (lacking (dirOf base (wait.take k)) n).length ≤ 1000 := by omega
        clear hlk hf hat
        generalize dirOf base (wait.take k) = L at *
        generalize hnl : L.length = nl at hve HA HWX
        clear hnl hc hs hfew hb1 hrow
        subst hve
        go_wp2_with fail
        refine HA.out.mono ?_
        rintro e w2 ⟨rfl, rfl⟩
        clear HA HAT HWO HMK
        generalize wr.alloc (.cells #[.int .i64 2, .string (txt n), .string (txt t), .int .i64 0] 127) = x9 at *
        have z1 : x9.cell? ⟨wr.heap.size, 1, none⟩ = some (.string (txt n)) := (HROW.out.cell 1).trans rfl
        have z2 : x9.cell? ⟨wr.heap.size, 2, none⟩ = some (.string (txt t)) := (HROW.out.cell 2).trans rfl
        clear e0 e1 e2 e3 x0 x1 x2 x3 x4 x5 x6
        have HLT := Lib.hid (HROW.out.lt)
        go_wp2_with fail
        go_region_held3 (fun w' => w'.cell? ⟨wr.heap.size, 1, none⟩ = some (.string (txt n)) ∧ w'.cell? ⟨wr.heap.size, 2, none⟩ = some (.string (txt t)))
          (first | exact z1 | exact z2 | exact y1 | exact y2 | exact u1 | exact u2 | go_keep)
          (first
            | (go_at_call 97
               refine (HWX.out x9 HB1.out).mono ?_
               rintro e w3 ⟨v3, rfl, hE3, hb3⟩
               obtain ⟨P3, c3, hv3, _, _⟩ := ents_at hE3
               have hb3' : Below x9.heap.size x9 w3 := (drawn x9.heap.size x9 1).trans hb3
               have hr3 := row_move HROW.out (hb3'.block _ HLT.out)
               have y1 : w3.cell? ⟨wr.heap.size, 1, none⟩ = some (.string (txt n)) := (hr3.cell 1).trans rfl
               have y2 : w3.cell? ⟨wr.heap.size, 2, none⟩ = some (.string (txt t)) := (hr3.cell 2).trans rfl
               have HW3 := Lib.hid (with_ref (rows_lower hE3 (Nat.zero_le _)) hll ⟨t, f⟩)
               have HB3 := Lib.hid hb3'
               have HR3 := Lib.hid hr3
               rw [hv3] at HW3
               generalize (lacking L n).length = n3 at hv3 HW3
               clear hE3 hb3 hb3' hr3
               subst hv3)
            | (go_at_call 96
               refine HW3.out.mono ?_
               rintro e w4 ⟨v4, rfl, hE4, hb4⟩
               obtain ⟨P4, c4, hv4, _, _⟩ := ents_at hE4
               have hr4 := row_move HR3.out (hb4.block _ HR3.out.lt)
               have u1 : w4.cell? ⟨wr.heap.size, 1, none⟩ = some (.string (txt n)) := (hr4.cell 1).trans rfl
               have u2 : w4.cell? ⟨wr.heap.size, 2, none⟩ = some (.string (txt t)) := (hr4.cell 2).trans rfl
               have HE4 := Lib.hid (rows_lower hE4 (Nat.zero_le _))
               have HF4 := Lib.hid (far_own hE4 HTT.out (Nat.le_trans (Nat.le_trans HBW.out.size HB1.out.size) HB3.out.size))
               have HB4 := Lib.hid (HB.out.trans ((below_then HB1.out (below_then HB3.out hb4)).mono HB.out.size))
               generalize (put (lacking L n) ⟨t, f⟩).length = n4 at hv4
               clear hE4 hb4 hr4
               subst hv4))
        all_goals
          go_wp2
          go_roundw
          case rel => exact ⟨k + 1, by omega, by go_num, by rw [HTK'.out]; exact HE4.out, HF4.out, HB4.out⟩
          case measure => simp [intOf]; omega
      | take n =>
        have e0 := hc 0 _ rfl
        have e1 := hc 1 _ rfl
        have e2 := hc 2 _ rfl
        have e3 := hc 3 _ rfl
        rw [Nat.add_zero] at e0
        have hb1 := below_one wr (.cells #[.int .i64 3, .string (txt n), .string (txt []), .int .i64 0] 127)
        have HC := Lib.hid (HWO.out _ hb1 (txt n))
        have HB1 := Lib.hid hb1
        generalize dirOf base (wait.take k) = L at *
        rw [hve, strL_txt] at HC
        generalize hnl : L.length = nl at hve HC
        clear hnl hc hb1 hs hfew
        subst hve
        go_wp2_with fail
        refine HC.out.mono ?_
        rintro e w2 ⟨v2, rfl, hE2, hb2⟩
        obtain ⟨P2, c2, hv2, _, _⟩ := ents_at hE2
        have HE2 := Lib.hid (rows_lower hE2 (Nat.zero_le _))
        have HF2 := Lib.hid (far_own hE2 HTT.out (Nat.le_trans HBW.out.size HB1.out.size))
        have HB2 := Lib.hid (HB.out.trans ((below_then HB1.out hb2).mono HB.out.size))
        clear hE2 hb2
        generalize (lacking L n).length = n2 at hv2
        subst hv2
        go_wp2
        go_roundw
        case rel => exact ⟨k + 1, by omega, by go_num, by rw [HTK.out]; exact HE2.out, HF2.out, HB2.out⟩
        case measure => simp [intOf]; omega
    · obtain rfl : k = m := by omega
      clear hE hb hbw
      generalize (dirOf base (wait.take k)).length = nl at hve
      subst hve
      go_wp2_with fail
      go_ret
      exact ⟨_, rfl, HE.out, HFV.out, HBW.out⟩
theorem liveT_ref {T : Nat → Prop} {w : World} {fv bv wv : Value} {d : Dsk} (h : RefIn w fv bv wv d) (hF : Fine d) (hM : Met d) (hwl : d.wait.length ≤ 100000) (hT : ∀ i, T i → i < w.heap.size) (hfar : Far T bv) :
    Calls Try.prog 81 #[.agg (refC d fv bv wv).toArray] w fun e w' => ∃ v', e = .returned v' ∧ EntsR w' 0 v' (live d) ∧ Far T v' ∧ Below w.heap.size w w' := by
  have hB0 := below_one w (.cells (refC d fv bv wv).toArray 31)
  have HD := Lib.hid (dirT_ref (h.below hB0) hF hM d.wait.length (Nat.le_refl _) hwl (fun i hi => Nat.lt_of_lt_of_le (hT i hi) hB0.size) hfar)
  rw [List.take_length] at HD
  have HB0 := Lib.hid hB0
  obtain ⟨x0, x1, x2, x3, x4, x5, x6⟩ := row_cells (Row.new w 31 (refC d fv bv wv).toArray)
  obtain ⟨⟨Pf, cf, hfv⟩, ⟨Pb, cb, hbv⟩, ⟨Pw, cw, hwv⟩⟩ := ref_forms h
  clear h hF hM hwl hB0 hT hfar
  unfold live
  obtain ⟨room, files, base, wait, left, dark, count⟩ := d
  simp only at hwv hbv hfv HD
  simp only [refC] at *
  generalize files.length = nf at *
  generalize base.length = nb at *
  subst hwv
  subst hbv
  subst hfv
  go_enter Try.func81, Try.ntmps81
  go_wp2_with fail
  refine HD.out.mono ?_
  rintro e w2 ⟨v2, rfl, hE2, hf2, hb2⟩
  have HF2 := Lib.hid hf2
  clear hf2
  obtain ⟨P2, c2, hv2, _, _⟩ := ents_at hE2
  have HE2 := Lib.hid hE2
  have HB2 := Lib.hid (below_then HB0.out hb2)
  clear hE2 hb2
  generalize (dirOf base wait).length = n2 at hv2
  subst hv2
  go_wp2
  go_ret
  exact ⟨_, rfl, HE2.out, HF2.out, HB2.out⟩
end Go.Proofs.Ytiepepikbophmaa

namespace Go.Proofs.Ytiepepikbophmaa
open Go.RowKit Go.Maps
set_option linter.unusedVariables false

def ChTold (T : Nat → Prop) (w : World) (r : Dsk × Int) (e : Ending) (w' : World) : Prop := ∃ fv bv wv, e = .returned (.tuple #[.agg (refC r.1 fv bv wv).toArray, .int .i64 r.2]) ∧ RefT T w' fv bv wv r.1 ∧ Below w.heap.size w w'
theorem filesR_kept {w w' : World} {base g : Nat} {t : TypeId} {cs : Array Value} {v : Value} {fs : List Fil} (h : FilesR w base v fs) (hg : Row w g t cs) (ht : t ≠ 122) (hn : ∀ v ∈ cs, ∀ x, v ≠ Value.int .u8 x) (hK : Kept (fun j => j = g) w w') : FilesR w' base v fs := by
  obtain ⟨fl, h1, h2, h3⟩ := h
  exact ⟨fl, h1, rows_kept h2 hK fun k hk e => row_ne_rows hg h2 ht (by rw [hk, e]), fun x hx => ⟨bys_far hg hn hK (h3 x hx).1, (h3 x hx).2⟩⟩
theorem ref_slices {P Q R : Option Addr} {n1 n2 n3 c1 c2 c3 : Nat} {a b c : Int} {k : Bool} : ∀ v ∈ #[Value.int .i64 a, .slice P n1 c1, .slice Q n2 c2, .slice R n3 c3, .int .i64 b, .bool k, .int .i64 c], ∀ x, v ≠ Value.int .u8 x := by simp
theorem step_info : (Try.prog.info? 127).map (fun i => (i.zero, i.size, i.bytes)) = some (some (.agg #[.int .i64 0, .string ByteArray.empty, .string ByteArray.empty, .int .i64 0]), 4, 48) := by kernel_rfl
/-- append([]Step{}, l...), at a walk's built-in. -/
theorem app_steps {w0 : World} {ops : Array Oper} {rest : List Oper} {o : Oper} {a : Act} {Q : Exit → Act → World → Prop} (hgd : o.guard = none) (s y : Operand)
    (ho : o.op = .call { callee := .builtin .append, args := #[s, y], argTypes := #[29, 29] })
    (hs : a.eval s = .slice (some ⟨w0.heap.size, 0, none⟩) 0 0) (yv : Value) (l : List Stp) (hy : a.eval y = yv) (hF : StepsR w0 0 yv l) (hn : l.length ≤ 1000000)
    (h : ∀ v' w', StepsR w' w0.heap.size v' l → Below w0.heap.size w0 w' → wpList Try.prog ops Q rest (a.put o.dst v') w') :
    wpList Try.prog ops Q (o :: rest) a (w0.alloc (.cells #[] 127)) := by
  obtain ⟨i0, hi, hz0, hz1, hz2⟩ := info_parts step_info
  have hA := below_one w0 (.cells #[] 127)
  have hlit : (w0.alloc (.cells #[] 127)).ownsRow w0.heap.size 127 4 (.slice (some ⟨w0.heap.size, 0, none⟩) 0 0) 0 [] := World.ownsRow_lit w0 #[] 0 (Nat.le_refl _) (by decide) rfl
  refine app_all hgd s y _ ho w0.heap.size 127 i0 _ 4 48 Try.underlying29 hi hz0 hz1 hz2 rfl (by omega) _ 0 [] hs hlit yv l.length 0 _ hy (rows_below hF hA) ?_ (by simp only [maxLen]; omega) (by omega) hA.size ?_
  · intro u hu
    obtain ⟨x, _, hux⟩ := List.mem_flatMap.1 hu
    cases x <;> (unfold stepC at hux; simp only [List.mem_cons, List.not_mem_nil, or_false] at hux; rcases hux with rfl | rfl | rfl | rfl <;> rfl)
  · intro v' w' h1 hb
    rw [Nat.zero_add, List.nil_append] at h1
    exact h v' w' h1 (hA.trans hb)
/-- A row of the document's steps, one more laid behind it. -/
theorem app_step1 {w0 : World} {ops : Array Oper} {rest : List Oper} {o : Oper} {a : Act} {Q : Exit → Act → World → Prop} (hgd : o.guard = none) (s y : Operand)
    (ho : o.op = .call { callee := .builtin .append, args := #[s, y], argTypes := #[29, 29] })
    (base : Nat) (v : Value) (l : List Stp) (hs : a.eval s = v) (hF : StepsR w0 base v l) (x : Stp) (c0 c1 c2 c3 : Value) (hx : stepC x = [c0, c1, c2, c3])
    (c : Nat) (hy : a.eval y = .slice (some ⟨w0.heap.size, 0, none⟩) 1 c) (hn : l.length ≤ 1000000) (hbase : base ≤ w0.heap.size)
    (h : ∀ v' w', StepsR w' base v' (l ++ [x]) → Below base w0 w' → wpList Try.prog ops Q rest (a.put o.dst v') w') :
    wpList Try.prog ops Q (o :: rest) a (w0.alloc (.cells #[c0, c1, c2, c3] 127)) := by
  obtain ⟨i0, hi, hz0, hz1, hz2⟩ := info_parts step_info
  have hA := below_one w0 (.cells #[c0, c1, c2, c3] 127)
  have hF1 : StepsR (w0.alloc (.cells #[c0, c1, c2, c3] 127)) base v l := rows_below hF hA
  have hg := Row.new w0 127 #[c0, c1, c2, c3]
  refine wpList_append_own_at _ hgd s y 29 ho base 127 i0 _ 4 48 Try.underlying29 hi hz0 hz1 hz2 rfl (by omega) v l.length (l.flatMap stepC) hs hF1 _ 1 c (stepC x) hy (by rw [hx]; rfl)
    (by
      intro j u hj
      rw [add_at, Nat.zero_add, hg.cell j]
      rw [hx] at hj
      simpa using hj) (by intro u hu; cases x <;> (unfold stepC at hu; simp only [List.mem_cons, List.not_mem_nil, or_false] at hu; rcases hu with rfl | rfl | rfl | rfl <;> rfl))
    (by simp only [maxLen]; omega) (by omega) (Nat.le_trans hbase hA.size) ?_
  intro v' w' h1 h2 _ _
  refine h v' w' ?_ (Below.grown (hA.mono hbase) h2 (Nat.le_trans hbase hA.size) (fun k hk => (World.ownsRow.lt hF1 _ hk).1))
  unfold StepsR
  rw [List.flatMap_append, List.length_append]
  simpa using h1
/-- A row of files that is the call's own, an empty one laid behind it. -/
theorem app_file1 {w0 : World} {ops : Array Oper} {rest : List Oper} {o : Oper} {a : Act} {Q : Exit → Act → World → Prop} (hgd : o.guard = none) (s y : Operand)
    (ho : o.op = .call { callee := .builtin .append, args := #[s, y], argTypes := #[27, 27] })
    (base : Nat) (v : Value) (fl : List (Option Addr × Nat × Fil)) (hs : a.eval s = v) (hF : w0.ownsRow base 122 2 v fl.length (fl.flatMap filC))
    (c : Nat) (hy : a.eval y = .slice (some ⟨w0.heap.size, 0, none⟩) 1 c) (hn : fl.length ≤ 1000000) (hbase : base ≤ w0.heap.size)
    (h : ∀ v' w', w'.ownsRow base 122 2 v' (fl.length + 1) ((fl ++ [(none, 0, fil0)]).flatMap filC) → Kept (fun j => v.ownBlock = some j) w0 w' → Below base w0 w' → wpList Try.prog ops Q rest (a.put o.dst v') w') :
    wpList Try.prog ops Q (o :: rest) a (w0.alloc (.cells #[.slice none 0 0, .int .i64 0] 122)) := by
  obtain ⟨i0, hi, hz0, hz1, hz2⟩ := info_parts file_info
  have hA := below_one w0 (.cells #[.slice none 0 0, .int .i64 0] 122)
  have hF1 : (w0.alloc (.cells #[.slice none 0 0, .int .i64 0] 122)).ownsRow base 122 2 v fl.length (fl.flatMap filC) := rows_below hF hA
  have hg := Row.new w0 122 #[.slice none 0 0, .int .i64 0]
  refine wpList_append_own_at _ hgd s y 27 ho base 122 i0 _ 2 32 Try.underlying27 hi hz0 hz1 hz2 rfl (by omega) v fl.length (fl.flatMap filC) hs hF1 _ 1 c [.slice none 0 0, .int .i64 0] hy rfl
    (by
      intro j u hj
      rw [add_at, Nat.zero_add, hg.cell j]
      simpa using hj) (by intro u hu; simp only [List.mem_cons, List.not_mem_nil, or_false] at hu; rcases hu with rfl | rfl <;> rfl)
    (by simp only [maxLen]; omega) (by omega) (Nat.le_trans hbase hA.size) ?_
  intro v' w' h1 h2 _ _
  refine h v' w' ?_ ((Kept.below hA).trans (Kept.grown h2 fun k hk => hk) (fun i hi => .inl hi)) (Below.grown (hA.mono hbase) h2 (Nat.le_trans hbase hA.size) (fun k hk => (World.ownsRow.lt hF1 _ hk).1))
  rw [List.flatMap_append]
  exact h1
/-- The cells of one file of an own row. -/
theorem fo_at {w : World} {base : Nat} {v : Value} {fl : List (Option Addr × Nat × Fil)} (h : FO w base v fl) {i : Nat} (hi : i < fl.length) :
    ∃ g cap, v = .slice (some ⟨g, 0, none⟩) fl.length cap ∧ base ≤ g ∧ g < w.heap.size ∧ fl.length ≤ cap ∧ (∀ j, w.frozen? ⟨g, j, none⟩ = false) ∧
      w.cell? ⟨g, i * 2, none⟩ = some (.slice (fl.getD i (none, 0, fil0)).1 (fl.getD i (none, 0, fil0)).2.2.b.length (fl.getD i (none, 0, fil0)).2.1) ∧ w.cell? ⟨g, i * 2 + 1, none⟩ = some (.int .i64 ((fl.getD i (none, 0, fil0)).2.2.sure : Int)) ∧
      Bys w (fl.getD i (none, 0, fil0)).1 (fl.getD i (none, 0, fil0)).2.2.b ∧ (fl.getD i (none, 0, fil0)).2.2.b.length ≤ (fl.getD i (none, 0, fil0)).2.1 := by
  have hlen := flat_len filC 2 filC_len fl
  have hgd : fl[i]? = some (fl.getD i (none, 0, fil0)) := by rw [List.getD_eq_getElem?_getD, List.getElem?_eq_getElem hi]; rfl
  have hmem : fl.getD i (none, 0, fil0) ∈ fl := List.mem_of_getElem? hgd
  obtain ⟨m1, m2, _⟩ := h.each _ hmem
  rcases h.row.2 with ⟨_, h0⟩ | ⟨g, cap, cur, hv2, hg, hh, hnc, hcm, hcs, htk⟩
  · omega
  · have hr : Row w g 122 cur := hh
    have hcell : ∀ j u, (fl.flatMap filC)[j]? = some u → w.cell? ⟨g, j, none⟩ = some u := fun j u hj => by
      rw [hr.cell j, ← Array.getElem?_toList]
      rw [← htk] at hj
      rw [List.getElem?_take] at hj
      split at hj
      · exact hj
      · cases hj
    refine ⟨g, cap, hv2, hg, hr.lt, hnc, fun j => hr.frozen j, hcell _ _ (flat_get filC 2 filC_len fl i _ 0 hgd (by omega)), hcell _ _ (flat_get filC 2 filC_len fl i _ 1 hgd (by omega)), m1, m2⟩
theorem fo_cell {w : World} {base g cap n : Nat} {fl : List (Option Addr × Nat × Fil)} (h : FO w base (.slice (some ⟨g, 0, none⟩) n cap) fl) (hn : n = fl.length) (i : Nat) (hi : i < fl.length) (x : Option Addr × Nat × Fil) (hx : Bys w x.1 x.2.2.b) (hc : x.2.2.b.length ≤ x.2.1) (hf : x.2.2.b = [] ∨ ∀ ad, x.1 = some ad → ad.block ≠ g)
    (j : Nat) (u : Value) (hj : j < fl.length * 2) (hu : (fl.flatMap filC).set j u = (fl.set i x).flatMap filC) :
    FO (w.setCell ⟨g, j, none⟩ u) base (.slice (some ⟨g, 0, none⟩) n cap) (fl.set i x) := by
  subst hn
  have hl : (fl.flatMap filC).length = fl.length * 2 := flat_len filC 2 filC_len fl
  have h1 := rows_set h.row j u (by rw [hl]; omega)
  rw [hu] at h1
  have hk : ∀ (A : Option Addr) (l : List UInt8), Bys w A l → (l = [] ∨ ∀ ad, A = some ad → ad.block ≠ g) → Bys (w.setCell ⟨g, j, none⟩ u) A l := by
    intro A l hA hne
    refine bys_move hA (by simp [World.setCell]) (hne.imp id fun hne ad e => ?_)
    rw [Below.heap_setCell _ _ _ _ (hne ad e)]
  refine ⟨by rw [List.length_set]; exact h1, fun y hy => ?_⟩
  rcases List.mem_or_eq_of_mem_set hy with hy | rfl
  · obtain ⟨y1, y2, y3⟩ := h.each y hy
    refine ⟨hk _ _ y1 (y3.imp id fun hh ad e e2 => hh ad e (by rw [e2]; rfl)), y2, y3⟩
  · exact ⟨hk _ _ hx hf, hc, hf.imp id fun hh ad e e2 => hh ad e (by simp only [Value.ownBlock, Option.some.injEq] at e2; exact e2.symm)⟩
theorem set_self {l : List Value} {j : Nat} {u : Value} (h : l[j]? = some u) : l.set j u = l := by
  refine List.ext_getElem? fun k => ?_
  rw [List.getElem?_set]
  split
  · rename_i e
    subst e
    split
    · exact h.symm
    · rename_i h2
      rw [List.getElem?_eq_none (by omega)]
  · rfl
theorem flat_sure (fl : List (Option Addr × Nat × Fil)) {i : Nat} (hi : i < fl.length) (A : Option Addr) (c s : Nat) (b : List UInt8) (s' : Nat) (he : fl.getD i (none, 0, fil0) = (A, c, ⟨b, s⟩)) :
    (fl.flatMap filC).set (i * 2 + 1) (.int .i64 (s' : Int)) = (fl.set i (A, c, ⟨b, s'⟩)).flatMap filC := by
  have hgd : fl[i]? = some (A, c, ⟨b, s⟩) := by rw [← he, List.getD_eq_getElem?_getD, List.getElem?_eq_getElem hi]; rfl
  have h0 : (fl.flatMap filC)[i * 2]? = some (.slice A b.length c) := by
    have := flat_get filC 2 filC_len fl i _ 0 hgd (by omega)
    rw [Nat.add_zero] at this
    rw [this]
    rfl
  have h1 := flat_set fl i (A, c, ⟨b, s'⟩)
  simp only at h1
  rw [set_self h0] at h1
  exact h1
theorem flat_bytes (fl : List (Option Addr × Nat × Fil)) {i : Nat} (hi : i < fl.length) (A : Option Addr) (c s : Nat) (b : List UInt8) (A' : Option Addr) (c' : Nat) (b' : List UInt8) (he : fl.getD i (none, 0, fil0) = (A, c, ⟨b, s⟩)) :
    (fl.flatMap filC).set (i * 2) (.slice A' b'.length c') = (fl.set i (A', c', ⟨b', s⟩)).flatMap filC := by
  have hgd : fl[i]? = some (A, c, ⟨b, s⟩) := by rw [← he, List.getD_eq_getElem?_getD, List.getElem?_eq_getElem hi]; rfl
  have h0 : (fl.flatMap filC)[i * 2 + 1]? = some (.int .i64 (s : Int)) := by
    rw [flat_get filC 2 filC_len fl i _ 1 hgd (by omega)]
    rfl
  have h2 := flat_set fl i (A', c', ⟨b', s⟩)
  simp only at h2
  have h1 : ((fl.flatMap filC).set (i * 2) (.slice A' b'.length c'))[i * 2 + 1]? = some (.int .i64 (s : Int)) := by
    rw [List.getElem?_set_ne (by omega)]
    exact h0
  rw [set_self h1] at h2
  exact h2

/-! ### a struct stored over a box -/
def put7 (W : World) (g : Nat) (a0 fv bv wv a4 a5 a6 : Value) : World := ((((((W.setCell ⟨g, 0, none⟩ a0).setCell ⟨g, 1, none⟩ fv).setCell ⟨g, 2, none⟩ bv).setCell ⟨g, 3, none⟩ wv).setCell ⟨g, 4, none⟩ a4).setCell ⟨g, 5, none⟩ a5).setCell ⟨g, 6, none⟩ a6
theorem put7_row {W : World} {g : Nat} {t : TypeId} {c0 c1 c2 c3 c4 c5 c6 : Value} (h : Row W g t #[c0, c1, c2, c3, c4, c5, c6]) (a0 fv bv wv a4 a5 a6 : Value) : Row (put7 W g a0 fv bv wv a4 a5 a6) g t #[a0, fv, bv, wv, a4, a5, a6] := by
  have h1 := ((((((h.setAt 0 a0).setAt 1 fv).setAt 2 bv).setAt 3 wv).setAt 4 a4).setAt 5 a5).setAt 6 a6
  simp only [List.setIfInBounds_toArray, List.set_cons_zero, List.set_cons_succ] at h1
  exact h1
theorem put7_kept (W : World) (g : Nat) (a0 fv bv wv a4 a5 a6 : Value) : Kept (fun j => j = g) W (put7 W g a0 fv bv wv a4 a5 a6) :=
  (((((((Kept.refl (fun j => j = g) W).set (p := ⟨g, 0, none⟩) (.inl rfl) a0).set (p := ⟨g, 1, none⟩) (.inl rfl) fv).set (p := ⟨g, 2, none⟩) (.inl rfl) bv).set (p := ⟨g, 3, none⟩) (.inl rfl) wv).set (p := ⟨g, 4, none⟩) (.inl rfl) a4).set (p := ⟨g, 5, none⟩) (.inl rfl) a5).set (p := ⟨g, 6, none⟩) (.inl rfl) a6
theorem refin_kept {w w' : World} {g : Nat} {cs : Array Value} {fv bv wv : Value} {d : Dsk} (h : RefIn w fv bv wv d) (hg : Row w g 31 cs) (hn : ∀ v ∈ cs, ∀ x, v ≠ Value.int .u8 x) (hK : Kept (fun j => j = g) w w') : RefIn w' fv bv wv d :=
  ⟨filesR_kept h.files hg (by decide) hn hK, rows_kept h.base hK fun q hq e => row_ne_rows hg h.base (by decide) (by rw [hq, e]), rows_kept h.wait hK fun q hq e => row_ne_rows hg h.wait (by decide) (by rw [hq, e])⟩
theorem dsk_bytes {P Q R : Value} {a b c : Value} {k : Value} (ha : ∃ x, a = .int .i64 x) (hP : ∃ A n c, P = .slice A n c) (hQ : ∃ A n c, Q = .slice A n c) (hR : ∃ A n c, R = .slice A n c) (hb : ∃ x, b = .int .i64 x) (hk : ∃ x, k = .bool x) (hc : ∃ x, c = .int .i64 x) : ∀ v ∈ #[a, P, Q, R, b, k, c], ∀ x, v ≠ Value.int .u8 x := by
  obtain ⟨_, rfl⟩ := ha
  obtain ⟨_, _, _, rfl⟩ := hP
  obtain ⟨_, _, _, rfl⟩ := hQ
  obtain ⟨_, _, _, rfl⟩ := hR
  obtain ⟨_, rfl⟩ := hb
  obtain ⟨_, rfl⟩ := hk
  obtain ⟨_, rfl⟩ := hc
  simp
/-- The end of Change: the disk's struct stored into the box that is handed back. -/
theorem ch_end {T : Nat → Prop} {w W : World} {Y : Nat} {d : Dsk} {fv bv wv : Value} {E : Int} {c0 c1 c2 c3 c4 c5 c6 : Value} (hin : RefT T W fv bv wv d) (hY : Row W Y 31 #[c0, c1, c2, c3, c4, c5, c6]) (hn : ∀ v ∈ #[c0, c1, c2, c3, c4, c5, c6], ∀ x, v ≠ Value.int .u8 x) (hb : Below w.heap.size w W) (hY0 : w.heap.size ≤ Y) :
    ChTold T w (d, E) (.returned (.tuple #[.agg (refC d fv bv wv).toArray, .int .i64 E])) (put7 W Y (.int .i64 (d.room : Int)) fv bv wv (.int .i64 d.left) (.bool d.dark) (.int .i64 (d.count : Int))) :=
  ⟨fv, bv, wv, rfl, reft_store hin hY hn (put7_kept _ _ _ _ _ _ _ _ _), hb.trans ((put7_kept W Y _ _ _ _ _ _ _).to_below (fun k hk => by omega) hb.size)⟩

theorem ch_out {T : Nat → Prop} {w W : World} {Y : Nat} {d : Dsk} {fv bv wv : Value} {E : Int} (hin : ∀ x, Below w.heap.size w x → RefT T x fv bv wv d) (hb : Below w.heap.size w W) (hY0 : w.heap.size ≤ Y) :
    ChTold T w (d, E) (.returned (.tuple #[.agg (refC d fv bv wv).toArray, .int .i64 E])) (put7 W Y (.int .i64 (d.room : Int)) fv bv wv (.int .i64 d.left) (.bool d.dark) (.int .i64 (d.count : Int))) := by
  have h1 := hb.trans ((put7_kept W Y (.int .i64 (d.room : Int)) fv bv wv (.int .i64 d.left) (.bool d.dark) (.int .i64 (d.count : Int))).to_below (fun k hk => by omega) hb.size)
  exact ⟨fv, bv, wv, rfl, hin _ h1, h1⟩
/-- Two own rows of different makes lie in different blocks. -/
theorem rows_apart {w : World} {b1 b2 e1 e2 s1 s2 n1 n2 : Nat} {v1 v2 : Value} {xs1 xs2 : List Value} (h1 : w.ownsRow b1 e1 s1 v1 n1 xs1) (h2 : w.ownsRow b2 e2 s2 v2 n2 xs2) (ht : e1 ≠ e2) : ∀ k, v1.ownBlock = some k → ¬ v2.ownBlock = some k := by
  intro k hk
  rcases h1.2 with ⟨rfl, _⟩ | ⟨g', cap, cur, rfl, _, hh, _⟩
  · cases hk
  · simp only [Value.ownBlock, Option.some.injEq] at hk
    subst hk
    exact row_ne_rows (show Row w g' e1 cur from hh) h2 ht
theorem frozen_block {w w' : World} {g : Nat} (h : w'.heap[g]? = w.heap[g]?) (j : Nat) : w'.frozen? ⟨g, j, none⟩ = w.frozen? ⟨g, j, none⟩ := by
  unfold World.frozen?
  rw [h]

/-! ### why a change is refused -/
theorem why1 (d : Dsk) (name to b : List UInt8) : whyNot d 1 name to b = if namedB name = false then 8 else if (whose (live d) name).isSome then 10 else if 64 ≤ (live d).length then 7 else 0 := by
  unfold whyNot
  simp
theorem why2 (d : Dsk) (name to b : List UInt8) : whyNot d 2 name to b = if namedB name = false then 8 else if whose (live d) name = none then 9 else if d.room < total d + b.length then 7 else 0 := by
  unfold whyNot
  simp
theorem why3 (d : Dsk) (name to b : List UInt8) : whyNot d 3 name to b = if namedB name = false ∨ namedB to = false then 8 else if whose (live d) name = none then 9 else 0 := by
  unfold whyNot
  simp
theorem why4 (d : Dsk) (name to b : List UInt8) : whyNot d 4 name to b = if namedB name = false then 8 else if whose (live d) name = none then 9 else 0 := by
  unfold whyNot
  simp
theorem why5 (d : Dsk) (name to b : List UInt8) : whyNot d 5 name to b = if namedB name = false then 8 else if whose (live d) name = none then 9 else 0 := by
  unfold whyNot
  simp
theorem why6 (d : Dsk) (name to b : List UInt8) : whyNot d 6 name to b = 0 := by
  unfold whyNot
  simp
theorem ch_why {d : Dsk} {k : Int} {name to b : List UInt8} {E : Int} (h : whyNot d k name to b = E) (hE : E ≠ 0) : change d k name to b = (d, E) := by
  unfold change
  rw [h, if_pos hE]
theorem ch_power {d : Dsk} {k : Int} {name to b : List UInt8} (h : whyNot d k name to b = 0) (hp : (power d).2 ≠ 0) : change d k name to b = power d := by
  unfold change
  rw [h, if_neg (by simp), if_pos hp]
theorem ch_done {d : Dsk} {k : Int} {name to b : List UInt8} (h : whyNot d k name to b = 0) (hp : (power d).2 = 0) : change d k name to b = (applyD (power d).1 k name to b, 0) := by
  unfold change
  rw [h, if_neg (by simp), if_neg (by rw [hp]; simp)]
end Go.Proofs.Ytiepepikbophmaa

namespace Go.Proofs.Ytiepepikbophmaa
open Go.RowKit Go.Maps
set_option linter.unusedVariables false

set_option maxRecDepth 20000 in
set_option maxHeartbeats 4000000 in
theorem change_ref1 {T : Nat → Prop} {w : World} {fv bv wv : Value} {d : Dsk} (h : RefT T w fv bv wv d) (hT : ∀ i, T i → i < w.heap.size) (hF : Fine d) (hM : Met d) (hwl : d.wait.length ≤ 100000) (hfl : d.files.length ≤ 100000) (hcl : d.left ≤ 9223372036854775807) (hcc : d.count ≤ 1000000)
    (name to : ByteArray) (hns : name.size ≤ 281474976710656) (hts : to.size ≤ 281474976710656) (A : Option Addr) (b : List UInt8) (bc : Nat) (hb : Bys w A b) (hbl : b.length ≤ 140737488355328) :
    Calls Try.prog 44 #[.agg (refC d fv bv wv).toArray, .int .i64 1, .string name, .string to, .slice A b.length bc] w (ChTold T w (change d 1 (strL name) (strL to) b)) := by
  have hB1 := below_one w (.cells (refC d fv bv wv).toArray 31)
  have hB2 := (hB1).alloc (B := w.heap.size) hB1.size (.cells #[.int .i64 0, .slice none 0 0, .slice none 0 0, .slice none 0 0, .int .i64 0, .bool false, .int .i64 0] 31)
  have hR0 := (Row.new w 31 (refC d fv bv wv).toArray).alloc (.cells #[.int .i64 0, .slice none 0 0, .slice none 0 0, .slice none 0 0, .int .i64 0, .bool false, .int .i64 0] 31)
  have hR1 := row_new2 w (.cells (refC d fv bv wv).toArray 31) 31 #[.int .i64 0, .slice none 0 0, .slice none 0 0, .slice none 0 0, .int .i64 0, .bool false, .int .i64 0]
  obtain ⟨⟨Pf, cf, hfv⟩, ⟨Pb, cb, hbv⟩, ⟨Pw, cw, hwv⟩⟩ := ref_forms h.in_
  have HLV := Lib.hid (fun (x : World) (hb : Below w.heap.size w x) => liveT_ref (h.below hb).in_ hF hM hwl (fun i hi => Nat.lt_of_lt_of_le (hT i hi) hb.size) h.fb)
  have HTT := Lib.hid hT
  have HFB0 := Lib.hid h.fb
  have HFF0 := Lib.hid h.ff
  have HFW0 := Lib.hid h.fw
  have HST := Lib.hid (fun (x : World) (hb : Below w.heap.size w x) => step_ref (w := x) (h.below hb).in_ ⟨hF.left, hcl⟩ hcc)
  have HIN := Lib.hid (fun (x : World) (hb : Below w.heap.size w x) => h.below hb)
  have HFA := Lib.hid (fun (x : World) (hb : Below w.heap.size w x) => files_at (h.below hb).in_.files)
  have HBB0 := Lib.hid (fun (x : World) (hx : Below w.heap.size w x) => hb.below hx)
  have HNM := Lib.hid (fun (x : World) => named_ref name x hns)
  have HTN := Lib.hid (fun (x : World) => named_ref to x hts)
  have hfew := hF.live_few
  have HLI := Lib.hid (fun x hx => (hF.live_in x hx).1)
  have HLR := Lib.hid hF.live_rises
  have HWY := Lib.hid (why1 d (strL name) (strL to) b)
  have HCW := Lib.hid (fun E (hE : E ≠ 0) (hw : whyNot d 1 (strL name) (strL to) b = E) => ch_why hw hE)
  have HCP := Lib.hid (fun (hw : whyNot d 1 (strL name) (strL to) b = 0) (hp : (power d).2 ≠ 0) => ch_power hw hp)
  have HCD := Lib.hid (fun (hw : whyNot d 1 (strL name) (strL to) b = 0) (hp : (power d).2 = 0) => ch_done hw hp)
  have HSM := Lib.hid (show ∀ n, (d.files.getD n fil0).b.length ≤ 4194304 from fun n => by have := hF.small n; have := hF.room.2; omega)
  have HTOT := Lib.hid (show ∀ k, (((live d).take k).map (bytesAt d)).sum ≤ 268435456 from fun k => by
    refine Nat.le_trans (sum_le _ 4194304 ?_) ?_
    · intro z hz
      obtain ⟨y, _, rfl⟩ := List.mem_map.1 hz
      have := hF.small y.file
      have := hF.room.2
      unfold bytesAt
      omega
    · rw [List.length_map, List.length_take]
      omega)
  have HALL := Lib.hid (show (((live d).take (live d).length).map (bytesAt d)).sum = total d by rw [List.take_length]; rfl)
  have HRM := Lib.hid hF.room.2
  have HLP := Lib.hid (live_power d)
  have HPK : d.files = (power d).1.files ∧ d.base = (power d).1.base ∧ d.wait = (power d).1.wait ∧ d.room = (power d).1.room := by
    unfold power
    split <;> exact ⟨rfl, rfl, rfl, rfl⟩
  have HWL := Lib.hid hwl
  clear h hF hM hB1 hwl hcl hcc hb hns hts hT
  generalize change d 1 (strL name) (strL to) b = R at *
  generalize whyNot d 1 (strL name) (strL to) b = wy at *
  generalize total d = tt at *
  generalize hlv : live d = L at *
  have HBY := Lib.hid (show ∀ y, bytesAt d y = (d.files.getD y.file fil0).b.length from fun y => rfl)
  generalize bytesAt d = bat at *
  generalize power d = pd at *
  obtain ⟨room, files, base, wait, left, dark, count⟩ := d
  obtain ⟨⟨r1, f1, b1, w1, l1, k1, c1⟩, e1⟩ := pd
  simp only at HPK
  obtain ⟨rfl, rfl, rfl, rfl⟩ := HPK
  simp only at hwv hbv hfv HLI hfl HFA HIN HST HCP HCD HCW HRM HWL HSM HBY
  simp only [refC] at HLV HST hR0 hR1 hB2 ⊢
  clear hlv
  generalize hnb : base.length = nb at hbv
  generalize hnw : wait.length = nw at hwv
  subst hwv
  subst hbv
  subst hfv
  have HZ0 := Lib.hid hR0
  have HZ1 := Lib.hid hR1
  have HB2 := Lib.hid hB2
  clear hR0 hR1 hB2 hnb
  have hnw2 := HWL.out
  generalize namedB (strL name) = nm at *
  cases nm
  · have hR := HCW.out 8 (by decide) (by rw [HWY.out]; exact if_pos rfl)
    go_enter Try.func44, Try.ntmps44
    go_wp2_with (first | (go_at_call 80; refine (HNM.out _).mono ?_; rintro e x1 ⟨rfl, rfl⟩))
    (try simp only [Exit.inBlock, Exit.then])
    refine bodyPost_ret (ret_two rfl _ _ _ _ rfl (row_new2 _ _ _ _) rfl) rfl ?_
    rw [hR]
    have HBX : ∀ (o1 o2 : Obj), Below w.heap.size w ((w.alloc o1).alloc o2) := fun o1 o2 => (below_one _ _).alloc (by simp) _
    exact ⟨_, _, _, rfl, ⟨(HIN.out _ (HBX _ _)).files, (HIN.out _ (HBX _ _)).base, (HIN.out _ (HBX _ _)).wait, HFF0.out, HFB0.out, HFW0.out⟩, HBX _ _⟩
  · go_enter Try.func44, Try.ntmps44
    go_wp2_with fail
    refine (HNM.out _).mono ?_
    rintro e x1 ⟨rfl, rfl⟩
    go_wp2_with fail
    refine (HLV.out _ HB2.out).mono ?_
    rintro e w2 ⟨v2, rfl, hE2, hfr2, hb2⟩
    have HFR2 := Lib.hid hfr2
    clear hfr2
    obtain ⟨P2, c2, hv2, _, hP2⟩ := ents_at hE2
    have HB3 := Lib.hid (HB2.out.trans (hb2.mono HB2.out.size))
    have HR02 := Lib.hid (row_move HZ0.out (hb2.block _ HZ0.out.lt))
    have HR12 := Lib.hid (row_move HZ1.out (hb2.block _ HZ1.out.lt))
    have HAT := Lib.hid (at_ref hE2 (by omega) name)
    have HE2 := Lib.hid hE2
    have HP2 := Lib.hid hP2
    rw [hv2] at HAT
    clear hE2 hb2 hP2
    subst hv2
    have HAV := Lib.hid (show atV L (strL name) = (match whose L (strL name) with | some f => (f : Int) | none => -1) from rfl)
    have HWS := Lib.hid (fun n => (whose_some (n := strL name) (f := n) HLR.out).1)
    generalize atV L (strL name) = av at *
    generalize hwh : whose L (strL name) = wh at *
    cases wh
    · have hav : av = -1 := HAV.out
      subst hav
      by_cases h64 : 64 ≤ L.length
      · have q2 : decide ((64 : Int) ≤ (L.length : Int)) = true := decide_eq_true (by omega)
        have hR := HCW.out 7 (by decide) (by rw [HWY.out]; exact (if_neg (by simp)).trans ((if_neg (by simp)).trans (if_pos h64)))
        go_wp2_with fail
        refine HAT.out.mono ?_
        rintro e x3 ⟨rfl, rfl⟩
        have a0 : w2.cell? ⟨w.heap.size, 0, none⟩ = some (.int .i64 (room : Int)) := (HR02.out.cell 0).trans rfl
        have d0 := HR02.out.frozen 0
        have yb0 : w2.cell? ⟨w.heap.size + 1, 0, none⟩ = some (.int .i64 0) := (HR12.out.cell 0).trans rfl
        have f0 := HR12.out.frozen 0
        have a1 : w2.cell? ⟨w.heap.size, 1, none⟩ = some (.slice Pf files.length cf) := (HR02.out.cell 1).trans rfl
        have d1 := HR02.out.frozen 1
        have yb1 : w2.cell? ⟨w.heap.size + 1, 1, none⟩ = some (.slice none 0 0) := (HR12.out.cell 1).trans rfl
        have f1 := HR12.out.frozen 1
        have a2 : w2.cell? ⟨w.heap.size, 2, none⟩ = some (.slice Pb nb cb) := (HR02.out.cell 2).trans rfl
        have d2 := HR02.out.frozen 2
        have yb2 : w2.cell? ⟨w.heap.size + 1, 2, none⟩ = some (.slice none 0 0) := (HR12.out.cell 2).trans rfl
        have f2 := HR12.out.frozen 2
        have a3 : w2.cell? ⟨w.heap.size, 3, none⟩ = some (.slice Pw nw cw) := (HR02.out.cell 3).trans rfl
        have d3 := HR02.out.frozen 3
        have yb3 : w2.cell? ⟨w.heap.size + 1, 3, none⟩ = some (.slice none 0 0) := (HR12.out.cell 3).trans rfl
        have f3 := HR12.out.frozen 3
        have a4 : w2.cell? ⟨w.heap.size, 4, none⟩ = some (.int .i64 left) := (HR02.out.cell 4).trans rfl
        have d4 := HR02.out.frozen 4
        have yb4 : w2.cell? ⟨w.heap.size + 1, 4, none⟩ = some (.int .i64 0) := (HR12.out.cell 4).trans rfl
        have f4 := HR12.out.frozen 4
        have a5 : w2.cell? ⟨w.heap.size, 5, none⟩ = some (.bool dark) := (HR02.out.cell 5).trans rfl
        have d5 := HR02.out.frozen 5
        have yb5 : w2.cell? ⟨w.heap.size + 1, 5, none⟩ = some (.bool false) := (HR12.out.cell 5).trans rfl
        have f5 := HR12.out.frozen 5
        have a6 : w2.cell? ⟨w.heap.size, 6, none⟩ = some (.int .i64 (count : Int)) := (HR02.out.cell 6).trans rfl
        have d6 := HR02.out.frozen 6
        have yb6 : w2.cell? ⟨w.heap.size + 1, 6, none⟩ = some (.int .i64 0) := (HR12.out.cell 6).trans rfl
        have f6 := HR12.out.frozen 6
        go_wp2_with fail
        (try simp only [Exit.inBlock, Exit.then])
        refine bodyPost_ret (ret_two rfl _ _ _ _ rfl (put7_row HR12.out _ _ _ _ _ _ _) rfl) rfl ?_
        rw [hR]
        exact ch_out (d := ⟨room, files, base, wait, left, dark, count⟩) (fun x hx => ⟨(HIN.out x hx).files, (HIN.out x hx).base, (HIN.out x hx).wait, (HIN.out x hx).ff, (HIN.out x hx).fb, (HIN.out x hx).fw⟩) HB3.out (by omega)
      · have q2 : decide ((64 : Int) ≤ (L.length : Int)) = false := decide_eq_false (by omega)
        have hok : wy = 0 := by rw [HWY.out]; exact (if_neg (by simp)).trans ((if_neg (by simp)).trans (if_neg h64))
        go_wp2_with fail
        refine HAT.out.mono ?_
        rintro e x3 ⟨rfl, rfl⟩
        go_wp2_with fail
        go_loopw [14, 15] (fun a i wr => ∃ k : Nat, k ≤ L.length ∧ i = .int .i64 (k : Int) ∧ a = .int .i64 (((L.take k).map bat).sum : Int) ∧ Below w2.heap.size w2 wr) (fun _ i _ => L.length - (intOf i).toNat)
        case atStart => exact ⟨0, Nat.zero_le _, rfl, rfl, Below.refl _ _⟩
        case round =>
          obtain ⟨k, hk, rfl, rfl, hb⟩ := hrel
          have HBB := Lib.hid hb
          have HBW := Lib.hid (HB3.out.trans (hb.mono HB3.out.size))
          have hr0 := HR02.out.below hb HR02.out.lt
          have z1 : wr.cell? ⟨w.heap.size, 1, none⟩ = some (.slice Pf files.length cf) := (hr0.cell 1).trans rfl
          by_cases hlt : k < L.length
          · obtain ⟨gL, rfl, _, hgL, _, l1⟩ := HP2.out k hlt
            have l1' := (hb.cell (p := ⟨gL, k * 2 + 1, none⟩) hgL).trans l1
            have hmem : L.getD k ⟨[], 0⟩ ∈ L := by
              rw [List.getD_eq_getElem?_getD, List.getElem?_eq_getElem hlt]
              exact List.getElem_mem hlt
            have hyf := HLI.out _ hmem
            have hsum : ((L.take (k + 1)).map bat).sum = ((L.take k).map bat).sum + bat (L.getD k ⟨[], 0⟩) := by
              rw [List.take_succ_eq_append_getElem hlt, List.map_append, List.sum_append]
              simp [List.getD, List.getElem?_eq_getElem hlt]
            have ht1 := HTOT.out (k + 1)
            rw [HBY.out] at hsum
            generalize L.getD k ⟨[], 0⟩ = y at *
            obtain ⟨yn, yf⟩ := y
            simp only at hyf l1' hsum
            obtain ⟨Pf', cf', hf', _, hPf⟩ := HFA.out wr HBW.out
            have e1' := Value.slice.inj hf'
            obtain ⟨gF, A2, cA, g1, _, g3, f0, f1, f2, f3⟩ := hPf yf hyf
            rw [← e1'.1] at g1
            subst g1
            try simp only at hsum f0
            rw [hsum] at ht1
            generalize (files.getD yf fil0).b.length = n9 at *
            have HSUM := Lib.hid hsum
            generalize ((L.take k).map bat).sum = sm at *
            have i1 : (k : Int) < (L.length : Int) := by omega
            have i2 : (yf : Int) < (files.length : Int) := by omega
            have o1 : IntKind.i64.wrap ((sm : Int) + (n9 : Int)) = (sm : Int) + (n9 : Int) := IntWalk.i64_in _ (by omega)
            clear hb hr0 l1 hmem hyf hsum hPf hf' e1' f1 f2 f3
            go_wp2_with fail
            go_quiet (fail)
            go_wp2
            go_roundw
            case rel => exact ⟨k + 1, by omega, by go_num, by rw [HSUM.out]; go_num, HBB.out.trans (drawn _ _ _)⟩
            case measure => simp [intOf]; omega
          · obtain rfl : k = L.length := by omega
            have hr1 := HR12.out.below hb HR12.out.lt
            have htt := HTOT.out L.length
            rw [HALL.out] at htt ⊢
            have HQ0 := Lib.hid hr0
            have HQ1 := Lib.hid hr1
            have HSTP := Lib.hid (HST.out wr HBW.out)
            clear hb hr0 hr1 z1
            have z0 : wr.cell? ⟨w.heap.size, 0, none⟩ = some (.int .i64 (room : Int)) := (HQ0.out.cell 0).trans rfl
            have z1 : wr.cell? ⟨w.heap.size, 1, none⟩ = some (.slice Pf files.length cf) := (HQ0.out.cell 1).trans rfl
            have z2 : wr.cell? ⟨w.heap.size, 2, none⟩ = some (.slice Pb nb cb) := (HQ0.out.cell 2).trans rfl
            have z3 : wr.cell? ⟨w.heap.size, 3, none⟩ = some (.slice Pw nw cw) := (HQ0.out.cell 3).trans rfl
            have z4 : wr.cell? ⟨w.heap.size, 4, none⟩ = some (.int .i64 left) := (HQ0.out.cell 4).trans rfl
            have z5 : wr.cell? ⟨w.heap.size, 5, none⟩ = some (.bool dark) := (HQ0.out.cell 5).trans rfl
            have z6 : wr.cell? ⟨w.heap.size, 6, none⟩ = some (.int .i64 (count : Int)) := (HQ0.out.cell 6).trans rfl
            go_wp2_with fail
            refine HSTP.out.mono ?_
            rintro e w4 ⟨rfl, hb4⟩
            have HB4 := Lib.hid (HBW.out.trans (hb4.mono HBW.out.size))
            have HD4 := Lib.hid (HQ0.out.below hb4 HQ0.out.lt)
            have HD5 := Lib.hid (HQ1.out.below hb4 HQ1.out.lt)
            have HBB4 := Lib.hid (HBB.out.trans (hb4.mono HBB.out.size))
            clear z0 z1 z2 z3 z4 z5 z6 hb4
            have z0 : w4.cell? ⟨w.heap.size, 0, none⟩ = some (.int .i64 (room : Int)) := (HD4.out.cell 0).trans rfl
            have z1 : w4.cell? ⟨w.heap.size, 1, none⟩ = some (.slice Pf files.length cf) := (HD4.out.cell 1).trans rfl
            have z2 : w4.cell? ⟨w.heap.size, 2, none⟩ = some (.slice Pb nb cb) := (HD4.out.cell 2).trans rfl
            have z3 : w4.cell? ⟨w.heap.size, 3, none⟩ = some (.slice Pw nw cw) := (HD4.out.cell 3).trans rfl
            have z4 : w4.cell? ⟨w.heap.size, 4, none⟩ = some (.int .i64 left) := (HD4.out.cell 4).trans rfl
            have z5 : w4.cell? ⟨w.heap.size, 5, none⟩ = some (.bool dark) := (HD4.out.cell 5).trans rfl
            have z6 : w4.cell? ⟨w.heap.size, 6, none⟩ = some (.int .i64 (count : Int)) := (HD4.out.cell 6).trans rfl
            have q10 := HD4.out.frozen 0
            have q11 := HD4.out.frozen 1
            have q12 := HD4.out.frozen 2
            have q13 := HD4.out.frozen 3
            have q14 := HD4.out.frozen 4
            have q15 := HD4.out.frozen 5
            have q16 := HD4.out.frozen 6
            have HRW := Lib.hid (show Row (((((((w4.setCell ⟨w.heap.size, 0, none⟩ (.int .i64 (room : Int))).setCell ⟨w.heap.size, 1, none⟩ (.slice Pf files.length cf)).setCell ⟨w.heap.size, 2, none⟩ (.slice Pb nb cb)).setCell ⟨w.heap.size, 3, none⟩ (.slice Pw nw cw)).setCell ⟨w.heap.size, 4, none⟩ (.int .i64 l1)).setCell ⟨w.heap.size, 5, none⟩ (.bool k1)).setCell ⟨w.heap.size, 6, none⟩ (.int .i64 (c1 : Int))) w.heap.size 31 #[.int .i64 (room : Int), .slice Pf files.length cf, .slice Pb nb cb, .slice Pw nw cw, .int .i64 l1, .bool k1, .int .i64 (c1 : Int)] from put7_row HD4.out _ _ _ _ _ _ _)
            have HK7 := Lib.hid (show Kept (fun j => j = w.heap.size) w4 (((((((w4.setCell ⟨w.heap.size, 0, none⟩ (.int .i64 (room : Int))).setCell ⟨w.heap.size, 1, none⟩ (.slice Pf files.length cf)).setCell ⟨w.heap.size, 2, none⟩ (.slice Pb nb cb)).setCell ⟨w.heap.size, 3, none⟩ (.slice Pw nw cw)).setCell ⟨w.heap.size, 4, none⟩ (.int .i64 l1)).setCell ⟨w.heap.size, 5, none⟩ (.bool k1)).setCell ⟨w.heap.size, 6, none⟩ (.int .i64 (c1 : Int))) from put7_kept _ _ _ _ _ _ _ _ _)
            have HRX := Lib.hid (row_move HD5.out (HK7.out.block _ HD5.out.lt (by omega)))
            have HB5 := Lib.hid (HB4.out.trans (HK7.out.to_below (fun k hk => by omega) HB4.out.size))
            by_cases he : e1 = 0
            · subst he
              have HR5 := Lib.hid (HCD.out hok rfl)
              go_upto_region 21 with fail
              clear z0 z1 z2 z3 z4 z5 z6 q10 q11 q12 q13 q14 q15 q16 HK7 HD4 HD5
              generalize (((((((w4.setCell ⟨w.heap.size, 0, none⟩ (.int .i64 (room : Int))).setCell ⟨w.heap.size, 1, none⟩ (.slice Pf files.length cf)).setCell ⟨w.heap.size, 2, none⟩ (.slice Pb nb cb)).setCell ⟨w.heap.size, 3, none⟩ (.slice Pw nw cw)).setCell ⟨w.heap.size, 4, none⟩ (.int .i64 l1)).setCell ⟨w.heap.size, 5, none⟩ (.bool k1)).setCell ⟨w.heap.size, 6, none⟩ (.int .i64 (c1 : Int))) = w5 at *
              have z1 : w5.cell? ⟨w.heap.size, 1, none⟩ = some (.slice Pf files.length cf) := (HRW.out.cell 1).trans rfl
              have z3 : w5.cell? ⟨w.heap.size, 3, none⟩ = some (.slice Pw nw cw) := (HRW.out.cell 3).trans rfl
              have z11 : (w5.alloc (.cells #[] 122)).cell? ⟨w.heap.size, 1, none⟩ = some (.slice Pf files.length cf) := ((HRW.out.alloc _).cell 1).trans rfl
              go_wp2_with (first
                | (at_builtin
                   refine app_filesP rfl (.tmp 107) (.tmp 109) rfl rfl _ files rfl T (HIN.out w5 HB5.out).files (by omega) ?_
                   intro v6 w6 fl hfe hFO hfb hb6
                   obtain ⟨P6, c6, hv6, _, _⟩ := rows_at hFO.row
                   have hfn : fl.length = files.length := by rw [← hfe, List.length_map]
                   have HFO := Lib.hid hFO
                   have HFE := Lib.hid hfe
                   have HFN := Lib.hid hfn
                   have HFB := Lib.hid hfb
                   have hr6 := row_move HRW.out (hb6.block _ HRW.out.lt)
                   have y3 : (w6.alloc (.cells #[] 127)).cell? ⟨w.heap.size, 3, none⟩ = some (.slice Pw nw cw) := ((hr6.alloc _).cell 3).trans rfl
                   have y33 : w6.cell? ⟨w.heap.size, 3, none⟩ = some (.slice Pw nw cw) := (hr6.cell 3).trans rfl
                   have HR6 := Lib.hid hr6
                   have HX6 := Lib.hid (row_move HRX.out (hb6.block _ HRX.out.lt))
                   have HB6 := Lib.hid (HB5.out.trans (hb6.mono HB5.out.size))
                   have HB56 := Lib.hid hb6
                   rw [hfn] at hv6
                   clear hFO hb6 hfe hfb hr6 z1 z3 z11 hfn
                   subst hv6)
                | (at_builtin
                   refine app_steps rfl (.tmp 111) (.tmp 113) rfl rfl _ wait rfl (HIN.out w6 HB6.out).wait (by omega) ?_
                   intro v7 w7 hS7 hb7
                   obtain ⟨P7, c7, hv7, _, _⟩ := rows_at hS7
                   have HS7 := Lib.hid hS7
                   have HR7 := Lib.hid (row_move HR6.out (hb7.block _ HR6.out.lt))
                   have HX7 := Lib.hid (row_move HX6.out (hb7.block _ HX6.out.lt))
                   have HB7 := Lib.hid (HB6.out.trans (hb7.mono HB6.out.size))
                   have HB67 := Lib.hid hb7
                   clear hS7 hb7 y3 y33
                   rw [hnw] at hv7
                   subst hv7)
                | (at_builtin
                   refine app_step1 rfl (.tmp 118) (.tmp 123) rfl w6.heap.size _ wait rfl HS7.out (.lay (strL name) files.length) (.int .i64 1) (.string name) (.string ByteArray.empty) (.int .i64 (files.length : Int)) (by simp only [stepC, txt_strL] <;> rfl) 1 rfl (by omega) HB67.out.size ?_
                   intro v8 w8 hS8 hb8
                   obtain ⟨P8, c8, hv8, _, _⟩ := rows_at hS8
                   have HS8 := Lib.hid hS8
                   have HR8 := Lib.hid (row_move HR7.out (hb8.block _ HR6.out.lt))
                   have HX8 := Lib.hid (row_move HX7.out (hb8.block _ HX6.out.lt))
                   have HB68 := Lib.hid (HB67.out.trans hb8)
                   have HB8 := Lib.hid (HB6.out.trans (HB68.out.mono HB6.out.size))
                   rw [List.length_append, List.length_singleton, hnw] at hv8
                   clear hS8 hb8
                   subst hv8)
                | (at_builtin
                   refine app_file1 rfl (.tmp 125) (.tmp 127) rfl w5.heap.size _ fl rfl (rows_below HFO.out.row HB68.out) 1 rfl (by rw [HFN.out]; omega) (Nat.le_trans HB56.out.size HB68.out.size) ?_
                   intro v9 w9 hF9 hk9 hb9
                   obtain ⟨P9, c9, hv9, _, _⟩ := rows_at hF9
                   have HF9 := Lib.hid hF9
                   have HR9 := Lib.hid (row_move HR8.out (hb9.block _ HRW.out.lt))
                   have HX9 := Lib.hid (row_move HX8.out (hb9.block _ HRX.out.lt))
                   have HB59 := Lib.hid ((HB56.out.trans (HB68.out.mono HB56.out.size)).trans hb9)
                   have HB9 := Lib.hid (HB5.out.trans (HB59.out.mono HB5.out.size))
                   have HS9 := Lib.hid (rows_kept (rows_lower HS8.out (Nat.zero_le _)) hk9 (rows_apart HS8.out (rows_below HFO.out.row HB68.out) (by decide)))
                   rw [HFN.out] at hv9
                   clear hF9 hk9 hb9
                   subst hv9
                   have a0 : w9.cell? ⟨w.heap.size, 0, none⟩ = some (.int .i64 (room : Int)) := (HR9.out.cell 0).trans rfl
                   have yb0 : w9.cell? ⟨w.heap.size + 1, 0, none⟩ = some (.int .i64 0) := (HX9.out.cell 0).trans rfl
                   have d0 := HR9.out.frozen 0
                   have f0 := HX9.out.frozen 0
                   have a1 : w9.cell? ⟨w.heap.size, 1, none⟩ = some (.slice Pf files.length cf) := (HR9.out.cell 1).trans rfl
                   have yb1 : w9.cell? ⟨w.heap.size + 1, 1, none⟩ = some (.slice none 0 0) := (HX9.out.cell 1).trans rfl
                   have d1 := HR9.out.frozen 1
                   have f1 := HX9.out.frozen 1
                   have a2 : w9.cell? ⟨w.heap.size, 2, none⟩ = some (.slice Pb nb cb) := (HR9.out.cell 2).trans rfl
                   have yb2 : w9.cell? ⟨w.heap.size + 1, 2, none⟩ = some (.slice none 0 0) := (HX9.out.cell 2).trans rfl
                   have d2 := HR9.out.frozen 2
                   have f2 := HX9.out.frozen 2
                   have a3 : w9.cell? ⟨w.heap.size, 3, none⟩ = some (.slice Pw nw cw) := (HR9.out.cell 3).trans rfl
                   have yb3 : w9.cell? ⟨w.heap.size + 1, 3, none⟩ = some (.slice none 0 0) := (HX9.out.cell 3).trans rfl
                   have d3 := HR9.out.frozen 3
                   have f3 := HX9.out.frozen 3
                   have a4 : w9.cell? ⟨w.heap.size, 4, none⟩ = some (.int .i64 l1) := (HR9.out.cell 4).trans rfl
                   have yb4 : w9.cell? ⟨w.heap.size + 1, 4, none⟩ = some (.int .i64 0) := (HX9.out.cell 4).trans rfl
                   have d4 := HR9.out.frozen 4
                   have f4 := HX9.out.frozen 4
                   have a5 : w9.cell? ⟨w.heap.size, 5, none⟩ = some (.bool k1) := (HR9.out.cell 5).trans rfl
                   have yb5 : w9.cell? ⟨w.heap.size + 1, 5, none⟩ = some (.bool false) := (HX9.out.cell 5).trans rfl
                   have d5 := HR9.out.frozen 5
                   have f5 := HX9.out.frozen 5
                   have a6 : w9.cell? ⟨w.heap.size, 6, none⟩ = some (.int .i64 (c1 : Int)) := (HR9.out.cell 6).trans rfl
                   have yb6 : w9.cell? ⟨w.heap.size + 1, 6, none⟩ = some (.int .i64 0) := (HX9.out.cell 6).trans rfl
                   have d6 := HR9.out.frozen 6
                   have f6 := HX9.out.frozen 6))
              have hR' : R = (⟨room, files ++ [fil0], base, wait ++ [.lay (strL name) files.length], l1, k1, c1⟩, 0) := by rw [HR5.out]; rfl
              have HFF : FilesT T w9 (.slice P9 (files.length + 1) c9) (files ++ [fil0]) := by
                refine ⟨fl ++ [(none, 0, fil0)], by rw [List.map_append, HFE.out]; rfl, ?_, ?_⟩
                · have := rows_lower HF9.out (Nat.zero_le _)
                  rw [List.length_append, List.length_singleton]
                  exact this
                · intro x hx
                  rcases List.mem_append.1 hx with hx | hx
                  · exact ⟨⟨(HFB.out x hx).1.1.below HB59.out, (HFB.out x hx).1.2⟩, (HFB.out x hx).2⟩
                  · obtain rfl := List.mem_singleton.1 hx
                    exact ⟨⟨Bys.empty _ _, Nat.le_refl _⟩, .inl rfl⟩
              have KX := (((Kept.refl (fun j => j = w.heap.size) w9).set (p := ⟨w.heap.size, 1, none⟩) (.inl rfl) (.slice P9 (files.length + 1) c9)).set (p := ⟨w.heap.size, 3, none⟩) (.inl rfl) (.slice P8 (nw + 1) c8))
              have HIN9 : RefT T _ (.slice P9 (files.length + 1) c9) (.slice Pb nb cb) (.slice P8 (nw + 1) c8) ⟨room, files ++ [fil0], base, wait ++ [.lay (strL name) files.length], l1, k1, c1⟩ := reft_store (d := ⟨room, files ++ [fil0], base, wait ++ [.lay (strL name) files.length], l1, k1, c1⟩) ⟨HFF, (HIN.out w9 HB9.out).base, (show StepsR w9 0 _ (wait ++ [.lay (strL name) files.length]) from HS9.out), far_own HF9.out HTT.out HB5.out.size, HFB0.out, far_own HS8.out HTT.out HB6.out.size⟩ HR9.out (dsk_bytes ⟨_, rfl⟩ ⟨_, _, _, rfl⟩ ⟨_, _, _, rfl⟩ ⟨_, _, _, rfl⟩ ⟨_, rfl⟩ ⟨_, rfl⟩ ⟨_, rfl⟩) KX
              have HY9 := row_move HX9.out (KX.block _ HX9.out.lt (by omega))
              have HB9 := HB9.out.trans (KX.to_below (fun k hk => by omega) HB9.out.size)
              (try simp only [Exit.inBlock, Exit.then])
              refine bodyPost_ret (ret_two rfl _ _ _ _ rfl (put7_row HY9 _ _ _ _ _ _ _) rfl) rfl ?_
              rw [hR']
              exact ch_end HIN9 HY9 (dsk_bytes ⟨_, rfl⟩ ⟨_, _, _, rfl⟩ ⟨_, _, _, rfl⟩ ⟨_, _, _, rfl⟩ ⟨_, rfl⟩ ⟨_, rfl⟩ ⟨_, rfl⟩) HB9 (by omega)
            · have hR := HCP.out hok he
              have j1 : (e1 != 0) = true := bne_iff_ne.2 he
              have j2 : (e1 == 0) = false := beq_eq_false_iff_ne.2 he
              go_upto_region 20 with fail
              clear z0 z1 z2 z3 z4 z5 z6 q10 q11 q12 q13 q14 q15 q16 HK7 HD4 HD5
              generalize (((((((w4.setCell ⟨w.heap.size, 0, none⟩ (.int .i64 (room : Int))).setCell ⟨w.heap.size, 1, none⟩ (.slice Pf files.length cf)).setCell ⟨w.heap.size, 2, none⟩ (.slice Pb nb cb)).setCell ⟨w.heap.size, 3, none⟩ (.slice Pw nw cw)).setCell ⟨w.heap.size, 4, none⟩ (.int .i64 l1)).setCell ⟨w.heap.size, 5, none⟩ (.bool k1)).setCell ⟨w.heap.size, 6, none⟩ (.int .i64 (c1 : Int))) = w5 at *
              have a0 : w5.cell? ⟨w.heap.size, 0, none⟩ = some (.int .i64 (room : Int)) := (HRW.out.cell 0).trans rfl
              have d0 := HRW.out.frozen 0
              have yb0 : w5.cell? ⟨w.heap.size + 1, 0, none⟩ = some (.int .i64 0) := (HRX.out.cell 0).trans rfl
              have f0 := HRX.out.frozen 0
              have a1 : w5.cell? ⟨w.heap.size, 1, none⟩ = some (.slice Pf files.length cf) := (HRW.out.cell 1).trans rfl
              have d1 := HRW.out.frozen 1
              have yb1 : w5.cell? ⟨w.heap.size + 1, 1, none⟩ = some (.slice none 0 0) := (HRX.out.cell 1).trans rfl
              have f1 := HRX.out.frozen 1
              have a2 : w5.cell? ⟨w.heap.size, 2, none⟩ = some (.slice Pb nb cb) := (HRW.out.cell 2).trans rfl
              have d2 := HRW.out.frozen 2
              have yb2 : w5.cell? ⟨w.heap.size + 1, 2, none⟩ = some (.slice none 0 0) := (HRX.out.cell 2).trans rfl
              have f2 := HRX.out.frozen 2
              have a3 : w5.cell? ⟨w.heap.size, 3, none⟩ = some (.slice Pw nw cw) := (HRW.out.cell 3).trans rfl
              have d3 := HRW.out.frozen 3
              have yb3 : w5.cell? ⟨w.heap.size + 1, 3, none⟩ = some (.slice none 0 0) := (HRX.out.cell 3).trans rfl
              have f3 := HRX.out.frozen 3
              have a4 : w5.cell? ⟨w.heap.size, 4, none⟩ = some (.int .i64 l1) := (HRW.out.cell 4).trans rfl
              have d4 := HRW.out.frozen 4
              have yb4 : w5.cell? ⟨w.heap.size + 1, 4, none⟩ = some (.int .i64 0) := (HRX.out.cell 4).trans rfl
              have f4 := HRX.out.frozen 4
              have a5 : w5.cell? ⟨w.heap.size, 5, none⟩ = some (.bool k1) := (HRW.out.cell 5).trans rfl
              have d5 := HRW.out.frozen 5
              have yb5 : w5.cell? ⟨w.heap.size + 1, 5, none⟩ = some (.bool false) := (HRX.out.cell 5).trans rfl
              have f5 := HRX.out.frozen 5
              have a6 : w5.cell? ⟨w.heap.size, 6, none⟩ = some (.int .i64 (c1 : Int)) := (HRW.out.cell 6).trans rfl
              have d6 := HRW.out.frozen 6
              have yb6 : w5.cell? ⟨w.heap.size + 1, 6, none⟩ = some (.int .i64 0) := (HRX.out.cell 6).trans rfl
              have f6 := HRX.out.frozen 6
              go_wp2_with fail
              (try simp only [Exit.inBlock, Exit.then])
              refine bodyPost_ret (ret_two rfl _ _ _ _ rfl (put7_row HRX.out _ _ _ _ _ _ _) rfl) rfl ?_
              rw [hR]
              exact ch_out (d := ⟨room, files, base, wait, l1, k1, c1⟩) (fun x hx => ⟨(HIN.out x hx).files, (HIN.out x hx).base, (HIN.out x hx).wait, (HIN.out x hx).ff, (HIN.out x hx).fb, (HIN.out x hx).fw⟩) HB5.out (by omega)
    · rename_i n
      have hav : av = (n : Int) := HAV.out
      subst hav
      have q1 : decide ((0 : Int) ≤ (n : Int)) = true := decide_eq_true (by omega)
      have hR := HCW.out 10 (by decide) (by rw [HWY.out]; rfl)
      go_wp2_with fail
      refine HAT.out.mono ?_
      rintro e x3 ⟨rfl, rfl⟩
      have a0 : w2.cell? ⟨w.heap.size, 0, none⟩ = some (.int .i64 (room : Int)) := (HR02.out.cell 0).trans rfl
      have d0 := HR02.out.frozen 0
      have yb0 : w2.cell? ⟨w.heap.size + 1, 0, none⟩ = some (.int .i64 0) := (HR12.out.cell 0).trans rfl
      have f0 := HR12.out.frozen 0
      have a1 : w2.cell? ⟨w.heap.size, 1, none⟩ = some (.slice Pf files.length cf) := (HR02.out.cell 1).trans rfl
      have d1 := HR02.out.frozen 1
      have yb1 : w2.cell? ⟨w.heap.size + 1, 1, none⟩ = some (.slice none 0 0) := (HR12.out.cell 1).trans rfl
      have f1 := HR12.out.frozen 1
      have a2 : w2.cell? ⟨w.heap.size, 2, none⟩ = some (.slice Pb nb cb) := (HR02.out.cell 2).trans rfl
      have d2 := HR02.out.frozen 2
      have yb2 : w2.cell? ⟨w.heap.size + 1, 2, none⟩ = some (.slice none 0 0) := (HR12.out.cell 2).trans rfl
      have f2 := HR12.out.frozen 2
      have a3 : w2.cell? ⟨w.heap.size, 3, none⟩ = some (.slice Pw nw cw) := (HR02.out.cell 3).trans rfl
      have d3 := HR02.out.frozen 3
      have yb3 : w2.cell? ⟨w.heap.size + 1, 3, none⟩ = some (.slice none 0 0) := (HR12.out.cell 3).trans rfl
      have f3 := HR12.out.frozen 3
      have a4 : w2.cell? ⟨w.heap.size, 4, none⟩ = some (.int .i64 left) := (HR02.out.cell 4).trans rfl
      have d4 := HR02.out.frozen 4
      have yb4 : w2.cell? ⟨w.heap.size + 1, 4, none⟩ = some (.int .i64 0) := (HR12.out.cell 4).trans rfl
      have f4 := HR12.out.frozen 4
      have a5 : w2.cell? ⟨w.heap.size, 5, none⟩ = some (.bool dark) := (HR02.out.cell 5).trans rfl
      have d5 := HR02.out.frozen 5
      have yb5 : w2.cell? ⟨w.heap.size + 1, 5, none⟩ = some (.bool false) := (HR12.out.cell 5).trans rfl
      have f5 := HR12.out.frozen 5
      have a6 : w2.cell? ⟨w.heap.size, 6, none⟩ = some (.int .i64 (count : Int)) := (HR02.out.cell 6).trans rfl
      have d6 := HR02.out.frozen 6
      have yb6 : w2.cell? ⟨w.heap.size + 1, 6, none⟩ = some (.int .i64 0) := (HR12.out.cell 6).trans rfl
      have f6 := HR12.out.frozen 6
      go_wp2_with fail
      (try simp only [Exit.inBlock, Exit.then])
      refine bodyPost_ret (ret_two rfl _ _ _ _ rfl (put7_row HR12.out _ _ _ _ _ _ _) rfl) rfl ?_
      rw [hR]
      exact ch_out (d := ⟨room, files, base, wait, left, dark, count⟩) (fun x hx => ⟨(HIN.out x hx).files, (HIN.out x hx).base, (HIN.out x hx).wait, (HIN.out x hx).ff, (HIN.out x hx).fb, (HIN.out x hx).fw⟩) HB3.out (by omega)
end Go.Proofs.Ytiepepikbophmaa

namespace Go.Proofs.Ytiepepikbophmaa
open Go.RowKit Go.Maps
set_option linter.unusedVariables false

set_option maxRecDepth 20000 in
set_option maxHeartbeats 4000000 in
theorem change_ref2 {T : Nat → Prop} {w : World} {fv bv wv : Value} {d : Dsk} (h : RefT T w fv bv wv d) (hT : ∀ i, T i → i < w.heap.size) (hF : Fine d) (hM : Met d) (hwl : d.wait.length ≤ 100000) (hfl : d.files.length ≤ 100000) (hcl : d.left ≤ 9223372036854775807) (hcc : d.count ≤ 1000000)
    (name to : ByteArray) (hns : name.size ≤ 281474976710656) (hts : to.size ≤ 281474976710656) (A : Option Addr) (b : List UInt8) (bc : Nat) (hb : Bys w A b) (hbl : b.length ≤ 140737488355328) :
    Calls Try.prog 44 #[.agg (refC d fv bv wv).toArray, .int .i64 2, .string name, .string to, .slice A b.length bc] w (ChTold T w (change d 2 (strL name) (strL to) b)) := by
  have hB1 := below_one w (.cells (refC d fv bv wv).toArray 31)
  have hB2 := (hB1).alloc (B := w.heap.size) hB1.size (.cells #[.int .i64 0, .slice none 0 0, .slice none 0 0, .slice none 0 0, .int .i64 0, .bool false, .int .i64 0] 31)
  have hR0 := (Row.new w 31 (refC d fv bv wv).toArray).alloc (.cells #[.int .i64 0, .slice none 0 0, .slice none 0 0, .slice none 0 0, .int .i64 0, .bool false, .int .i64 0] 31)
  have hR1 := row_new2 w (.cells (refC d fv bv wv).toArray 31) 31 #[.int .i64 0, .slice none 0 0, .slice none 0 0, .slice none 0 0, .int .i64 0, .bool false, .int .i64 0]
  obtain ⟨⟨Pf, cf, hfv⟩, ⟨Pb, cb, hbv⟩, ⟨Pw, cw, hwv⟩⟩ := ref_forms h.in_
  have HLV := Lib.hid (fun (x : World) (hb : Below w.heap.size w x) => liveT_ref (h.below hb).in_ hF hM hwl (fun i hi => Nat.lt_of_lt_of_le (hT i hi) hb.size) h.fb)
  have HTT := Lib.hid hT
  have HFB0 := Lib.hid h.fb
  have HFF0 := Lib.hid h.ff
  have HFW0 := Lib.hid h.fw
  have HST := Lib.hid (fun (x : World) (hb : Below w.heap.size w x) => step_ref (w := x) (h.below hb).in_ ⟨hF.left, hcl⟩ hcc)
  have HIN := Lib.hid (fun (x : World) (hb : Below w.heap.size w x) => h.below hb)
  have HFA := Lib.hid (fun (x : World) (hb : Below w.heap.size w x) => files_at (h.below hb).in_.files)
  have HBB0 := Lib.hid (fun (x : World) (hx : Below w.heap.size w x) => hb.below hx)
  have HNM := Lib.hid (fun (x : World) => named_ref name x hns)
  have HTN := Lib.hid (fun (x : World) => named_ref to x hts)
  have hfew := hF.live_few
  have HLI := Lib.hid (fun x hx => (hF.live_in x hx).1)
  have HLR := Lib.hid hF.live_rises
  have HWY := Lib.hid (why2 d (strL name) (strL to) b)
  have HCW := Lib.hid (fun E (hE : E ≠ 0) (hw : whyNot d 2 (strL name) (strL to) b = E) => ch_why hw hE)
  have HCP := Lib.hid (fun (hw : whyNot d 2 (strL name) (strL to) b = 0) (hp : (power d).2 ≠ 0) => ch_power hw hp)
  have HCD := Lib.hid (fun (hw : whyNot d 2 (strL name) (strL to) b = 0) (hp : (power d).2 = 0) => ch_done hw hp)
  have HSM := Lib.hid (show ∀ n, (d.files.getD n fil0).b.length ≤ 4194304 from fun n => by have := hF.small n; have := hF.room.2; omega)
  have HTOT := Lib.hid (show ∀ k, (((live d).take k).map (bytesAt d)).sum ≤ 268435456 from fun k => by
    refine Nat.le_trans (sum_le _ 4194304 ?_) ?_
    · intro z hz
      obtain ⟨y, _, rfl⟩ := List.mem_map.1 hz
      have := hF.small y.file
      have := hF.room.2
      unfold bytesAt
      omega
    · rw [List.length_map, List.length_take]
      omega)
  have HALL := Lib.hid (show (((live d).take (live d).length).map (bytesAt d)).sum = total d by rw [List.take_length]; rfl)
  have HRM := Lib.hid hF.room.2
  have HLP := Lib.hid (live_power d)
  have HPK : d.files = (power d).1.files ∧ d.base = (power d).1.base ∧ d.wait = (power d).1.wait ∧ d.room = (power d).1.room := by
    unfold power
    split <;> exact ⟨rfl, rfl, rfl, rfl⟩
  have HWL := Lib.hid hwl
  clear h hF hM hB1 hwl hcl hcc hb hns hts hT
  generalize change d 2 (strL name) (strL to) b = R at *
  generalize whyNot d 2 (strL name) (strL to) b = wy at *
  generalize total d = tt at *
  generalize hlv : live d = L at *
  have HBY := Lib.hid (show ∀ y, bytesAt d y = (d.files.getD y.file fil0).b.length from fun y => rfl)
  generalize bytesAt d = bat at *
  generalize power d = pd at *
  obtain ⟨room, files, base, wait, left, dark, count⟩ := d
  obtain ⟨⟨r1, f1, b1, w1, l1, k1, c1⟩, e1⟩ := pd
  simp only at HPK
  obtain ⟨rfl, rfl, rfl, rfl⟩ := HPK
  simp only at hwv hbv hfv HLI hfl HFA HIN HST HCP HCD HCW HRM HWL HSM HBY
  simp only [refC] at HLV HST hR0 hR1 hB2 ⊢
  clear hlv
  generalize hnb : base.length = nb at hbv
  generalize hnw : wait.length = nw at hwv
  subst hwv
  subst hbv
  subst hfv
  have HZ0 := Lib.hid hR0
  have HZ1 := Lib.hid hR1
  have HB2 := Lib.hid hB2
  clear hR0 hR1 hB2 hnb
  have hnw2 := HWL.out
  generalize namedB (strL name) = nm at *
  cases nm
  · have hR := HCW.out 8 (by decide) (by rw [HWY.out]; exact if_pos rfl)
    go_enter Try.func44, Try.ntmps44
    go_wp2_with (first | (go_at_call 80; refine (HNM.out _).mono ?_; rintro e x1 ⟨rfl, rfl⟩))
    (try simp only [Exit.inBlock, Exit.then])
    refine bodyPost_ret (ret_two rfl _ _ _ _ rfl (row_new2 _ _ _ _) rfl) rfl ?_
    rw [hR]
    have HBX : ∀ (o1 o2 : Obj), Below w.heap.size w ((w.alloc o1).alloc o2) := fun o1 o2 => (below_one _ _).alloc (by simp) _
    exact ⟨_, _, _, rfl, ⟨(HIN.out _ (HBX _ _)).files, (HIN.out _ (HBX _ _)).base, (HIN.out _ (HBX _ _)).wait, HFF0.out, HFB0.out, HFW0.out⟩, HBX _ _⟩
  · go_enter Try.func44, Try.ntmps44
    go_wp2_with fail
    refine (HNM.out _).mono ?_
    rintro e x1 ⟨rfl, rfl⟩
    go_wp2_with fail
    refine (HLV.out _ HB2.out).mono ?_
    rintro e w2 ⟨v2, rfl, hE2, hfr2, hb2⟩
    have HFR2 := Lib.hid hfr2
    clear hfr2
    obtain ⟨P2, c2, hv2, _, hP2⟩ := ents_at hE2
    have HB3 := Lib.hid (HB2.out.trans (hb2.mono HB2.out.size))
    have HR02 := Lib.hid (row_move HZ0.out (hb2.block _ HZ0.out.lt))
    have HR12 := Lib.hid (row_move HZ1.out (hb2.block _ HZ1.out.lt))
    have HAT := Lib.hid (at_ref hE2 (by omega) name)
    have HE2 := Lib.hid hE2
    have HP2 := Lib.hid hP2
    rw [hv2] at HAT
    clear hE2 hb2 hP2
    subst hv2
    have HAV := Lib.hid (show atV L (strL name) = (match whose L (strL name) with | some f => (f : Int) | none => -1) from rfl)
    have HWS := Lib.hid (fun n => (whose_some (n := strL name) (f := n) HLR.out).1)
    generalize atV L (strL name) = av at *
    generalize hwh : whose L (strL name) = wh at *
    cases wh
    · have hav : av = -1 := HAV.out
      subst hav
      have hR := HCW.out 9 (by decide) (by rw [HWY.out]; exact (if_neg (by simp)).trans (if_pos rfl))
      go_wp2_with fail
      refine HAT.out.mono ?_
      rintro e x3 ⟨rfl, rfl⟩
      have a0 : w2.cell? ⟨w.heap.size, 0, none⟩ = some (.int .i64 (room : Int)) := (HR02.out.cell 0).trans rfl
      have d0 := HR02.out.frozen 0
      have yb0 : w2.cell? ⟨w.heap.size + 1, 0, none⟩ = some (.int .i64 0) := (HR12.out.cell 0).trans rfl
      have f0 := HR12.out.frozen 0
      have a1 : w2.cell? ⟨w.heap.size, 1, none⟩ = some (.slice Pf files.length cf) := (HR02.out.cell 1).trans rfl
      have d1 := HR02.out.frozen 1
      have yb1 : w2.cell? ⟨w.heap.size + 1, 1, none⟩ = some (.slice none 0 0) := (HR12.out.cell 1).trans rfl
      have f1 := HR12.out.frozen 1
      have a2 : w2.cell? ⟨w.heap.size, 2, none⟩ = some (.slice Pb nb cb) := (HR02.out.cell 2).trans rfl
      have d2 := HR02.out.frozen 2
      have yb2 : w2.cell? ⟨w.heap.size + 1, 2, none⟩ = some (.slice none 0 0) := (HR12.out.cell 2).trans rfl
      have f2 := HR12.out.frozen 2
      have a3 : w2.cell? ⟨w.heap.size, 3, none⟩ = some (.slice Pw nw cw) := (HR02.out.cell 3).trans rfl
      have d3 := HR02.out.frozen 3
      have yb3 : w2.cell? ⟨w.heap.size + 1, 3, none⟩ = some (.slice none 0 0) := (HR12.out.cell 3).trans rfl
      have f3 := HR12.out.frozen 3
      have a4 : w2.cell? ⟨w.heap.size, 4, none⟩ = some (.int .i64 left) := (HR02.out.cell 4).trans rfl
      have d4 := HR02.out.frozen 4
      have yb4 : w2.cell? ⟨w.heap.size + 1, 4, none⟩ = some (.int .i64 0) := (HR12.out.cell 4).trans rfl
      have f4 := HR12.out.frozen 4
      have a5 : w2.cell? ⟨w.heap.size, 5, none⟩ = some (.bool dark) := (HR02.out.cell 5).trans rfl
      have d5 := HR02.out.frozen 5
      have yb5 : w2.cell? ⟨w.heap.size + 1, 5, none⟩ = some (.bool false) := (HR12.out.cell 5).trans rfl
      have f5 := HR12.out.frozen 5
      have a6 : w2.cell? ⟨w.heap.size, 6, none⟩ = some (.int .i64 (count : Int)) := (HR02.out.cell 6).trans rfl
      have d6 := HR02.out.frozen 6
      have yb6 : w2.cell? ⟨w.heap.size + 1, 6, none⟩ = some (.int .i64 0) := (HR12.out.cell 6).trans rfl
      have f6 := HR12.out.frozen 6
      go_wp2_with fail
      (try simp only [Exit.inBlock, Exit.then])
      refine bodyPost_ret (ret_two rfl _ _ _ _ rfl (put7_row HR12.out _ _ _ _ _ _ _) rfl) rfl ?_
      rw [hR]
      exact ch_out (d := ⟨room, files, base, wait, left, dark, count⟩) (fun x hx => ⟨(HIN.out x hx).files, (HIN.out x hx).base, (HIN.out x hx).wait, (HIN.out x hx).ff, (HIN.out x hx).fb, (HIN.out x hx).fw⟩) HB3.out (by omega)
    · rename_i n
      have hav : av = (n : Int) := HAV.out
      subst hav
      have q1 : decide ((n : Int) < 0) = false := decide_eq_false (by omega)
      have hnf : n < files.length := HLI.out _ (HWS.out n rfl)
      go_wp2_with fail
      refine HAT.out.mono ?_
      rintro e x3 ⟨rfl, rfl⟩
      go_wp2_with fail
      go_loopw [14, 15] (fun a i wr => ∃ k : Nat, k ≤ L.length ∧ i = .int .i64 (k : Int) ∧ a = .int .i64 (((L.take k).map bat).sum : Int) ∧ Below w2.heap.size w2 wr) (fun _ i _ => L.length - (intOf i).toNat)
      case atStart => exact ⟨0, Nat.zero_le _, rfl, rfl, Below.refl _ _⟩
      case round =>
        obtain ⟨k, hk, rfl, rfl, hb⟩ := hrel
        have HBB := Lib.hid hb
        have HBW := Lib.hid (HB3.out.trans (hb.mono HB3.out.size))
        have hr0 := HR02.out.below hb HR02.out.lt
        have z1 : wr.cell? ⟨w.heap.size, 1, none⟩ = some (.slice Pf files.length cf) := (hr0.cell 1).trans rfl
        by_cases hlt : k < L.length
        · obtain ⟨gL, rfl, _, hgL, _, l1⟩ := HP2.out k hlt
          have l1' := (hb.cell (p := ⟨gL, k * 2 + 1, none⟩) hgL).trans l1
          have hmem : L.getD k ⟨[], 0⟩ ∈ L := by
            rw [List.getD_eq_getElem?_getD, List.getElem?_eq_getElem hlt]
            exact List.getElem_mem hlt
          have hyf := HLI.out _ hmem
          have hsum : ((L.take (k + 1)).map bat).sum = ((L.take k).map bat).sum + bat (L.getD k ⟨[], 0⟩) := by
            rw [List.take_succ_eq_append_getElem hlt, List.map_append, List.sum_append]
            simp [List.getD, List.getElem?_eq_getElem hlt]
          have ht1 := HTOT.out (k + 1)
          rw [HBY.out] at hsum
          generalize L.getD k ⟨[], 0⟩ = y at *
          obtain ⟨yn, yf⟩ := y
          simp only at hyf l1' hsum
          obtain ⟨Pf', cf', hf', _, hPf⟩ := HFA.out wr HBW.out
          have e1' := Value.slice.inj hf'
          obtain ⟨gF, A2, cA, g1, _, g3, f0, f1, f2, f3⟩ := hPf yf hyf
          rw [← e1'.1] at g1
          subst g1
          try simp only at hsum f0
          rw [hsum] at ht1
          generalize (files.getD yf fil0).b.length = n9 at *
          have HSUM := Lib.hid hsum
          generalize ((L.take k).map bat).sum = sm at *
          have i1 : (k : Int) < (L.length : Int) := by omega
          have i2 : (yf : Int) < (files.length : Int) := by omega
          have o1 : IntKind.i64.wrap ((sm : Int) + (n9 : Int)) = (sm : Int) + (n9 : Int) := IntWalk.i64_in _ (by omega)
          clear hb hr0 l1 hmem hyf hsum hPf hf' e1' f1 f2 f3
          go_wp2_with fail
          go_quiet (fail)
          go_wp2
          go_roundw
          case rel => exact ⟨k + 1, by omega, by go_num, by rw [HSUM.out]; go_num, HBB.out.trans (drawn _ _ _)⟩
          case measure => simp [intOf]; omega
        · obtain rfl : k = L.length := by omega
          have hr1 := HR12.out.below hb HR12.out.lt
          have htt := HTOT.out L.length
          rw [HALL.out] at htt ⊢
          have HQ0 := Lib.hid hr0
          have HQ1 := Lib.hid hr1
          have HSTP := Lib.hid (HST.out wr HBW.out)
          clear hb hr0 hr1 z1
          have o3 : IntKind.i64.wrap ((room : Int) - (tt : Int)) = (room : Int) - (tt : Int) := IntWalk.i64_in _ (by have := HRM.out; omega)
          by_cases hfu : room < tt + b.length
          · have q3 : decide ((room : Int) - (tt : Int) < (b.length : Int)) = true := decide_eq_true (by omega)
            have hR := HCW.out 7 (by decide) (by rw [HWY.out]; exact (if_neg (by simp)).trans ((if_neg (by simp)).trans (if_pos hfu)))
            have a0 : wr.cell? ⟨w.heap.size, 0, none⟩ = some (.int .i64 (room : Int)) := (HQ0.out.cell 0).trans rfl
            have d0 := HQ0.out.frozen 0
            have yb0 : wr.cell? ⟨w.heap.size + 1, 0, none⟩ = some (.int .i64 0) := (HQ1.out.cell 0).trans rfl
            have f0 := HQ1.out.frozen 0
            have a1 : wr.cell? ⟨w.heap.size, 1, none⟩ = some (.slice Pf files.length cf) := (HQ0.out.cell 1).trans rfl
            have d1 := HQ0.out.frozen 1
            have yb1 : wr.cell? ⟨w.heap.size + 1, 1, none⟩ = some (.slice none 0 0) := (HQ1.out.cell 1).trans rfl
            have f1 := HQ1.out.frozen 1
            have a2 : wr.cell? ⟨w.heap.size, 2, none⟩ = some (.slice Pb nb cb) := (HQ0.out.cell 2).trans rfl
            have d2 := HQ0.out.frozen 2
            have yb2 : wr.cell? ⟨w.heap.size + 1, 2, none⟩ = some (.slice none 0 0) := (HQ1.out.cell 2).trans rfl
            have f2 := HQ1.out.frozen 2
            have a3 : wr.cell? ⟨w.heap.size, 3, none⟩ = some (.slice Pw nw cw) := (HQ0.out.cell 3).trans rfl
            have d3 := HQ0.out.frozen 3
            have yb3 : wr.cell? ⟨w.heap.size + 1, 3, none⟩ = some (.slice none 0 0) := (HQ1.out.cell 3).trans rfl
            have f3 := HQ1.out.frozen 3
            have a4 : wr.cell? ⟨w.heap.size, 4, none⟩ = some (.int .i64 left) := (HQ0.out.cell 4).trans rfl
            have d4 := HQ0.out.frozen 4
            have yb4 : wr.cell? ⟨w.heap.size + 1, 4, none⟩ = some (.int .i64 0) := (HQ1.out.cell 4).trans rfl
            have f4 := HQ1.out.frozen 4
            have a5 : wr.cell? ⟨w.heap.size, 5, none⟩ = some (.bool dark) := (HQ0.out.cell 5).trans rfl
            have d5 := HQ0.out.frozen 5
            have yb5 : wr.cell? ⟨w.heap.size + 1, 5, none⟩ = some (.bool false) := (HQ1.out.cell 5).trans rfl
            have f5 := HQ1.out.frozen 5
            have a6 : wr.cell? ⟨w.heap.size, 6, none⟩ = some (.int .i64 (count : Int)) := (HQ0.out.cell 6).trans rfl
            have d6 := HQ0.out.frozen 6
            have yb6 : wr.cell? ⟨w.heap.size + 1, 6, none⟩ = some (.int .i64 0) := (HQ1.out.cell 6).trans rfl
            have f6 := HQ1.out.frozen 6
            go_wp2_with fail
            (try simp only [Exit.inBlock, Exit.then])
            refine bodyPost_ret (ret_two rfl _ _ _ _ rfl (put7_row HQ1.out _ _ _ _ _ _ _) rfl) rfl ?_
            rw [hR]
            exact ch_out (d := ⟨room, files, base, wait, left, dark, count⟩) (fun x hx => ⟨(HIN.out x hx).files, (HIN.out x hx).base, (HIN.out x hx).wait, (HIN.out x hx).ff, (HIN.out x hx).fb, (HIN.out x hx).fw⟩) HBW.out (by omega)
          · have q3 : decide ((room : Int) - (tt : Int) < (b.length : Int)) = false := decide_eq_false (by omega)
            have hok : wy = 0 := by rw [HWY.out]; exact (if_neg (by simp)).trans ((if_neg (by simp)).trans (if_neg hfu))
            have hbl4 : b.length ≤ 4194304 := by have := HRM.out; omega
            have z0 : wr.cell? ⟨w.heap.size, 0, none⟩ = some (.int .i64 (room : Int)) := (HQ0.out.cell 0).trans rfl
            have z1 : wr.cell? ⟨w.heap.size, 1, none⟩ = some (.slice Pf files.length cf) := (HQ0.out.cell 1).trans rfl
            have z2 : wr.cell? ⟨w.heap.size, 2, none⟩ = some (.slice Pb nb cb) := (HQ0.out.cell 2).trans rfl
            have z3 : wr.cell? ⟨w.heap.size, 3, none⟩ = some (.slice Pw nw cw) := (HQ0.out.cell 3).trans rfl
            have z4 : wr.cell? ⟨w.heap.size, 4, none⟩ = some (.int .i64 left) := (HQ0.out.cell 4).trans rfl
            have z5 : wr.cell? ⟨w.heap.size, 5, none⟩ = some (.bool dark) := (HQ0.out.cell 5).trans rfl
            have z6 : wr.cell? ⟨w.heap.size, 6, none⟩ = some (.int .i64 (count : Int)) := (HQ0.out.cell 6).trans rfl
            go_wp2_with fail
            refine HSTP.out.mono ?_
            rintro e w4 ⟨rfl, hb4⟩
            have HB4 := Lib.hid (HBW.out.trans (hb4.mono HBW.out.size))
            have HD4 := Lib.hid (HQ0.out.below hb4 HQ0.out.lt)
            have HD5 := Lib.hid (HQ1.out.below hb4 HQ1.out.lt)
            have HBB4 := Lib.hid (HBB.out.trans (hb4.mono HBB.out.size))
            clear z0 z1 z2 z3 z4 z5 z6 hb4
            have z0 : w4.cell? ⟨w.heap.size, 0, none⟩ = some (.int .i64 (room : Int)) := (HD4.out.cell 0).trans rfl
            have z1 : w4.cell? ⟨w.heap.size, 1, none⟩ = some (.slice Pf files.length cf) := (HD4.out.cell 1).trans rfl
            have z2 : w4.cell? ⟨w.heap.size, 2, none⟩ = some (.slice Pb nb cb) := (HD4.out.cell 2).trans rfl
            have z3 : w4.cell? ⟨w.heap.size, 3, none⟩ = some (.slice Pw nw cw) := (HD4.out.cell 3).trans rfl
            have z4 : w4.cell? ⟨w.heap.size, 4, none⟩ = some (.int .i64 left) := (HD4.out.cell 4).trans rfl
            have z5 : w4.cell? ⟨w.heap.size, 5, none⟩ = some (.bool dark) := (HD4.out.cell 5).trans rfl
            have z6 : w4.cell? ⟨w.heap.size, 6, none⟩ = some (.int .i64 (count : Int)) := (HD4.out.cell 6).trans rfl
            have q10 := HD4.out.frozen 0
            have q11 := HD4.out.frozen 1
            have q12 := HD4.out.frozen 2
            have q13 := HD4.out.frozen 3
            have q14 := HD4.out.frozen 4
            have q15 := HD4.out.frozen 5
            have q16 := HD4.out.frozen 6
            have HRW := Lib.hid (show Row (((((((w4.setCell ⟨w.heap.size, 0, none⟩ (.int .i64 (room : Int))).setCell ⟨w.heap.size, 1, none⟩ (.slice Pf files.length cf)).setCell ⟨w.heap.size, 2, none⟩ (.slice Pb nb cb)).setCell ⟨w.heap.size, 3, none⟩ (.slice Pw nw cw)).setCell ⟨w.heap.size, 4, none⟩ (.int .i64 l1)).setCell ⟨w.heap.size, 5, none⟩ (.bool k1)).setCell ⟨w.heap.size, 6, none⟩ (.int .i64 (c1 : Int))) w.heap.size 31 #[.int .i64 (room : Int), .slice Pf files.length cf, .slice Pb nb cb, .slice Pw nw cw, .int .i64 l1, .bool k1, .int .i64 (c1 : Int)] from put7_row HD4.out _ _ _ _ _ _ _)
            have HK7 := Lib.hid (show Kept (fun j => j = w.heap.size) w4 (((((((w4.setCell ⟨w.heap.size, 0, none⟩ (.int .i64 (room : Int))).setCell ⟨w.heap.size, 1, none⟩ (.slice Pf files.length cf)).setCell ⟨w.heap.size, 2, none⟩ (.slice Pb nb cb)).setCell ⟨w.heap.size, 3, none⟩ (.slice Pw nw cw)).setCell ⟨w.heap.size, 4, none⟩ (.int .i64 l1)).setCell ⟨w.heap.size, 5, none⟩ (.bool k1)).setCell ⟨w.heap.size, 6, none⟩ (.int .i64 (c1 : Int))) from put7_kept _ _ _ _ _ _ _ _ _)
            have HRX := Lib.hid (row_move HD5.out (HK7.out.block _ HD5.out.lt (by omega)))
            have HB5 := Lib.hid (HB4.out.trans (HK7.out.to_below (fun k hk => by omega) HB4.out.size))
            by_cases he : e1 = 0
            · subst he
              have HR5 := Lib.hid (HCD.out hok rfl)
              go_upto_region 21 with fail
              clear z0 z1 z2 z3 z4 z5 z6 q10 q11 q12 q13 q14 q15 q16 HK7 HD4 HD5
              generalize (((((((w4.setCell ⟨w.heap.size, 0, none⟩ (.int .i64 (room : Int))).setCell ⟨w.heap.size, 1, none⟩ (.slice Pf files.length cf)).setCell ⟨w.heap.size, 2, none⟩ (.slice Pb nb cb)).setCell ⟨w.heap.size, 3, none⟩ (.slice Pw nw cw)).setCell ⟨w.heap.size, 4, none⟩ (.int .i64 l1)).setCell ⟨w.heap.size, 5, none⟩ (.bool k1)).setCell ⟨w.heap.size, 6, none⟩ (.int .i64 (c1 : Int))) = w5 at *
              have z1 : w5.cell? ⟨w.heap.size, 1, none⟩ = some (.slice Pf files.length cf) := (HRW.out.cell 1).trans rfl
              have z3 : w5.cell? ⟨w.heap.size, 3, none⟩ = some (.slice Pw nw cw) := (HRW.out.cell 3).trans rfl
              have z11 : (w5.alloc (.cells #[] 122)).cell? ⟨w.heap.size, 1, none⟩ = some (.slice Pf files.length cf) := ((HRW.out.alloc _).cell 1).trans rfl
              go_upto_region 28 with (first
                | (at_builtin
                   refine app_filesP rfl (.tmp 107) (.tmp 109) rfl rfl _ files rfl T (HIN.out w5 HB5.out).files (by omega) ?_
                   intro v6 w6 fl hfe hFO hfb hb6
                   obtain ⟨P6, c6, hv6, _, _⟩ := rows_at hFO.row
                   have hfn : fl.length = files.length := by rw [← hfe, List.length_map]
                   have HFO := Lib.hid hFO
                   have HFE := Lib.hid hfe
                   have HFN := Lib.hid hfn
                   have HFB := Lib.hid hfb
                   have hr6 := row_move HRW.out (hb6.block _ HRW.out.lt)
                   have y3 : (w6.alloc (.cells #[] 127)).cell? ⟨w.heap.size, 3, none⟩ = some (.slice Pw nw cw) := ((hr6.alloc _).cell 3).trans rfl
                   have y33 : w6.cell? ⟨w.heap.size, 3, none⟩ = some (.slice Pw nw cw) := (hr6.cell 3).trans rfl
                   have HR6 := Lib.hid hr6
                   have HX6 := Lib.hid (row_move HRX.out (hb6.block _ HRX.out.lt))
                   have HB6 := Lib.hid (HB5.out.trans (hb6.mono HB5.out.size))
                   have HB56 := Lib.hid hb6
                   rw [hfn] at hv6
                   clear hFO hb6 hfe hfb hr6 z1 z3 z11 hfn
                   subst hv6)
                | (at_builtin
                   refine app_steps rfl (.tmp 111) (.tmp 113) rfl rfl _ wait rfl (HIN.out w6 HB6.out).wait (by omega) ?_
                   intro v7 w7 hS7 hb7
                   obtain ⟨P7, c7, hv7, _, _⟩ := rows_at hS7
                   have HS7 := Lib.hid hS7
                   have HR7 := Lib.hid (row_move HR6.out (hb7.block _ HR6.out.lt))
                   have HX7 := Lib.hid (row_move HX6.out (hb7.block _ HX6.out.lt))
                   have HB7 := Lib.hid (HB6.out.trans (hb7.mono HB6.out.size))
                   have HB67 := Lib.hid hb7
                   clear hS7 hb7 y3 y33
                   rw [hnw] at hv7
                   subst hv7))
              have hFO7 := HFO.out.below HB67.out
              have hnfl : n < fl.length := by rw [HFN.out]; exact hnf
              obtain ⟨g, cap, hvg, hg5, hgl, hcap, hfz, k0, k1', k2, k3⟩ := fo_at hFO7 hnfl
              rw [HFN.out] at hvg
              obtain ⟨rfl, _, rfl⟩ := Value.slice.inj hvg
              have hmem : fl.getD n (none, 0, fil0) ∈ fl := by
                rw [List.getD_eq_getElem?_getD, List.getElem?_eq_getElem hnfl]
                exact List.getElem_mem hnfl
              have hmap : (fl.getD n (none, 0, fil0)).2.2 = files.getD n fil0 := by
                rw [← HFE.out, List.getD_eq_getElem?_getD, List.getD_eq_getElem?_getD, List.getElem?_map, List.getElem?_eq_getElem hnfl]
                rfl
              have hfar := (hFO7.each _ hmem).2.2
              have hfx := (HFB.out _ hmem).2
              have hsm := HSM.out n
              rw [← hmap] at hsm
              have HFG := Lib.hid hmap.symm
              generalize hx : fl.getD n (none, 0, fil0) = x at *
              obtain ⟨A1, c1', b1, s1⟩ := x
              simp only at k0 k1' k2 k3 hsm hfar HFG
              have HX0 := Lib.hid hx
              have HFO7 := Lib.hid hFO7
              have HFAR := Lib.hid hfar
              have HFX := Lib.hid hfx
              have HK2 := Lib.hid k2
              have HK3 := Lib.hid k3
              have HHZ := Lib.hid hfz
              have hfz0 := hfz (n * 2)
              have hfz1 := hfz (n * 2 + 1)
              have i2 : (n : Int) < (files.length : Int) := by omega
              clear hvg hFO7 hnfl hmem hmap hfar hfx hx k2 k3 hfz
              obtain ⟨b9, hb9x⟩ : ∃ x, b1 ++ b = x := ⟨_, rfl⟩
              have HB9X := Lib.hid hb9x
              clear hb9x
              have k0' : (w7.alloc (.cells #[] 5)).cell? ⟨g, n * 2, none⟩ = some (.slice A1 b1.length c1') := by rw [show (w7.alloc (.cells #[] 5)).cell? ⟨g, n * 2, none⟩ = w7.cell? ⟨g, n * 2, none⟩ from (below_one w7 _).cell (p := ⟨g, n * 2, none⟩) hgl]; exact k0
              go_upto_region 38 with (first
                | (at_builtin
                   refine app_u8 rfl (.tmp 133) (.tmp 138) rfl w7.heap.size _ [] rfl (own_empty (Row.new w7 _ _) (Nat.le_refl _)) A1 b1 c1' rfl (HK2.out.alloc _) (by simp only [List.length_nil]; omega) (by simp) ?_
                   intro v8 w8 hown8 hb8' _
                   rw [List.nil_append] at hown8
                   have hb8 : Below w7.heap.size w7 w8 := ((Below.refl _ _).alloc (Nat.le_refl _) _).trans hb8'
                   have HO8 := Lib.hid hown8
                   have HB78 := Lib.hid hb8
                   clear hown8 hb8 hb8')
                | (at_builtin
                   refine app_u8 rfl (.tmp 139) (.tmp 140) rfl w7.heap.size _ b1 rfl HO8.out A b bc rfl (HBB0.out _ (HB7.out.trans (HB78.out.mono HB7.out.size))) (by omega) HB78.out.size ?_
                   intro v9 w9 hown9 hb9' _
                   rw [HB9X.out] at hown9
                   have HB79 := Lib.hid (HB78.out.trans hb9')
                   obtain ⟨P9, c9, hv9, hP9, hfr9, hl9, _⟩ := own_cap hown9
                   have HP9 := Lib.hid hP9
                   have HFR9 := Lib.hid hfr9
                   have HL9 := Lib.hid hl9
                   have kk0 := (HB79.out.cell (p := ⟨g, n * 2, none⟩) hgl).trans k0
                   have hfr := (HFO7.out.below HB79.out)
                   have HFO9 := Lib.hid hfr
                   have hz9 : w9.frozen? ⟨g, n * 2, none⟩ = false := (frozen_block (HB79.out.block g hgl) _).trans hfz0
                   clear hown9 hb9' hP9 hfr9 hl9 hfr
                   subst hv9))
              have HFO8 := Lib.hid (show FO (w9.setCell ⟨g, n * 2, none⟩ (.slice P9 b9.length c9)) w5.heap.size (.slice (some ⟨g, 0, none⟩) files.length c6) (fl.set n (P9, c9, ⟨b9, s1⟩)) from fo_cell HFO9.out HFN.out.symm n (by rw [HFN.out]; exact hnf) (P9, c9, ⟨b9, s1⟩) HP9.out HL9.out (.inr fun ad e e2 => by have := HFR9.out ad e; omega) (n * 2) (.slice P9 b9.length c9) (by rw [HFN.out]; omega) (flat_bytes fl (by rw [HFN.out]; exact hnf) A1 c1' s1 b1 P9 c9 b9 HX0.out))
              have HFX8 := Lib.hid (show ∀ z ∈ fl.set n (P9, c9, ⟨b9, s1⟩), FarB T z from fun z hz => by
                rcases List.mem_or_eq_of_mem_set hz with h | h
                · exact (HFB.out z h).2
                · rw [h]; exact .inr fun ad e ht => by have h1 := HFR9.out ad e; have h2 := HTT.out _ ht; have h3 := HB7.out.size; omega)
              have HR79 := Lib.hid (row_move HR7.out (HB79.out.block _ HR7.out.lt))
              have HX79 := Lib.hid (row_move HX7.out (HB79.out.block _ HX7.out.lt))
              have HB9w := Lib.hid (HB7.out.trans (HB79.out.mono HB7.out.size))
              have HS79 := Lib.hid (rows_below HS7.out HB79.out)
              have HG9 := Lib.hid (Nat.lt_of_lt_of_le hgl HB79.out.size)
              have KG := Lib.hid (show Kept (fun j => j = g) w9 (w9.setCell ⟨g, n * 2, none⟩ (.slice P9 b9.length c9)) from (Kept.refl (fun j => j = g) w9).set (p := ⟨g, _, none⟩) (.inl rfl) _)
              have HGX : w.heap.size ≠ g := fun e => row_ne_rows HR79.out HFO9.out.row (by decide) (by rw [e]; rfl)
              have HGY : w.heap.size + 1 ≠ g := fun e => row_ne_rows HX79.out HFO9.out.row (by decide) (by rw [e]; rfl)
              have HR10 := Lib.hid (row_move HR79.out (KG.out.block _ HR79.out.lt HGX))
              have HX10 := Lib.hid (row_move HX79.out (KG.out.block _ HX79.out.lt HGY))
              have HS10 := Lib.hid (rows_kept (rows_lower HS79.out (Nat.zero_le _)) KG.out fun q hq e => rows_apart (rows_lower HS79.out (Nat.zero_le _)) HFO9.out.row (by decide) q hq (by subst e; rfl))
              have HB10 := Lib.hid (HB9w.out.trans (KG.out.to_below (fun k hk => by have := HB5.out.size; omega) HB9w.out.size))
              clear KG HGX HGY
              generalize (w9.setCell ⟨g, n * 2, none⟩ (.slice P9 b9.length c9)) = w10 at *
              have a0 : w10.cell? ⟨w.heap.size, 0, none⟩ = some (.int .i64 (room : Int)) := (HR10.out.cell 0).trans rfl
              have yb0 : w10.cell? ⟨w.heap.size + 1, 0, none⟩ = some (.int .i64 0) := (HX10.out.cell 0).trans rfl
              have d0 := HR10.out.frozen 0
              have f0 := HX10.out.frozen 0
              have a1 : w10.cell? ⟨w.heap.size, 1, none⟩ = some (.slice Pf files.length cf) := (HR10.out.cell 1).trans rfl
              have yb1 : w10.cell? ⟨w.heap.size + 1, 1, none⟩ = some (.slice none 0 0) := (HX10.out.cell 1).trans rfl
              have d1 := HR10.out.frozen 1
              have f1 := HX10.out.frozen 1
              have a2 : w10.cell? ⟨w.heap.size, 2, none⟩ = some (.slice Pb nb cb) := (HR10.out.cell 2).trans rfl
              have yb2 : w10.cell? ⟨w.heap.size + 1, 2, none⟩ = some (.slice none 0 0) := (HX10.out.cell 2).trans rfl
              have d2 := HR10.out.frozen 2
              have f2 := HX10.out.frozen 2
              have a3 : w10.cell? ⟨w.heap.size, 3, none⟩ = some (.slice Pw nw cw) := (HR10.out.cell 3).trans rfl
              have yb3 : w10.cell? ⟨w.heap.size + 1, 3, none⟩ = some (.slice none 0 0) := (HX10.out.cell 3).trans rfl
              have d3 := HR10.out.frozen 3
              have f3 := HX10.out.frozen 3
              have a4 : w10.cell? ⟨w.heap.size, 4, none⟩ = some (.int .i64 l1) := (HR10.out.cell 4).trans rfl
              have yb4 : w10.cell? ⟨w.heap.size + 1, 4, none⟩ = some (.int .i64 0) := (HX10.out.cell 4).trans rfl
              have d4 := HR10.out.frozen 4
              have f4 := HX10.out.frozen 4
              have a5 : w10.cell? ⟨w.heap.size, 5, none⟩ = some (.bool k1) := (HR10.out.cell 5).trans rfl
              have yb5 : w10.cell? ⟨w.heap.size + 1, 5, none⟩ = some (.bool false) := (HX10.out.cell 5).trans rfl
              have d5 := HR10.out.frozen 5
              have f5 := HX10.out.frozen 5
              have a6 : w10.cell? ⟨w.heap.size, 6, none⟩ = some (.int .i64 (c1 : Int)) := (HR10.out.cell 6).trans rfl
              have yb6 : w10.cell? ⟨w.heap.size + 1, 6, none⟩ = some (.int .i64 0) := (HX10.out.cell 6).trans rfl
              have d6 := HR10.out.frozen 6
              have f6 := HX10.out.frozen 6
              go_wp2_with fail
              have hR' : R = (⟨room, files.set n ⟨b9, s1⟩, base, wait, l1, k1, c1⟩, 0) := by
                rw [HR5.out]
                have hw : whose (live (⟨room, files, base, wait, l1, k1, c1⟩ : Dsk)) (strL name) = some n := by rw [HLP.out]; exact hwh
                unfold applyD
                simp only [hw, Option.getD_some, HFG.out, HB9X.out]
                rfl
              have HFF : FilesT T w10 (.slice (some ⟨g, 0, none⟩) files.length c6) (files.set n ⟨b9, s1⟩) := by have := HFO8.out.filesT HFX8.out; rwa [List.map_set, HFE.out] at this
              have KX := (((Kept.refl (fun j => j = w.heap.size) w10).set (p := ⟨w.heap.size, 1, none⟩) (.inl rfl) (.slice (some ⟨g, 0, none⟩) files.length c6)).set (p := ⟨w.heap.size, 3, none⟩) (.inl rfl) (.slice P7 nw c7))
              have HIN9 : RefT T _ (.slice (some ⟨g, 0, none⟩) files.length c6) (.slice Pb nb cb) (.slice P7 nw c7) ⟨room, files.set n ⟨b9, s1⟩, base, wait, l1, k1, c1⟩ := reft_store (d := ⟨room, files.set n ⟨b9, s1⟩, base, wait, l1, k1, c1⟩) ⟨HFF, (HIN.out w10 HB10.out).base, (show StepsR w10 0 _ wait from HS10.out), far_own HFO.out.row HTT.out HB5.out.size, HFB0.out, far_own HS7.out HTT.out HB6.out.size⟩ HR10.out (dsk_bytes ⟨_, rfl⟩ ⟨_, _, _, rfl⟩ ⟨_, _, _, rfl⟩ ⟨_, _, _, rfl⟩ ⟨_, rfl⟩ ⟨_, rfl⟩ ⟨_, rfl⟩) KX
              have HY9 := row_move HX10.out (KX.block _ HX10.out.lt (by omega))
              have HB9 := HB10.out.trans (KX.to_below (fun k hk => by omega) HB10.out.size)
              (try simp only [Exit.inBlock, Exit.then])
              refine bodyPost_ret (ret_two rfl _ _ _ _ rfl (put7_row HY9 _ _ _ _ _ _ _) rfl) rfl ?_
              rw [hR']
              exact ch_end HIN9 HY9 (dsk_bytes ⟨_, rfl⟩ ⟨_, _, _, rfl⟩ ⟨_, _, _, rfl⟩ ⟨_, _, _, rfl⟩ ⟨_, rfl⟩ ⟨_, rfl⟩ ⟨_, rfl⟩) HB9 (by omega)
            · have hR := HCP.out hok he
              have j1 : (e1 != 0) = true := bne_iff_ne.2 he
              have j2 : (e1 == 0) = false := beq_eq_false_iff_ne.2 he
              go_upto_region 20 with fail
              clear z0 z1 z2 z3 z4 z5 z6 q10 q11 q12 q13 q14 q15 q16 HK7 HD4 HD5
              generalize (((((((w4.setCell ⟨w.heap.size, 0, none⟩ (.int .i64 (room : Int))).setCell ⟨w.heap.size, 1, none⟩ (.slice Pf files.length cf)).setCell ⟨w.heap.size, 2, none⟩ (.slice Pb nb cb)).setCell ⟨w.heap.size, 3, none⟩ (.slice Pw nw cw)).setCell ⟨w.heap.size, 4, none⟩ (.int .i64 l1)).setCell ⟨w.heap.size, 5, none⟩ (.bool k1)).setCell ⟨w.heap.size, 6, none⟩ (.int .i64 (c1 : Int))) = w5 at *
              have a0 : w5.cell? ⟨w.heap.size, 0, none⟩ = some (.int .i64 (room : Int)) := (HRW.out.cell 0).trans rfl
              have d0 := HRW.out.frozen 0
              have yb0 : w5.cell? ⟨w.heap.size + 1, 0, none⟩ = some (.int .i64 0) := (HRX.out.cell 0).trans rfl
              have f0 := HRX.out.frozen 0
              have a1 : w5.cell? ⟨w.heap.size, 1, none⟩ = some (.slice Pf files.length cf) := (HRW.out.cell 1).trans rfl
              have d1 := HRW.out.frozen 1
              have yb1 : w5.cell? ⟨w.heap.size + 1, 1, none⟩ = some (.slice none 0 0) := (HRX.out.cell 1).trans rfl
              have f1 := HRX.out.frozen 1
              have a2 : w5.cell? ⟨w.heap.size, 2, none⟩ = some (.slice Pb nb cb) := (HRW.out.cell 2).trans rfl
              have d2 := HRW.out.frozen 2
              have yb2 : w5.cell? ⟨w.heap.size + 1, 2, none⟩ = some (.slice none 0 0) := (HRX.out.cell 2).trans rfl
              have f2 := HRX.out.frozen 2
              have a3 : w5.cell? ⟨w.heap.size, 3, none⟩ = some (.slice Pw nw cw) := (HRW.out.cell 3).trans rfl
              have d3 := HRW.out.frozen 3
              have yb3 : w5.cell? ⟨w.heap.size + 1, 3, none⟩ = some (.slice none 0 0) := (HRX.out.cell 3).trans rfl
              have f3 := HRX.out.frozen 3
              have a4 : w5.cell? ⟨w.heap.size, 4, none⟩ = some (.int .i64 l1) := (HRW.out.cell 4).trans rfl
              have d4 := HRW.out.frozen 4
              have yb4 : w5.cell? ⟨w.heap.size + 1, 4, none⟩ = some (.int .i64 0) := (HRX.out.cell 4).trans rfl
              have f4 := HRX.out.frozen 4
              have a5 : w5.cell? ⟨w.heap.size, 5, none⟩ = some (.bool k1) := (HRW.out.cell 5).trans rfl
              have d5 := HRW.out.frozen 5
              have yb5 : w5.cell? ⟨w.heap.size + 1, 5, none⟩ = some (.bool false) := (HRX.out.cell 5).trans rfl
              have f5 := HRX.out.frozen 5
              have a6 : w5.cell? ⟨w.heap.size, 6, none⟩ = some (.int .i64 (c1 : Int)) := (HRW.out.cell 6).trans rfl
              have d6 := HRW.out.frozen 6
              have yb6 : w5.cell? ⟨w.heap.size + 1, 6, none⟩ = some (.int .i64 0) := (HRX.out.cell 6).trans rfl
              have f6 := HRX.out.frozen 6
              go_wp2_with fail
              (try simp only [Exit.inBlock, Exit.then])
              refine bodyPost_ret (ret_two rfl _ _ _ _ rfl (put7_row HRX.out _ _ _ _ _ _ _) rfl) rfl ?_
              rw [hR]
              exact ch_out (d := ⟨room, files, base, wait, l1, k1, c1⟩) (fun x hx => ⟨(HIN.out x hx).files, (HIN.out x hx).base, (HIN.out x hx).wait, (HIN.out x hx).ff, (HIN.out x hx).fb, (HIN.out x hx).fw⟩) HB5.out (by omega)
end Go.Proofs.Ytiepepikbophmaa

namespace Go.Proofs.Ytiepepikbophmaa
open Go.RowKit Go.Maps
set_option linter.unusedVariables false

set_option maxRecDepth 20000 in
set_option maxHeartbeats 4000000 in
theorem change_ref3 {T : Nat → Prop} {w : World} {fv bv wv : Value} {d : Dsk} (h : RefT T w fv bv wv d) (hT : ∀ i, T i → i < w.heap.size) (hF : Fine d) (hM : Met d) (hwl : d.wait.length ≤ 100000) (hfl : d.files.length ≤ 100000) (hcl : d.left ≤ 9223372036854775807) (hcc : d.count ≤ 1000000)
    (name to : ByteArray) (hns : name.size ≤ 281474976710656) (hts : to.size ≤ 281474976710656) (A : Option Addr) (b : List UInt8) (bc : Nat) (hb : Bys w A b) (hbl : b.length ≤ 140737488355328) :
    Calls Try.prog 44 #[.agg (refC d fv bv wv).toArray, .int .i64 3, .string name, .string to, .slice A b.length bc] w (ChTold T w (change d 3 (strL name) (strL to) b)) := by
  have hB1 := below_one w (.cells (refC d fv bv wv).toArray 31)
  have hB2 := (hB1).alloc (B := w.heap.size) hB1.size (.cells #[.int .i64 0, .slice none 0 0, .slice none 0 0, .slice none 0 0, .int .i64 0, .bool false, .int .i64 0] 31)
  have hR0 := (Row.new w 31 (refC d fv bv wv).toArray).alloc (.cells #[.int .i64 0, .slice none 0 0, .slice none 0 0, .slice none 0 0, .int .i64 0, .bool false, .int .i64 0] 31)
  have hR1 := row_new2 w (.cells (refC d fv bv wv).toArray 31) 31 #[.int .i64 0, .slice none 0 0, .slice none 0 0, .slice none 0 0, .int .i64 0, .bool false, .int .i64 0]
  obtain ⟨⟨Pf, cf, hfv⟩, ⟨Pb, cb, hbv⟩, ⟨Pw, cw, hwv⟩⟩ := ref_forms h.in_
  have HLV := Lib.hid (fun (x : World) (hb : Below w.heap.size w x) => liveT_ref (h.below hb).in_ hF hM hwl (fun i hi => Nat.lt_of_lt_of_le (hT i hi) hb.size) h.fb)
  have HTT := Lib.hid hT
  have HFB0 := Lib.hid h.fb
  have HFF0 := Lib.hid h.ff
  have HFW0 := Lib.hid h.fw
  have HST := Lib.hid (fun (x : World) (hb : Below w.heap.size w x) => step_ref (w := x) (h.below hb).in_ ⟨hF.left, hcl⟩ hcc)
  have HIN := Lib.hid (fun (x : World) (hb : Below w.heap.size w x) => h.below hb)
  have HFA := Lib.hid (fun (x : World) (hb : Below w.heap.size w x) => files_at (h.below hb).in_.files)
  have HBB0 := Lib.hid (fun (x : World) (hx : Below w.heap.size w x) => hb.below hx)
  have HNM := Lib.hid (fun (x : World) => named_ref name x hns)
  have HTN := Lib.hid (fun (x : World) => named_ref to x hts)
  have hfew := hF.live_few
  have HLI := Lib.hid (fun x hx => (hF.live_in x hx).1)
  have HLR := Lib.hid hF.live_rises
  have HWY := Lib.hid (why3 d (strL name) (strL to) b)
  have HCW := Lib.hid (fun E (hE : E ≠ 0) (hw : whyNot d 3 (strL name) (strL to) b = E) => ch_why hw hE)
  have HCP := Lib.hid (fun (hw : whyNot d 3 (strL name) (strL to) b = 0) (hp : (power d).2 ≠ 0) => ch_power hw hp)
  have HCD := Lib.hid (fun (hw : whyNot d 3 (strL name) (strL to) b = 0) (hp : (power d).2 = 0) => ch_done hw hp)
  have HSM := Lib.hid (show ∀ n, (d.files.getD n fil0).b.length ≤ 4194304 from fun n => by have := hF.small n; have := hF.room.2; omega)
  have HTOT := Lib.hid (show ∀ k, (((live d).take k).map (bytesAt d)).sum ≤ 268435456 from fun k => by
    refine Nat.le_trans (sum_le _ 4194304 ?_) ?_
    · intro z hz
      obtain ⟨y, _, rfl⟩ := List.mem_map.1 hz
      have := hF.small y.file
      have := hF.room.2
      unfold bytesAt
      omega
    · rw [List.length_map, List.length_take]
      omega)
  have HALL := Lib.hid (show (((live d).take (live d).length).map (bytesAt d)).sum = total d by rw [List.take_length]; rfl)
  have HRM := Lib.hid hF.room.2
  have HLP := Lib.hid (live_power d)
  have HPK : d.files = (power d).1.files ∧ d.base = (power d).1.base ∧ d.wait = (power d).1.wait ∧ d.room = (power d).1.room := by
    unfold power
    split <;> exact ⟨rfl, rfl, rfl, rfl⟩
  have HWL := Lib.hid hwl
  clear h hF hM hB1 hwl hcl hcc hb hns hts hT
  generalize change d 3 (strL name) (strL to) b = R at *
  generalize whyNot d 3 (strL name) (strL to) b = wy at *
  generalize total d = tt at *
  generalize hlv : live d = L at *
  have HBY := Lib.hid (show ∀ y, bytesAt d y = (d.files.getD y.file fil0).b.length from fun y => rfl)
  generalize bytesAt d = bat at *
  generalize power d = pd at *
  obtain ⟨room, files, base, wait, left, dark, count⟩ := d
  obtain ⟨⟨r1, f1, b1, w1, l1, k1, c1⟩, e1⟩ := pd
  simp only at HPK
  obtain ⟨rfl, rfl, rfl, rfl⟩ := HPK
  simp only at hwv hbv hfv HLI hfl HFA HIN HST HCP HCD HCW HRM HWL HSM HBY
  simp only [refC] at HLV HST hR0 hR1 hB2 ⊢
  clear hlv
  generalize hnb : base.length = nb at hbv
  generalize hnw : wait.length = nw at hwv
  subst hwv
  subst hbv
  subst hfv
  have HZ0 := Lib.hid hR0
  have HZ1 := Lib.hid hR1
  have HB2 := Lib.hid hB2
  clear hR0 hR1 hB2 hnb
  have hnw2 := HWL.out
  generalize namedB (strL name) = nm at *
  generalize namedB (strL to) = tn at *
  cases nm
  · have hR := HCW.out 8 (by decide) (by rw [HWY.out]; exact if_pos (.inl rfl))
    go_enter Try.func44, Try.ntmps44
    go_wp2_with (first | (go_at_call 80; refine (HNM.out _).mono ?_; rintro e x1 ⟨rfl, rfl⟩))
    (try simp only [Exit.inBlock, Exit.then])
    refine bodyPost_ret (ret_two rfl _ _ _ _ rfl (row_new2 _ _ _ _) rfl) rfl ?_
    rw [hR]
    have HBX : ∀ (o1 o2 : Obj), Below w.heap.size w ((w.alloc o1).alloc o2) := fun o1 o2 => (below_one _ _).alloc (by simp) _
    exact ⟨_, _, _, rfl, ⟨(HIN.out _ (HBX _ _)).files, (HIN.out _ (HBX _ _)).base, (HIN.out _ (HBX _ _)).wait, HFF0.out, HFB0.out, HFW0.out⟩, HBX _ _⟩
  · cases tn
    · have hR := HCW.out 8 (by decide) (by rw [HWY.out]; exact if_pos (.inr rfl))
      go_enter Try.func44, Try.ntmps44
      go_wp2_with fail
      refine (HNM.out _).mono ?_
      rintro e x1 ⟨rfl, rfl⟩
      go_wp2_with fail
      refine (HTN.out _).mono ?_
      rintro e x1 ⟨rfl, rfl⟩
      go_wp2_with fail
      (try simp only [Exit.inBlock, Exit.then])
      refine bodyPost_ret (ret_two rfl _ _ _ _ rfl (row_new2 _ _ _ _) rfl) rfl ?_
      rw [hR]
      have HBX : ∀ (o1 o2 : Obj), Below w.heap.size w ((w.alloc o1).alloc o2) := fun o1 o2 => (below_one _ _).alloc (by simp) _
      exact ⟨_, _, _, rfl, ⟨(HIN.out _ (HBX _ _)).files, (HIN.out _ (HBX _ _)).base, (HIN.out _ (HBX _ _)).wait, HFF0.out, HFB0.out, HFW0.out⟩, HBX _ _⟩
    · go_enter Try.func44, Try.ntmps44
      go_wp2_with fail
      refine (HNM.out _).mono ?_
      rintro e x1 ⟨rfl, rfl⟩
      go_wp2_with fail
      refine (HTN.out _).mono ?_
      rintro e x1 ⟨rfl, rfl⟩
      go_wp2_with fail
      refine (HLV.out _ HB2.out).mono ?_
      rintro e w2 ⟨v2, rfl, hE2, hfr2, hb2⟩
      have HFR2 := Lib.hid hfr2
      clear hfr2
      obtain ⟨P2, c2, hv2, _, hP2⟩ := ents_at hE2
      have HB3 := Lib.hid (HB2.out.trans (hb2.mono HB2.out.size))
      have HR02 := Lib.hid (row_move HZ0.out (hb2.block _ HZ0.out.lt))
      have HR12 := Lib.hid (row_move HZ1.out (hb2.block _ HZ1.out.lt))
      have HAT := Lib.hid (at_ref hE2 (by omega) name)
      have HE2 := Lib.hid hE2
      have HP2 := Lib.hid hP2
      rw [hv2] at HAT
      clear hE2 hb2 hP2
      subst hv2
      have HAV := Lib.hid (show atV L (strL name) = (match whose L (strL name) with | some f => (f : Int) | none => -1) from rfl)
      have HWS := Lib.hid (fun n => (whose_some (n := strL name) (f := n) HLR.out).1)
      generalize atV L (strL name) = av at *
      generalize hwh : whose L (strL name) = wh at *
      cases wh
      · have hav : av = -1 := HAV.out
        subst hav
        have hR := HCW.out 9 (by decide) (by rw [HWY.out]; exact (if_neg (by simp)).trans (if_pos rfl))
        go_wp2_with fail
        refine HAT.out.mono ?_
        rintro e x3 ⟨rfl, rfl⟩
        have a0 : w2.cell? ⟨w.heap.size, 0, none⟩ = some (.int .i64 (room : Int)) := (HR02.out.cell 0).trans rfl
        have d0 := HR02.out.frozen 0
        have yb0 : w2.cell? ⟨w.heap.size + 1, 0, none⟩ = some (.int .i64 0) := (HR12.out.cell 0).trans rfl
        have f0 := HR12.out.frozen 0
        have a1 : w2.cell? ⟨w.heap.size, 1, none⟩ = some (.slice Pf files.length cf) := (HR02.out.cell 1).trans rfl
        have d1 := HR02.out.frozen 1
        have yb1 : w2.cell? ⟨w.heap.size + 1, 1, none⟩ = some (.slice none 0 0) := (HR12.out.cell 1).trans rfl
        have f1 := HR12.out.frozen 1
        have a2 : w2.cell? ⟨w.heap.size, 2, none⟩ = some (.slice Pb nb cb) := (HR02.out.cell 2).trans rfl
        have d2 := HR02.out.frozen 2
        have yb2 : w2.cell? ⟨w.heap.size + 1, 2, none⟩ = some (.slice none 0 0) := (HR12.out.cell 2).trans rfl
        have f2 := HR12.out.frozen 2
        have a3 : w2.cell? ⟨w.heap.size, 3, none⟩ = some (.slice Pw nw cw) := (HR02.out.cell 3).trans rfl
        have d3 := HR02.out.frozen 3
        have yb3 : w2.cell? ⟨w.heap.size + 1, 3, none⟩ = some (.slice none 0 0) := (HR12.out.cell 3).trans rfl
        have f3 := HR12.out.frozen 3
        have a4 : w2.cell? ⟨w.heap.size, 4, none⟩ = some (.int .i64 left) := (HR02.out.cell 4).trans rfl
        have d4 := HR02.out.frozen 4
        have yb4 : w2.cell? ⟨w.heap.size + 1, 4, none⟩ = some (.int .i64 0) := (HR12.out.cell 4).trans rfl
        have f4 := HR12.out.frozen 4
        have a5 : w2.cell? ⟨w.heap.size, 5, none⟩ = some (.bool dark) := (HR02.out.cell 5).trans rfl
        have d5 := HR02.out.frozen 5
        have yb5 : w2.cell? ⟨w.heap.size + 1, 5, none⟩ = some (.bool false) := (HR12.out.cell 5).trans rfl
        have f5 := HR12.out.frozen 5
        have a6 : w2.cell? ⟨w.heap.size, 6, none⟩ = some (.int .i64 (count : Int)) := (HR02.out.cell 6).trans rfl
        have d6 := HR02.out.frozen 6
        have yb6 : w2.cell? ⟨w.heap.size + 1, 6, none⟩ = some (.int .i64 0) := (HR12.out.cell 6).trans rfl
        have f6 := HR12.out.frozen 6
        go_wp2_with fail
        (try simp only [Exit.inBlock, Exit.then])
        refine bodyPost_ret (ret_two rfl _ _ _ _ rfl (put7_row HR12.out _ _ _ _ _ _ _) rfl) rfl ?_
        rw [hR]
        exact ch_out (d := ⟨room, files, base, wait, left, dark, count⟩) (fun x hx => ⟨(HIN.out x hx).files, (HIN.out x hx).base, (HIN.out x hx).wait, (HIN.out x hx).ff, (HIN.out x hx).fb, (HIN.out x hx).fw⟩) HB3.out (by omega)
      · rename_i n
        have hav : av = (n : Int) := HAV.out
        subst hav
        have q1 : decide ((n : Int) < 0) = false := decide_eq_false (by omega)
        have hnf : n < files.length := HLI.out _ (HWS.out n rfl)
        go_wp2_with fail
        refine HAT.out.mono ?_
        rintro e x3 ⟨rfl, rfl⟩
        have hok : wy = 0 := by rw [HWY.out]; exact (if_neg (by simp)).trans (if_neg (by simp))
        go_wp2_with fail
        go_loopw [14, 15] (fun a i wr => ∃ k : Nat, k ≤ L.length ∧ i = .int .i64 (k : Int) ∧ a = .int .i64 (((L.take k).map bat).sum : Int) ∧ Below w2.heap.size w2 wr) (fun _ i _ => L.length - (intOf i).toNat)
        case atStart => exact ⟨0, Nat.zero_le _, rfl, rfl, Below.refl _ _⟩
        case round =>
          obtain ⟨k, hk, rfl, rfl, hb⟩ := hrel
          have HBB := Lib.hid hb
          have HBW := Lib.hid (HB3.out.trans (hb.mono HB3.out.size))
          have hr0 := HR02.out.below hb HR02.out.lt
          have z1 : wr.cell? ⟨w.heap.size, 1, none⟩ = some (.slice Pf files.length cf) := (hr0.cell 1).trans rfl
          by_cases hlt : k < L.length
          · obtain ⟨gL, rfl, _, hgL, _, l1⟩ := HP2.out k hlt
            have l1' := (hb.cell (p := ⟨gL, k * 2 + 1, none⟩) hgL).trans l1
            have hmem : L.getD k ⟨[], 0⟩ ∈ L := by
              rw [List.getD_eq_getElem?_getD, List.getElem?_eq_getElem hlt]
              exact List.getElem_mem hlt
            have hyf := HLI.out _ hmem
            have hsum : ((L.take (k + 1)).map bat).sum = ((L.take k).map bat).sum + bat (L.getD k ⟨[], 0⟩) := by
              rw [List.take_succ_eq_append_getElem hlt, List.map_append, List.sum_append]
              simp [List.getD, List.getElem?_eq_getElem hlt]
            have ht1 := HTOT.out (k + 1)
            rw [HBY.out] at hsum
            generalize L.getD k ⟨[], 0⟩ = y at *
            obtain ⟨yn, yf⟩ := y
            simp only at hyf l1' hsum
            obtain ⟨Pf', cf', hf', _, hPf⟩ := HFA.out wr HBW.out
            have e1' := Value.slice.inj hf'
            obtain ⟨gF, A2, cA, g1, _, g3, f0, f1, f2, f3⟩ := hPf yf hyf
            rw [← e1'.1] at g1
            subst g1
            try simp only at hsum f0
            rw [hsum] at ht1
            generalize (files.getD yf fil0).b.length = n9 at *
            have HSUM := Lib.hid hsum
            generalize ((L.take k).map bat).sum = sm at *
            have i1 : (k : Int) < (L.length : Int) := by omega
            have i2 : (yf : Int) < (files.length : Int) := by omega
            have o1 : IntKind.i64.wrap ((sm : Int) + (n9 : Int)) = (sm : Int) + (n9 : Int) := IntWalk.i64_in _ (by omega)
            clear hb hr0 l1 hmem hyf hsum hPf hf' e1' f1 f2 f3
            go_wp2_with fail
            go_quiet (fail)
            go_wp2
            go_roundw
            case rel => exact ⟨k + 1, by omega, by go_num, by rw [HSUM.out]; go_num, HBB.out.trans (drawn _ _ _)⟩
            case measure => simp [intOf]; omega
          · obtain rfl : k = L.length := by omega
            have hr1 := HR12.out.below hb HR12.out.lt
            have htt := HTOT.out L.length
            rw [HALL.out] at htt ⊢
            have HQ0 := Lib.hid hr0
            have HQ1 := Lib.hid hr1
            have HSTP := Lib.hid (HST.out wr HBW.out)
            clear hb hr0 hr1 z1
            have z0 : wr.cell? ⟨w.heap.size, 0, none⟩ = some (.int .i64 (room : Int)) := (HQ0.out.cell 0).trans rfl
            have z1 : wr.cell? ⟨w.heap.size, 1, none⟩ = some (.slice Pf files.length cf) := (HQ0.out.cell 1).trans rfl
            have z2 : wr.cell? ⟨w.heap.size, 2, none⟩ = some (.slice Pb nb cb) := (HQ0.out.cell 2).trans rfl
            have z3 : wr.cell? ⟨w.heap.size, 3, none⟩ = some (.slice Pw nw cw) := (HQ0.out.cell 3).trans rfl
            have z4 : wr.cell? ⟨w.heap.size, 4, none⟩ = some (.int .i64 left) := (HQ0.out.cell 4).trans rfl
            have z5 : wr.cell? ⟨w.heap.size, 5, none⟩ = some (.bool dark) := (HQ0.out.cell 5).trans rfl
            have z6 : wr.cell? ⟨w.heap.size, 6, none⟩ = some (.int .i64 (count : Int)) := (HQ0.out.cell 6).trans rfl
            go_wp2_with fail
            refine HSTP.out.mono ?_
            rintro e w4 ⟨rfl, hb4⟩
            have HB4 := Lib.hid (HBW.out.trans (hb4.mono HBW.out.size))
            have HD4 := Lib.hid (HQ0.out.below hb4 HQ0.out.lt)
            have HD5 := Lib.hid (HQ1.out.below hb4 HQ1.out.lt)
            have HBB4 := Lib.hid (HBB.out.trans (hb4.mono HBB.out.size))
            clear z0 z1 z2 z3 z4 z5 z6 hb4
            have z0 : w4.cell? ⟨w.heap.size, 0, none⟩ = some (.int .i64 (room : Int)) := (HD4.out.cell 0).trans rfl
            have z1 : w4.cell? ⟨w.heap.size, 1, none⟩ = some (.slice Pf files.length cf) := (HD4.out.cell 1).trans rfl
            have z2 : w4.cell? ⟨w.heap.size, 2, none⟩ = some (.slice Pb nb cb) := (HD4.out.cell 2).trans rfl
            have z3 : w4.cell? ⟨w.heap.size, 3, none⟩ = some (.slice Pw nw cw) := (HD4.out.cell 3).trans rfl
            have z4 : w4.cell? ⟨w.heap.size, 4, none⟩ = some (.int .i64 left) := (HD4.out.cell 4).trans rfl
            have z5 : w4.cell? ⟨w.heap.size, 5, none⟩ = some (.bool dark) := (HD4.out.cell 5).trans rfl
            have z6 : w4.cell? ⟨w.heap.size, 6, none⟩ = some (.int .i64 (count : Int)) := (HD4.out.cell 6).trans rfl
            have q10 := HD4.out.frozen 0
            have q11 := HD4.out.frozen 1
            have q12 := HD4.out.frozen 2
            have q13 := HD4.out.frozen 3
            have q14 := HD4.out.frozen 4
            have q15 := HD4.out.frozen 5
            have q16 := HD4.out.frozen 6
            have HRW := Lib.hid (show Row (((((((w4.setCell ⟨w.heap.size, 0, none⟩ (.int .i64 (room : Int))).setCell ⟨w.heap.size, 1, none⟩ (.slice Pf files.length cf)).setCell ⟨w.heap.size, 2, none⟩ (.slice Pb nb cb)).setCell ⟨w.heap.size, 3, none⟩ (.slice Pw nw cw)).setCell ⟨w.heap.size, 4, none⟩ (.int .i64 l1)).setCell ⟨w.heap.size, 5, none⟩ (.bool k1)).setCell ⟨w.heap.size, 6, none⟩ (.int .i64 (c1 : Int))) w.heap.size 31 #[.int .i64 (room : Int), .slice Pf files.length cf, .slice Pb nb cb, .slice Pw nw cw, .int .i64 l1, .bool k1, .int .i64 (c1 : Int)] from put7_row HD4.out _ _ _ _ _ _ _)
            have HK7 := Lib.hid (show Kept (fun j => j = w.heap.size) w4 (((((((w4.setCell ⟨w.heap.size, 0, none⟩ (.int .i64 (room : Int))).setCell ⟨w.heap.size, 1, none⟩ (.slice Pf files.length cf)).setCell ⟨w.heap.size, 2, none⟩ (.slice Pb nb cb)).setCell ⟨w.heap.size, 3, none⟩ (.slice Pw nw cw)).setCell ⟨w.heap.size, 4, none⟩ (.int .i64 l1)).setCell ⟨w.heap.size, 5, none⟩ (.bool k1)).setCell ⟨w.heap.size, 6, none⟩ (.int .i64 (c1 : Int))) from put7_kept _ _ _ _ _ _ _ _ _)
            have HRX := Lib.hid (row_move HD5.out (HK7.out.block _ HD5.out.lt (by omega)))
            have HB5 := Lib.hid (HB4.out.trans (HK7.out.to_below (fun k hk => by omega) HB4.out.size))
            by_cases he : e1 = 0
            · subst he
              have HR5 := Lib.hid (HCD.out hok rfl)
              go_upto_region 21 with fail
              clear z0 z1 z2 z3 z4 z5 z6 q10 q11 q12 q13 q14 q15 q16 HK7 HD4 HD5
              generalize (((((((w4.setCell ⟨w.heap.size, 0, none⟩ (.int .i64 (room : Int))).setCell ⟨w.heap.size, 1, none⟩ (.slice Pf files.length cf)).setCell ⟨w.heap.size, 2, none⟩ (.slice Pb nb cb)).setCell ⟨w.heap.size, 3, none⟩ (.slice Pw nw cw)).setCell ⟨w.heap.size, 4, none⟩ (.int .i64 l1)).setCell ⟨w.heap.size, 5, none⟩ (.bool k1)).setCell ⟨w.heap.size, 6, none⟩ (.int .i64 (c1 : Int))) = w5 at *
              have z1 : w5.cell? ⟨w.heap.size, 1, none⟩ = some (.slice Pf files.length cf) := (HRW.out.cell 1).trans rfl
              have z3 : w5.cell? ⟨w.heap.size, 3, none⟩ = some (.slice Pw nw cw) := (HRW.out.cell 3).trans rfl
              have z11 : (w5.alloc (.cells #[] 122)).cell? ⟨w.heap.size, 1, none⟩ = some (.slice Pf files.length cf) := ((HRW.out.alloc _).cell 1).trans rfl
              go_wp2_with (first
                | (at_builtin
                   refine app_filesP rfl (.tmp 107) (.tmp 109) rfl rfl _ files rfl T (HIN.out w5 HB5.out).files (by omega) ?_
                   intro v6 w6 fl hfe hFO hfb hb6
                   obtain ⟨P6, c6, hv6, _, _⟩ := rows_at hFO.row
                   have hfn : fl.length = files.length := by rw [← hfe, List.length_map]
                   have HFO := Lib.hid hFO
                   have HFE := Lib.hid hfe
                   have HFN := Lib.hid hfn
                   have HFB := Lib.hid hfb
                   have hr6 := row_move HRW.out (hb6.block _ HRW.out.lt)
                   have y3 : (w6.alloc (.cells #[] 127)).cell? ⟨w.heap.size, 3, none⟩ = some (.slice Pw nw cw) := ((hr6.alloc _).cell 3).trans rfl
                   have y33 : w6.cell? ⟨w.heap.size, 3, none⟩ = some (.slice Pw nw cw) := (hr6.cell 3).trans rfl
                   have HR6 := Lib.hid hr6
                   have HX6 := Lib.hid (row_move HRX.out (hb6.block _ HRX.out.lt))
                   have HB6 := Lib.hid (HB5.out.trans (hb6.mono HB5.out.size))
                   have HB56 := Lib.hid hb6
                   rw [hfn] at hv6
                   clear hFO hb6 hfe hfb hr6 z1 z3 z11 hfn
                   subst hv6)
                | (at_builtin
                   refine app_steps rfl (.tmp 111) (.tmp 113) rfl rfl _ wait rfl (HIN.out w6 HB6.out).wait (by omega) ?_
                   intro v7 w7 hS7 hb7
                   obtain ⟨P7, c7, hv7, _, _⟩ := rows_at hS7
                   have HS7 := Lib.hid hS7
                   have HR7 := Lib.hid (row_move HR6.out (hb7.block _ HR6.out.lt))
                   have HX7 := Lib.hid (row_move HX6.out (hb7.block _ HX6.out.lt))
                   have HB7 := Lib.hid (HB6.out.trans (hb7.mono HB6.out.size))
                   have HB67 := Lib.hid hb7
                   clear hS7 hb7 y3 y33
                   rw [hnw] at hv7
                   subst hv7)
                | (at_builtin
                   refine app_step1 rfl (.tmp 146) (.tmp 150) rfl w6.heap.size _ wait rfl HS7.out (.move (strL name) (strL to)) (.int .i64 2) (.string name) (.string to) (.int .i64 0) (by simp only [stepC, txt_strL] <;> rfl) 1 rfl (by omega) HB67.out.size ?_
                   intro v8 w8 hS8 hb8
                   obtain ⟨P8, c8, hv8, _, _⟩ := rows_at hS8
                   have HS8 := Lib.hid hS8
                   have HR8 := Lib.hid (row_move HR7.out (hb8.block _ HR6.out.lt))
                   have HX8 := Lib.hid (row_move HX7.out (hb8.block _ HX6.out.lt))
                   have HB68 := Lib.hid (HB67.out.trans hb8)
                   have HB8 := Lib.hid (HB6.out.trans (HB68.out.mono HB6.out.size))
                   rw [List.length_append, List.length_singleton, hnw] at hv8
                   clear hS8 hb8
                   subst hv8
                   have a0 : w8.cell? ⟨w.heap.size, 0, none⟩ = some (.int .i64 (room : Int)) := (HR8.out.cell 0).trans rfl
                   have yb0 : w8.cell? ⟨w.heap.size + 1, 0, none⟩ = some (.int .i64 0) := (HX8.out.cell 0).trans rfl
                   have d0 := HR8.out.frozen 0
                   have f0 := HX8.out.frozen 0
                   have a1 : w8.cell? ⟨w.heap.size, 1, none⟩ = some (.slice Pf files.length cf) := (HR8.out.cell 1).trans rfl
                   have yb1 : w8.cell? ⟨w.heap.size + 1, 1, none⟩ = some (.slice none 0 0) := (HX8.out.cell 1).trans rfl
                   have d1 := HR8.out.frozen 1
                   have f1 := HX8.out.frozen 1
                   have a2 : w8.cell? ⟨w.heap.size, 2, none⟩ = some (.slice Pb nb cb) := (HR8.out.cell 2).trans rfl
                   have yb2 : w8.cell? ⟨w.heap.size + 1, 2, none⟩ = some (.slice none 0 0) := (HX8.out.cell 2).trans rfl
                   have d2 := HR8.out.frozen 2
                   have f2 := HX8.out.frozen 2
                   have a3 : w8.cell? ⟨w.heap.size, 3, none⟩ = some (.slice Pw nw cw) := (HR8.out.cell 3).trans rfl
                   have yb3 : w8.cell? ⟨w.heap.size + 1, 3, none⟩ = some (.slice none 0 0) := (HX8.out.cell 3).trans rfl
                   have d3 := HR8.out.frozen 3
                   have f3 := HX8.out.frozen 3
                   have a4 : w8.cell? ⟨w.heap.size, 4, none⟩ = some (.int .i64 l1) := (HR8.out.cell 4).trans rfl
                   have yb4 : w8.cell? ⟨w.heap.size + 1, 4, none⟩ = some (.int .i64 0) := (HX8.out.cell 4).trans rfl
                   have d4 := HR8.out.frozen 4
                   have f4 := HX8.out.frozen 4
                   have a5 : w8.cell? ⟨w.heap.size, 5, none⟩ = some (.bool k1) := (HR8.out.cell 5).trans rfl
                   have yb5 : w8.cell? ⟨w.heap.size + 1, 5, none⟩ = some (.bool false) := (HX8.out.cell 5).trans rfl
                   have d5 := HR8.out.frozen 5
                   have f5 := HX8.out.frozen 5
                   have a6 : w8.cell? ⟨w.heap.size, 6, none⟩ = some (.int .i64 (c1 : Int)) := (HR8.out.cell 6).trans rfl
                   have yb6 : w8.cell? ⟨w.heap.size + 1, 6, none⟩ = some (.int .i64 0) := (HX8.out.cell 6).trans rfl
                   have d6 := HR8.out.frozen 6
                   have f6 := HX8.out.frozen 6))
              have hR' : R = (⟨room, files, base, wait ++ [.move (strL name) (strL to)], l1, k1, c1⟩, 0) := by rw [HR5.out]; rfl
              have HFF : FilesT T w8 (.slice P6 files.length c6) files := by have := (HFO.out.below HB68.out).filesT (fun x hx => (HFB.out x hx).2); rwa [HFE.out] at this
              have HS9 := rows_lower HS8.out (Nat.zero_le _)
              have KX := (((Kept.refl (fun j => j = w.heap.size) w8).set (p := ⟨w.heap.size, 1, none⟩) (.inl rfl) (.slice P6 files.length c6)).set (p := ⟨w.heap.size, 3, none⟩) (.inl rfl) (.slice P8 (nw + 1) c8))
              have HIN9 : RefT T _ (.slice P6 files.length c6) (.slice Pb nb cb) (.slice P8 (nw + 1) c8) ⟨room, files, base, wait ++ [.move (strL name) (strL to)], l1, k1, c1⟩ := reft_store (d := ⟨room, files, base, wait ++ [.move (strL name) (strL to)], l1, k1, c1⟩) ⟨HFF, (HIN.out w8 HB8.out).base, (show StepsR w8 0 _ (wait ++ [.move (strL name) (strL to)]) from HS9), far_own HFO.out.row HTT.out HB5.out.size, HFB0.out, far_own HS8.out HTT.out HB6.out.size⟩ HR8.out (dsk_bytes ⟨_, rfl⟩ ⟨_, _, _, rfl⟩ ⟨_, _, _, rfl⟩ ⟨_, _, _, rfl⟩ ⟨_, rfl⟩ ⟨_, rfl⟩ ⟨_, rfl⟩) KX
              have HY9 := row_move HX8.out (KX.block _ HX8.out.lt (by omega))
              have HB9 := HB8.out.trans (KX.to_below (fun k hk => by omega) HB8.out.size)
              (try simp only [Exit.inBlock, Exit.then])
              refine bodyPost_ret (ret_two rfl _ _ _ _ rfl (put7_row HY9 _ _ _ _ _ _ _) rfl) rfl ?_
              rw [hR']
              exact ch_end HIN9 HY9 (dsk_bytes ⟨_, rfl⟩ ⟨_, _, _, rfl⟩ ⟨_, _, _, rfl⟩ ⟨_, _, _, rfl⟩ ⟨_, rfl⟩ ⟨_, rfl⟩ ⟨_, rfl⟩) HB9 (by omega)
            · have hR := HCP.out hok he
              have j1 : (e1 != 0) = true := bne_iff_ne.2 he
              have j2 : (e1 == 0) = false := beq_eq_false_iff_ne.2 he
              go_upto_region 20 with fail
              clear z0 z1 z2 z3 z4 z5 z6 q10 q11 q12 q13 q14 q15 q16 HK7 HD4 HD5
              generalize (((((((w4.setCell ⟨w.heap.size, 0, none⟩ (.int .i64 (room : Int))).setCell ⟨w.heap.size, 1, none⟩ (.slice Pf files.length cf)).setCell ⟨w.heap.size, 2, none⟩ (.slice Pb nb cb)).setCell ⟨w.heap.size, 3, none⟩ (.slice Pw nw cw)).setCell ⟨w.heap.size, 4, none⟩ (.int .i64 l1)).setCell ⟨w.heap.size, 5, none⟩ (.bool k1)).setCell ⟨w.heap.size, 6, none⟩ (.int .i64 (c1 : Int))) = w5 at *
              have a0 : w5.cell? ⟨w.heap.size, 0, none⟩ = some (.int .i64 (room : Int)) := (HRW.out.cell 0).trans rfl
              have d0 := HRW.out.frozen 0
              have yb0 : w5.cell? ⟨w.heap.size + 1, 0, none⟩ = some (.int .i64 0) := (HRX.out.cell 0).trans rfl
              have f0 := HRX.out.frozen 0
              have a1 : w5.cell? ⟨w.heap.size, 1, none⟩ = some (.slice Pf files.length cf) := (HRW.out.cell 1).trans rfl
              have d1 := HRW.out.frozen 1
              have yb1 : w5.cell? ⟨w.heap.size + 1, 1, none⟩ = some (.slice none 0 0) := (HRX.out.cell 1).trans rfl
              have f1 := HRX.out.frozen 1
              have a2 : w5.cell? ⟨w.heap.size, 2, none⟩ = some (.slice Pb nb cb) := (HRW.out.cell 2).trans rfl
              have d2 := HRW.out.frozen 2
              have yb2 : w5.cell? ⟨w.heap.size + 1, 2, none⟩ = some (.slice none 0 0) := (HRX.out.cell 2).trans rfl
              have f2 := HRX.out.frozen 2
              have a3 : w5.cell? ⟨w.heap.size, 3, none⟩ = some (.slice Pw nw cw) := (HRW.out.cell 3).trans rfl
              have d3 := HRW.out.frozen 3
              have yb3 : w5.cell? ⟨w.heap.size + 1, 3, none⟩ = some (.slice none 0 0) := (HRX.out.cell 3).trans rfl
              have f3 := HRX.out.frozen 3
              have a4 : w5.cell? ⟨w.heap.size, 4, none⟩ = some (.int .i64 l1) := (HRW.out.cell 4).trans rfl
              have d4 := HRW.out.frozen 4
              have yb4 : w5.cell? ⟨w.heap.size + 1, 4, none⟩ = some (.int .i64 0) := (HRX.out.cell 4).trans rfl
              have f4 := HRX.out.frozen 4
              have a5 : w5.cell? ⟨w.heap.size, 5, none⟩ = some (.bool k1) := (HRW.out.cell 5).trans rfl
              have d5 := HRW.out.frozen 5
              have yb5 : w5.cell? ⟨w.heap.size + 1, 5, none⟩ = some (.bool false) := (HRX.out.cell 5).trans rfl
              have f5 := HRX.out.frozen 5
              have a6 : w5.cell? ⟨w.heap.size, 6, none⟩ = some (.int .i64 (c1 : Int)) := (HRW.out.cell 6).trans rfl
              have d6 := HRW.out.frozen 6
              have yb6 : w5.cell? ⟨w.heap.size + 1, 6, none⟩ = some (.int .i64 0) := (HRX.out.cell 6).trans rfl
              have f6 := HRX.out.frozen 6
              go_wp2_with fail
              (try simp only [Exit.inBlock, Exit.then])
              refine bodyPost_ret (ret_two rfl _ _ _ _ rfl (put7_row HRX.out _ _ _ _ _ _ _) rfl) rfl ?_
              rw [hR]
              exact ch_out (d := ⟨room, files, base, wait, l1, k1, c1⟩) (fun x hx => ⟨(HIN.out x hx).files, (HIN.out x hx).base, (HIN.out x hx).wait, (HIN.out x hx).ff, (HIN.out x hx).fb, (HIN.out x hx).fw⟩) HB5.out (by omega)
end Go.Proofs.Ytiepepikbophmaa

namespace Go.Proofs.Ytiepepikbophmaa
open Go.RowKit Go.Maps
set_option linter.unusedVariables false

set_option maxRecDepth 20000 in
set_option maxHeartbeats 4000000 in
theorem change_ref4 {T : Nat → Prop} {w : World} {fv bv wv : Value} {d : Dsk} (h : RefT T w fv bv wv d) (hT : ∀ i, T i → i < w.heap.size) (hF : Fine d) (hM : Met d) (hwl : d.wait.length ≤ 100000) (hfl : d.files.length ≤ 100000) (hcl : d.left ≤ 9223372036854775807) (hcc : d.count ≤ 1000000)
    (name to : ByteArray) (hns : name.size ≤ 281474976710656) (hts : to.size ≤ 281474976710656) (A : Option Addr) (b : List UInt8) (bc : Nat) (hb : Bys w A b) (hbl : b.length ≤ 140737488355328) :
    Calls Try.prog 44 #[.agg (refC d fv bv wv).toArray, .int .i64 4, .string name, .string to, .slice A b.length bc] w (ChTold T w (change d 4 (strL name) (strL to) b)) := by
  have hB1 := below_one w (.cells (refC d fv bv wv).toArray 31)
  have hB2 := (hB1).alloc (B := w.heap.size) hB1.size (.cells #[.int .i64 0, .slice none 0 0, .slice none 0 0, .slice none 0 0, .int .i64 0, .bool false, .int .i64 0] 31)
  have hR0 := (Row.new w 31 (refC d fv bv wv).toArray).alloc (.cells #[.int .i64 0, .slice none 0 0, .slice none 0 0, .slice none 0 0, .int .i64 0, .bool false, .int .i64 0] 31)
  have hR1 := row_new2 w (.cells (refC d fv bv wv).toArray 31) 31 #[.int .i64 0, .slice none 0 0, .slice none 0 0, .slice none 0 0, .int .i64 0, .bool false, .int .i64 0]
  obtain ⟨⟨Pf, cf, hfv⟩, ⟨Pb, cb, hbv⟩, ⟨Pw, cw, hwv⟩⟩ := ref_forms h.in_
  have HLV := Lib.hid (fun (x : World) (hb : Below w.heap.size w x) => liveT_ref (h.below hb).in_ hF hM hwl (fun i hi => Nat.lt_of_lt_of_le (hT i hi) hb.size) h.fb)
  have HTT := Lib.hid hT
  have HFB0 := Lib.hid h.fb
  have HFF0 := Lib.hid h.ff
  have HFW0 := Lib.hid h.fw
  have HST := Lib.hid (fun (x : World) (hb : Below w.heap.size w x) => step_ref (w := x) (h.below hb).in_ ⟨hF.left, hcl⟩ hcc)
  have HIN := Lib.hid (fun (x : World) (hb : Below w.heap.size w x) => h.below hb)
  have HFA := Lib.hid (fun (x : World) (hb : Below w.heap.size w x) => files_at (h.below hb).in_.files)
  have HBB0 := Lib.hid (fun (x : World) (hx : Below w.heap.size w x) => hb.below hx)
  have HNM := Lib.hid (fun (x : World) => named_ref name x hns)
  have HTN := Lib.hid (fun (x : World) => named_ref to x hts)
  have hfew := hF.live_few
  have HLI := Lib.hid (fun x hx => (hF.live_in x hx).1)
  have HLR := Lib.hid hF.live_rises
  have HWY := Lib.hid (why4 d (strL name) (strL to) b)
  have HCW := Lib.hid (fun E (hE : E ≠ 0) (hw : whyNot d 4 (strL name) (strL to) b = E) => ch_why hw hE)
  have HCP := Lib.hid (fun (hw : whyNot d 4 (strL name) (strL to) b = 0) (hp : (power d).2 ≠ 0) => ch_power hw hp)
  have HCD := Lib.hid (fun (hw : whyNot d 4 (strL name) (strL to) b = 0) (hp : (power d).2 = 0) => ch_done hw hp)
  have HSM := Lib.hid (show ∀ n, (d.files.getD n fil0).b.length ≤ 4194304 from fun n => by have := hF.small n; have := hF.room.2; omega)
  have HTOT := Lib.hid (show ∀ k, (((live d).take k).map (bytesAt d)).sum ≤ 268435456 from fun k => by
    refine Nat.le_trans (sum_le _ 4194304 ?_) ?_
    · intro z hz
      obtain ⟨y, _, rfl⟩ := List.mem_map.1 hz
      have := hF.small y.file
      have := hF.room.2
      unfold bytesAt
      omega
    · rw [List.length_map, List.length_take]
      omega)
  have HALL := Lib.hid (show (((live d).take (live d).length).map (bytesAt d)).sum = total d by rw [List.take_length]; rfl)
  have HRM := Lib.hid hF.room.2
  have HLP := Lib.hid (live_power d)
  have HPK : d.files = (power d).1.files ∧ d.base = (power d).1.base ∧ d.wait = (power d).1.wait ∧ d.room = (power d).1.room := by
    unfold power
    split <;> exact ⟨rfl, rfl, rfl, rfl⟩
  have HWL := Lib.hid hwl
  clear h hF hM hB1 hwl hcl hcc hb hns hts hT
  generalize change d 4 (strL name) (strL to) b = R at *
  generalize whyNot d 4 (strL name) (strL to) b = wy at *
  generalize total d = tt at *
  generalize hlv : live d = L at *
  have HBY := Lib.hid (show ∀ y, bytesAt d y = (d.files.getD y.file fil0).b.length from fun y => rfl)
  generalize bytesAt d = bat at *
  generalize power d = pd at *
  obtain ⟨room, files, base, wait, left, dark, count⟩ := d
  obtain ⟨⟨r1, f1, b1, w1, l1, k1, c1⟩, e1⟩ := pd
  simp only at HPK
  obtain ⟨rfl, rfl, rfl, rfl⟩ := HPK
  simp only at hwv hbv hfv HLI hfl HFA HIN HST HCP HCD HCW HRM HWL HSM HBY
  simp only [refC] at HLV HST hR0 hR1 hB2 ⊢
  clear hlv
  generalize hnb : base.length = nb at hbv
  generalize hnw : wait.length = nw at hwv
  subst hwv
  subst hbv
  subst hfv
  have HZ0 := Lib.hid hR0
  have HZ1 := Lib.hid hR1
  have HB2 := Lib.hid hB2
  clear hR0 hR1 hB2 hnb
  have hnw2 := HWL.out
  generalize namedB (strL name) = nm at *
  cases nm
  · have hR := HCW.out 8 (by decide) (by rw [HWY.out]; exact if_pos rfl)
    go_enter Try.func44, Try.ntmps44
    go_wp2_with (first | (go_at_call 80; refine (HNM.out _).mono ?_; rintro e x1 ⟨rfl, rfl⟩))
    (try simp only [Exit.inBlock, Exit.then])
    refine bodyPost_ret (ret_two rfl _ _ _ _ rfl (row_new2 _ _ _ _) rfl) rfl ?_
    rw [hR]
    have HBX : ∀ (o1 o2 : Obj), Below w.heap.size w ((w.alloc o1).alloc o2) := fun o1 o2 => (below_one _ _).alloc (by simp) _
    exact ⟨_, _, _, rfl, ⟨(HIN.out _ (HBX _ _)).files, (HIN.out _ (HBX _ _)).base, (HIN.out _ (HBX _ _)).wait, HFF0.out, HFB0.out, HFW0.out⟩, HBX _ _⟩
  · go_enter Try.func44, Try.ntmps44
    go_wp2_with fail
    refine (HNM.out _).mono ?_
    rintro e x1 ⟨rfl, rfl⟩
    go_wp2_with fail
    refine (HLV.out _ HB2.out).mono ?_
    rintro e w2 ⟨v2, rfl, hE2, hfr2, hb2⟩
    have HFR2 := Lib.hid hfr2
    clear hfr2
    obtain ⟨P2, c2, hv2, _, hP2⟩ := ents_at hE2
    have HB3 := Lib.hid (HB2.out.trans (hb2.mono HB2.out.size))
    have HR02 := Lib.hid (row_move HZ0.out (hb2.block _ HZ0.out.lt))
    have HR12 := Lib.hid (row_move HZ1.out (hb2.block _ HZ1.out.lt))
    have HAT := Lib.hid (at_ref hE2 (by omega) name)
    have HE2 := Lib.hid hE2
    have HP2 := Lib.hid hP2
    rw [hv2] at HAT
    clear hE2 hb2 hP2
    subst hv2
    have HAV := Lib.hid (show atV L (strL name) = (match whose L (strL name) with | some f => (f : Int) | none => -1) from rfl)
    have HWS := Lib.hid (fun n => (whose_some (n := strL name) (f := n) HLR.out).1)
    generalize atV L (strL name) = av at *
    generalize hwh : whose L (strL name) = wh at *
    cases wh
    · have hav : av = -1 := HAV.out
      subst hav
      have hR := HCW.out 9 (by decide) (by rw [HWY.out]; exact (if_neg (by simp)).trans (if_pos rfl))
      go_wp2_with fail
      refine HAT.out.mono ?_
      rintro e x3 ⟨rfl, rfl⟩
      have a0 : w2.cell? ⟨w.heap.size, 0, none⟩ = some (.int .i64 (room : Int)) := (HR02.out.cell 0).trans rfl
      have d0 := HR02.out.frozen 0
      have yb0 : w2.cell? ⟨w.heap.size + 1, 0, none⟩ = some (.int .i64 0) := (HR12.out.cell 0).trans rfl
      have f0 := HR12.out.frozen 0
      have a1 : w2.cell? ⟨w.heap.size, 1, none⟩ = some (.slice Pf files.length cf) := (HR02.out.cell 1).trans rfl
      have d1 := HR02.out.frozen 1
      have yb1 : w2.cell? ⟨w.heap.size + 1, 1, none⟩ = some (.slice none 0 0) := (HR12.out.cell 1).trans rfl
      have f1 := HR12.out.frozen 1
      have a2 : w2.cell? ⟨w.heap.size, 2, none⟩ = some (.slice Pb nb cb) := (HR02.out.cell 2).trans rfl
      have d2 := HR02.out.frozen 2
      have yb2 : w2.cell? ⟨w.heap.size + 1, 2, none⟩ = some (.slice none 0 0) := (HR12.out.cell 2).trans rfl
      have f2 := HR12.out.frozen 2
      have a3 : w2.cell? ⟨w.heap.size, 3, none⟩ = some (.slice Pw nw cw) := (HR02.out.cell 3).trans rfl
      have d3 := HR02.out.frozen 3
      have yb3 : w2.cell? ⟨w.heap.size + 1, 3, none⟩ = some (.slice none 0 0) := (HR12.out.cell 3).trans rfl
      have f3 := HR12.out.frozen 3
      have a4 : w2.cell? ⟨w.heap.size, 4, none⟩ = some (.int .i64 left) := (HR02.out.cell 4).trans rfl
      have d4 := HR02.out.frozen 4
      have yb4 : w2.cell? ⟨w.heap.size + 1, 4, none⟩ = some (.int .i64 0) := (HR12.out.cell 4).trans rfl
      have f4 := HR12.out.frozen 4
      have a5 : w2.cell? ⟨w.heap.size, 5, none⟩ = some (.bool dark) := (HR02.out.cell 5).trans rfl
      have d5 := HR02.out.frozen 5
      have yb5 : w2.cell? ⟨w.heap.size + 1, 5, none⟩ = some (.bool false) := (HR12.out.cell 5).trans rfl
      have f5 := HR12.out.frozen 5
      have a6 : w2.cell? ⟨w.heap.size, 6, none⟩ = some (.int .i64 (count : Int)) := (HR02.out.cell 6).trans rfl
      have d6 := HR02.out.frozen 6
      have yb6 : w2.cell? ⟨w.heap.size + 1, 6, none⟩ = some (.int .i64 0) := (HR12.out.cell 6).trans rfl
      have f6 := HR12.out.frozen 6
      go_wp2_with fail
      (try simp only [Exit.inBlock, Exit.then])
      refine bodyPost_ret (ret_two rfl _ _ _ _ rfl (put7_row HR12.out _ _ _ _ _ _ _) rfl) rfl ?_
      rw [hR]
      exact ch_out (d := ⟨room, files, base, wait, left, dark, count⟩) (fun x hx => ⟨(HIN.out x hx).files, (HIN.out x hx).base, (HIN.out x hx).wait, (HIN.out x hx).ff, (HIN.out x hx).fb, (HIN.out x hx).fw⟩) HB3.out (by omega)
    · rename_i n
      have hav : av = (n : Int) := HAV.out
      subst hav
      have q1 : decide ((n : Int) < 0) = false := decide_eq_false (by omega)
      have hnf : n < files.length := HLI.out _ (HWS.out n rfl)
      go_wp2_with fail
      refine HAT.out.mono ?_
      rintro e x3 ⟨rfl, rfl⟩
      have hok : wy = 0 := by rw [HWY.out]; exact (if_neg (by simp)).trans (if_neg (by simp))
      go_wp2_with fail
      go_loopw [14, 15] (fun a i wr => ∃ k : Nat, k ≤ L.length ∧ i = .int .i64 (k : Int) ∧ a = .int .i64 (((L.take k).map bat).sum : Int) ∧ Below w2.heap.size w2 wr) (fun _ i _ => L.length - (intOf i).toNat)
      case atStart => exact ⟨0, Nat.zero_le _, rfl, rfl, Below.refl _ _⟩
      case round =>
        obtain ⟨k, hk, rfl, rfl, hb⟩ := hrel
        have HBB := Lib.hid hb
        have HBW := Lib.hid (HB3.out.trans (hb.mono HB3.out.size))
        have hr0 := HR02.out.below hb HR02.out.lt
        have z1 : wr.cell? ⟨w.heap.size, 1, none⟩ = some (.slice Pf files.length cf) := (hr0.cell 1).trans rfl
        by_cases hlt : k < L.length
        · obtain ⟨gL, rfl, _, hgL, _, l1⟩ := HP2.out k hlt
          have l1' := (hb.cell (p := ⟨gL, k * 2 + 1, none⟩) hgL).trans l1
          have hmem : L.getD k ⟨[], 0⟩ ∈ L := by
            rw [List.getD_eq_getElem?_getD, List.getElem?_eq_getElem hlt]
            exact List.getElem_mem hlt
          have hyf := HLI.out _ hmem
          have hsum : ((L.take (k + 1)).map bat).sum = ((L.take k).map bat).sum + bat (L.getD k ⟨[], 0⟩) := by
            rw [List.take_succ_eq_append_getElem hlt, List.map_append, List.sum_append]
            simp [List.getD, List.getElem?_eq_getElem hlt]
          have ht1 := HTOT.out (k + 1)
          rw [HBY.out] at hsum
          generalize L.getD k ⟨[], 0⟩ = y at *
          obtain ⟨yn, yf⟩ := y
          simp only at hyf l1' hsum
          obtain ⟨Pf', cf', hf', _, hPf⟩ := HFA.out wr HBW.out
          have e1' := Value.slice.inj hf'
          obtain ⟨gF, A2, cA, g1, _, g3, f0, f1, f2, f3⟩ := hPf yf hyf
          rw [← e1'.1] at g1
          subst g1
          try simp only at hsum f0
          rw [hsum] at ht1
          generalize (files.getD yf fil0).b.length = n9 at *
          have HSUM := Lib.hid hsum
          generalize ((L.take k).map bat).sum = sm at *
          have i1 : (k : Int) < (L.length : Int) := by omega
          have i2 : (yf : Int) < (files.length : Int) := by omega
          have o1 : IntKind.i64.wrap ((sm : Int) + (n9 : Int)) = (sm : Int) + (n9 : Int) := IntWalk.i64_in _ (by omega)
          clear hb hr0 l1 hmem hyf hsum hPf hf' e1' f1 f2 f3
          go_wp2_with fail
          go_quiet (fail)
          go_wp2
          go_roundw
          case rel => exact ⟨k + 1, by omega, by go_num, by rw [HSUM.out]; go_num, HBB.out.trans (drawn _ _ _)⟩
          case measure => simp [intOf]; omega
        · obtain rfl : k = L.length := by omega
          have hr1 := HR12.out.below hb HR12.out.lt
          have htt := HTOT.out L.length
          rw [HALL.out] at htt ⊢
          have HQ0 := Lib.hid hr0
          have HQ1 := Lib.hid hr1
          have HSTP := Lib.hid (HST.out wr HBW.out)
          clear hb hr0 hr1 z1
          have z0 : wr.cell? ⟨w.heap.size, 0, none⟩ = some (.int .i64 (room : Int)) := (HQ0.out.cell 0).trans rfl
          have z1 : wr.cell? ⟨w.heap.size, 1, none⟩ = some (.slice Pf files.length cf) := (HQ0.out.cell 1).trans rfl
          have z2 : wr.cell? ⟨w.heap.size, 2, none⟩ = some (.slice Pb nb cb) := (HQ0.out.cell 2).trans rfl
          have z3 : wr.cell? ⟨w.heap.size, 3, none⟩ = some (.slice Pw nw cw) := (HQ0.out.cell 3).trans rfl
          have z4 : wr.cell? ⟨w.heap.size, 4, none⟩ = some (.int .i64 left) := (HQ0.out.cell 4).trans rfl
          have z5 : wr.cell? ⟨w.heap.size, 5, none⟩ = some (.bool dark) := (HQ0.out.cell 5).trans rfl
          have z6 : wr.cell? ⟨w.heap.size, 6, none⟩ = some (.int .i64 (count : Int)) := (HQ0.out.cell 6).trans rfl
          go_wp2_with fail
          refine HSTP.out.mono ?_
          rintro e w4 ⟨rfl, hb4⟩
          have HB4 := Lib.hid (HBW.out.trans (hb4.mono HBW.out.size))
          have HD4 := Lib.hid (HQ0.out.below hb4 HQ0.out.lt)
          have HD5 := Lib.hid (HQ1.out.below hb4 HQ1.out.lt)
          have HBB4 := Lib.hid (HBB.out.trans (hb4.mono HBB.out.size))
          clear z0 z1 z2 z3 z4 z5 z6 hb4
          have z0 : w4.cell? ⟨w.heap.size, 0, none⟩ = some (.int .i64 (room : Int)) := (HD4.out.cell 0).trans rfl
          have z1 : w4.cell? ⟨w.heap.size, 1, none⟩ = some (.slice Pf files.length cf) := (HD4.out.cell 1).trans rfl
          have z2 : w4.cell? ⟨w.heap.size, 2, none⟩ = some (.slice Pb nb cb) := (HD4.out.cell 2).trans rfl
          have z3 : w4.cell? ⟨w.heap.size, 3, none⟩ = some (.slice Pw nw cw) := (HD4.out.cell 3).trans rfl
          have z4 : w4.cell? ⟨w.heap.size, 4, none⟩ = some (.int .i64 left) := (HD4.out.cell 4).trans rfl
          have z5 : w4.cell? ⟨w.heap.size, 5, none⟩ = some (.bool dark) := (HD4.out.cell 5).trans rfl
          have z6 : w4.cell? ⟨w.heap.size, 6, none⟩ = some (.int .i64 (count : Int)) := (HD4.out.cell 6).trans rfl
          have q10 := HD4.out.frozen 0
          have q11 := HD4.out.frozen 1
          have q12 := HD4.out.frozen 2
          have q13 := HD4.out.frozen 3
          have q14 := HD4.out.frozen 4
          have q15 := HD4.out.frozen 5
          have q16 := HD4.out.frozen 6
          have HRW := Lib.hid (show Row (((((((w4.setCell ⟨w.heap.size, 0, none⟩ (.int .i64 (room : Int))).setCell ⟨w.heap.size, 1, none⟩ (.slice Pf files.length cf)).setCell ⟨w.heap.size, 2, none⟩ (.slice Pb nb cb)).setCell ⟨w.heap.size, 3, none⟩ (.slice Pw nw cw)).setCell ⟨w.heap.size, 4, none⟩ (.int .i64 l1)).setCell ⟨w.heap.size, 5, none⟩ (.bool k1)).setCell ⟨w.heap.size, 6, none⟩ (.int .i64 (c1 : Int))) w.heap.size 31 #[.int .i64 (room : Int), .slice Pf files.length cf, .slice Pb nb cb, .slice Pw nw cw, .int .i64 l1, .bool k1, .int .i64 (c1 : Int)] from put7_row HD4.out _ _ _ _ _ _ _)
          have HK7 := Lib.hid (show Kept (fun j => j = w.heap.size) w4 (((((((w4.setCell ⟨w.heap.size, 0, none⟩ (.int .i64 (room : Int))).setCell ⟨w.heap.size, 1, none⟩ (.slice Pf files.length cf)).setCell ⟨w.heap.size, 2, none⟩ (.slice Pb nb cb)).setCell ⟨w.heap.size, 3, none⟩ (.slice Pw nw cw)).setCell ⟨w.heap.size, 4, none⟩ (.int .i64 l1)).setCell ⟨w.heap.size, 5, none⟩ (.bool k1)).setCell ⟨w.heap.size, 6, none⟩ (.int .i64 (c1 : Int))) from put7_kept _ _ _ _ _ _ _ _ _)
          have HRX := Lib.hid (row_move HD5.out (HK7.out.block _ HD5.out.lt (by omega)))
          have HB5 := Lib.hid (HB4.out.trans (HK7.out.to_below (fun k hk => by omega) HB4.out.size))
          by_cases he : e1 = 0
          · subst he
            have HR5 := Lib.hid (HCD.out hok rfl)
            go_upto_region 21 with fail
            clear z0 z1 z2 z3 z4 z5 z6 q10 q11 q12 q13 q14 q15 q16 HK7 HD4 HD5
            generalize (((((((w4.setCell ⟨w.heap.size, 0, none⟩ (.int .i64 (room : Int))).setCell ⟨w.heap.size, 1, none⟩ (.slice Pf files.length cf)).setCell ⟨w.heap.size, 2, none⟩ (.slice Pb nb cb)).setCell ⟨w.heap.size, 3, none⟩ (.slice Pw nw cw)).setCell ⟨w.heap.size, 4, none⟩ (.int .i64 l1)).setCell ⟨w.heap.size, 5, none⟩ (.bool k1)).setCell ⟨w.heap.size, 6, none⟩ (.int .i64 (c1 : Int))) = w5 at *
            have z1 : w5.cell? ⟨w.heap.size, 1, none⟩ = some (.slice Pf files.length cf) := (HRW.out.cell 1).trans rfl
            have z3 : w5.cell? ⟨w.heap.size, 3, none⟩ = some (.slice Pw nw cw) := (HRW.out.cell 3).trans rfl
            have z11 : (w5.alloc (.cells #[] 122)).cell? ⟨w.heap.size, 1, none⟩ = some (.slice Pf files.length cf) := ((HRW.out.alloc _).cell 1).trans rfl
            go_wp2_with (first
              | (at_builtin
                 refine app_filesP rfl (.tmp 107) (.tmp 109) rfl rfl _ files rfl T (HIN.out w5 HB5.out).files (by omega) ?_
                 intro v6 w6 fl hfe hFO hfb hb6
                 obtain ⟨P6, c6, hv6, _, _⟩ := rows_at hFO.row
                 have hfn : fl.length = files.length := by rw [← hfe, List.length_map]
                 have HFO := Lib.hid hFO
                 have HFE := Lib.hid hfe
                 have HFN := Lib.hid hfn
                 have HFB := Lib.hid hfb
                 have hr6 := row_move HRW.out (hb6.block _ HRW.out.lt)
                 have y3 : (w6.alloc (.cells #[] 127)).cell? ⟨w.heap.size, 3, none⟩ = some (.slice Pw nw cw) := ((hr6.alloc _).cell 3).trans rfl
                 have y33 : w6.cell? ⟨w.heap.size, 3, none⟩ = some (.slice Pw nw cw) := (hr6.cell 3).trans rfl
                 have HR6 := Lib.hid hr6
                 have HX6 := Lib.hid (row_move HRX.out (hb6.block _ HRX.out.lt))
                 have HB6 := Lib.hid (HB5.out.trans (hb6.mono HB5.out.size))
                 have HB56 := Lib.hid hb6
                 rw [hfn] at hv6
                 clear hFO hb6 hfe hfb hr6 z1 z3 z11 hfn
                 subst hv6)
              | (at_builtin
                 refine app_steps rfl (.tmp 111) (.tmp 113) rfl rfl _ wait rfl (HIN.out w6 HB6.out).wait (by omega) ?_
                 intro v7 w7 hS7 hb7
                 obtain ⟨P7, c7, hv7, _, _⟩ := rows_at hS7
                 have HS7 := Lib.hid hS7
                 have HR7 := Lib.hid (row_move HR6.out (hb7.block _ HR6.out.lt))
                 have HX7 := Lib.hid (row_move HX6.out (hb7.block _ HX6.out.lt))
                 have HB7 := Lib.hid (HB6.out.trans (hb7.mono HB6.out.size))
                 have HB67 := Lib.hid hb7
                 clear hS7 hb7 y3 y33
                 rw [hnw] at hv7
                 subst hv7)
              | (at_builtin
                 refine app_step1 rfl (.tmp 154) (.tmp 157) rfl w6.heap.size _ wait rfl HS7.out (.take (strL name)) (.int .i64 3) (.string name) (.string ByteArray.empty) (.int .i64 0) (by simp only [stepC, txt_strL] <;> rfl) 1 rfl (by omega) HB67.out.size ?_
                 intro v8 w8 hS8 hb8
                 obtain ⟨P8, c8, hv8, _, _⟩ := rows_at hS8
                 have HS8 := Lib.hid hS8
                 have HR8 := Lib.hid (row_move HR7.out (hb8.block _ HR6.out.lt))
                 have HX8 := Lib.hid (row_move HX7.out (hb8.block _ HX6.out.lt))
                 have HB68 := Lib.hid (HB67.out.trans hb8)
                 have HB8 := Lib.hid (HB6.out.trans (HB68.out.mono HB6.out.size))
                 rw [List.length_append, List.length_singleton, hnw] at hv8
                 clear hS8 hb8
                 subst hv8
                 have a0 : w8.cell? ⟨w.heap.size, 0, none⟩ = some (.int .i64 (room : Int)) := (HR8.out.cell 0).trans rfl
                 have yb0 : w8.cell? ⟨w.heap.size + 1, 0, none⟩ = some (.int .i64 0) := (HX8.out.cell 0).trans rfl
                 have d0 := HR8.out.frozen 0
                 have f0 := HX8.out.frozen 0
                 have a1 : w8.cell? ⟨w.heap.size, 1, none⟩ = some (.slice Pf files.length cf) := (HR8.out.cell 1).trans rfl
                 have yb1 : w8.cell? ⟨w.heap.size + 1, 1, none⟩ = some (.slice none 0 0) := (HX8.out.cell 1).trans rfl
                 have d1 := HR8.out.frozen 1
                 have f1 := HX8.out.frozen 1
                 have a2 : w8.cell? ⟨w.heap.size, 2, none⟩ = some (.slice Pb nb cb) := (HR8.out.cell 2).trans rfl
                 have yb2 : w8.cell? ⟨w.heap.size + 1, 2, none⟩ = some (.slice none 0 0) := (HX8.out.cell 2).trans rfl
                 have d2 := HR8.out.frozen 2
                 have f2 := HX8.out.frozen 2
                 have a3 : w8.cell? ⟨w.heap.size, 3, none⟩ = some (.slice Pw nw cw) := (HR8.out.cell 3).trans rfl
                 have yb3 : w8.cell? ⟨w.heap.size + 1, 3, none⟩ = some (.slice none 0 0) := (HX8.out.cell 3).trans rfl
                 have d3 := HR8.out.frozen 3
                 have f3 := HX8.out.frozen 3
                 have a4 : w8.cell? ⟨w.heap.size, 4, none⟩ = some (.int .i64 l1) := (HR8.out.cell 4).trans rfl
                 have yb4 : w8.cell? ⟨w.heap.size + 1, 4, none⟩ = some (.int .i64 0) := (HX8.out.cell 4).trans rfl
                 have d4 := HR8.out.frozen 4
                 have f4 := HX8.out.frozen 4
                 have a5 : w8.cell? ⟨w.heap.size, 5, none⟩ = some (.bool k1) := (HR8.out.cell 5).trans rfl
                 have yb5 : w8.cell? ⟨w.heap.size + 1, 5, none⟩ = some (.bool false) := (HX8.out.cell 5).trans rfl
                 have d5 := HR8.out.frozen 5
                 have f5 := HX8.out.frozen 5
                 have a6 : w8.cell? ⟨w.heap.size, 6, none⟩ = some (.int .i64 (c1 : Int)) := (HR8.out.cell 6).trans rfl
                 have yb6 : w8.cell? ⟨w.heap.size + 1, 6, none⟩ = some (.int .i64 0) := (HX8.out.cell 6).trans rfl
                 have d6 := HR8.out.frozen 6
                 have f6 := HX8.out.frozen 6))
            have hR' : R = (⟨room, files, base, wait ++ [.take (strL name)], l1, k1, c1⟩, 0) := by rw [HR5.out]; rfl
            have HFF : FilesT T w8 (.slice P6 files.length c6) files := by have := (HFO.out.below HB68.out).filesT (fun x hx => (HFB.out x hx).2); rwa [HFE.out] at this
            have HS9 := rows_lower HS8.out (Nat.zero_le _)
            have KX := (((Kept.refl (fun j => j = w.heap.size) w8).set (p := ⟨w.heap.size, 1, none⟩) (.inl rfl) (.slice P6 files.length c6)).set (p := ⟨w.heap.size, 3, none⟩) (.inl rfl) (.slice P8 (nw + 1) c8))
            have HIN9 : RefT T _ (.slice P6 files.length c6) (.slice Pb nb cb) (.slice P8 (nw + 1) c8) ⟨room, files, base, wait ++ [.take (strL name)], l1, k1, c1⟩ := reft_store (d := ⟨room, files, base, wait ++ [.take (strL name)], l1, k1, c1⟩) ⟨HFF, (HIN.out w8 HB8.out).base, (show StepsR w8 0 _ (wait ++ [.take (strL name)]) from HS9), far_own HFO.out.row HTT.out HB5.out.size, HFB0.out, far_own HS8.out HTT.out HB6.out.size⟩ HR8.out (dsk_bytes ⟨_, rfl⟩ ⟨_, _, _, rfl⟩ ⟨_, _, _, rfl⟩ ⟨_, _, _, rfl⟩ ⟨_, rfl⟩ ⟨_, rfl⟩ ⟨_, rfl⟩) KX
            have HY9 := row_move HX8.out (KX.block _ HX8.out.lt (by omega))
            have HB9 := HB8.out.trans (KX.to_below (fun k hk => by omega) HB8.out.size)
            (try simp only [Exit.inBlock, Exit.then])
            refine bodyPost_ret (ret_two rfl _ _ _ _ rfl (put7_row HY9 _ _ _ _ _ _ _) rfl) rfl ?_
            rw [hR']
            exact ch_end HIN9 HY9 (dsk_bytes ⟨_, rfl⟩ ⟨_, _, _, rfl⟩ ⟨_, _, _, rfl⟩ ⟨_, _, _, rfl⟩ ⟨_, rfl⟩ ⟨_, rfl⟩ ⟨_, rfl⟩) HB9 (by omega)
          · have hR := HCP.out hok he
            have j1 : (e1 != 0) = true := bne_iff_ne.2 he
            have j2 : (e1 == 0) = false := beq_eq_false_iff_ne.2 he
            go_upto_region 20 with fail
            clear z0 z1 z2 z3 z4 z5 z6 q10 q11 q12 q13 q14 q15 q16 HK7 HD4 HD5
            generalize (((((((w4.setCell ⟨w.heap.size, 0, none⟩ (.int .i64 (room : Int))).setCell ⟨w.heap.size, 1, none⟩ (.slice Pf files.length cf)).setCell ⟨w.heap.size, 2, none⟩ (.slice Pb nb cb)).setCell ⟨w.heap.size, 3, none⟩ (.slice Pw nw cw)).setCell ⟨w.heap.size, 4, none⟩ (.int .i64 l1)).setCell ⟨w.heap.size, 5, none⟩ (.bool k1)).setCell ⟨w.heap.size, 6, none⟩ (.int .i64 (c1 : Int))) = w5 at *
            have a0 : w5.cell? ⟨w.heap.size, 0, none⟩ = some (.int .i64 (room : Int)) := (HRW.out.cell 0).trans rfl
            have d0 := HRW.out.frozen 0
            have yb0 : w5.cell? ⟨w.heap.size + 1, 0, none⟩ = some (.int .i64 0) := (HRX.out.cell 0).trans rfl
            have f0 := HRX.out.frozen 0
            have a1 : w5.cell? ⟨w.heap.size, 1, none⟩ = some (.slice Pf files.length cf) := (HRW.out.cell 1).trans rfl
            have d1 := HRW.out.frozen 1
            have yb1 : w5.cell? ⟨w.heap.size + 1, 1, none⟩ = some (.slice none 0 0) := (HRX.out.cell 1).trans rfl
            have f1 := HRX.out.frozen 1
            have a2 : w5.cell? ⟨w.heap.size, 2, none⟩ = some (.slice Pb nb cb) := (HRW.out.cell 2).trans rfl
            have d2 := HRW.out.frozen 2
            have yb2 : w5.cell? ⟨w.heap.size + 1, 2, none⟩ = some (.slice none 0 0) := (HRX.out.cell 2).trans rfl
            have f2 := HRX.out.frozen 2
            have a3 : w5.cell? ⟨w.heap.size, 3, none⟩ = some (.slice Pw nw cw) := (HRW.out.cell 3).trans rfl
            have d3 := HRW.out.frozen 3
            have yb3 : w5.cell? ⟨w.heap.size + 1, 3, none⟩ = some (.slice none 0 0) := (HRX.out.cell 3).trans rfl
            have f3 := HRX.out.frozen 3
            have a4 : w5.cell? ⟨w.heap.size, 4, none⟩ = some (.int .i64 l1) := (HRW.out.cell 4).trans rfl
            have d4 := HRW.out.frozen 4
            have yb4 : w5.cell? ⟨w.heap.size + 1, 4, none⟩ = some (.int .i64 0) := (HRX.out.cell 4).trans rfl
            have f4 := HRX.out.frozen 4
            have a5 : w5.cell? ⟨w.heap.size, 5, none⟩ = some (.bool k1) := (HRW.out.cell 5).trans rfl
            have d5 := HRW.out.frozen 5
            have yb5 : w5.cell? ⟨w.heap.size + 1, 5, none⟩ = some (.bool false) := (HRX.out.cell 5).trans rfl
            have f5 := HRX.out.frozen 5
            have a6 : w5.cell? ⟨w.heap.size, 6, none⟩ = some (.int .i64 (c1 : Int)) := (HRW.out.cell 6).trans rfl
            have d6 := HRW.out.frozen 6
            have yb6 : w5.cell? ⟨w.heap.size + 1, 6, none⟩ = some (.int .i64 0) := (HRX.out.cell 6).trans rfl
            have f6 := HRX.out.frozen 6
            go_wp2_with fail
            (try simp only [Exit.inBlock, Exit.then])
            refine bodyPost_ret (ret_two rfl _ _ _ _ rfl (put7_row HRX.out _ _ _ _ _ _ _) rfl) rfl ?_
            rw [hR]
            exact ch_out (d := ⟨room, files, base, wait, l1, k1, c1⟩) (fun x hx => ⟨(HIN.out x hx).files, (HIN.out x hx).base, (HIN.out x hx).wait, (HIN.out x hx).ff, (HIN.out x hx).fb, (HIN.out x hx).fw⟩) HB5.out (by omega)
end Go.Proofs.Ytiepepikbophmaa

namespace Go.Proofs.Ytiepepikbophmaa
open Go.RowKit Go.Maps
set_option linter.unusedVariables false

set_option maxRecDepth 20000 in
set_option maxHeartbeats 4000000 in
theorem change_ref5 {T : Nat → Prop} {w : World} {fv bv wv : Value} {d : Dsk} (h : RefT T w fv bv wv d) (hT : ∀ i, T i → i < w.heap.size) (hF : Fine d) (hM : Met d) (hwl : d.wait.length ≤ 100000) (hfl : d.files.length ≤ 100000) (hcl : d.left ≤ 9223372036854775807) (hcc : d.count ≤ 1000000)
    (name to : ByteArray) (hns : name.size ≤ 281474976710656) (hts : to.size ≤ 281474976710656) (A : Option Addr) (b : List UInt8) (bc : Nat) (hb : Bys w A b) (hbl : b.length ≤ 140737488355328) :
    Calls Try.prog 44 #[.agg (refC d fv bv wv).toArray, .int .i64 5, .string name, .string to, .slice A b.length bc] w (ChTold T w (change d 5 (strL name) (strL to) b)) := by
  have hB1 := below_one w (.cells (refC d fv bv wv).toArray 31)
  have hB2 := (hB1).alloc (B := w.heap.size) hB1.size (.cells #[.int .i64 0, .slice none 0 0, .slice none 0 0, .slice none 0 0, .int .i64 0, .bool false, .int .i64 0] 31)
  have hR0 := (Row.new w 31 (refC d fv bv wv).toArray).alloc (.cells #[.int .i64 0, .slice none 0 0, .slice none 0 0, .slice none 0 0, .int .i64 0, .bool false, .int .i64 0] 31)
  have hR1 := row_new2 w (.cells (refC d fv bv wv).toArray 31) 31 #[.int .i64 0, .slice none 0 0, .slice none 0 0, .slice none 0 0, .int .i64 0, .bool false, .int .i64 0]
  obtain ⟨⟨Pf, cf, hfv⟩, ⟨Pb, cb, hbv⟩, ⟨Pw, cw, hwv⟩⟩ := ref_forms h.in_
  have HLV := Lib.hid (fun (x : World) (hb : Below w.heap.size w x) => liveT_ref (h.below hb).in_ hF hM hwl (fun i hi => Nat.lt_of_lt_of_le (hT i hi) hb.size) h.fb)
  have HTT := Lib.hid hT
  have HFB0 := Lib.hid h.fb
  have HFF0 := Lib.hid h.ff
  have HFW0 := Lib.hid h.fw
  have HST := Lib.hid (fun (x : World) (hb : Below w.heap.size w x) => step_ref (w := x) (h.below hb).in_ ⟨hF.left, hcl⟩ hcc)
  have HIN := Lib.hid (fun (x : World) (hb : Below w.heap.size w x) => h.below hb)
  have HFA := Lib.hid (fun (x : World) (hb : Below w.heap.size w x) => files_at (h.below hb).in_.files)
  have HBB0 := Lib.hid (fun (x : World) (hx : Below w.heap.size w x) => hb.below hx)
  have HNM := Lib.hid (fun (x : World) => named_ref name x hns)
  have HTN := Lib.hid (fun (x : World) => named_ref to x hts)
  have hfew := hF.live_few
  have HLI := Lib.hid (fun x hx => (hF.live_in x hx).1)
  have HLR := Lib.hid hF.live_rises
  have HWY := Lib.hid (why5 d (strL name) (strL to) b)
  have HCW := Lib.hid (fun E (hE : E ≠ 0) (hw : whyNot d 5 (strL name) (strL to) b = E) => ch_why hw hE)
  have HCP := Lib.hid (fun (hw : whyNot d 5 (strL name) (strL to) b = 0) (hp : (power d).2 ≠ 0) => ch_power hw hp)
  have HCD := Lib.hid (fun (hw : whyNot d 5 (strL name) (strL to) b = 0) (hp : (power d).2 = 0) => ch_done hw hp)
  have HSM := Lib.hid (show ∀ n, (d.files.getD n fil0).b.length ≤ 4194304 from fun n => by have := hF.small n; have := hF.room.2; omega)
  have HTOT := Lib.hid (show ∀ k, (((live d).take k).map (bytesAt d)).sum ≤ 268435456 from fun k => by
    refine Nat.le_trans (sum_le _ 4194304 ?_) ?_
    · intro z hz
      obtain ⟨y, _, rfl⟩ := List.mem_map.1 hz
      have := hF.small y.file
      have := hF.room.2
      unfold bytesAt
      omega
    · rw [List.length_map, List.length_take]
      omega)
  have HALL := Lib.hid (show (((live d).take (live d).length).map (bytesAt d)).sum = total d by rw [List.take_length]; rfl)
  have HRM := Lib.hid hF.room.2
  have HLP := Lib.hid (live_power d)
  have HPK : d.files = (power d).1.files ∧ d.base = (power d).1.base ∧ d.wait = (power d).1.wait ∧ d.room = (power d).1.room := by
    unfold power
    split <;> exact ⟨rfl, rfl, rfl, rfl⟩
  have HWL := Lib.hid hwl
  clear h hF hM hB1 hwl hcl hcc hb hns hts hT
  generalize change d 5 (strL name) (strL to) b = R at *
  generalize whyNot d 5 (strL name) (strL to) b = wy at *
  generalize total d = tt at *
  generalize hlv : live d = L at *
  have HBY := Lib.hid (show ∀ y, bytesAt d y = (d.files.getD y.file fil0).b.length from fun y => rfl)
  generalize bytesAt d = bat at *
  generalize power d = pd at *
  obtain ⟨room, files, base, wait, left, dark, count⟩ := d
  obtain ⟨⟨r1, f1, b1, w1, l1, k1, c1⟩, e1⟩ := pd
  simp only at HPK
  obtain ⟨rfl, rfl, rfl, rfl⟩ := HPK
  simp only at hwv hbv hfv HLI hfl HFA HIN HST HCP HCD HCW HRM HWL HSM HBY
  simp only [refC] at HLV HST hR0 hR1 hB2 ⊢
  clear hlv
  generalize hnb : base.length = nb at hbv
  generalize hnw : wait.length = nw at hwv
  subst hwv
  subst hbv
  subst hfv
  have HZ0 := Lib.hid hR0
  have HZ1 := Lib.hid hR1
  have HB2 := Lib.hid hB2
  clear hR0 hR1 hB2 hnb
  have hnw2 := HWL.out
  generalize namedB (strL name) = nm at *
  cases nm
  · have hR := HCW.out 8 (by decide) (by rw [HWY.out]; exact if_pos rfl)
    go_enter Try.func44, Try.ntmps44
    go_wp2_with (first | (go_at_call 80; refine (HNM.out _).mono ?_; rintro e x1 ⟨rfl, rfl⟩))
    (try simp only [Exit.inBlock, Exit.then])
    refine bodyPost_ret (ret_two rfl _ _ _ _ rfl (row_new2 _ _ _ _) rfl) rfl ?_
    rw [hR]
    have HBX : ∀ (o1 o2 : Obj), Below w.heap.size w ((w.alloc o1).alloc o2) := fun o1 o2 => (below_one _ _).alloc (by simp) _
    exact ⟨_, _, _, rfl, ⟨(HIN.out _ (HBX _ _)).files, (HIN.out _ (HBX _ _)).base, (HIN.out _ (HBX _ _)).wait, HFF0.out, HFB0.out, HFW0.out⟩, HBX _ _⟩
  · go_enter Try.func44, Try.ntmps44
    go_wp2_with fail
    refine (HNM.out _).mono ?_
    rintro e x1 ⟨rfl, rfl⟩
    go_wp2_with fail
    refine (HLV.out _ HB2.out).mono ?_
    rintro e w2 ⟨v2, rfl, hE2, hfr2, hb2⟩
    have HFR2 := Lib.hid hfr2
    clear hfr2
    obtain ⟨P2, c2, hv2, _, hP2⟩ := ents_at hE2
    have HB3 := Lib.hid (HB2.out.trans (hb2.mono HB2.out.size))
    have HR02 := Lib.hid (row_move HZ0.out (hb2.block _ HZ0.out.lt))
    have HR12 := Lib.hid (row_move HZ1.out (hb2.block _ HZ1.out.lt))
    have HAT := Lib.hid (at_ref hE2 (by omega) name)
    have HE2 := Lib.hid hE2
    have HP2 := Lib.hid hP2
    rw [hv2] at HAT
    clear hE2 hb2 hP2
    subst hv2
    have HAV := Lib.hid (show atV L (strL name) = (match whose L (strL name) with | some f => (f : Int) | none => -1) from rfl)
    have HWS := Lib.hid (fun n => (whose_some (n := strL name) (f := n) HLR.out).1)
    generalize atV L (strL name) = av at *
    generalize hwh : whose L (strL name) = wh at *
    cases wh
    · have hav : av = -1 := HAV.out
      subst hav
      have hR := HCW.out 9 (by decide) (by rw [HWY.out]; exact (if_neg (by simp)).trans (if_pos rfl))
      go_wp2_with fail
      refine HAT.out.mono ?_
      rintro e x3 ⟨rfl, rfl⟩
      have a0 : w2.cell? ⟨w.heap.size, 0, none⟩ = some (.int .i64 (room : Int)) := (HR02.out.cell 0).trans rfl
      have d0 := HR02.out.frozen 0
      have yb0 : w2.cell? ⟨w.heap.size + 1, 0, none⟩ = some (.int .i64 0) := (HR12.out.cell 0).trans rfl
      have f0 := HR12.out.frozen 0
      have a1 : w2.cell? ⟨w.heap.size, 1, none⟩ = some (.slice Pf files.length cf) := (HR02.out.cell 1).trans rfl
      have d1 := HR02.out.frozen 1
      have yb1 : w2.cell? ⟨w.heap.size + 1, 1, none⟩ = some (.slice none 0 0) := (HR12.out.cell 1).trans rfl
      have f1 := HR12.out.frozen 1
      have a2 : w2.cell? ⟨w.heap.size, 2, none⟩ = some (.slice Pb nb cb) := (HR02.out.cell 2).trans rfl
      have d2 := HR02.out.frozen 2
      have yb2 : w2.cell? ⟨w.heap.size + 1, 2, none⟩ = some (.slice none 0 0) := (HR12.out.cell 2).trans rfl
      have f2 := HR12.out.frozen 2
      have a3 : w2.cell? ⟨w.heap.size, 3, none⟩ = some (.slice Pw nw cw) := (HR02.out.cell 3).trans rfl
      have d3 := HR02.out.frozen 3
      have yb3 : w2.cell? ⟨w.heap.size + 1, 3, none⟩ = some (.slice none 0 0) := (HR12.out.cell 3).trans rfl
      have f3 := HR12.out.frozen 3
      have a4 : w2.cell? ⟨w.heap.size, 4, none⟩ = some (.int .i64 left) := (HR02.out.cell 4).trans rfl
      have d4 := HR02.out.frozen 4
      have yb4 : w2.cell? ⟨w.heap.size + 1, 4, none⟩ = some (.int .i64 0) := (HR12.out.cell 4).trans rfl
      have f4 := HR12.out.frozen 4
      have a5 : w2.cell? ⟨w.heap.size, 5, none⟩ = some (.bool dark) := (HR02.out.cell 5).trans rfl
      have d5 := HR02.out.frozen 5
      have yb5 : w2.cell? ⟨w.heap.size + 1, 5, none⟩ = some (.bool false) := (HR12.out.cell 5).trans rfl
      have f5 := HR12.out.frozen 5
      have a6 : w2.cell? ⟨w.heap.size, 6, none⟩ = some (.int .i64 (count : Int)) := (HR02.out.cell 6).trans rfl
      have d6 := HR02.out.frozen 6
      have yb6 : w2.cell? ⟨w.heap.size + 1, 6, none⟩ = some (.int .i64 0) := (HR12.out.cell 6).trans rfl
      have f6 := HR12.out.frozen 6
      go_wp2_with fail
      (try simp only [Exit.inBlock, Exit.then])
      refine bodyPost_ret (ret_two rfl _ _ _ _ rfl (put7_row HR12.out _ _ _ _ _ _ _) rfl) rfl ?_
      rw [hR]
      exact ch_out (d := ⟨room, files, base, wait, left, dark, count⟩) (fun x hx => ⟨(HIN.out x hx).files, (HIN.out x hx).base, (HIN.out x hx).wait, (HIN.out x hx).ff, (HIN.out x hx).fb, (HIN.out x hx).fw⟩) HB3.out (by omega)
    · rename_i n
      have hav : av = (n : Int) := HAV.out
      subst hav
      have q1 : decide ((n : Int) < 0) = false := decide_eq_false (by omega)
      have hnf : n < files.length := HLI.out _ (HWS.out n rfl)
      go_wp2_with fail
      refine HAT.out.mono ?_
      rintro e x3 ⟨rfl, rfl⟩
      have hok : wy = 0 := by rw [HWY.out]; exact (if_neg (by simp)).trans (if_neg (by simp))
      go_wp2_with fail
      go_loopw [14, 15] (fun a i wr => ∃ k : Nat, k ≤ L.length ∧ i = .int .i64 (k : Int) ∧ a = .int .i64 (((L.take k).map bat).sum : Int) ∧ Below w2.heap.size w2 wr) (fun _ i _ => L.length - (intOf i).toNat)
      case atStart => exact ⟨0, Nat.zero_le _, rfl, rfl, Below.refl _ _⟩
      case round =>
        obtain ⟨k, hk, rfl, rfl, hb⟩ := hrel
        have HBB := Lib.hid hb
        have HBW := Lib.hid (HB3.out.trans (hb.mono HB3.out.size))
        have hr0 := HR02.out.below hb HR02.out.lt
        have z1 : wr.cell? ⟨w.heap.size, 1, none⟩ = some (.slice Pf files.length cf) := (hr0.cell 1).trans rfl
        by_cases hlt : k < L.length
        · obtain ⟨gL, rfl, _, hgL, _, l1⟩ := HP2.out k hlt
          have l1' := (hb.cell (p := ⟨gL, k * 2 + 1, none⟩) hgL).trans l1
          have hmem : L.getD k ⟨[], 0⟩ ∈ L := by
            rw [List.getD_eq_getElem?_getD, List.getElem?_eq_getElem hlt]
            exact List.getElem_mem hlt
          have hyf := HLI.out _ hmem
          have hsum : ((L.take (k + 1)).map bat).sum = ((L.take k).map bat).sum + bat (L.getD k ⟨[], 0⟩) := by
            rw [List.take_succ_eq_append_getElem hlt, List.map_append, List.sum_append]
            simp [List.getD, List.getElem?_eq_getElem hlt]
          have ht1 := HTOT.out (k + 1)
          rw [HBY.out] at hsum
          generalize L.getD k ⟨[], 0⟩ = y at *
          obtain ⟨yn, yf⟩ := y
          simp only at hyf l1' hsum
          obtain ⟨Pf', cf', hf', _, hPf⟩ := HFA.out wr HBW.out
          have e1' := Value.slice.inj hf'
          obtain ⟨gF, A2, cA, g1, _, g3, f0, f1, f2, f3⟩ := hPf yf hyf
          rw [← e1'.1] at g1
          subst g1
          try simp only at hsum f0
          rw [hsum] at ht1
          generalize (files.getD yf fil0).b.length = n9 at *
          have HSUM := Lib.hid hsum
          generalize ((L.take k).map bat).sum = sm at *
          have i1 : (k : Int) < (L.length : Int) := by omega
          have i2 : (yf : Int) < (files.length : Int) := by omega
          have o1 : IntKind.i64.wrap ((sm : Int) + (n9 : Int)) = (sm : Int) + (n9 : Int) := IntWalk.i64_in _ (by omega)
          clear hb hr0 l1 hmem hyf hsum hPf hf' e1' f1 f2 f3
          go_wp2_with fail
          go_quiet (fail)
          go_wp2
          go_roundw
          case rel => exact ⟨k + 1, by omega, by go_num, by rw [HSUM.out]; go_num, HBB.out.trans (drawn _ _ _)⟩
          case measure => simp [intOf]; omega
        · obtain rfl : k = L.length := by omega
          have hr1 := HR12.out.below hb HR12.out.lt
          have htt := HTOT.out L.length
          rw [HALL.out] at htt ⊢
          have HQ0 := Lib.hid hr0
          have HQ1 := Lib.hid hr1
          have HSTP := Lib.hid (HST.out wr HBW.out)
          clear hb hr0 hr1 z1
          have z0 : wr.cell? ⟨w.heap.size, 0, none⟩ = some (.int .i64 (room : Int)) := (HQ0.out.cell 0).trans rfl
          have z1 : wr.cell? ⟨w.heap.size, 1, none⟩ = some (.slice Pf files.length cf) := (HQ0.out.cell 1).trans rfl
          have z2 : wr.cell? ⟨w.heap.size, 2, none⟩ = some (.slice Pb nb cb) := (HQ0.out.cell 2).trans rfl
          have z3 : wr.cell? ⟨w.heap.size, 3, none⟩ = some (.slice Pw nw cw) := (HQ0.out.cell 3).trans rfl
          have z4 : wr.cell? ⟨w.heap.size, 4, none⟩ = some (.int .i64 left) := (HQ0.out.cell 4).trans rfl
          have z5 : wr.cell? ⟨w.heap.size, 5, none⟩ = some (.bool dark) := (HQ0.out.cell 5).trans rfl
          have z6 : wr.cell? ⟨w.heap.size, 6, none⟩ = some (.int .i64 (count : Int)) := (HQ0.out.cell 6).trans rfl
          go_wp2_with fail
          refine HSTP.out.mono ?_
          rintro e w4 ⟨rfl, hb4⟩
          have HB4 := Lib.hid (HBW.out.trans (hb4.mono HBW.out.size))
          have HD4 := Lib.hid (HQ0.out.below hb4 HQ0.out.lt)
          have HD5 := Lib.hid (HQ1.out.below hb4 HQ1.out.lt)
          have HBB4 := Lib.hid (HBB.out.trans (hb4.mono HBB.out.size))
          clear z0 z1 z2 z3 z4 z5 z6 hb4
          have z0 : w4.cell? ⟨w.heap.size, 0, none⟩ = some (.int .i64 (room : Int)) := (HD4.out.cell 0).trans rfl
          have z1 : w4.cell? ⟨w.heap.size, 1, none⟩ = some (.slice Pf files.length cf) := (HD4.out.cell 1).trans rfl
          have z2 : w4.cell? ⟨w.heap.size, 2, none⟩ = some (.slice Pb nb cb) := (HD4.out.cell 2).trans rfl
          have z3 : w4.cell? ⟨w.heap.size, 3, none⟩ = some (.slice Pw nw cw) := (HD4.out.cell 3).trans rfl
          have z4 : w4.cell? ⟨w.heap.size, 4, none⟩ = some (.int .i64 left) := (HD4.out.cell 4).trans rfl
          have z5 : w4.cell? ⟨w.heap.size, 5, none⟩ = some (.bool dark) := (HD4.out.cell 5).trans rfl
          have z6 : w4.cell? ⟨w.heap.size, 6, none⟩ = some (.int .i64 (count : Int)) := (HD4.out.cell 6).trans rfl
          have q10 := HD4.out.frozen 0
          have q11 := HD4.out.frozen 1
          have q12 := HD4.out.frozen 2
          have q13 := HD4.out.frozen 3
          have q14 := HD4.out.frozen 4
          have q15 := HD4.out.frozen 5
          have q16 := HD4.out.frozen 6
          have HRW := Lib.hid (show Row (((((((w4.setCell ⟨w.heap.size, 0, none⟩ (.int .i64 (room : Int))).setCell ⟨w.heap.size, 1, none⟩ (.slice Pf files.length cf)).setCell ⟨w.heap.size, 2, none⟩ (.slice Pb nb cb)).setCell ⟨w.heap.size, 3, none⟩ (.slice Pw nw cw)).setCell ⟨w.heap.size, 4, none⟩ (.int .i64 l1)).setCell ⟨w.heap.size, 5, none⟩ (.bool k1)).setCell ⟨w.heap.size, 6, none⟩ (.int .i64 (c1 : Int))) w.heap.size 31 #[.int .i64 (room : Int), .slice Pf files.length cf, .slice Pb nb cb, .slice Pw nw cw, .int .i64 l1, .bool k1, .int .i64 (c1 : Int)] from put7_row HD4.out _ _ _ _ _ _ _)
          have HK7 := Lib.hid (show Kept (fun j => j = w.heap.size) w4 (((((((w4.setCell ⟨w.heap.size, 0, none⟩ (.int .i64 (room : Int))).setCell ⟨w.heap.size, 1, none⟩ (.slice Pf files.length cf)).setCell ⟨w.heap.size, 2, none⟩ (.slice Pb nb cb)).setCell ⟨w.heap.size, 3, none⟩ (.slice Pw nw cw)).setCell ⟨w.heap.size, 4, none⟩ (.int .i64 l1)).setCell ⟨w.heap.size, 5, none⟩ (.bool k1)).setCell ⟨w.heap.size, 6, none⟩ (.int .i64 (c1 : Int))) from put7_kept _ _ _ _ _ _ _ _ _)
          have HRX := Lib.hid (row_move HD5.out (HK7.out.block _ HD5.out.lt (by omega)))
          have HB5 := Lib.hid (HB4.out.trans (HK7.out.to_below (fun k hk => by omega) HB4.out.size))
          by_cases he : e1 = 0
          · subst he
            have HR5 := Lib.hid (HCD.out hok rfl)
            go_upto_region 21 with fail
            clear z0 z1 z2 z3 z4 z5 z6 q10 q11 q12 q13 q14 q15 q16 HK7 HD4 HD5
            generalize (((((((w4.setCell ⟨w.heap.size, 0, none⟩ (.int .i64 (room : Int))).setCell ⟨w.heap.size, 1, none⟩ (.slice Pf files.length cf)).setCell ⟨w.heap.size, 2, none⟩ (.slice Pb nb cb)).setCell ⟨w.heap.size, 3, none⟩ (.slice Pw nw cw)).setCell ⟨w.heap.size, 4, none⟩ (.int .i64 l1)).setCell ⟨w.heap.size, 5, none⟩ (.bool k1)).setCell ⟨w.heap.size, 6, none⟩ (.int .i64 (c1 : Int))) = w5 at *
            have z1 : w5.cell? ⟨w.heap.size, 1, none⟩ = some (.slice Pf files.length cf) := (HRW.out.cell 1).trans rfl
            have z3 : w5.cell? ⟨w.heap.size, 3, none⟩ = some (.slice Pw nw cw) := (HRW.out.cell 3).trans rfl
            have z11 : (w5.alloc (.cells #[] 122)).cell? ⟨w.heap.size, 1, none⟩ = some (.slice Pf files.length cf) := ((HRW.out.alloc _).cell 1).trans rfl
            go_upto_region 34 with (first
              | (at_builtin
                 refine app_filesP rfl (.tmp 107) (.tmp 109) rfl rfl _ files rfl T (HIN.out w5 HB5.out).files (by omega) ?_
                 intro v6 w6 fl hfe hFO hfb hb6
                 obtain ⟨P6, c6, hv6, _, _⟩ := rows_at hFO.row
                 have hfn : fl.length = files.length := by rw [← hfe, List.length_map]
                 have HFO := Lib.hid hFO
                 have HFE := Lib.hid hfe
                 have HFN := Lib.hid hfn
                 have HFB := Lib.hid hfb
                 have hr6 := row_move HRW.out (hb6.block _ HRW.out.lt)
                 have y3 : (w6.alloc (.cells #[] 127)).cell? ⟨w.heap.size, 3, none⟩ = some (.slice Pw nw cw) := ((hr6.alloc _).cell 3).trans rfl
                 have y33 : w6.cell? ⟨w.heap.size, 3, none⟩ = some (.slice Pw nw cw) := (hr6.cell 3).trans rfl
                 have HR6 := Lib.hid hr6
                 have HX6 := Lib.hid (row_move HRX.out (hb6.block _ HRX.out.lt))
                 have HB6 := Lib.hid (HB5.out.trans (hb6.mono HB5.out.size))
                 have HB56 := Lib.hid hb6
                 rw [hfn] at hv6
                 clear hFO hb6 hfe hfb hr6 z1 z3 z11 hfn
                 subst hv6)
              | (at_builtin
                 refine app_steps rfl (.tmp 111) (.tmp 113) rfl rfl _ wait rfl (HIN.out w6 HB6.out).wait (by omega) ?_
                 intro v7 w7 hS7 hb7
                 obtain ⟨P7, c7, hv7, _, _⟩ := rows_at hS7
                 have HS7 := Lib.hid hS7
                 have HR7 := Lib.hid (row_move HR6.out (hb7.block _ HR6.out.lt))
                 have HX7 := Lib.hid (row_move HX6.out (hb7.block _ HX6.out.lt))
                 have HB7 := Lib.hid (HB6.out.trans (hb7.mono HB6.out.size))
                 have HB67 := Lib.hid hb7
                 clear hS7 hb7 y3 y33
                 rw [hnw] at hv7
                 subst hv7))
            have hFO7 := HFO.out.below HB67.out
            have hnfl : n < fl.length := by rw [HFN.out]; exact hnf
            obtain ⟨g, cap, hvg, hg5, hgl, hcap, hfz, k0, k1', k2, k3⟩ := fo_at hFO7 hnfl
            rw [HFN.out] at hvg
            obtain ⟨rfl, _, rfl⟩ := Value.slice.inj hvg
            have hmem : fl.getD n (none, 0, fil0) ∈ fl := by
              rw [List.getD_eq_getElem?_getD, List.getElem?_eq_getElem hnfl]
              exact List.getElem_mem hnfl
            have hmap : (fl.getD n (none, 0, fil0)).2.2 = files.getD n fil0 := by
              rw [← HFE.out, List.getD_eq_getElem?_getD, List.getD_eq_getElem?_getD, List.getElem?_map, List.getElem?_eq_getElem hnfl]
              rfl
            have hfar := (hFO7.each _ hmem).2.2
            have hfx := (HFB.out _ hmem).2
            have hsm := HSM.out n
            rw [← hmap] at hsm
            have HFG := Lib.hid hmap.symm
            generalize hx : fl.getD n (none, 0, fil0) = x at *
            obtain ⟨A1, c1', b1, s1⟩ := x
            simp only at k0 k1' k2 k3 hsm hfar HFG
            have HX0 := Lib.hid hx
            have HFO7 := Lib.hid hFO7
            have HFAR := Lib.hid hfar
            have HFX := Lib.hid hfx
            have HK2 := Lib.hid k2
            have HK3 := Lib.hid k3
            have HHZ := Lib.hid hfz
            have hfz0 := hfz (n * 2)
            have hfz1 := hfz (n * 2 + 1)
            have i2 : (n : Int) < (files.length : Int) := by omega
            clear hvg hFO7 hnfl hmem hmap hfar hfx hx k2 k3 hfz
            have HFO8 := Lib.hid (show FO (w7.setCell ⟨g, n * 2 + 1, none⟩ (.int .i64 (b1.length : Int))) w5.heap.size (.slice (some ⟨g, 0, none⟩) files.length c6) (fl.set n (A1, c1', ⟨b1, b1.length⟩)) from fo_cell HFO7.out HFN.out.symm n (by rw [HFN.out]; exact hnf) (A1, c1', ⟨b1, b1.length⟩) HK2.out HK3.out (HFAR.out.imp id fun hh ad e e2 => hh ad e (by rw [e2]; rfl)) (n * 2 + 1) (.int .i64 (b1.length : Int)) (by rw [HFN.out]; omega) (flat_sure fl (by rw [HFN.out]; exact hnf) A1 c1' s1 b1 b1.length HX0.out))
            have HFX8 := Lib.hid (show ∀ z ∈ fl.set n (A1, c1', ⟨b1, b1.length⟩), FarB T z from fun z hz => by
              rcases List.mem_or_eq_of_mem_set hz with h | h
              · exact (HFB.out z h).2
              · rw [h]; exact HFX.out)
            go_upto_region 38 with fail
            have KG := Lib.hid (show Kept (fun j => j = g) w7 (w7.setCell ⟨g, n * 2 + 1, none⟩ (.int .i64 (b1.length : Int))) from (Kept.refl (fun j => j = g) w7).set (p := ⟨g, _, none⟩) (.inl rfl) _)
            have HGX : w.heap.size ≠ g := fun e => row_ne_rows HR7.out HFO7.out.row (by decide) (by rw [e]; rfl)
            have HGY : w.heap.size + 1 ≠ g := fun e => row_ne_rows HX7.out HFO7.out.row (by decide) (by rw [e]; rfl)
            have HR10 := Lib.hid (row_move HR7.out (KG.out.block _ HR7.out.lt HGX))
            have HX10 := Lib.hid (row_move HX7.out (KG.out.block _ HX7.out.lt HGY))
            have HS10 := Lib.hid (rows_kept (rows_lower HS7.out (Nat.zero_le _)) KG.out fun q hq e => rows_apart (rows_lower HS7.out (Nat.zero_le _)) HFO7.out.row (by decide) q hq (by subst e; rfl))
            have HB10 := Lib.hid (HB7.out.trans (KG.out.to_below (fun k hk => by have := HB5.out.size; omega) HB7.out.size))
            clear KG HGX HGY
            generalize (w7.setCell ⟨g, n * 2 + 1, none⟩ (.int .i64 (b1.length : Int))) = w10 at *
            have a0 : w10.cell? ⟨w.heap.size, 0, none⟩ = some (.int .i64 (room : Int)) := (HR10.out.cell 0).trans rfl
            have yb0 : w10.cell? ⟨w.heap.size + 1, 0, none⟩ = some (.int .i64 0) := (HX10.out.cell 0).trans rfl
            have d0 := HR10.out.frozen 0
            have f0 := HX10.out.frozen 0
            have a1 : w10.cell? ⟨w.heap.size, 1, none⟩ = some (.slice Pf files.length cf) := (HR10.out.cell 1).trans rfl
            have yb1 : w10.cell? ⟨w.heap.size + 1, 1, none⟩ = some (.slice none 0 0) := (HX10.out.cell 1).trans rfl
            have d1 := HR10.out.frozen 1
            have f1 := HX10.out.frozen 1
            have a2 : w10.cell? ⟨w.heap.size, 2, none⟩ = some (.slice Pb nb cb) := (HR10.out.cell 2).trans rfl
            have yb2 : w10.cell? ⟨w.heap.size + 1, 2, none⟩ = some (.slice none 0 0) := (HX10.out.cell 2).trans rfl
            have d2 := HR10.out.frozen 2
            have f2 := HX10.out.frozen 2
            have a3 : w10.cell? ⟨w.heap.size, 3, none⟩ = some (.slice Pw nw cw) := (HR10.out.cell 3).trans rfl
            have yb3 : w10.cell? ⟨w.heap.size + 1, 3, none⟩ = some (.slice none 0 0) := (HX10.out.cell 3).trans rfl
            have d3 := HR10.out.frozen 3
            have f3 := HX10.out.frozen 3
            have a4 : w10.cell? ⟨w.heap.size, 4, none⟩ = some (.int .i64 l1) := (HR10.out.cell 4).trans rfl
            have yb4 : w10.cell? ⟨w.heap.size + 1, 4, none⟩ = some (.int .i64 0) := (HX10.out.cell 4).trans rfl
            have d4 := HR10.out.frozen 4
            have f4 := HX10.out.frozen 4
            have a5 : w10.cell? ⟨w.heap.size, 5, none⟩ = some (.bool k1) := (HR10.out.cell 5).trans rfl
            have yb5 : w10.cell? ⟨w.heap.size + 1, 5, none⟩ = some (.bool false) := (HX10.out.cell 5).trans rfl
            have d5 := HR10.out.frozen 5
            have f5 := HX10.out.frozen 5
            have a6 : w10.cell? ⟨w.heap.size, 6, none⟩ = some (.int .i64 (c1 : Int)) := (HR10.out.cell 6).trans rfl
            have yb6 : w10.cell? ⟨w.heap.size + 1, 6, none⟩ = some (.int .i64 0) := (HX10.out.cell 6).trans rfl
            have d6 := HR10.out.frozen 6
            have f6 := HX10.out.frozen 6
            go_wp2_with fail
            have hR' : R = (⟨room, files.set n ⟨b1, b1.length⟩, base, wait, l1, k1, c1⟩, 0) := by
              rw [HR5.out]
              have hw : whose (live (⟨room, files, base, wait, l1, k1, c1⟩ : Dsk)) (strL name) = some n := by rw [HLP.out]; exact hwh
              unfold applyD
              simp only [hw, Option.getD_some, HFG.out]
              rfl
            have HFF : FilesT T w10 (.slice (some ⟨g, 0, none⟩) files.length c6) (files.set n ⟨b1, b1.length⟩) := by have := HFO8.out.filesT HFX8.out; rwa [List.map_set, HFE.out] at this
            have KX := (((Kept.refl (fun j => j = w.heap.size) w10).set (p := ⟨w.heap.size, 1, none⟩) (.inl rfl) (.slice (some ⟨g, 0, none⟩) files.length c6)).set (p := ⟨w.heap.size, 3, none⟩) (.inl rfl) (.slice P7 nw c7))
            have HIN9 : RefT T _ (.slice (some ⟨g, 0, none⟩) files.length c6) (.slice Pb nb cb) (.slice P7 nw c7) ⟨room, files.set n ⟨b1, b1.length⟩, base, wait, l1, k1, c1⟩ := reft_store (d := ⟨room, files.set n ⟨b1, b1.length⟩, base, wait, l1, k1, c1⟩) ⟨HFF, (HIN.out w10 HB10.out).base, (show StepsR w10 0 _ wait from HS10.out), far_own HFO.out.row HTT.out HB5.out.size, HFB0.out, far_own HS7.out HTT.out HB6.out.size⟩ HR10.out (dsk_bytes ⟨_, rfl⟩ ⟨_, _, _, rfl⟩ ⟨_, _, _, rfl⟩ ⟨_, _, _, rfl⟩ ⟨_, rfl⟩ ⟨_, rfl⟩ ⟨_, rfl⟩) KX
            have HY9 := row_move HX10.out (KX.block _ HX10.out.lt (by omega))
            have HB9 := HB10.out.trans (KX.to_below (fun k hk => by omega) HB10.out.size)
            (try simp only [Exit.inBlock, Exit.then])
            refine bodyPost_ret (ret_two rfl _ _ _ _ rfl (put7_row HY9 _ _ _ _ _ _ _) rfl) rfl ?_
            rw [hR']
            exact ch_end HIN9 HY9 (dsk_bytes ⟨_, rfl⟩ ⟨_, _, _, rfl⟩ ⟨_, _, _, rfl⟩ ⟨_, _, _, rfl⟩ ⟨_, rfl⟩ ⟨_, rfl⟩ ⟨_, rfl⟩) HB9 (by omega)
          · have hR := HCP.out hok he
            have j1 : (e1 != 0) = true := bne_iff_ne.2 he
            have j2 : (e1 == 0) = false := beq_eq_false_iff_ne.2 he
            go_upto_region 20 with fail
            clear z0 z1 z2 z3 z4 z5 z6 q10 q11 q12 q13 q14 q15 q16 HK7 HD4 HD5
            generalize (((((((w4.setCell ⟨w.heap.size, 0, none⟩ (.int .i64 (room : Int))).setCell ⟨w.heap.size, 1, none⟩ (.slice Pf files.length cf)).setCell ⟨w.heap.size, 2, none⟩ (.slice Pb nb cb)).setCell ⟨w.heap.size, 3, none⟩ (.slice Pw nw cw)).setCell ⟨w.heap.size, 4, none⟩ (.int .i64 l1)).setCell ⟨w.heap.size, 5, none⟩ (.bool k1)).setCell ⟨w.heap.size, 6, none⟩ (.int .i64 (c1 : Int))) = w5 at *
            have a0 : w5.cell? ⟨w.heap.size, 0, none⟩ = some (.int .i64 (room : Int)) := (HRW.out.cell 0).trans rfl
            have d0 := HRW.out.frozen 0
            have yb0 : w5.cell? ⟨w.heap.size + 1, 0, none⟩ = some (.int .i64 0) := (HRX.out.cell 0).trans rfl
            have f0 := HRX.out.frozen 0
            have a1 : w5.cell? ⟨w.heap.size, 1, none⟩ = some (.slice Pf files.length cf) := (HRW.out.cell 1).trans rfl
            have d1 := HRW.out.frozen 1
            have yb1 : w5.cell? ⟨w.heap.size + 1, 1, none⟩ = some (.slice none 0 0) := (HRX.out.cell 1).trans rfl
            have f1 := HRX.out.frozen 1
            have a2 : w5.cell? ⟨w.heap.size, 2, none⟩ = some (.slice Pb nb cb) := (HRW.out.cell 2).trans rfl
            have d2 := HRW.out.frozen 2
            have yb2 : w5.cell? ⟨w.heap.size + 1, 2, none⟩ = some (.slice none 0 0) := (HRX.out.cell 2).trans rfl
            have f2 := HRX.out.frozen 2
            have a3 : w5.cell? ⟨w.heap.size, 3, none⟩ = some (.slice Pw nw cw) := (HRW.out.cell 3).trans rfl
            have d3 := HRW.out.frozen 3
            have yb3 : w5.cell? ⟨w.heap.size + 1, 3, none⟩ = some (.slice none 0 0) := (HRX.out.cell 3).trans rfl
            have f3 := HRX.out.frozen 3
            have a4 : w5.cell? ⟨w.heap.size, 4, none⟩ = some (.int .i64 l1) := (HRW.out.cell 4).trans rfl
            have d4 := HRW.out.frozen 4
            have yb4 : w5.cell? ⟨w.heap.size + 1, 4, none⟩ = some (.int .i64 0) := (HRX.out.cell 4).trans rfl
            have f4 := HRX.out.frozen 4
            have a5 : w5.cell? ⟨w.heap.size, 5, none⟩ = some (.bool k1) := (HRW.out.cell 5).trans rfl
            have d5 := HRW.out.frozen 5
            have yb5 : w5.cell? ⟨w.heap.size + 1, 5, none⟩ = some (.bool false) := (HRX.out.cell 5).trans rfl
            have f5 := HRX.out.frozen 5
            have a6 : w5.cell? ⟨w.heap.size, 6, none⟩ = some (.int .i64 (c1 : Int)) := (HRW.out.cell 6).trans rfl
            have d6 := HRW.out.frozen 6
            have yb6 : w5.cell? ⟨w.heap.size + 1, 6, none⟩ = some (.int .i64 0) := (HRX.out.cell 6).trans rfl
            have f6 := HRX.out.frozen 6
            go_wp2_with fail
            (try simp only [Exit.inBlock, Exit.then])
            refine bodyPost_ret (ret_two rfl _ _ _ _ rfl (put7_row HRX.out _ _ _ _ _ _ _) rfl) rfl ?_
            rw [hR]
            exact ch_out (d := ⟨room, files, base, wait, l1, k1, c1⟩) (fun x hx => ⟨(HIN.out x hx).files, (HIN.out x hx).base, (HIN.out x hx).wait, (HIN.out x hx).ff, (HIN.out x hx).fb, (HIN.out x hx).fw⟩) HB5.out (by omega)
end Go.Proofs.Ytiepepikbophmaa

namespace Go.Proofs.Ytiepepikbophmaa
open Go.RowKit Go.Maps
set_option linter.unusedVariables false

set_option maxRecDepth 20000 in
set_option maxHeartbeats 4000000 in
theorem change_ref6 {T : Nat → Prop} {w : World} {fv bv wv : Value} {d : Dsk} (h : RefT T w fv bv wv d) (hT : ∀ i, T i → i < w.heap.size) (hF : Fine d) (hM : Met d) (hwl : d.wait.length ≤ 100000) (hfl : d.files.length ≤ 100000) (hcl : d.left ≤ 9223372036854775807) (hcc : d.count ≤ 1000000)
    (name to : ByteArray) (hns : name.size ≤ 281474976710656) (hts : to.size ≤ 281474976710656) (A : Option Addr) (b : List UInt8) (bc : Nat) (hb : Bys w A b) (hbl : b.length ≤ 140737488355328) :
    Calls Try.prog 44 #[.agg (refC d fv bv wv).toArray, .int .i64 6, .string name, .string to, .slice A b.length bc] w (ChTold T w (change d 6 (strL name) (strL to) b)) := by
  have hB1 := below_one w (.cells (refC d fv bv wv).toArray 31)
  have hB2 := (hB1).alloc (B := w.heap.size) hB1.size (.cells #[.int .i64 0, .slice none 0 0, .slice none 0 0, .slice none 0 0, .int .i64 0, .bool false, .int .i64 0] 31)
  have hR0 := (Row.new w 31 (refC d fv bv wv).toArray).alloc (.cells #[.int .i64 0, .slice none 0 0, .slice none 0 0, .slice none 0 0, .int .i64 0, .bool false, .int .i64 0] 31)
  have hR1 := row_new2 w (.cells (refC d fv bv wv).toArray 31) 31 #[.int .i64 0, .slice none 0 0, .slice none 0 0, .slice none 0 0, .int .i64 0, .bool false, .int .i64 0]
  obtain ⟨⟨Pf, cf, hfv⟩, ⟨Pb, cb, hbv⟩, ⟨Pw, cw, hwv⟩⟩ := ref_forms h.in_
  have HLV := Lib.hid (fun (x : World) (hb : Below w.heap.size w x) => liveT_ref (h.below hb).in_ hF hM hwl (fun i hi => Nat.lt_of_lt_of_le (hT i hi) hb.size) h.fb)
  have HTT := Lib.hid hT
  have HFB0 := Lib.hid h.fb
  have HFF0 := Lib.hid h.ff
  have HFW0 := Lib.hid h.fw
  have HST := Lib.hid (fun (x : World) (hb : Below w.heap.size w x) => step_ref (w := x) (h.below hb).in_ ⟨hF.left, hcl⟩ hcc)
  have HIN := Lib.hid (fun (x : World) (hb : Below w.heap.size w x) => h.below hb)
  have HFA := Lib.hid (fun (x : World) (hb : Below w.heap.size w x) => files_at (h.below hb).in_.files)
  have HBB0 := Lib.hid (fun (x : World) (hx : Below w.heap.size w x) => hb.below hx)
  have HNM := Lib.hid (fun (x : World) => named_ref name x hns)
  have HTN := Lib.hid (fun (x : World) => named_ref to x hts)
  have hfew := hF.live_few
  have HLI := Lib.hid (fun x hx => (hF.live_in x hx).1)
  have HLR := Lib.hid hF.live_rises
  have HWY := Lib.hid (why6 d (strL name) (strL to) b)
  have HCW := Lib.hid (fun E (hE : E ≠ 0) (hw : whyNot d 6 (strL name) (strL to) b = E) => ch_why hw hE)
  have HCP := Lib.hid (fun (hw : whyNot d 6 (strL name) (strL to) b = 0) (hp : (power d).2 ≠ 0) => ch_power hw hp)
  have HCD := Lib.hid (fun (hw : whyNot d 6 (strL name) (strL to) b = 0) (hp : (power d).2 = 0) => ch_done hw hp)
  have HSM := Lib.hid (show ∀ n, (d.files.getD n fil0).b.length ≤ 4194304 from fun n => by have := hF.small n; have := hF.room.2; omega)
  have HTOT := Lib.hid (show ∀ k, (((live d).take k).map (bytesAt d)).sum ≤ 268435456 from fun k => by
    refine Nat.le_trans (sum_le _ 4194304 ?_) ?_
    · intro z hz
      obtain ⟨y, _, rfl⟩ := List.mem_map.1 hz
      have := hF.small y.file
      have := hF.room.2
      unfold bytesAt
      omega
    · rw [List.length_map, List.length_take]
      omega)
  have HALL := Lib.hid (show (((live d).take (live d).length).map (bytesAt d)).sum = total d by rw [List.take_length]; rfl)
  have HRM := Lib.hid hF.room.2
  have HLP := Lib.hid (live_power d)
  have HPK : d.files = (power d).1.files ∧ d.base = (power d).1.base ∧ d.wait = (power d).1.wait ∧ d.room = (power d).1.room := by
    unfold power
    split <;> exact ⟨rfl, rfl, rfl, rfl⟩
  have HWL := Lib.hid hwl
  clear h hF hM hB1 hwl hcl hcc hb hns hts hT
  generalize change d 6 (strL name) (strL to) b = R at *
  generalize whyNot d 6 (strL name) (strL to) b = wy at *
  generalize total d = tt at *
  generalize hlv : live d = L at *
  have HBY := Lib.hid (show ∀ y, bytesAt d y = (d.files.getD y.file fil0).b.length from fun y => rfl)
  generalize bytesAt d = bat at *
  generalize power d = pd at *
  obtain ⟨room, files, base, wait, left, dark, count⟩ := d
  obtain ⟨⟨r1, f1, b1, w1, l1, k1, c1⟩, e1⟩ := pd
  simp only at HPK
  obtain ⟨rfl, rfl, rfl, rfl⟩ := HPK
  simp only at hwv hbv hfv HLI hfl HFA HIN HST HCP HCD HCW HRM HWL HSM HBY
  simp only [refC] at HLV HST hR0 hR1 hB2 ⊢
  clear hlv
  generalize hnb : base.length = nb at hbv
  generalize hnw : wait.length = nw at hwv
  subst hwv
  subst hbv
  subst hfv
  have HZ0 := Lib.hid hR0
  have HZ1 := Lib.hid hR1
  have HB2 := Lib.hid hB2
  clear hR0 hR1 hB2 hnb
  have hnw2 := HWL.out
  go_enter Try.func44, Try.ntmps44
  go_wp2_with fail
  refine (HLV.out _ HB2.out).mono ?_
  rintro e w2 ⟨v2, rfl, hE2, hfr2, hb2⟩
  have HFR2 := Lib.hid hfr2
  clear hfr2
  obtain ⟨P2, c2, hv2, _, hP2⟩ := ents_at hE2
  have HB3 := Lib.hid (HB2.out.trans (hb2.mono HB2.out.size))
  have HR02 := Lib.hid (row_move HZ0.out (hb2.block _ HZ0.out.lt))
  have HR12 := Lib.hid (row_move HZ1.out (hb2.block _ HZ1.out.lt))
  have HAT := Lib.hid (at_ref hE2 (by omega) name)
  have HE2 := Lib.hid hE2
  have HP2 := Lib.hid hP2
  rw [hv2] at HAT
  clear hE2 hb2 hP2
  subst hv2
  have HAV := Lib.hid (show atV L (strL name) = (match whose L (strL name) with | some f => (f : Int) | none => -1) from rfl)
  have HWS := Lib.hid (fun n => (whose_some (n := strL name) (f := n) HLR.out).1)
  generalize atV L (strL name) = av at *
  go_wp2_with fail
  refine HAT.out.mono ?_
  rintro e x3 ⟨rfl, rfl⟩
  have hok : wy = 0 := HWY.out
  go_wp2_with fail
  go_loopw [14, 15] (fun a i wr => ∃ k : Nat, k ≤ L.length ∧ i = .int .i64 (k : Int) ∧ a = .int .i64 (((L.take k).map bat).sum : Int) ∧ Below w2.heap.size w2 wr) (fun _ i _ => L.length - (intOf i).toNat)
  case atStart => exact ⟨0, Nat.zero_le _, rfl, rfl, Below.refl _ _⟩
  case round =>
    obtain ⟨k, hk, rfl, rfl, hb⟩ := hrel
    have HBB := Lib.hid hb
    have HBW := Lib.hid (HB3.out.trans (hb.mono HB3.out.size))
    have hr0 := HR02.out.below hb HR02.out.lt
    have z1 : wr.cell? ⟨w.heap.size, 1, none⟩ = some (.slice Pf files.length cf) := (hr0.cell 1).trans rfl
    by_cases hlt : k < L.length
    · obtain ⟨gL, rfl, _, hgL, _, l1⟩ := HP2.out k hlt
      have l1' := (hb.cell (p := ⟨gL, k * 2 + 1, none⟩) hgL).trans l1
      have hmem : L.getD k ⟨[], 0⟩ ∈ L := by
        rw [List.getD_eq_getElem?_getD, List.getElem?_eq_getElem hlt]
        exact List.getElem_mem hlt
      have hyf := HLI.out _ hmem
      have hsum : ((L.take (k + 1)).map bat).sum = ((L.take k).map bat).sum + bat (L.getD k ⟨[], 0⟩) := by
        rw [List.take_succ_eq_append_getElem hlt, List.map_append, List.sum_append]
        simp [List.getD, List.getElem?_eq_getElem hlt]
      have ht1 := HTOT.out (k + 1)
      rw [HBY.out] at hsum
      generalize L.getD k ⟨[], 0⟩ = y at *
      obtain ⟨yn, yf⟩ := y
      simp only at hyf l1' hsum
      obtain ⟨Pf', cf', hf', _, hPf⟩ := HFA.out wr HBW.out
      have e1' := Value.slice.inj hf'
      obtain ⟨gF, A2, cA, g1, _, g3, f0, f1, f2, f3⟩ := hPf yf hyf
      rw [← e1'.1] at g1
      subst g1
      try simp only at hsum f0
      rw [hsum] at ht1
      generalize (files.getD yf fil0).b.length = n9 at *
      have HSUM := Lib.hid hsum
      generalize ((L.take k).map bat).sum = sm at *
      have i1 : (k : Int) < (L.length : Int) := by omega
      have i2 : (yf : Int) < (files.length : Int) := by omega
      have o1 : IntKind.i64.wrap ((sm : Int) + (n9 : Int)) = (sm : Int) + (n9 : Int) := IntWalk.i64_in _ (by omega)
      clear hb hr0 l1 hmem hyf hsum hPf hf' e1' f1 f2 f3
      go_wp2_with fail
      go_quiet (fail)
      go_wp2
      go_roundw
      case rel => exact ⟨k + 1, by omega, by go_num, by rw [HSUM.out]; go_num, HBB.out.trans (drawn _ _ _)⟩
      case measure => simp [intOf]; omega
    · obtain rfl : k = L.length := by omega
      have hr1 := HR12.out.below hb HR12.out.lt
      have htt := HTOT.out L.length
      rw [HALL.out] at htt ⊢
      have HQ0 := Lib.hid hr0
      have HQ1 := Lib.hid hr1
      have HSTP := Lib.hid (HST.out wr HBW.out)
      clear hb hr0 hr1 z1
      have z0 : wr.cell? ⟨w.heap.size, 0, none⟩ = some (.int .i64 (room : Int)) := (HQ0.out.cell 0).trans rfl
      have z1 : wr.cell? ⟨w.heap.size, 1, none⟩ = some (.slice Pf files.length cf) := (HQ0.out.cell 1).trans rfl
      have z2 : wr.cell? ⟨w.heap.size, 2, none⟩ = some (.slice Pb nb cb) := (HQ0.out.cell 2).trans rfl
      have z3 : wr.cell? ⟨w.heap.size, 3, none⟩ = some (.slice Pw nw cw) := (HQ0.out.cell 3).trans rfl
      have z4 : wr.cell? ⟨w.heap.size, 4, none⟩ = some (.int .i64 left) := (HQ0.out.cell 4).trans rfl
      have z5 : wr.cell? ⟨w.heap.size, 5, none⟩ = some (.bool dark) := (HQ0.out.cell 5).trans rfl
      have z6 : wr.cell? ⟨w.heap.size, 6, none⟩ = some (.int .i64 (count : Int)) := (HQ0.out.cell 6).trans rfl
      go_wp2_with fail
      refine HSTP.out.mono ?_
      rintro e w4 ⟨rfl, hb4⟩
      have HB4 := Lib.hid (HBW.out.trans (hb4.mono HBW.out.size))
      have HD4 := Lib.hid (HQ0.out.below hb4 HQ0.out.lt)
      have HD5 := Lib.hid (HQ1.out.below hb4 HQ1.out.lt)
      have HBB4 := Lib.hid (HBB.out.trans (hb4.mono HBB.out.size))
      clear z0 z1 z2 z3 z4 z5 z6 hb4
      have z0 : w4.cell? ⟨w.heap.size, 0, none⟩ = some (.int .i64 (room : Int)) := (HD4.out.cell 0).trans rfl
      have z1 : w4.cell? ⟨w.heap.size, 1, none⟩ = some (.slice Pf files.length cf) := (HD4.out.cell 1).trans rfl
      have z2 : w4.cell? ⟨w.heap.size, 2, none⟩ = some (.slice Pb nb cb) := (HD4.out.cell 2).trans rfl
      have z3 : w4.cell? ⟨w.heap.size, 3, none⟩ = some (.slice Pw nw cw) := (HD4.out.cell 3).trans rfl
      have z4 : w4.cell? ⟨w.heap.size, 4, none⟩ = some (.int .i64 left) := (HD4.out.cell 4).trans rfl
      have z5 : w4.cell? ⟨w.heap.size, 5, none⟩ = some (.bool dark) := (HD4.out.cell 5).trans rfl
      have z6 : w4.cell? ⟨w.heap.size, 6, none⟩ = some (.int .i64 (count : Int)) := (HD4.out.cell 6).trans rfl
      have q10 := HD4.out.frozen 0
      have q11 := HD4.out.frozen 1
      have q12 := HD4.out.frozen 2
      have q13 := HD4.out.frozen 3
      have q14 := HD4.out.frozen 4
      have q15 := HD4.out.frozen 5
      have q16 := HD4.out.frozen 6
      have HRW := Lib.hid (show Row (((((((w4.setCell ⟨w.heap.size, 0, none⟩ (.int .i64 (room : Int))).setCell ⟨w.heap.size, 1, none⟩ (.slice Pf files.length cf)).setCell ⟨w.heap.size, 2, none⟩ (.slice Pb nb cb)).setCell ⟨w.heap.size, 3, none⟩ (.slice Pw nw cw)).setCell ⟨w.heap.size, 4, none⟩ (.int .i64 l1)).setCell ⟨w.heap.size, 5, none⟩ (.bool k1)).setCell ⟨w.heap.size, 6, none⟩ (.int .i64 (c1 : Int))) w.heap.size 31 #[.int .i64 (room : Int), .slice Pf files.length cf, .slice Pb nb cb, .slice Pw nw cw, .int .i64 l1, .bool k1, .int .i64 (c1 : Int)] from put7_row HD4.out _ _ _ _ _ _ _)
      have HK7 := Lib.hid (show Kept (fun j => j = w.heap.size) w4 (((((((w4.setCell ⟨w.heap.size, 0, none⟩ (.int .i64 (room : Int))).setCell ⟨w.heap.size, 1, none⟩ (.slice Pf files.length cf)).setCell ⟨w.heap.size, 2, none⟩ (.slice Pb nb cb)).setCell ⟨w.heap.size, 3, none⟩ (.slice Pw nw cw)).setCell ⟨w.heap.size, 4, none⟩ (.int .i64 l1)).setCell ⟨w.heap.size, 5, none⟩ (.bool k1)).setCell ⟨w.heap.size, 6, none⟩ (.int .i64 (c1 : Int))) from put7_kept _ _ _ _ _ _ _ _ _)
      have HRX := Lib.hid (row_move HD5.out (HK7.out.block _ HD5.out.lt (by omega)))
      have HB5 := Lib.hid (HB4.out.trans (HK7.out.to_below (fun k hk => by omega) HB4.out.size))
      have HL5 := Lib.hid (show EntsR (((((((w4.setCell ⟨w.heap.size, 0, none⟩ (.int .i64 (room : Int))).setCell ⟨w.heap.size, 1, none⟩ (.slice Pf files.length cf)).setCell ⟨w.heap.size, 2, none⟩ (.slice Pb nb cb)).setCell ⟨w.heap.size, 3, none⟩ (.slice Pw nw cw)).setCell ⟨w.heap.size, 4, none⟩ (.int .i64 l1)).setCell ⟨w.heap.size, 5, none⟩ (.bool k1)).setCell ⟨w.heap.size, 6, none⟩ (.int .i64 (c1 : Int))) 0 (.slice P2 L.length c2) L from rows_kept (rows_below HE2.out HBB4.out) HK7.out fun q hq e => row_ne_rows HD4.out (rows_below HE2.out HBB4.out) (by decide) (by rw [hq, e]))
      by_cases he : e1 = 0
      · subst he
        have HR5 := Lib.hid (HCD.out hok rfl)
        go_upto_region 21 with fail
        clear z0 z1 z2 z3 z4 z5 z6 q10 q11 q12 q13 q14 q15 q16 HK7 HD4 HD5
        generalize (((((((w4.setCell ⟨w.heap.size, 0, none⟩ (.int .i64 (room : Int))).setCell ⟨w.heap.size, 1, none⟩ (.slice Pf files.length cf)).setCell ⟨w.heap.size, 2, none⟩ (.slice Pb nb cb)).setCell ⟨w.heap.size, 3, none⟩ (.slice Pw nw cw)).setCell ⟨w.heap.size, 4, none⟩ (.int .i64 l1)).setCell ⟨w.heap.size, 5, none⟩ (.bool k1)).setCell ⟨w.heap.size, 6, none⟩ (.int .i64 (c1 : Int))) = w5 at *
        have z1 : w5.cell? ⟨w.heap.size, 1, none⟩ = some (.slice Pf files.length cf) := (HRW.out.cell 1).trans rfl
        have z3 : w5.cell? ⟨w.heap.size, 3, none⟩ = some (.slice Pw nw cw) := (HRW.out.cell 3).trans rfl
        have z11 : (w5.alloc (.cells #[] 122)).cell? ⟨w.heap.size, 1, none⟩ = some (.slice Pf files.length cf) := ((HRW.out.alloc _).cell 1).trans rfl
        go_wp2_with (first
          | (at_builtin
             refine app_filesP rfl (.tmp 107) (.tmp 109) rfl rfl _ files rfl T (HIN.out w5 HB5.out).files (by omega) ?_
             intro v6 w6 fl hfe hFO hfb hb6
             obtain ⟨P6, c6, hv6, _, _⟩ := rows_at hFO.row
             have hfn : fl.length = files.length := by rw [← hfe, List.length_map]
             have HFO := Lib.hid hFO
             have HFE := Lib.hid hfe
             have HFN := Lib.hid hfn
             have HFB := Lib.hid hfb
             have hr6 := row_move HRW.out (hb6.block _ HRW.out.lt)
             have y3 : (w6.alloc (.cells #[] 127)).cell? ⟨w.heap.size, 3, none⟩ = some (.slice Pw nw cw) := ((hr6.alloc _).cell 3).trans rfl
             have y33 : w6.cell? ⟨w.heap.size, 3, none⟩ = some (.slice Pw nw cw) := (hr6.cell 3).trans rfl
             have HR6 := Lib.hid hr6
             have HX6 := Lib.hid (row_move HRX.out (hb6.block _ HRX.out.lt))
             have HB6 := Lib.hid (HB5.out.trans (hb6.mono HB5.out.size))
             have HB56 := Lib.hid hb6
             rw [hfn] at hv6
             clear hFO hb6 hfe hfb hr6 z1 z3 z11 hfn
             subst hv6)
          | (at_builtin
             refine app_steps rfl (.tmp 111) (.tmp 113) rfl rfl _ wait rfl (HIN.out w6 HB6.out).wait (by omega) ?_
             intro v7 w7 hS7 hb7
             obtain ⟨P7, c7, hv7, _, _⟩ := rows_at hS7
             have HS7 := Lib.hid hS7
             have HR7 := Lib.hid (row_move HR6.out (hb7.block _ HR6.out.lt))
             have HX7 := Lib.hid (row_move HX6.out (hb7.block _ HX6.out.lt))
             have HB7 := Lib.hid (HB6.out.trans (hb7.mono HB6.out.size))
             have HB67 := Lib.hid hb7
             clear hS7 hb7 y3 y33
             rw [hnw] at hv7
             subst hv7
             have a0 : w7.cell? ⟨w.heap.size, 0, none⟩ = some (.int .i64 (room : Int)) := (HR7.out.cell 0).trans rfl
             have yb0 : w7.cell? ⟨w.heap.size + 1, 0, none⟩ = some (.int .i64 0) := (HX7.out.cell 0).trans rfl
             have d0 := HR7.out.frozen 0
             have f0 := HX7.out.frozen 0
             have a1 : w7.cell? ⟨w.heap.size, 1, none⟩ = some (.slice Pf files.length cf) := (HR7.out.cell 1).trans rfl
             have yb1 : w7.cell? ⟨w.heap.size + 1, 1, none⟩ = some (.slice none 0 0) := (HX7.out.cell 1).trans rfl
             have d1 := HR7.out.frozen 1
             have f1 := HX7.out.frozen 1
             have a2 : w7.cell? ⟨w.heap.size, 2, none⟩ = some (.slice Pb nb cb) := (HR7.out.cell 2).trans rfl
             have yb2 : w7.cell? ⟨w.heap.size + 1, 2, none⟩ = some (.slice none 0 0) := (HX7.out.cell 2).trans rfl
             have d2 := HR7.out.frozen 2
             have f2 := HX7.out.frozen 2
             have a3 : w7.cell? ⟨w.heap.size, 3, none⟩ = some (.slice Pw nw cw) := (HR7.out.cell 3).trans rfl
             have yb3 : w7.cell? ⟨w.heap.size + 1, 3, none⟩ = some (.slice none 0 0) := (HX7.out.cell 3).trans rfl
             have d3 := HR7.out.frozen 3
             have f3 := HX7.out.frozen 3
             have a4 : w7.cell? ⟨w.heap.size, 4, none⟩ = some (.int .i64 l1) := (HR7.out.cell 4).trans rfl
             have yb4 : w7.cell? ⟨w.heap.size + 1, 4, none⟩ = some (.int .i64 0) := (HX7.out.cell 4).trans rfl
             have d4 := HR7.out.frozen 4
             have f4 := HX7.out.frozen 4
             have a5 : w7.cell? ⟨w.heap.size, 5, none⟩ = some (.bool k1) := (HR7.out.cell 5).trans rfl
             have yb5 : w7.cell? ⟨w.heap.size + 1, 5, none⟩ = some (.bool false) := (HX7.out.cell 5).trans rfl
             have d5 := HR7.out.frozen 5
             have f5 := HX7.out.frozen 5
             have a6 : w7.cell? ⟨w.heap.size, 6, none⟩ = some (.int .i64 (c1 : Int)) := (HR7.out.cell 6).trans rfl
             have yb6 : w7.cell? ⟨w.heap.size + 1, 6, none⟩ = some (.int .i64 0) := (HX7.out.cell 6).trans rfl
             have d6 := HR7.out.frozen 6
             have f6 := HX7.out.frozen 6))
        have hR' : R = (⟨room, files, L, [], l1, k1, c1⟩, 0) := by rw [HR5.out, ← HLP.out]; rfl
        have HLW := rows_below (rows_below HL5.out HB56.out) HB67.out
        have HFF : FilesT T w7 (.slice P6 files.length c6) files := by have := (HFO.out.below HB67.out).filesT (fun x hx => (HFB.out x hx).2); rwa [HFE.out] at this
        have KX := ((((Kept.refl (fun j => j = w.heap.size) w7).set (p := ⟨w.heap.size, 2, none⟩) (.inl rfl) (.slice P2 L.length c2)).set (p := ⟨w.heap.size, 1, none⟩) (.inl rfl) (.slice P6 files.length c6)).set (p := ⟨w.heap.size, 3, none⟩) (.inl rfl) (.slice none 0 0))
        have HIN9 : RefT T _ (.slice P6 files.length c6) (.slice P2 L.length c2) (.slice none 0 0) ⟨room, files, L, [], l1, k1, c1⟩ := reft_store (d := ⟨room, files, L, [], l1, k1, c1⟩) ⟨HFF, HLW, ⟨rfl, .inl ⟨rfl, rfl⟩⟩, far_own HFO.out.row HTT.out HB5.out.size, HFR2.out, far_nil⟩ HR7.out (dsk_bytes ⟨_, rfl⟩ ⟨_, _, _, rfl⟩ ⟨_, _, _, rfl⟩ ⟨_, _, _, rfl⟩ ⟨_, rfl⟩ ⟨_, rfl⟩ ⟨_, rfl⟩) KX
        have HY9 := row_move HX7.out (KX.block _ HX7.out.lt (by omega))
        have HB9 := HB7.out.trans (KX.to_below (fun k hk => by omega) HB7.out.size)
        (try simp only [Exit.inBlock, Exit.then])
        refine bodyPost_ret (ret_two rfl _ _ _ _ rfl (put7_row HY9 _ _ _ _ _ _ _) rfl) rfl ?_
        rw [hR']
        exact ch_end HIN9 HY9 (dsk_bytes ⟨_, rfl⟩ ⟨_, _, _, rfl⟩ ⟨_, _, _, rfl⟩ ⟨_, _, _, rfl⟩ ⟨_, rfl⟩ ⟨_, rfl⟩ ⟨_, rfl⟩) HB9 (by omega)
      · have hR := HCP.out hok he
        have j1 : (e1 != 0) = true := bne_iff_ne.2 he
        have j2 : (e1 == 0) = false := beq_eq_false_iff_ne.2 he
        go_upto_region 20 with fail
        clear z0 z1 z2 z3 z4 z5 z6 q10 q11 q12 q13 q14 q15 q16 HK7 HD4 HD5
        generalize (((((((w4.setCell ⟨w.heap.size, 0, none⟩ (.int .i64 (room : Int))).setCell ⟨w.heap.size, 1, none⟩ (.slice Pf files.length cf)).setCell ⟨w.heap.size, 2, none⟩ (.slice Pb nb cb)).setCell ⟨w.heap.size, 3, none⟩ (.slice Pw nw cw)).setCell ⟨w.heap.size, 4, none⟩ (.int .i64 l1)).setCell ⟨w.heap.size, 5, none⟩ (.bool k1)).setCell ⟨w.heap.size, 6, none⟩ (.int .i64 (c1 : Int))) = w5 at *
        have a0 : w5.cell? ⟨w.heap.size, 0, none⟩ = some (.int .i64 (room : Int)) := (HRW.out.cell 0).trans rfl
        have d0 := HRW.out.frozen 0
        have yb0 : w5.cell? ⟨w.heap.size + 1, 0, none⟩ = some (.int .i64 0) := (HRX.out.cell 0).trans rfl
        have f0 := HRX.out.frozen 0
        have a1 : w5.cell? ⟨w.heap.size, 1, none⟩ = some (.slice Pf files.length cf) := (HRW.out.cell 1).trans rfl
        have d1 := HRW.out.frozen 1
        have yb1 : w5.cell? ⟨w.heap.size + 1, 1, none⟩ = some (.slice none 0 0) := (HRX.out.cell 1).trans rfl
        have f1 := HRX.out.frozen 1
        have a2 : w5.cell? ⟨w.heap.size, 2, none⟩ = some (.slice Pb nb cb) := (HRW.out.cell 2).trans rfl
        have d2 := HRW.out.frozen 2
        have yb2 : w5.cell? ⟨w.heap.size + 1, 2, none⟩ = some (.slice none 0 0) := (HRX.out.cell 2).trans rfl
        have f2 := HRX.out.frozen 2
        have a3 : w5.cell? ⟨w.heap.size, 3, none⟩ = some (.slice Pw nw cw) := (HRW.out.cell 3).trans rfl
        have d3 := HRW.out.frozen 3
        have yb3 : w5.cell? ⟨w.heap.size + 1, 3, none⟩ = some (.slice none 0 0) := (HRX.out.cell 3).trans rfl
        have f3 := HRX.out.frozen 3
        have a4 : w5.cell? ⟨w.heap.size, 4, none⟩ = some (.int .i64 l1) := (HRW.out.cell 4).trans rfl
        have d4 := HRW.out.frozen 4
        have yb4 : w5.cell? ⟨w.heap.size + 1, 4, none⟩ = some (.int .i64 0) := (HRX.out.cell 4).trans rfl
        have f4 := HRX.out.frozen 4
        have a5 : w5.cell? ⟨w.heap.size, 5, none⟩ = some (.bool k1) := (HRW.out.cell 5).trans rfl
        have d5 := HRW.out.frozen 5
        have yb5 : w5.cell? ⟨w.heap.size + 1, 5, none⟩ = some (.bool false) := (HRX.out.cell 5).trans rfl
        have f5 := HRX.out.frozen 5
        have a6 : w5.cell? ⟨w.heap.size, 6, none⟩ = some (.int .i64 (c1 : Int)) := (HRW.out.cell 6).trans rfl
        have d6 := HRW.out.frozen 6
        have yb6 : w5.cell? ⟨w.heap.size + 1, 6, none⟩ = some (.int .i64 0) := (HRX.out.cell 6).trans rfl
        have f6 := HRX.out.frozen 6
        go_wp2_with fail
        (try simp only [Exit.inBlock, Exit.then])
        refine bodyPost_ret (ret_two rfl _ _ _ _ rfl (put7_row HRX.out _ _ _ _ _ _ _) rfl) rfl ?_
        rw [hR]
        exact ch_out (d := ⟨room, files, base, wait, l1, k1, c1⟩) (fun x hx => ⟨(HIN.out x hx).files, (HIN.out x hx).base, (HIN.out x hx).wait, (HIN.out x hx).ff, (HIN.out x hx).fb, (HIN.out x hx).fw⟩) HB5.out (by omega)
end Go.Proofs.Ytiepepikbophmaa

namespace Go.Proofs.Ytiepepikbophmaa
open Go.RowKit Go.Maps
set_option linter.unusedVariables false

theorem files_keptT {T : Nat → Prop} {w w' : World} {base g : Nat} {t : TypeId} {cs : Array Value} {v : Value} {fl : List (Option Addr × Nat × Fil)} (h : FO w base v fl) (hf : ∀ x ∈ fl, FarB T x) (hg : Row w g t cs) (ht : t ≠ 122) (hn : ∀ v ∈ cs, ∀ x, v ≠ Value.int .u8 x) (hK : Kept (fun j => j = g) w w') : FilesT T w' v (fl.map fun x => x.2.2) := by
  refine ⟨fl, rfl, rows_kept (rows_lower h.row (Nat.zero_le _)) hK fun k hk e => row_ne_rows hg h.row ht (by rw [hk, e]), fun x hx => ?_⟩
  obtain ⟨x1, x2, _⟩ := h.each x hx
  exact ⟨⟨bys_far hg hn hK x1, x2⟩, hf x hx⟩
def RefToldT (T : Nat → Prop) (w : World) (d : Dsk) (e : Ending) (w' : World) : Prop := ∃ fv bv wv, e = .returned (.agg (refC d fv bv wv).toArray) ∧ RefT T w' fv bv wv d ∧ Below w.heap.size w w'
set_option maxRecDepth 20000 in
set_option maxHeartbeats 1000000 in
theorem crashT_ref {T : Nat → Prop} {w : World} {fv bv wv : Value} {d : Dsk} (h : RefT T w fv bv wv d) (hT : ∀ i, T i → i < w.heap.size) (hF : Fine d) (hM : Met d) (hwl : d.wait.length ≤ 100000) (hfl : d.files.length ≤ 1000000)
    (dirs : Int) (hd : -9223372036854775808 ≤ dirs ∧ dirs ≤ 9223372036854775807) (V : Option Addr) (ks : List Int) (kc : Nat) (hks : Ints w V ks) (hkl : ks.length ≤ 281474976710656) (hkb : ∀ i, i < ks.length → -9223372036854775808 ≤ ks.getD i 0 ∧ ks.getD i 0 ≤ 9223372036854775807) :
    Calls Try.prog 47 #[.agg (refC d fv bv wv).toArray, .int .i64 dirs, .slice V ks.length kc] w (RefToldT T w (crashD d dirs ks)) := by
  have hB1 := below_one w (.cells (refC d fv bv wv).toArray 31)
  have hB2 := (hB1).alloc (B := w.heap.size) hB1.size (.cells #[.int .i64 0, .slice none 0 0, .slice none 0 0, .slice none 0 0, .int .i64 0, .bool false, .int .i64 0] 31)
  obtain ⟨u, hu1, hu2, hu3, hu4⟩ := mod_facts dirs d.wait.length
  have hR0 := (Row.new w 31 (refC d fv bv wv).toArray).alloc (.cells #[.int .i64 0, .slice none 0 0, .slice none 0 0, .slice none 0 0, .int .i64 0, .bool false, .int .i64 0] 31)
  have hR1 := row_new2 w (.cells (refC d fv bv wv).toArray 31) 31 #[.int .i64 0, .slice none 0 0, .slice none 0 0, .slice none 0 0, .int .i64 0, .bool false, .int .i64 0]
  obtain ⟨⟨Pf, cf, hfv⟩, ⟨Pb, cb, hbv⟩, ⟨Pw, cw, hwv⟩⟩ := ref_forms h.in_
  have HDI := Lib.hid (fun (x : World) (hb : Below w.heap.size w x) => dirT_ref (h.below hb).in_ hF hM (modU dirs (d.wait.length + 1)) (by omega) hwl (fun i hi => Nat.lt_of_lt_of_le (hT i hi) hb.size) h.fb)
  have HTT := Lib.hid hT
  have HIN := Lib.hid (fun (x : World) (hb : Below w.heap.size w x) => h.below hb)
  have HFI := Lib.hid hF
  have HKS := Lib.hid (fun (x : World) (hb : Below w.heap.size w x) => hks.below hb)
  have HKB := Lib.hid hkb
  have HCD := Lib.hid (show dirOf d.base (d.wait.take (modU dirs (d.wait.length + 1))) = crashDir d dirs from rfl)
  have hin := hF.inside (modU dirs (d.wait.length + 1)) (by omega)
  have hfew := hF.few (modU dirs (d.wait.length + 1)) (by omega)
  rw [HCD.out] at HDI hin hfew
  have HLI := Lib.hid (fun x hx => (hin x hx).1)
  have HCR := Lib.hid (show crashD d dirs ks = ⟨d.room, crashFiles d.files (crashDir d dirs) ks, crashDir d dirs, [], -1, false, d.count⟩ from rfl)
  clear h hF hM hB1 hks hkb hin hT
  generalize crashD d dirs ks = D at *
  generalize crashDir d dirs = L at *
  generalize modU dirs (d.wait.length + 1) = mm at *
  obtain ⟨room, files, base, wait, left, dark, count⟩ := d
  simp only at hwv hbv hfv hwl hfl hu2 hu3 hu4 HFI HIN HLI HCR HCD
  simp only [refC] at *
  generalize base.length = nb at *
  generalize hnw : wait.length = nw at *
  subst hwv
  subst hbv
  subst hfv
  have hw1 : IntKind.i64.wrap ((nw : Int) + 1) = (nw : Int) + 1 := IntWalk.i64_in _ (by omega)
  have hw2 : IntKind.u64.wrap ((nw : Int) + 1) = (nw : Int) + 1 := by rw [IntKind.wrap_u64]; omega
  have hz2 : ¬ ((nw : Int) + 1 = 0) := by omega
  have hw3 : IntKind.i64.wrap (mm : Int) = (mm : Int) := IntWalk.i64_in _ (by omega)
  have hw4 : IntKind.u64.wrap (mm : Int) = (mm : Int) := by rw [IntKind.wrap_u64]; omega
  go_enter Try.func47, Try.ntmps47
  go_wp2_with fail
  generalize (w.alloc (.cells #[.int .i64 (room : Int), .slice Pf files.length cf, .slice Pb nb cb, .slice Pw nw cw, .int .i64 left, .bool dark, .int .i64 (count : Int)] 31)).alloc (.cells #[.int .i64 0, .slice none 0 0, .slice none 0 0, .slice none 0 0, .int .i64 0, .bool false, .int .i64 0] 31) = x0 at *
  have z0 : x0.cell? ⟨w.heap.size, 0, none⟩ = some (.int .i64 (room : Int)) := (hR0.cell 0).trans rfl
  have z1 : x0.cell? ⟨w.heap.size, 1, none⟩ = some (.slice Pf files.length cf) := (hR0.cell 1).trans rfl
  have z2 : x0.cell? ⟨w.heap.size, 2, none⟩ = some (.slice Pb nb cb) := (hR0.cell 2).trans rfl
  have z3 : x0.cell? ⟨w.heap.size, 3, none⟩ = some (.slice Pw nw cw) := (hR0.cell 3).trans rfl
  have z4 : x0.cell? ⟨w.heap.size, 4, none⟩ = some (.int .i64 left) := (hR0.cell 4).trans rfl
  have z5 : x0.cell? ⟨w.heap.size, 5, none⟩ = some (.bool dark) := (hR0.cell 5).trans rfl
  have z6 : x0.cell? ⟨w.heap.size, 6, none⟩ = some (.int .i64 (count : Int)) := (hR0.cell 6).trans rfl
  have HB2 : Hid (Below w.heap.size w x0.drew) := Lib.hid (hB2.trans (drawn _ _ 1))
  have HR0 : Hid (Row x0.drew w.heap.size 31 #[.int .i64 (room : Int), .slice Pf files.length cf, .slice Pb nb cb, .slice Pw nw cw, .int .i64 left, .bool dark, .int .i64 (count : Int)]) := Lib.hid hR0
  have HR1 : Hid (Row x0.drew (w.heap.size + 1) 31 #[.int .i64 0, .slice none 0 0, .slice none 0 0, .slice none 0 0, .int .i64 0, .bool false, .int .i64 0]) := Lib.hid hR1
  clear hB2 hR0 hR1
  go_still_tail 10, (by kernel_rfl)
  repeat still_step
  try refine wpStill_nil ?_
  change wpList _ _ _ _ _ x0.drew
  go_wp2_with (first
    | (go_at_call 84
       refine (HDI.out x0.drew HB2.out).mono ?_
       rintro e w2 ⟨v2, rfl, hE2, hfr2, hb2⟩
       have HFR2 := Lib.hid hfr2
       clear hfr2
       obtain ⟨P2, c2, hv2, _, hP2⟩ := ents_at hE2
       have hr0 := row_move HR0.out (hb2.block _ HR0.out.lt)
       have hr1 := row_move HR1.out (hb2.block _ HR1.out.lt)
       have y1 : w2.cell? ⟨w.heap.size, 1, none⟩ = some (.slice Pf files.length cf) := (hr0.cell 1).trans rfl
       have y2 : (w2.alloc (.cells #[] 122)).cell? ⟨w.heap.size, 1, none⟩ = some (.slice Pf files.length cf) := ((hr0.alloc _).cell 1).trans rfl
       have y3 : w.heap.size < w2.heap.size := hr0.lt
       have HR02 := Lib.hid hr0
       have HR12 := Lib.hid hr1
       have HE2 := Lib.hid hE2
       have HP2 := Lib.hid hP2
       have HB3 := Lib.hid (HB2.out.trans (hb2.mono HB2.out.size))
       have HFS := Lib.hid (HIN.out _ HB3.out).files
       clear hE2 hb2 hr0 hr1 hP2
       subst hv2)
    | (at_builtin
       refine app_filesP rfl (.tmp 23) (.tmp 25) rfl rfl _ files rfl T HFS.out hfl ?_
       intro v3 w3 fl hfe hFO hfarb hb3
       have HFARB := Lib.hid (fun x hx => (hfarb x hx).2)
       clear hfarb
       obtain ⟨P3, c3, hv3, _, _⟩ := rows_at hFO.row
       have HFO := Lib.hid hFO
       have HB4 := Lib.hid hb3
       have HFE := Lib.hid hfe
       have hfn : fl.length = files.length := by rw [← hfe, List.length_map]
       rw [hfn] at hv3
       clear hFO hb3 hfe y1 y2
       subst hv3))
  have hsz := HB4.out.size
  have HSU := Lib.hid (HFI.out.sure)
  have HSM := Lib.hid (HFI.out.small)
  have hrm := HFI.out.room
  simp only at hrm
  go_loopw [9] (fun i wr => ∃ (k : Nat) (fl' : List (Option Addr × Nat × Fil)), k ≤ L.length ∧ i = .int .i64 (k : Int) ∧ FO wr w2.heap.size (.slice P3 files.length c3) fl' ∧ fl'.length = files.length ∧ crashFiles (fl'.map fun x => x.2.2) (L.drop k) (ks.drop k) = crashFiles files L ks ∧ SureOk (fl'.map fun x => x.2.2) ∧ (∀ x ∈ fl', x.2.2.b.length ≤ 4194304) ∧ (∀ x ∈ fl', FarB T x) ∧ Below w2.heap.size w2 wr) (fun i _ => L.length - (intOf i).toNat)
  case atStart =>
    refine ⟨0, fl, Nat.zero_le _, rfl, HFO.out, by rw [← HFE.out, List.length_map], by rw [HFE.out]; rfl, by rw [HFE.out]; exact HSU.out, fun x hx => ?_, HFARB.out, HB4.out⟩
    obtain ⟨q, hq, hqe⟩ := List.getElem_of_mem hx
    have h1 := HSM.out q
    have h2 : files.getD q fil0 = x.2.2 := by rw [← HFE.out]; simp [List.getD, List.getElem?_eq_getElem hq, hqe]
    simp only at h1
    rw [h2] at h1
    omega
  case round =>
    obtain ⟨k, fl', hk, rfl, hFO, hln, hcr, hsu, hsm, hfarb, hb⟩ := hrel
    have HFARB2 := Lib.hid hfarb
    clear hfarb
    have HFO' := Lib.hid hFO
    have HBB := Lib.hid hb
    by_cases hlt : k < L.length
    · obtain ⟨gL, rfl, _, hgL, _, l1⟩ := HP2.out k hlt
      have l1' : wr.cell? ⟨gL, k * 2 + 1, none⟩ = some (.int .i64 ((L.getD k ⟨[], 0⟩).file : Int)) := (hb.cell (p := ⟨gL, k * 2 + 1, none⟩) hgL).trans l1
      have hmem : L.getD k ⟨[], 0⟩ ∈ L := by
        rw [List.getD_eq_getElem?_getD, List.getElem?_eq_getElem hlt]
        exact List.getElem_mem hlt
      have hyf := HLI.out _ hmem
      rw [drop_cons hlt] at hcr
      generalize L.getD k ⟨[], 0⟩ = y at *
      obtain ⟨yn, yf⟩ := y
      simp only at hyf l1'
      obtain ⟨x, hx⟩ : ∃ x, fl'[yf]? = some x := ⟨_, List.getElem?_eq_getElem (by omega)⟩
      have hxm : x ∈ fl' := List.mem_of_getElem? hx
      obtain ⟨x1, x2, x3⟩ := hFO.each x hxm
      have hxfar := HFARB2.out x hxm
      have hx4 := hsm x hxm
      have hgx : (fl'.map fun x => x.2.2).getD yf fil0 = x.2.2 := by simp [List.getD, hx]
      have hx5 := hsu yf
      rw [hgx] at hx5
      obtain ⟨P4, c4, hv4, _, hP4⟩ := rows_at hFO.row
      obtain ⟨gF, g1, _, g3, f0⟩ := hP4 (yf * 2 + 0) _ (flat_get filC 2 filC_len fl' yf x 0 hx (by omega))
      obtain ⟨gF', g1', _, _, f1⟩ := hP4 (yf * 2 + 1) _ (flat_get filC 2 filC_len fl' yf x 1 hx (by omega))
      have e9 := (Value.slice.inj hv4).1
      rw [← e9] at g1 g1'
      subst g1
      have e8 := congrArg Addr.block (Option.some.inj g1')
      simp only at e8
      subst e8
      have i1 : (k : Int) < (L.length : Int) := by omega
      have i2 : (yf : Int) < (files.length : Int) := by omega
      obtain ⟨A, cA, ff⟩ := x
      obtain ⟨fb, fs⟩ := ff
      simp only at x1 x2 x3 hx4 hx5 hgx
      rw [Nat.add_zero] at f0
      have HXFAR := Lib.hid hxfar
      clear hxfar
      generalize hnb : fb.length = n at *
      have hBn := below_one wr (.cells #[.slice A n cA, .int .i64 (fs : Int)] 122)
      have hF5 := hFO.below hBn
      have hZ := Row.new wr 122 #[.slice A n cA, .int .i64 (fs : Int)]
      have hl5 := (hBn.cell (p := ⟨gL, k * 2 + 1, none⟩) (Nat.lt_of_lt_of_le hgL hb.size)).trans l1'
      have hf0 := (hBn.cell (p := ⟨gF, yf * 2, none⟩) g3).trans f0
      have hf1 := (hBn.cell (p := ⟨gF, yf * 2 + 1, none⟩) g3).trans f1
      have hb5 : Below w2.heap.size w2 (wr.alloc (.cells #[.slice A n cA, .int .i64 (fs : Int)] 122)) := hb.trans (hBn.mono hb.size)
      have hgF := (World.ownsRow.lt hFO.row gF rfl).1
      clear hP4 hv4 e9 g1' hFO l1
      by_cases hkk : k < ks.length
      · obtain ⟨bK, oK, rfl, hKl, hKc⟩ := (HKS.out wr (HB3.out.trans (hb.mono HB3.out.size))).at_ (by omega)
        have kc0 := hKc k hkk
        have hK5 := (hBn.cell (p := ⟨bK, oK + k, none⟩) hKl).trans kc0
        have hkr := HKB.out k hkk
        have hkd : ks.drop k = ks.getD k 0 :: ks.drop (k + 1) := by
          rw [List.drop_eq_getElem_cons hkk]
          simp [List.getD, List.getElem?_eq_getElem hkk]
        have hr : keptOf (ks.drop k) ⟨fb, fs⟩ = modU (ks.getD k 0) (n - fs + 1) := by
          rw [hkd]
          show modU _ (fb.length - fs + 1) = _
          rw [hnb]
        obtain ⟨uk, m1, m2, m3, m4⟩ := mod_facts (ks.getD k 0) (n - fs)
        have i3 : (k : Int) < (ks.length : Int) := by omega
        have n1 : IntKind.i64.wrap ((n : Int) - (fs : Int)) = ((n - fs : Nat) : Int) := by rw [show (n : Int) - (fs : Int) = ((n - fs : Nat) : Int) by omega]; exact IntWalk.i64_in _ (by omega)
        have n2 : IntKind.i64.wrap (((n - fs : Nat) : Int) + 1) = ((n - fs : Nat) : Int) + 1 := IntWalk.i64_in _ (by omega)
        have n3 : IntKind.u64.wrap (((n - fs : Nat) : Int) + 1) = ((n - fs : Nat) : Int) + 1 := by rw [IntKind.wrap_u64]; omega
        have n4 : ¬ (((n - fs : Nat) : Int) + 1 = 0) := by omega
        generalize hq : n - fs = q at *
        generalize modU (ks.getD k 0) (q + 1) = r at *
        have n5 : IntKind.i64.wrap (r : Int) = (r : Int) := IntWalk.i64_in _ (by omega)
        have n6 : IntKind.u64.wrap (r : Int) = (r : Int) := by rw [IntKind.wrap_u64]; omega
        generalize ks.getD k 0 = kk at *
        have hrn : fs + r ≤ n := by omega
        have HCS := Lib.hid (crash_step (A := A) (cA := cA) hcr hgx hr)
        have HSS := Lib.hid (sure_step (yf := yf) (A := A) (cA := cA) (r := r) hsu (b := fb) (s := fs) (by omega))
        have HX1 := Lib.hid (x1.below hBn)
        have HHZ := Lib.hid hF5
        have HB5 := Lib.hid hb5
        have HLN := Lib.hid hln
        have HSMM := Lib.hid hsm
        have HGF := Lib.hid hgF
        have HX3 := Lib.hid x3
        clear hcr hgx hr hsu hF5 hb5 x1 x3 hsm hx hxm hmem hyf hkd kc0 hKc
        go_wp2_with fail
        generalize wr.alloc (.cells #[.slice A n cA, .int .i64 (fs : Int)] 122) = x5 at *
        generalize wr.heap.size = gN at *
        have s0 : x5.cell? ⟨gN, 0, none⟩ = some (.slice A n cA) := (hZ.cell 0).trans rfl
        have s1 : x5.cell? ⟨gN, 1, none⟩ = some (.int .i64 (fs : Int)) := (hZ.cell 1).trans rfl
        clear l1' f0 f1 hBn hZ hb g3 hgL
        go_quiet (fail)
        have HHZ6 : Hid (FO (x5.drewN nq) w2.heap.size (.slice (some ⟨gF, 0, none⟩) files.length c3) fl') := Lib.hid (HHZ.out.below (drawn _ _ _))
        have HB6 : Hid (Below w2.heap.size w2 (x5.drewN nq)) := Lib.hid (HB5.out.trans (drawn _ _ _))
        have HX16 : Hid (Bys (x5.drewN nq) A fb) := Lib.hid (HX1.out.below (drawn _ _ _))
        have s06 : (x5.drewN nq).cell? ⟨gN, 0, none⟩ = some (.slice A n cA) := s0
        have s16 : (x5.drewN nq).cell? ⟨gN, 1, none⟩ = some (.int .i64 (fs : Int)) := s1
        have l6 : (x5.drewN nq).cell? ⟨gL, k * 2 + 1, none⟩ = some (.int .i64 (yf : Int)) := hl5
        have h06 : (x5.drewN nq).cell? ⟨gF, yf * 2, none⟩ = some (.slice A n cA) := hf0
        have h16 : (x5.drewN nq).cell? ⟨gF, yf * 2 + 1, none⟩ = some (.int .i64 (fs : Int)) := hf1
        clear HHZ HB5 HX1 s0 s1 hl5 hf0 hf1 hK5 m1 m2 m3 n1 n2 n3 n4 n5 n6 hq
        generalize x5.drewN nq = x6 at *
        have fz0 := rows_frozen HHZ6.out.row (yf * 2)
        have fz1 := rows_frozen HHZ6.out.row (yf * 2 + 1)
        have o1 : IntKind.i64.wrap ((fs : Int) + (r : Int)) = (fs : Int) + (r : Int) := IntWalk.i64_in _ (by omega)
        have b1 : (0 : Int) ≤ (fs : Int) + (r : Int) := by omega
        have b2 : (fs : Int) + (r : Int) ≤ (cA : Int) := by omega
        have b3 : ((fs : Int) + (r : Int)).toNat = fs + r := by omega
        have htl : (fb.take (fs + r)).length = fs + r := by rw [List.length_take]; omega
        have hst := fo_set HHZ6.out HLN.out.symm yf (by rw [HLN.out]; omega) (A, cA, ⟨fb.take (fs + r), fs + r⟩) (HX16.out.front (fs + r)) (by show (fb.take (fs + r)).length ≤ cA; rw [htl]; omega) (by
          rcases HX3.out with h0 | h0
          · exact .inl (by show fb.take (fs + r) = []; rw [h0]; simp)
          · exact .inr fun ad e e2 => h0 ad e (by rw [e2]; rfl))
        simp only [htl] at hst
        have HST : Hid (FO ((x6.setCell ⟨gF, yf * 2, none⟩ (.slice A (fs + r) cA)).setCell ⟨gF, yf * 2 + 1, none⟩ (.int .i64 ((fs : Int) + (r : Int)))) w2.heap.size (.slice (some ⟨gF, 0, none⟩) files.length c3) (fl'.set yf (A, cA, ⟨fb.take (fs + r), fs + r⟩))) := Lib.hid hst
        have HBS := Lib.hid (show Below w2.heap.size w2 ((x6.setCell ⟨gF, yf * 2, none⟩ (.slice A (fs + r) cA)).setCell ⟨gF, yf * 2 + 1, none⟩ (.int .i64 ((fs : Int) + (r : Int)))) from (HB6.out.setCell HGF.out _).setCell HGF.out _)
        have HSM2 := Lib.hid (show ∀ z ∈ fl'.set yf (A, cA, ⟨fb.take (fs + r), fs + r⟩), z.2.2.b.length ≤ 4194304 from fun z hz => by
          rcases List.mem_or_eq_of_mem_set hz with h | h
          · exact HSMM.out z h
          · rw [h]
            show (fb.take (fs + r)).length ≤ _
            rw [htl]
            omega)
        have HFAR2 := Lib.hid (show ∀ z ∈ fl'.set yf (A, cA, ⟨fb.take (fs + r), fs + r⟩), FarB T z from fun z hz => by
          rcases List.mem_or_eq_of_mem_set hz with h | h
          · exact HFARB2.out z h
          · rw [h]
            refine HXFAR.out.imp (fun h0 => ?_) id
            show fb.take (fs + r) = []
            have h0' : fb = [] := h0
            rw [h0']
            simp)
        have HLN2 := Lib.hid (show (fl'.set yf (A, cA, ⟨fb.take (fs + r), fs + r⟩)).length = files.length by rw [List.length_set]; exact HLN.out)
        clear hst htl
        go_wp2_with fail
        go_region
        go_wp2
        go_roundw
        case rel => exact ⟨k + 1, _, by omega, by go_num, HST.out.below (drawn _ _ 1), HLN2.out, HCS.out, HSS.out, HSM2.out, HFAR2.out, HBS.out.trans (drawn _ _ 1)⟩
        case measure => simp [intOf]; omega
      · have hr : keptOf (ks.drop k) ⟨fb, fs⟩ = 0 := by rw [List.drop_eq_nil_of_le (by omega)]; rfl
        have i3 : ¬ ((k : Int) < (ks.length : Int)) := by omega
        have HCS := Lib.hid (crash_step (A := A) (cA := cA) hcr hgx hr)
        have HSS := Lib.hid (sure_step (yf := yf) (A := A) (cA := cA) (r := 0) hsu (b := fb) (s := fs) (by omega))
        have HX1 := Lib.hid (x1.below hBn)
        have HHZ := Lib.hid hF5
        have HB5 := Lib.hid hb5
        have HLN := Lib.hid hln
        have HSMM := Lib.hid hsm
        have HGF := Lib.hid hgF
        have HX3 := Lib.hid x3
        clear hcr hgx hr hsu hF5 hb5 x1 x3 hsm hx hxm hmem hyf
        go_wp2_with fail
        generalize wr.alloc (.cells #[.slice A n cA, .int .i64 (fs : Int)] 122) = x5 at *
        generalize wr.heap.size = gN at *
        have s0 : x5.cell? ⟨gN, 0, none⟩ = some (.slice A n cA) := (hZ.cell 0).trans rfl
        have s1 : x5.cell? ⟨gN, 1, none⟩ = some (.int .i64 (fs : Int)) := (hZ.cell 1).trans rfl
        have fz0 := rows_frozen HHZ.out.row (yf * 2)
        have fz1 := rows_frozen HHZ.out.row (yf * 2 + 1)
        clear l1' f0 f1 hBn hZ hb g3 hgL
        have b2 : (fs : Int) ≤ (cA : Int) := by omega
        have b1 : (0 : Int) ≤ (fs : Int) := by omega
        have htl : (fb.take (fs + 0)).length = fs := by rw [List.length_take]; omega
        have hst := fo_set HHZ.out HLN.out.symm yf (by rw [HLN.out]; omega) (A, cA, ⟨fb.take (fs + 0), fs + 0⟩) (HX1.out.front (fs + 0)) (by show (fb.take (fs + 0)).length ≤ cA; rw [htl]; omega) (by
          rcases HX3.out with h0 | h0
          · exact .inl (by show fb.take (fs + 0) = []; rw [h0]; simp)
          · exact .inr fun ad e e2 => h0 ad e (by rw [e2]; rfl))
        simp only [htl] at hst
        have HST := Lib.hid hst
        have HBS := Lib.hid (show Below w2.heap.size w2 ((x5.setCell ⟨gF, yf * 2, none⟩ (.slice A fs cA)).setCell ⟨gF, yf * 2 + 1, none⟩ (.int .i64 ((fs + 0 : Nat) : Int))) from (HB5.out.setCell HGF.out _).setCell HGF.out _)
        have HSM2 := Lib.hid (show ∀ z ∈ fl'.set yf (A, cA, ⟨fb.take (fs + 0), fs + 0⟩), z.2.2.b.length ≤ 4194304 from fun z hz => by
          rcases List.mem_or_eq_of_mem_set hz with h | h
          · exact HSMM.out z h
          · rw [h]
            show (fb.take (fs + 0)).length ≤ _
            rw [htl]
            omega)
        have HFAR2 := Lib.hid (show ∀ z ∈ fl'.set yf (A, cA, ⟨fb.take (fs + 0), fs + 0⟩), FarB T z from fun z hz => by
          rcases List.mem_or_eq_of_mem_set hz with h | h
          · exact HFARB2.out z h
          · rw [h]
            refine HXFAR.out.imp (fun h0 => ?_) id
            show fb.take (fs + 0) = []
            have h0' : fb = [] := h0
            rw [h0']
            simp)
        have HLN2 := Lib.hid (show (fl'.set yf (A, cA, ⟨fb.take (fs + 0), fs + 0⟩)).length = files.length by rw [List.length_set]; exact HLN.out)
        clear hst htl
        go_region
        go_wp2
        go_roundw
        case rel => exact ⟨k + 1, _, by omega, by go_num, HST.out.below (drawn _ _ 1), HLN2.out, HCS.out, HSS.out, HSM2.out, HFAR2.out, HBS.out.trans (drawn _ _ 1)⟩
        case measure => simp [intOf]; omega
    · obtain rfl : k = L.length := by omega
      rw [List.drop_length] at hcr
      have hfe : (fl'.map fun x => x.2.2) = crashFiles files L ks := hcr
      have h0 := HR02.out.below hb HR02.out.lt
      have h1 := HR12.out.below hb HR12.out.lt
      have z0 : wr.cell? ⟨w.heap.size, 0, none⟩ = some (.int .i64 (room : Int)) := (h0.cell 0).trans rfl
      have z6 : wr.cell? ⟨w.heap.size, 6, none⟩ = some (.int .i64 (count : Int)) := (h0.cell 6).trans rfl
      have r0 : wr.cell? ⟨w.heap.size + 1, 0, none⟩ = some (.int .i64 0) := (h1.cell 0).trans rfl
      have r1 : wr.cell? ⟨w.heap.size + 1, 1, none⟩ = some (.slice none 0 0) := (h1.cell 1).trans rfl
      have r2 : wr.cell? ⟨w.heap.size + 1, 2, none⟩ = some (.slice none 0 0) := (h1.cell 2).trans rfl
      have r3 : wr.cell? ⟨w.heap.size + 1, 3, none⟩ = some (.slice none 0 0) := (h1.cell 3).trans rfl
      have r4 : wr.cell? ⟨w.heap.size + 1, 4, none⟩ = some (.int .i64 0) := (h1.cell 4).trans rfl
      have r5 : wr.cell? ⟨w.heap.size + 1, 5, none⟩ = some (.bool false) := (h1.cell 5).trans rfl
      have r6 : wr.cell? ⟨w.heap.size + 1, 6, none⟩ = some (.int .i64 0) := (h1.cell 6).trans rfl
      have q0 := h1.frozen 0
      have q1 := h1.frozen 1
      have q2 := h1.frozen 2
      have q3 := h1.frozen 3
      have q4 := h1.frozen 4
      have q5 := h1.frozen 5
      have q6 := h1.frozen 6
      have H1 := Lib.hid h1
      have HFE' := Lib.hid hfe
      have HEW := Lib.hid (rows_below HE2.out hb)
      clear hcr hfe h0 h1 hsu hsm hFO hln
      have HRW := Lib.hid (((((((H1.out.setAt 0 (.int .i64 (room : Int))).setAt 1 (.slice P3 files.length c3)).setAt 2 (.slice P2 L.length c2)).setAt 3 (.slice none 0 0)).setAt 4 (.int .i64 (-1))).setAt 5 (.bool false)).setAt 6 (.int .i64 (count : Int)))
      have HK7 := Lib.hid ((((((((Kept.refl (fun j => j = w.heap.size + 1) wr).set (p := ⟨w.heap.size + 1, 0, none⟩) (.inl rfl) (.int .i64 (room : Int))).set (p := ⟨w.heap.size + 1, 1, none⟩) (.inl rfl) (.slice P3 files.length c3)).set (p := ⟨w.heap.size + 1, 2, none⟩) (.inl rfl) (.slice P2 L.length c2)).set (p := ⟨w.heap.size + 1, 3, none⟩) (.inl rfl) (.slice none 0 0)).set (p := ⟨w.heap.size + 1, 4, none⟩) (.inl rfl) (.int .i64 (-1))).set (p := ⟨w.heap.size + 1, 5, none⟩) (.inl rfl) (.bool false)).set (p := ⟨w.heap.size + 1, 6, none⟩) (.inl rfl) (.int .i64 (count : Int)))
      have HBW := Lib.hid (HB3.out.trans (hb.mono HB3.out.size))
      go_wp2_with fail
      try simp only [Exit.inBlock, Exit.then]
      refine bodyPost_ret (ret_one rfl _ _ (w.heap.size + 1) _ rfl HRW.out rfl) rfl ?_
      rw [HCR.out]
      refine ⟨.slice P3 files.length c3, .slice P2 L.length c2, .slice none 0 0, rfl, ⟨?_, ?_, ⟨rfl, .inl ⟨rfl, rfl⟩⟩, far_own HFO'.out.row HTT.out HB3.out.size, HFR2.out, far_nil⟩, ?_⟩
      · have := files_keptT HFO'.out HFARB2.out H1.out (by decide) (by simp) HK7.out
        rw [HFE'.out] at this
        exact this
      · exact rows_kept HEW.out HK7.out fun q hq e => row_ne_rows H1.out HEW.out (by decide) (by rw [hq, e])
      · exact ((((((HBW.out.setCell (Nat.le_succ _) _).setCell (Nat.le_succ _) _).setCell (Nat.le_succ _) _).setCell (Nat.le_succ _) _).setCell (Nat.le_succ _) _).setCell (Nat.le_succ _) _).setCell (Nat.le_succ _) _
end Go.Proofs.Ytiepepikbophmaa
