/- The document's own disk as a value in memory, and its directories. -/
import Derived.Test.YtiepepikbophmaaRkWith
import Derived.Deep.RegionHeld3
namespace Go.Proofs.Ytiepepikbophmaa
open Go.RowKit Go.Maps
set_option linter.unusedVariables false

def stepC : Stp → List Value
  | .lay n f => [.int .i64 1, .string (txt n), .string (txt []), .int .i64 (f : Int)]
  | .move n t => [.int .i64 2, .string (txt n), .string (txt t), .int .i64 0]
  | .take n => [.int .i64 3, .string (txt n), .string (txt []), .int .i64 0]
theorem stepC_len (s : Stp) : (stepC s).length = 4 := by cases s <;> rfl
def StepsR (w : World) (base : Nat) (v : Value) (l : List Stp) : Prop := w.ownsRow base 127 4 v l.length (l.flatMap stepC)
def filC (x : Option Addr × Nat × Fil) : List Value := [.slice x.1 x.2.2.b.length x.2.1, .int .i64 (x.2.2.sure : Int)]
theorem filC_len (x : Option Addr × Nat × Fil) : (filC x).length = 2 := rfl
/-- A row of files: each with its bytes somewhere. -/
def FilesR (w : World) (base : Nat) (v : Value) (fs : List Fil) : Prop :=
  ∃ fl : List (Option Addr × Nat × Fil), fl.map (fun x => x.2.2) = fs ∧ w.ownsRow base 122 2 v fl.length (fl.flatMap filC) ∧ ∀ x ∈ fl, Bys w x.1 x.2.2.b ∧ x.2.2.b.length ≤ x.2.1
def refC (d : Dsk) (fv bv wv : Value) : List Value := [.int .i64 (d.room : Int), fv, bv, wv, .int .i64 d.left, .bool d.dark, .int .i64 (d.count : Int)]
/-- The value of a disk of the document's. -/
structure RefIn (w : World) (fv bv wv : Value) (d : Dsk) : Prop where
  files : FilesR w 0 fv d.files
  base : EntsR w 0 bv d.base
  wait : StepsR w 0 wv d.wait
theorem FilesR.below {w w' : World} {base : Nat} {v : Value} {fs : List Fil} (h : FilesR w base v fs) (hb : Below w.heap.size w w') : FilesR w' base v fs := by
  obtain ⟨fl, h1, h2, h3⟩ := h
  exact ⟨fl, h1, rows_below h2 hb, fun x hx => ⟨(h3 x hx).1.below hb, (h3 x hx).2⟩⟩
theorem RefIn.below {w w' : World} {fv bv wv : Value} {d : Dsk} (h : RefIn w fv bv wv d) (hb : Below w.heap.size w w') : RefIn w' fv bv wv d := ⟨h.files.below hb, rows_below h.base hb, rows_below h.wait hb⟩
theorem steps_at {w : World} {base : Nat} {v : Value} {l : List Stp} (h : StepsR w base v l) : ∃ P c, v = .slice P l.length c ∧ l.length ≤ c ∧ ∀ i s, l[i]? = some s → ∃ g, P = some ⟨g, 0, none⟩ ∧ base ≤ g ∧ g < w.heap.size ∧ ∀ j u, (stepC s)[j]? = some u → w.cell? ⟨g, i * 4 + j, none⟩ = some u := by
  obtain ⟨P, c, hv, hc, hP⟩ := rows_at h
  refine ⟨P, c, hv, hc, fun i s hs => ?_⟩
  have hz : (stepC s)[0]? = some ((stepC s)[0]'(by rw [stepC_len]; omega)) := List.getElem?_eq_getElem _
  obtain ⟨g, h1, h2, h3, _⟩ := hP (i * 4 + 0) _ ((flat_get stepC 4 stepC_len l i s 0 hs (by omega)).trans hz)
  refine ⟨g, h1, h2, h3, fun j u hj => ?_⟩
  have hj4 : j < 4 := by
    rcases Nat.lt_or_ge j 4 with h | h
    · exact h
    · rw [List.getElem?_eq_none (by rw [stepC_len]; exact h)] at hj
      cases hj
  obtain ⟨g', k1, _, _, k4⟩ := hP (i * 4 + j) u ((flat_get stepC 4 stepC_len l i s j hs hj4).trans hj)
  rw [h1] at k1
  injection k1 with k1
  injection k1 with k1 _ _
  subst k1
  exact k4
/-- Each rename that waits finds its name. -/
def Met (d : Dsk) : Prop := ∀ (k : Nat) (n t : List UInt8), d.wait[k]? = some (.move n t) → (whose (dirOf d.base (d.wait.take k)) n).isSome = true
theorem ref_cells {w w' : World} {d : Dsk} {fv bv wv : Value} (hb : Below (w.alloc (.cells (refC d fv bv wv).toArray 31)).heap.size (w.alloc (.cells (refC d fv bv wv).toArray 31)) w') : Row w' w.heap.size 31 (refC d fv bv wv).toArray := by
  have hr := Row.new w 31 (refC d fv bv wv).toArray
  exact row_move hr (hb.block _ hr.lt)
theorem row_cells {w : World} {g : Nat} {d : Dsk} {fv bv wv : Value} (h : Row w g 31 (refC d fv bv wv).toArray) :
    w.cell? ⟨g, 0, none⟩ = some (.int .i64 (d.room : Int)) ∧ w.cell? ⟨g, 1, none⟩ = some fv ∧ w.cell? ⟨g, 2, none⟩ = some bv ∧ w.cell? ⟨g, 3, none⟩ = some wv ∧ w.cell? ⟨g, 4, none⟩ = some (.int .i64 d.left) ∧ w.cell? ⟨g, 5, none⟩ = some (.bool d.dark) ∧ w.cell? ⟨g, 6, none⟩ = some (.int .i64 (d.count : Int)) :=
  ⟨(h.cell 0).trans rfl, (h.cell 1).trans rfl, (h.cell 2).trans rfl, (h.cell 3).trans rfl, (h.cell 4).trans rfl, (h.cell 5).trans rfl, (h.cell 6).trans rfl⟩
theorem dirOf_take {base : List Ent} {w : List Stp} {k : Nat} {s : Stp} (h : w[k]? = some s) : dirOf base (w.take (k + 1)) = stepDir (dirOf base (w.take k)) s := by
  rw [List.take_add_one, h]
  exact dirOf_snoc _ _ _

set_option maxRecDepth 20000 in
set_option maxHeartbeats 1000000 in
theorem dir_ref {w : World} {fv bv wv : Value} {d : Dsk} (h : RefIn w fv bv wv d) (hF : Fine d) (hM : Met d) (m : Nat) (hm : m ≤ d.wait.length) (hwl : d.wait.length ≤ 100000) :
    Calls Try.prog 84 #[.agg (refC d fv bv wv).toArray, .int .i64 (m : Int)] w fun e w' => ∃ v', e = .returned v' ∧ EntsR w' 0 v' (dirOf d.base (d.wait.take m)) ∧ Below w.heap.size w w' := by
  have HB0 := Lib.hid (below_one w (.cells (refC d fv bv wv).toArray 31))
  have HR0 := Lib.hid (fun w' hb => row_cells (ref_cells (w := w) (w' := w') (d := d) (fv := fv) (bv := bv) (wv := wv) hb))
  have HIN := Lib.hid (fun w' (hb : Below w.heap.size w w') => h.below hb)
  have HFI := Lib.hid hF
  have HME := Lib.hid hM
  obtain ⟨Pw, cw, hwv, hcw, _⟩ := steps_at h.wait
  obtain ⟨Pb, cb, hbv, _, _⟩ := ents_at h.base
  obtain ⟨fl, _, hfl, _⟩ := h.files
  obtain ⟨Pf, cf, hfv, _, _⟩ := rows_at hfl
  clear h hF hM hfl
  obtain ⟨room, files, base, wait, left, dark, count⟩ := d
  simp only at hwv hbv hm hwl hcw
  simp only [refC] at *
  generalize fl.length = nf at hfv
  generalize hnb : base.length = nb at hbv
  clear hnb
  subst hwv
  subst hbv
  subst hfv
  go_enter Try.func84, Try.ntmps84
  obtain ⟨x0, x1, x2, x3, x4, x5, x6⟩ := HR0.out _ (Below.refl _ _)
  go_wp2_with fail
  clear x0 x1 x2 x3 x4 x5 x6
  go_loopw [5, 6] (fun v i wr => ∃ k : Nat, k ≤ m ∧ i = .int .i64 (k : Int) ∧ EntsR wr 0 v (dirOf base (wait.take k)) ∧ Below (w.alloc (.cells #[.int .i64 (room : Int), .slice Pf nf cf, .slice Pb nb cb, .slice Pw wait.length cw, .int .i64 left, .bool dark, .int .i64 (count : Int)] 31)).heap.size (w.alloc (.cells #[.int .i64 (room : Int), .slice Pf nf cf, .slice Pb nb cb, .slice Pw wait.length cw, .int .i64 left, .bool dark, .int .i64 (count : Int)] 31)) wr) (fun _ i _ => m - (intOf i).toNat)
  case atStart => exact ⟨0, Nat.zero_le _, rfl, (HIN.out _ HB0.out).base, Below.refl _ _⟩
  case round =>
    obtain ⟨k, hk, rfl, hE, hb⟩ := hrel
    have hbw := below_then HB0.out hb
    have HE := Lib.hid hE
    have HBW := Lib.hid hbw
    have HB := Lib.hid hb
    obtain ⟨x0, x1, x2, x3, x4, x5, x6⟩ := HR0.out _ hb
    obtain ⟨Pe, ce, hve, _, _⟩ := ents_at hE
    by_cases hlt : k < m
    · obtain ⟨s, hs⟩ : ∃ s, wait[k]? = some s := ⟨wait[k], List.getElem?_eq_getElem (by omega)⟩
      obtain ⟨P', c', hv', _, hst⟩ := steps_at (HIN.out _ hbw).wait
      injection hv' with hv1 _ hv2
      subst hv1
      subst hv2
      obtain ⟨g, rfl, _, hgl, hc⟩ := hst k s hs
      have HTK := Lib.hid (dirOf_take (base := base) hs)
      have i1 : (k : Int) < (m : Int) := by omega
      have i2 : (k : Int) < (wait.length : Int) := by omega
      have hfew : (dirOf base (wait.take k)).length ≤ 64 := HFI.out.few k (by show k ≤ wait.length; omega)
      have HWI := Lib.hid (fun (wx : World) (q : Below wr.heap.size wr wx) (x : Ent) => with_ref (rows_below hE q) (by omega) x)
      have HWO := Lib.hid (fun (wx : World) (q : Below wr.heap.size wr wx) (z : ByteArray) => without_ref (rows_below hE q) (by omega) z)
      have HAT := Lib.hid (fun (wx : World) (q : Below wr.heap.size wr wx) (z : ByteArray) => at_ref (rows_below hE q) (by omega) z)
      have HMK := Lib.hid (fun n t (h : wait[k]? = some (.move n t)) => HME.out k n t h)
      clear hE hb hbw hst
      cases s with
      | lay n f =>
        have e0 := hc 0 _ rfl
        have e1 := hc 1 _ rfl
        have e2 := hc 2 _ rfl
        have e3 := hc 3 _ rfl
        rw [Nat.add_zero] at e0
        have hb1 := below_one wr (.cells #[.int .i64 1, .string (txt n), .string (txt []), .int .i64 (f : Int)] 127)
        have HC := Lib.hid (HWI.out _ hb1 ⟨n, f⟩)
        have HB1 := Lib.hid hb1
        generalize dirOf base (wait.take k) = L at *
        rw [hve] at HC
        generalize hnl : L.length = nl at hve HC
        clear hnl hc hb1 hs hfew
        subst hve
        go_wp2_with fail
        refine HC.out.mono ?_
        rintro e w2 ⟨v2, rfl, hE2, hb2⟩
        obtain ⟨P2, c2, hv2, _, _⟩ := ents_at hE2
        have HE2 := Lib.hid (rows_lower hE2 (Nat.zero_le _))
        have HB2 := Lib.hid (HB.out.trans ((below_then HB1.out hb2).mono HB.out.size))
        clear hE2 hb2
        generalize (put L ⟨n, f⟩).length = n2 at hv2
        subst hv2
        go_wp2
        go_roundw
        case rel => exact ⟨k + 1, by omega, by go_num, by rw [HTK.out]; exact HE2.out, HB2.out⟩
        case measure => simp [intOf]; omega
      | move n t =>
        have e0 := hc 0 _ rfl
        have e1 := hc 1 _ rfl
        have e2 := hc 2 _ rfl
        have e3 := hc 3 _ rfl
        rw [Nat.add_zero] at e0
        have hb1 := below_one wr (.cells #[.int .i64 2, .string (txt n), .string (txt t), .int .i64 0] 127)
        have hrow := Row.new wr 127 #[.int .i64 2, .string (txt n), .string (txt t), .int .i64 0]
        have HA := Lib.hid (HAT.out _ hb1 (txt n))
        obtain ⟨f, hf⟩ := Option.isSome_iff_exists.1 (HMK.out n t hs)
        have hat : atV (dirOf base (wait.take k)) n = (f : Int) := by unfold atV; rw [hf]
        have HTK' := Lib.hid (show dirOf base (wait.take (k + 1)) = put (lacking (dirOf base (wait.take k)) n) ⟨t, f⟩ by
          rw [HTK.out]
          show put (lacking _ n) ⟨t, (whose _ n).getD 0⟩ = _
          rw [hf]
          rfl)
        have HWX := Lib.hid (show ∀ x0 : World, Below wr.heap.size wr x0 → Calls Try.prog 97 #[.slice Pe (dirOf base (wait.take k)).length ce, .string (txt n)] x0.drew fun e w' => ∃ v', e = .returned v' ∧ EntsR w' x0.heap.size v' (lacking (dirOf base (wait.take k)) n) ∧ Below x0.heap.size x0.drew w' from fun x0 hx => by
          have := HWO.out x0.drew (below_drewN' hx 1) (txt n)
          rw [strL_txt, hve] at this
          exact this)
        have HB1 := Lib.hid hb1
        have HROW := Lib.hid hrow
        rw [strL_txt, hat, hve] at HA
        have hlk := lacking_few (dirOf base (wait.take k)) n
        have hll : (lacking (dirOf base (wait.take k)) n).length ≤ 1000 := by omega
        clear hlk hf hat
        generalize dirOf base (wait.take k) = L at *
        generalize hnl : L.length = nl at hve HA HWX
        clear hnl hc hs hfew hb1 hrow
        subst hve
        go_wp2_with fail
        refine HA.out.mono ?_
        rintro e w2 ⟨rfl, rfl⟩
        clear HA HAT HWO HMK
        generalize wr.alloc (.cells #[.int .i64 2, .string (txt n), .string (txt t), .int .i64 0] 127) = x9 at *
        have z1 : x9.cell? ⟨wr.heap.size, 1, none⟩ = some (.string (txt n)) := (HROW.out.cell 1).trans rfl
        have z2 : x9.cell? ⟨wr.heap.size, 2, none⟩ = some (.string (txt t)) := (HROW.out.cell 2).trans rfl
        clear e0 e1 e2 e3 x0 x1 x2 x3 x4 x5 x6
        have HLT := Lib.hid (HROW.out.lt)
        go_wp2_with fail
        go_region_held3 (fun w' => w'.cell? ⟨wr.heap.size, 1, none⟩ = some (.string (txt n)) ∧ w'.cell? ⟨wr.heap.size, 2, none⟩ = some (.string (txt t)))
          (first | exact z1 | exact z2 | exact y1 | exact y2 | exact u1 | exact u2 | go_keep)
          (first
            | (go_at_call 97
               refine (HWX.out x9 HB1.out).mono ?_
               rintro e w3 ⟨v3, rfl, hE3, hb3⟩
               obtain ⟨P3, c3, hv3, _, _⟩ := ents_at hE3
               have hb3' : Below x9.heap.size x9 w3 := (drawn x9.heap.size x9 1).trans hb3
               have hr3 := row_move HROW.out (hb3'.block _ HLT.out)
               have y1 : w3.cell? ⟨wr.heap.size, 1, none⟩ = some (.string (txt n)) := (hr3.cell 1).trans rfl
               have y2 : w3.cell? ⟨wr.heap.size, 2, none⟩ = some (.string (txt t)) := (hr3.cell 2).trans rfl
               have HW3 := Lib.hid (with_ref (rows_lower hE3 (Nat.zero_le _)) hll ⟨t, f⟩)
               have HB3 := Lib.hid hb3'
               have HR3 := Lib.hid hr3
               rw [hv3] at HW3
               generalize (lacking L n).length = n3 at hv3 HW3
               clear hE3 hb3 hb3' hr3
               subst hv3)
            | (go_at_call 96
               refine HW3.out.mono ?_
               rintro e w4 ⟨v4, rfl, hE4, hb4⟩
               obtain ⟨P4, c4, hv4, _, _⟩ := ents_at hE4
               have hr4 := row_move HR3.out (hb4.block _ HR3.out.lt)
               have u1 : w4.cell? ⟨wr.heap.size, 1, none⟩ = some (.string (txt n)) := (hr4.cell 1).trans rfl
               have u2 : w4.cell? ⟨wr.heap.size, 2, none⟩ = some (.string (txt t)) := (hr4.cell 2).trans rfl
               have HE4 := Lib.hid (rows_lower hE4 (Nat.zero_le _))
               have HB4 := Lib.hid (HB.out.trans ((below_then HB1.out (below_then HB3.out hb4)).mono HB.out.size))
               generalize (put (lacking L n) ⟨t, f⟩).length = n4 at hv4
               clear hE4 hb4 hr4
               subst hv4))
        all_goals
          go_wp2
          go_roundw
          case rel => exact ⟨k + 1, by omega, by go_num, by rw [HTK'.out]; exact HE4.out, HB4.out⟩
          case measure => simp [intOf]; omega
      | take n =>
        have e0 := hc 0 _ rfl
        have e1 := hc 1 _ rfl
        have e2 := hc 2 _ rfl
        have e3 := hc 3 _ rfl
        rw [Nat.add_zero] at e0
        have hb1 := below_one wr (.cells #[.int .i64 3, .string (txt n), .string (txt []), .int .i64 0] 127)
        have HC := Lib.hid (HWO.out _ hb1 (txt n))
        have HB1 := Lib.hid hb1
        generalize dirOf base (wait.take k) = L at *
        rw [hve, strL_txt] at HC
        generalize hnl : L.length = nl at hve HC
        clear hnl hc hb1 hs hfew
        subst hve
        go_wp2_with fail
        refine HC.out.mono ?_
        rintro e w2 ⟨v2, rfl, hE2, hb2⟩
        obtain ⟨P2, c2, hv2, _, _⟩ := ents_at hE2
        have HE2 := Lib.hid (rows_lower hE2 (Nat.zero_le _))
        have HB2 := Lib.hid (HB.out.trans ((below_then HB1.out hb2).mono HB.out.size))
        clear hE2 hb2
        generalize (lacking L n).length = n2 at hv2
        subst hv2
        go_wp2
        go_roundw
        case rel => exact ⟨k + 1, by omega, by go_num, by rw [HTK.out]; exact HE2.out, HB2.out⟩
        case measure => simp [intOf]; omega
    · obtain rfl : k = m := by omega
      clear hE hb hbw
      generalize (dirOf base (wait.take k)).length = nl at hve
      subst hve
      go_wp2_with fail
      go_ret
      exact ⟨_, rfl, HE.out, HBW.out⟩
end Go.Proofs.Ytiepepikbophmaa
