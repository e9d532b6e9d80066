/- The document's own disk: Crash. -/
import Derived.Test.YtiepepikbophmaaRkCopy
import Derived.Test.YtiepepikbophmaaInts
import Derived.StillTailTactics
import Derived.BigRegion
namespace Go.Proofs.Ytiepepikbophmaa
open Go.RowKit Go.Maps
set_option linter.unusedVariables false

theorem mod_facts (x : Int) (n : Nat) : ∃ u : Nat, IntKind.u64.wrap x = (u : Int) ∧ (((n : Int) + 1) == 0) = false ∧ (u : Int).tmod ((n : Int) + 1) = ((modU x (n + 1) : Nat) : Int) ∧ modU x (n + 1) < n + 1 := by
  refine ⟨(x % 18446744073709551616).toNat, ?_, ?_, ?_, Nat.mod_lt _ (by omega)⟩
  · rw [IntKind.wrap_u64]
    omega
  · rw [beq_eq_false_iff_ne]
    omega
  · unfold modU
    rw [Int.ofNat_tmod]
    rfl
theorem rows_frozen {w : World} {base e k n m g cap : Nat} {xs : List Value} (h : w.ownsRow base e k (.slice (some ⟨g, 0, none⟩) m cap) n xs) (j : Nat) : w.frozen? ⟨g, j, none⟩ = false := by
  rcases h.2 with ⟨h2, _⟩ | ⟨g', cap', cur, hv, hg, hh, _⟩
  · cases h2
  · have e2 : g = g' := congrArg Addr.block (Option.some.inj (Value.slice.inj hv).1)
    subst e2
    exact (show Row w g e cur from hh).frozen j
/-- One file more of those that a crash cuts. -/
theorem crash_step {fl : List (Option Addr × Nat × Fil)} {yf : Nat} {yn : List UInt8} {R : List Ent} {ks : List Int} {k : Nat} {A : Option Addr} {cA : Nat} {b : List UInt8} {s r : Nat} {T : List Fil}
    (hcr : crashFiles (fl.map fun x => x.2.2) (⟨yn, yf⟩ :: R) (ks.drop k) = T) (hg : (fl.map fun x => x.2.2).getD yf fil0 = ⟨b, s⟩) (hr : keptOf (ks.drop k) ⟨b, s⟩ = r) :
    crashFiles ((fl.set yf (A, cA, ⟨b.take (s + r), s + r⟩)).map fun x => x.2.2) R (ks.drop (k + 1)) = T := by
  rw [← hcr, crashFiles, hg, hr, List.drop_drop, List.map_set]
  rfl
theorem sure_step {fl : List (Option Addr × Nat × Fil)} {yf : Nat} {A : Option Addr} {cA : Nat} {b : List UInt8} {s r : Nat} (h : SureOk (fl.map fun x => x.2.2)) (hr : s + r ≤ b.length) : SureOk ((fl.set yf (A, cA, ⟨b.take (s + r), s + r⟩)).map fun x => x.2.2) := by
  rw [List.map_set]
  intro q
  rw [fget_set]
  split
  · show s + r ≤ (b.take (s + r)).length
    rw [List.length_take]
    omega
  · exact h q
theorem bys_far {w w' : World} {g : Nat} {t : TypeId} {cs : Array Value} (h : Row w g t cs) (hn : ∀ v ∈ cs, ∀ x, v ≠ Value.int .u8 x) (hK : Kept (fun j => j = g) w w') {A : Option Addr} {l : List UInt8} (hA : Bys w A l) : Bys w' A l := by
  rcases hA with h0 | ⟨b, o, rfl, hlt, hc⟩
  · exact .inl h0
  · rcases Nat.eq_zero_or_pos l.length with h0 | h0
    · exact .inl (List.eq_nil_of_length_eq_zero h0)
    · refine bys_move (.inr ⟨b, o, rfl, hlt, hc⟩) hK.size (.inr fun ad e => ?_)
      injection e with e
      subst e
      refine hK.block b hlt fun e2 => ?_
      have e3 : b = g := e2
      subst e3
      have h1 := hc 0 h0
      rw [h.cell] at h1
      exact hn _ (Array.mem_of_getElem? h1) _ rfl
/-- Files stay under stores into a block of another make. -/
theorem files_kept {w w' : World} {base g : Nat} {t : TypeId} {cs : Array Value} {v : Value} {fl : List (Option Addr × Nat × Fil)} (h : FO w base v fl) (hg : Row w g t cs) (ht : t ≠ 122) (hn : ∀ v ∈ cs, ∀ x, v ≠ Value.int .u8 x) (hK : Kept (fun j => j = g) w w') : FilesR w' 0 v (fl.map fun x => x.2.2) := by
  refine ⟨fl, rfl, rows_kept (rows_lower h.row (Nat.zero_le _)) hK fun k hk e => row_ne_rows hg h.row ht (by rw [hk, e]), fun x hx => ?_⟩
  obtain ⟨x1, x2, _⟩ := h.each x hx
  exact ⟨bys_far hg hn hK x1, x2⟩
def RefTold (w : World) (d : Dsk) (e : Ending) (w' : World) : Prop := ∃ fv bv wv, e = .returned (.agg (refC d fv bv wv).toArray) ∧ RefIn w' fv bv wv d ∧ Below w.heap.size w w'
set_option maxRecDepth 20000 in
set_option maxHeartbeats 1000000 in
theorem crash_ref {w : World} {fv bv wv : Value} {d : Dsk} (h : RefIn w fv bv wv d) (hF : Fine d) (hM : Met d) (hwl : d.wait.length ≤ 100000) (hfl : d.files.length ≤ 1000000)
    (dirs : Int) (hd : -9223372036854775808 ≤ dirs ∧ dirs ≤ 9223372036854775807) (V : Option Addr) (ks : List Int) (kc : Nat) (hks : Ints w V ks) (hkl : ks.length ≤ 281474976710656) (hkb : ∀ i, i < ks.length → -9223372036854775808 ≤ ks.getD i 0 ∧ ks.getD i 0 ≤ 9223372036854775807) :
    Calls Try.prog 47 #[.agg (refC d fv bv wv).toArray, .int .i64 dirs, .slice V ks.length kc] w (RefTold w (crashD d dirs ks)) := by
  have hB1 := below_one w (.cells (refC d fv bv wv).toArray 31)
  have hB2 := (hB1).alloc (B := w.heap.size) hB1.size (.cells #[.int .i64 0, .slice none 0 0, .slice none 0 0, .slice none 0 0, .int .i64 0, .bool false, .int .i64 0] 31)
  obtain ⟨u, hu1, hu2, hu3, hu4⟩ := mod_facts dirs d.wait.length
  have hR0 := (Row.new w 31 (refC d fv bv wv).toArray).alloc (.cells #[.int .i64 0, .slice none 0 0, .slice none 0 0, .slice none 0 0, .int .i64 0, .bool false, .int .i64 0] 31)
  have hR1 := row_new2 w (.cells (refC d fv bv wv).toArray 31) 31 #[.int .i64 0, .slice none 0 0, .slice none 0 0, .slice none 0 0, .int .i64 0, .bool false, .int .i64 0]
  obtain ⟨⟨Pf, cf, hfv⟩, ⟨Pb, cb, hbv⟩, ⟨Pw, cw, hwv⟩⟩ := ref_forms h
  have HDI := Lib.hid (fun (x : World) (hb : Below w.heap.size w x) => dir_ref (h.below hb) hF hM (modU dirs (d.wait.length + 1)) (by omega) hwl)
  have HIN := Lib.hid (fun (x : World) (hb : Below w.heap.size w x) => h.below hb)
  have HFI := Lib.hid hF
  have HKS := Lib.hid (fun (x : World) (hb : Below w.heap.size w x) => hks.below hb)
  have HKB := Lib.hid hkb
  have HCD := Lib.hid (show dirOf d.base (d.wait.take (modU dirs (d.wait.length + 1))) = crashDir d dirs from rfl)
  have hin := hF.inside (modU dirs (d.wait.length + 1)) (by omega)
  have hfew := hF.few (modU dirs (d.wait.length + 1)) (by omega)
  rw [HCD.out] at HDI hin hfew
  have HLI := Lib.hid (fun x hx => (hin x hx).1)
  have HCR := Lib.hid (show crashD d dirs ks = ⟨d.room, crashFiles d.files (crashDir d dirs) ks, crashDir d dirs, [], -1, false, d.count⟩ from rfl)
  clear h hF hM hB1 hks hkb hin
  generalize crashD d dirs ks = D at *
  generalize crashDir d dirs = L at *
  generalize modU dirs (d.wait.length + 1) = mm at *
  obtain ⟨room, files, base, wait, left, dark, count⟩ := d
  simp only at hwv hbv hfv hwl hfl hu2 hu3 hu4 HFI HIN HLI HCR HCD
  simp only [refC] at *
  generalize base.length = nb at *
  generalize hnw : wait.length = nw at *
  subst hwv
  subst hbv
  subst hfv
  have hw1 : IntKind.i64.wrap ((nw : Int) + 1) = (nw : Int) + 1 := IntWalk.i64_in _ (by omega)
  have hw2 : IntKind.u64.wrap ((nw : Int) + 1) = (nw : Int) + 1 := by rw [IntKind.wrap_u64]; omega
  have hz2 : ¬ ((nw : Int) + 1 = 0) := by omega
  have hw3 : IntKind.i64.wrap (mm : Int) = (mm : Int) := IntWalk.i64_in _ (by omega)
  have hw4 : IntKind.u64.wrap (mm : Int) = (mm : Int) := by rw [IntKind.wrap_u64]; omega
  go_enter Try.func47, Try.ntmps47
  go_wp2_with fail
  generalize (w.alloc (.cells #[.int .i64 (room : Int), .slice Pf files.length cf, .slice Pb nb cb, .slice Pw nw cw, .int .i64 left, .bool dark, .int .i64 (count : Int)] 31)).alloc (.cells #[.int .i64 0, .slice none 0 0, .slice none 0 0, .slice none 0 0, .int .i64 0, .bool false, .int .i64 0] 31) = x0 at *
  have z0 : x0.cell? ⟨w.heap.size, 0, none⟩ = some (.int .i64 (room : Int)) := (hR0.cell 0).trans rfl
  have z1 : x0.cell? ⟨w.heap.size, 1, none⟩ = some (.slice Pf files.length cf) := (hR0.cell 1).trans rfl
  have z2 : x0.cell? ⟨w.heap.size, 2, none⟩ = some (.slice Pb nb cb) := (hR0.cell 2).trans rfl
  have z3 : x0.cell? ⟨w.heap.size, 3, none⟩ = some (.slice Pw nw cw) := (hR0.cell 3).trans rfl
  have z4 : x0.cell? ⟨w.heap.size, 4, none⟩ = some (.int .i64 left) := (hR0.cell 4).trans rfl
  have z5 : x0.cell? ⟨w.heap.size, 5, none⟩ = some (.bool dark) := (hR0.cell 5).trans rfl
  have z6 : x0.cell? ⟨w.heap.size, 6, none⟩ = some (.int .i64 (count : Int)) := (hR0.cell 6).trans rfl
  have HB2 : Hid (Below w.heap.size w x0.drew) := Lib.hid (hB2.trans (drawn _ _ 1))
  have HR0 : Hid (Row x0.drew w.heap.size 31 #[.int .i64 (room : Int), .slice Pf files.length cf, .slice Pb nb cb, .slice Pw nw cw, .int .i64 left, .bool dark, .int .i64 (count : Int)]) := Lib.hid hR0
  have HR1 : Hid (Row x0.drew (w.heap.size + 1) 31 #[.int .i64 0, .slice none 0 0, .slice none 0 0, .slice none 0 0, .int .i64 0, .bool false, .int .i64 0]) := Lib.hid hR1
  clear hB2 hR0 hR1
  go_still_tail 10, (by kernel_rfl)
  repeat still_step
  try refine wpStill_nil ?_
  change wpList _ _ _ _ _ x0.drew
  go_wp2_with (first
    | (go_at_call 84
       refine (HDI.out x0.drew HB2.out).mono ?_
       rintro e w2 ⟨v2, rfl, hE2, hb2⟩
       obtain ⟨P2, c2, hv2, _, hP2⟩ := ents_at hE2
       have hr0 := row_move HR0.out (hb2.block _ HR0.out.lt)
       have hr1 := row_move HR1.out (hb2.block _ HR1.out.lt)
       have y1 : w2.cell? ⟨w.heap.size, 1, none⟩ = some (.slice Pf files.length cf) := (hr0.cell 1).trans rfl
       have y2 : (w2.alloc (.cells #[] 122)).cell? ⟨w.heap.size, 1, none⟩ = some (.slice Pf files.length cf) := ((hr0.alloc _).cell 1).trans rfl
       have y3 : w.heap.size < w2.heap.size := hr0.lt
       have HR02 := Lib.hid hr0
       have HR12 := Lib.hid hr1
       have HE2 := Lib.hid hE2
       have HP2 := Lib.hid hP2
       have HB3 := Lib.hid (HB2.out.trans (hb2.mono HB2.out.size))
       have HFS := Lib.hid (HIN.out _ HB3.out).files
       clear hE2 hb2 hr0 hr1 hP2
       subst hv2)
    | (at_builtin
       refine app_files rfl (.tmp 23) (.tmp 25) rfl rfl _ files rfl HFS.out hfl ?_
       intro v3 w3 fl hfe hFO hb3
       obtain ⟨P3, c3, hv3, _, _⟩ := rows_at hFO.row
       have HFO := Lib.hid hFO
       have HB4 := Lib.hid hb3
       have HFE := Lib.hid hfe
       have hfn : fl.length = files.length := by rw [← hfe, List.length_map]
       rw [hfn] at hv3
       clear hFO hb3 hfe y1 y2
       subst hv3))
  have hsz := HB4.out.size
  have HSU := Lib.hid (HFI.out.sure)
  have HSM := Lib.hid (HFI.out.small)
  have hrm := HFI.out.room
  simp only at hrm
  go_loopw [9] (fun i wr => ∃ (k : Nat) (fl' : List (Option Addr × Nat × Fil)), k ≤ L.length ∧ i = .int .i64 (k : Int) ∧ FO wr w2.heap.size (.slice P3 files.length c3) fl' ∧ fl'.length = files.length ∧ crashFiles (fl'.map fun x => x.2.2) (L.drop k) (ks.drop k) = crashFiles files L ks ∧ SureOk (fl'.map fun x => x.2.2) ∧ (∀ x ∈ fl', x.2.2.b.length ≤ 4194304) ∧ Below w2.heap.size w2 wr) (fun i _ => L.length - (intOf i).toNat)
  case atStart =>
    refine ⟨0, fl, Nat.zero_le _, rfl, HFO.out, by rw [← HFE.out, List.length_map], by rw [HFE.out]; rfl, by rw [HFE.out]; exact HSU.out, fun x hx => ?_, HB4.out⟩
    obtain ⟨q, hq, hqe⟩ := List.getElem_of_mem hx
    have h1 := HSM.out q
    have h2 : files.getD q fil0 = x.2.2 := by rw [← HFE.out]; simp [List.getD, List.getElem?_eq_getElem hq, hqe]
    simp only at h1
    rw [h2] at h1
    omega
  case round =>
    obtain ⟨k, fl', hk, rfl, hFO, hln, hcr, hsu, hsm, hb⟩ := hrel
    have HFO' := Lib.hid hFO
    have HBB := Lib.hid hb
    by_cases hlt : k < L.length
    · obtain ⟨gL, rfl, _, hgL, _, l1⟩ := HP2.out k hlt
      have l1' : wr.cell? ⟨gL, k * 2 + 1, none⟩ = some (.int .i64 ((L.getD k ⟨[], 0⟩).file : Int)) := (hb.cell (p := ⟨gL, k * 2 + 1, none⟩) hgL).trans l1
      have hmem : L.getD k ⟨[], 0⟩ ∈ L := by
        rw [List.getD_eq_getElem?_getD, List.getElem?_eq_getElem hlt]
        exact List.getElem_mem hlt
      have hyf := HLI.out _ hmem
      rw [drop_cons hlt] at hcr
      generalize L.getD k ⟨[], 0⟩ = y at *
      obtain ⟨yn, yf⟩ := y
      simp only at hyf l1'
      obtain ⟨x, hx⟩ : ∃ x, fl'[yf]? = some x := ⟨_, List.getElem?_eq_getElem (by omega)⟩
      have hxm : x ∈ fl' := List.mem_of_getElem? hx
      obtain ⟨x1, x2, x3⟩ := hFO.each x hxm
      have hx4 := hsm x hxm
      have hgx : (fl'.map fun x => x.2.2).getD yf fil0 = x.2.2 := by simp [List.getD, hx]
      have hx5 := hsu yf
      rw [hgx] at hx5
      obtain ⟨P4, c4, hv4, _, hP4⟩ := rows_at hFO.row
      obtain ⟨gF, g1, _, g3, f0⟩ := hP4 (yf * 2 + 0) _ (flat_get filC 2 filC_len fl' yf x 0 hx (by omega))
      obtain ⟨gF', g1', _, _, f1⟩ := hP4 (yf * 2 + 1) _ (flat_get filC 2 filC_len fl' yf x 1 hx (by omega))
      have e9 := (Value.slice.inj hv4).1
      rw [← e9] at g1 g1'
      subst g1
      have e8 := congrArg Addr.block (Option.some.inj g1')
      simp only at e8
      subst e8
      have i1 : (k : Int) < (L.length : Int) := by omega
      have i2 : (yf : Int) < (files.length : Int) := by omega
      obtain ⟨A, cA, ff⟩ := x
      obtain ⟨fb, fs⟩ := ff
      simp only at x1 x2 x3 hx4 hx5 hgx
      rw [Nat.add_zero] at f0
      generalize hnb : fb.length = n at *
      have hBn := below_one wr (.cells #[.slice A n cA, .int .i64 (fs : Int)] 122)
      have hF5 := hFO.below hBn
      have hZ := Row.new wr 122 #[.slice A n cA, .int .i64 (fs : Int)]
      have hl5 := (hBn.cell (p := ⟨gL, k * 2 + 1, none⟩) (Nat.lt_of_lt_of_le hgL hb.size)).trans l1'
      have hf0 := (hBn.cell (p := ⟨gF, yf * 2, none⟩) g3).trans f0
      have hf1 := (hBn.cell (p := ⟨gF, yf * 2 + 1, none⟩) g3).trans f1
      have hb5 : Below w2.heap.size w2 (wr.alloc (.cells #[.slice A n cA, .int .i64 (fs : Int)] 122)) := hb.trans (hBn.mono hb.size)
      have hgF := (World.ownsRow.lt hFO.row gF rfl).1
      clear hP4 hv4 e9 g1' hFO l1
      by_cases hkk : k < ks.length
      · obtain ⟨bK, oK, rfl, hKl, hKc⟩ := (HKS.out wr (HB3.out.trans (hb.mono HB3.out.size))).at_ (by omega)
        have kc0 := hKc k hkk
        have hK5 := (hBn.cell (p := ⟨bK, oK + k, none⟩) hKl).trans kc0
        have hkr := HKB.out k hkk
        have hkd : ks.drop k = ks.getD k 0 :: ks.drop (k + 1) := by
          rw [List.drop_eq_getElem_cons hkk]
          simp [List.getD, List.getElem?_eq_getElem hkk]
        have hr : keptOf (ks.drop k) ⟨fb, fs⟩ = modU (ks.getD k 0) (n - fs + 1) := by
          rw [hkd]
          show modU _ (fb.length - fs + 1) = _
          rw [hnb]
        obtain ⟨uk, m1, m2, m3, m4⟩ := mod_facts (ks.getD k 0) (n - fs)
        have i3 : (k : Int) < (ks.length : Int) := by omega
        have n1 : IntKind.i64.wrap ((n : Int) - (fs : Int)) = ((n - fs : Nat) : Int) := by rw [show (n : Int) - (fs : Int) = ((n - fs : Nat) : Int) by omega]; exact IntWalk.i64_in _ (by omega)
        have n2 : IntKind.i64.wrap (((n - fs : Nat) : Int) + 1) = ((n - fs : Nat) : Int) + 1 := IntWalk.i64_in _ (by omega)
        have n3 : IntKind.u64.wrap (((n - fs : Nat) : Int) + 1) = ((n - fs : Nat) : Int) + 1 := by rw [IntKind.wrap_u64]; omega
        have n4 : ¬ (((n - fs : Nat) : Int) + 1 = 0) := by omega
        generalize hq : n - fs = q at *
        generalize modU (ks.getD k 0) (q + 1) = r at *
        have n5 : IntKind.i64.wrap (r : Int) = (r : Int) := IntWalk.i64_in _ (by omega)
        have n6 : IntKind.u64.wrap (r : Int) = (r : Int) := by rw [IntKind.wrap_u64]; omega
        generalize ks.getD k 0 = kk at *
        have hrn : fs + r ≤ n := by omega
        have HCS := Lib.hid (crash_step (A := A) (cA := cA) hcr hgx hr)
        have HSS := Lib.hid (sure_step (yf := yf) (A := A) (cA := cA) (r := r) hsu (b := fb) (s := fs) (by omega))
        have HX1 := Lib.hid (x1.below hBn)
        have HHZ := Lib.hid hF5
        have HB5 := Lib.hid hb5
        have HLN := Lib.hid hln
        have HSMM := Lib.hid hsm
        have HGF := Lib.hid hgF
        have HX3 := Lib.hid x3
        clear hcr hgx hr hsu hF5 hb5 x1 x3 hsm hx hxm hmem hyf hkd kc0 hKc
        go_wp2_with fail
        generalize wr.alloc (.cells #[.slice A n cA, .int .i64 (fs : Int)] 122) = x5 at *
        generalize wr.heap.size = gN at *
        have s0 : x5.cell? ⟨gN, 0, none⟩ = some (.slice A n cA) := (hZ.cell 0).trans rfl
        have s1 : x5.cell? ⟨gN, 1, none⟩ = some (.int .i64 (fs : Int)) := (hZ.cell 1).trans rfl
        clear l1' f0 f1 hBn hZ hb g3 hgL
        go_quiet (fail)
        have HHZ6 : Hid (FO (x5.drewN nq) w2.heap.size (.slice (some ⟨gF, 0, none⟩) files.length c3) fl') := Lib.hid (HHZ.out.below (drawn _ _ _))
        have HB6 : Hid (Below w2.heap.size w2 (x5.drewN nq)) := Lib.hid (HB5.out.trans (drawn _ _ _))
        have HX16 : Hid (Bys (x5.drewN nq) A fb) := Lib.hid (HX1.out.below (drawn _ _ _))
        have s06 : (x5.drewN nq).cell? ⟨gN, 0, none⟩ = some (.slice A n cA) := s0
        have s16 : (x5.drewN nq).cell? ⟨gN, 1, none⟩ = some (.int .i64 (fs : Int)) := s1
        have l6 : (x5.drewN nq).cell? ⟨gL, k * 2 + 1, none⟩ = some (.int .i64 (yf : Int)) := hl5
        have h06 : (x5.drewN nq).cell? ⟨gF, yf * 2, none⟩ = some (.slice A n cA) := hf0
        have h16 : (x5.drewN nq).cell? ⟨gF, yf * 2 + 1, none⟩ = some (.int .i64 (fs : Int)) := hf1
        clear HHZ HB5 HX1 s0 s1 hl5 hf0 hf1 hK5 m1 m2 m3 n1 n2 n3 n4 n5 n6 hq
        generalize x5.drewN nq = x6 at *
        have fz0 := rows_frozen HHZ6.out.row (yf * 2)
        have fz1 := rows_frozen HHZ6.out.row (yf * 2 + 1)
        have o1 : IntKind.i64.wrap ((fs : Int) + (r : Int)) = (fs : Int) + (r : Int) := IntWalk.i64_in _ (by omega)
        have b1 : (0 : Int) ≤ (fs : Int) + (r : Int) := by omega
        have b2 : (fs : Int) + (r : Int) ≤ (cA : Int) := by omega
        have b3 : ((fs : Int) + (r : Int)).toNat = fs + r := by omega
        have htl : (fb.take (fs + r)).length = fs + r := by rw [List.length_take]; omega
        have hst := fo_set HHZ6.out HLN.out.symm yf (by rw [HLN.out]; omega) (A, cA, ⟨fb.take (fs + r), fs + r⟩) (HX16.out.front (fs + r)) (by show (fb.take (fs + r)).length ≤ cA; rw [htl]; omega) (by
          rcases HX3.out with h0 | h0
          · exact .inl (by show fb.take (fs + r) = []; rw [h0]; simp)
          · exact .inr fun ad e e2 => h0 ad e (by rw [e2]; rfl))
        simp only [htl] at hst
        have HST : Hid (FO ((x6.setCell ⟨gF, yf * 2, none⟩ (.slice A (fs + r) cA)).setCell ⟨gF, yf * 2 + 1, none⟩ (.int .i64 ((fs : Int) + (r : Int)))) w2.heap.size (.slice (some ⟨gF, 0, none⟩) files.length c3) (fl'.set yf (A, cA, ⟨fb.take (fs + r), fs + r⟩))) := Lib.hid hst
        have HBS := Lib.hid (show Below w2.heap.size w2 ((x6.setCell ⟨gF, yf * 2, none⟩ (.slice A (fs + r) cA)).setCell ⟨gF, yf * 2 + 1, none⟩ (.int .i64 ((fs : Int) + (r : Int)))) from (HB6.out.setCell HGF.out _).setCell HGF.out _)
        have HSM2 := Lib.hid (show ∀ z ∈ fl'.set yf (A, cA, ⟨fb.take (fs + r), fs + r⟩), z.2.2.b.length ≤ 4194304 from fun z hz => by
          rcases List.mem_or_eq_of_mem_set hz with h | h
          · exact HSMM.out z h
          · rw [h]
            show (fb.take (fs + r)).length ≤ _
            rw [htl]
            omega)
        have HLN2 := Lib.hid (show (fl'.set yf (A, cA, ⟨fb.take (fs + r), fs + r⟩)).length = files.length by rw [List.length_set]; exact HLN.out)
        clear hst htl
        go_wp2_with fail
        go_region
        go_wp2
        go_roundw
        case rel => exact ⟨k + 1, _, by omega, by go_num, HST.out.below (drawn _ _ 1), HLN2.out, HCS.out, HSS.out, HSM2.out, HBS.out.trans (drawn _ _ 1)⟩
        case measure => simp [intOf]; omega
      · have hr : keptOf (ks.drop k) ⟨fb, fs⟩ = 0 := by rw [List.drop_eq_nil_of_le (by omega)]; rfl
        have i3 : ¬ ((k : Int) < (ks.length : Int)) := by omega
        have HCS := Lib.hid (crash_step (A := A) (cA := cA) hcr hgx hr)
        have HSS := Lib.hid (sure_step (yf := yf) (A := A) (cA := cA) (r := 0) hsu (b := fb) (s := fs) (by omega))
        have HX1 := Lib.hid (x1.below hBn)
        have HHZ := Lib.hid hF5
        have HB5 := Lib.hid hb5
        have HLN := Lib.hid hln
        have HSMM := Lib.hid hsm
        have HGF := Lib.hid hgF
        have HX3 := Lib.hid x3
        clear hcr hgx hr hsu hF5 hb5 x1 x3 hsm hx hxm hmem hyf
        go_wp2_with fail
        generalize wr.alloc (.cells #[.slice A n cA, .int .i64 (fs : Int)] 122) = x5 at *
        generalize wr.heap.size = gN at *
        have s0 : x5.cell? ⟨gN, 0, none⟩ = some (.slice A n cA) := (hZ.cell 0).trans rfl
        have s1 : x5.cell? ⟨gN, 1, none⟩ = some (.int .i64 (fs : Int)) := (hZ.cell 1).trans rfl
        have fz0 := rows_frozen HHZ.out.row (yf * 2)
        have fz1 := rows_frozen HHZ.out.row (yf * 2 + 1)
        clear l1' f0 f1 hBn hZ hb g3 hgL
        have b2 : (fs : Int) ≤ (cA : Int) := by omega
        have b1 : (0 : Int) ≤ (fs : Int) := by omega
        have htl : (fb.take (fs + 0)).length = fs := by rw [List.length_take]; omega
        have hst := fo_set HHZ.out HLN.out.symm yf (by rw [HLN.out]; omega) (A, cA, ⟨fb.take (fs + 0), fs + 0⟩) (HX1.out.front (fs + 0)) (by show (fb.take (fs + 0)).length ≤ cA; rw [htl]; omega) (by
          rcases HX3.out with h0 | h0
          · exact .inl (by show fb.take (fs + 0) = []; rw [h0]; simp)
          · exact .inr fun ad e e2 => h0 ad e (by rw [e2]; rfl))
        simp only [htl] at hst
        have HST := Lib.hid hst
        have HBS := Lib.hid (show Below w2.heap.size w2 ((x5.setCell ⟨gF, yf * 2, none⟩ (.slice A fs cA)).setCell ⟨gF, yf * 2 + 1, none⟩ (.int .i64 ((fs + 0 : Nat) : Int))) from (HB5.out.setCell HGF.out _).setCell HGF.out _)
        have HSM2 := Lib.hid (show ∀ z ∈ fl'.set yf (A, cA, ⟨fb.take (fs + 0), fs + 0⟩), z.2.2.b.length ≤ 4194304 from fun z hz => by
          rcases List.mem_or_eq_of_mem_set hz with h | h
          · exact HSMM.out z h
          · rw [h]
            show (fb.take (fs + 0)).length ≤ _
            rw [htl]
            omega)
        have HLN2 := Lib.hid (show (fl'.set yf (A, cA, ⟨fb.take (fs + 0), fs + 0⟩)).length = files.length by rw [List.length_set]; exact HLN.out)
        clear hst htl
        go_region
        go_wp2
        go_roundw
        case rel => exact ⟨k + 1, _, by omega, by go_num, HST.out.below (drawn _ _ 1), HLN2.out, HCS.out, HSS.out, HSM2.out, HBS.out.trans (drawn _ _ 1)⟩
        case measure => simp [intOf]; omega
    · obtain rfl : k = L.length := by omega
      rw [List.drop_length] at hcr
      have hfe : (fl'.map fun x => x.2.2) = crashFiles files L ks := hcr
      have h0 := HR02.out.below hb HR02.out.lt
      have h1 := HR12.out.below hb HR12.out.lt
      have z0 : wr.cell? ⟨w.heap.size, 0, none⟩ = some (.int .i64 (room : Int)) := (h0.cell 0).trans rfl
      have z6 : wr.cell? ⟨w.heap.size, 6, none⟩ = some (.int .i64 (count : Int)) := (h0.cell 6).trans rfl
      have r0 : wr.cell? ⟨w.heap.size + 1, 0, none⟩ = some (.int .i64 0) := (h1.cell 0).trans rfl
      have r1 : wr.cell? ⟨w.heap.size + 1, 1, none⟩ = some (.slice none 0 0) := (h1.cell 1).trans rfl
      have r2 : wr.cell? ⟨w.heap.size + 1, 2, none⟩ = some (.slice none 0 0) := (h1.cell 2).trans rfl
      have r3 : wr.cell? ⟨w.heap.size + 1, 3, none⟩ = some (.slice none 0 0) := (h1.cell 3).trans rfl
      have r4 : wr.cell? ⟨w.heap.size + 1, 4, none⟩ = some (.int .i64 0) := (h1.cell 4).trans rfl
      have r5 : wr.cell? ⟨w.heap.size + 1, 5, none⟩ = some (.bool false) := (h1.cell 5).trans rfl
      have r6 : wr.cell? ⟨w.heap.size + 1, 6, none⟩ = some (.int .i64 0) := (h1.cell 6).trans rfl
      have q0 := h1.frozen 0
      have q1 := h1.frozen 1
      have q2 := h1.frozen 2
      have q3 := h1.frozen 3
      have q4 := h1.frozen 4
      have q5 := h1.frozen 5
      have q6 := h1.frozen 6
      have H1 := Lib.hid h1
      have HFE' := Lib.hid hfe
      have HEW := Lib.hid (rows_below HE2.out hb)
      clear hcr hfe h0 h1 hsu hsm hFO hln
      have HRW := Lib.hid (((((((H1.out.setAt 0 (.int .i64 (room : Int))).setAt 1 (.slice P3 files.length c3)).setAt 2 (.slice P2 L.length c2)).setAt 3 (.slice none 0 0)).setAt 4 (.int .i64 (-1))).setAt 5 (.bool false)).setAt 6 (.int .i64 (count : Int)))
      have HK7 := Lib.hid ((((((((Kept.refl (fun j => j = w.heap.size + 1) wr).set (p := ⟨w.heap.size + 1, 0, none⟩) (.inl rfl) (.int .i64 (room : Int))).set (p := ⟨w.heap.size + 1, 1, none⟩) (.inl rfl) (.slice P3 files.length c3)).set (p := ⟨w.heap.size + 1, 2, none⟩) (.inl rfl) (.slice P2 L.length c2)).set (p := ⟨w.heap.size + 1, 3, none⟩) (.inl rfl) (.slice none 0 0)).set (p := ⟨w.heap.size + 1, 4, none⟩) (.inl rfl) (.int .i64 (-1))).set (p := ⟨w.heap.size + 1, 5, none⟩) (.inl rfl) (.bool false)).set (p := ⟨w.heap.size + 1, 6, none⟩) (.inl rfl) (.int .i64 (count : Int)))
      have HBW := Lib.hid (HB3.out.trans (hb.mono HB3.out.size))
      go_wp2_with fail
      try simp only [Exit.inBlock, Exit.then]
      refine bodyPost_ret (ret_one rfl _ _ (w.heap.size + 1) _ rfl HRW.out rfl) rfl ?_
      rw [HCR.out]
      refine ⟨.slice P3 files.length c3, .slice P2 L.length c2, .slice none 0 0, rfl, ⟨?_, ?_, ⟨rfl, .inl ⟨rfl, rfl⟩⟩⟩, ?_⟩
      · have := files_kept HFO'.out H1.out (by decide) (by simp) HK7.out
        rw [HFE'.out] at this
        exact this
      · exact rows_kept HEW.out HK7.out fun q hq e => row_ne_rows H1.out HEW.out (by decide) (by rw [hq, e])
      · exact ((((((HBW.out.setCell (Nat.le_succ _) _).setCell (Nat.le_succ _) _).setCell (Nat.le_succ _) _).setCell (Nat.le_succ _) _).setCell (Nat.le_succ _) _).setCell (Nat.le_succ _) _).setCell (Nat.le_succ _) _
end Go.Proofs.Ytiepepikbophmaa
