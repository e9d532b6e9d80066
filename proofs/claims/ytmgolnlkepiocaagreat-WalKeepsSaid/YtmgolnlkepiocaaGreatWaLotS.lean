/- In one text, written by lotify.py: DkRead, DkCrash, DkCrash2. -/
import Derived.Test.YtmgolnlkepiocaaGreatWaLotR
import Derived.StillTailTactics
import Derived.Test.YtmgolnlkepiocaaGreatWaLotD
import Derived.Deep.QuietTactic
import Derived.BigQuiet
namespace Go.Proofs.YtmgolnlkepiocaaGreat.Dk
open Go.RowKit Go.Maps
set_option linter.unusedVariables false

theorem eql_slice_nil {P : Program} (w : World) (t e : TypeId) (a : Option Addr) (l c : Nat) (h : P.underlying t = some (.slice e)) : (binOp .eql t (.slice a l c) (.slice none 0 0)).run P w = .ok (.bool a.isNone) w := by
  simp only [binOp]
  simp [run_equal_slice_nil w t e a l c h]
set_option maxRecDepth 20000 in
theorem clone_bytes {w : World} {v : Value} {x : List UInt8} (h : Own w 0 v x) (hx : x.length ≤ 140737488355328) :
    Calls Tryz.prog 64 #[v] w fun e w' => ∃ v', e = .returned v' ∧ Own w' w.heap.size v' x ∧ Below w.heap.size w w' := by
  have hq := fun (w : World) a l c => eql_slice_nil (P := Tryz.prog) w 48 5 a l c Tryz.underlying48
  rcases h.2 with ⟨rfl, h0⟩ | ⟨g, cap, cur, rfl, hg, hh, r⟩
  · obtain rfl := List.eq_nil_of_length_eq_zero h0
    clear h
    go_enter Tryz.func64, Tryz.ntmps64
    go_wp2
    go_ret
    exact ⟨_, rfl, own_nil _ _, Below.refl _ _⟩
  · have HA := Lib.hid (own_bys h)
    clear h hh r
    go_enter Tryz.func64, Tryz.ntmps64
    go_wp2_with (at_builtin; refine app_u8 rfl (.tmp 5) (.tmp 6) rfl w.heap.size _ [] rfl (own_empty (Row.new w _ _) (Nat.le_refl _)) (some ⟨g, 0, none⟩) x cap rfl (HA.out.alloc _) (by simp only [List.length_nil]; omega) (by simp) ?_; intro v1 w1 hown1 hb1 hg1; have HO := Lib.hid hown1; have HB := Lib.hid (((Below.refl _ _).alloc (Nat.le_refl _) _).trans hb1); clear hown1 hb1 hg1)
    go_ret
    exact ⟨v1, rfl, HO.out, HB.out⟩

section
variable {S : Nat → Prop} {w : World} {X : Nat} {d : Dsk}
set_option maxRecDepth 20000 in
theorem read_prog (h : DiskAt S w X d) (hF : Fine d) (s : ByteArray) (hm : s.size ≤ 281474976710656) :
    Calls Tryz.prog 32 #[.pointer (some ⟨X, 0, none⟩), .string s] w fun e w' => ∃ v, e = .returned (.tuple #[v, .int .i64 (readD d (strL s)).2]) ∧ Own w' w.heap.size v (readD d (strL s)).1 ∧ Below w.heap.size w w' := by
  obtain ⟨dm, bm, wv, fb, vb, hin, hS⟩ := h
  unfold readD
  cases hn : namedB (strL s)
  · rw [if_pos rfl]
    have HC := Lib.hid (find_bad hin s hm hn)
    clear hin hS hF
    go_enter Tryz.func32, Tryz.ntmps32
    go_wp2_with fail
    refine HC.out.mono ?_
    rintro e w1 ⟨rfl, hb⟩
    have HB := Lib.hid hb
    clear hb
    go_wp2
    go_ret2
    exact ⟨_, rfl, own_nil _ _, HB.out⟩
  · rw [if_neg (by decide)]
    cases hw : whose (live d) (strL s) with
    | none =>
      have HC := Lib.hid (find_none hin s hn hw)
      clear hin hS hF hw
      go_enter Tryz.func32, Tryz.ntmps32
      go_wp2_with fail
      refine HC.out.mono ?_
      rintro e w1 ⟨rfl, hb⟩
      have HB := Lib.hid hb
      clear hb
      go_wp2
      go_ret2
      exact ⟨_, rfl, own_nil _ _, HB.out⟩
    | some n =>
      have hnl := (hF.live_in _ ((whose_some hF.live_rises).1 hw)).1
      have HC := Lib.hid (find_some hin s n hn hw)
      have HIN := Lib.hid (fun (x : World) (hb : Below w.heap.size w x) => hin.below hb)
      cases hdk : d.dark
      · simp only [Bool.false_eq_true, if_false]
        have hsm := hF.small n
        have hrm := hF.room
        have HCL := Lib.hid (fun (x : World) (hb : Below w.heap.size w x) => clone_bytes ((hin.below hb).byts n hnl) (by omega))
        have HFL := Lib.hid (fun (x : World) (hb : Below w.heap.size w x) => (hin.below hb).file n hnl)
        obtain ⟨B, c, hv, _, _⟩ := own_slice' (hin.byts n hnl)
        rw [hv] at HCL HFL
        clear hin hS hF hw hv hnl
        generalize d.files.getD n fil0 = f at *
        generalize f.b = fbs at *
        go_enter Tryz.func32, Tryz.ntmps32
        go_wp2_with fail
        refine HC.out.mono ?_
        rintro e w1 ⟨rfl, hb⟩
        have x5 : w1.cell? ⟨X, 5, none⟩ = some (.bool d.dark) := ((HIN.out _ hb).row.cell 5).trans rfl
        rw [hdk] at x5
        have f0 : w1.cell? ⟨fb n, 0, none⟩ = some (.slice B fbs.length c) := ((HFL.out _ hb).cell 0).trans rfl
        have HB := Lib.hid hb
        clear hb
        go_wp2_with fail
        refine (HCL.out _ HB.out).mono ?_
        rintro e w2 ⟨v, rfl, ho, hb2⟩
        have HO := Lib.hid ho
        have HB2 := Lib.hid hb2
        clear ho hb2
        go_wp2
        go_ret2
        exact ⟨v, rfl, own_lower HO.out HB.out.size, below_then HB.out HB2.out⟩
      · simp only [if_true]
        clear hS hF hw hin
        go_enter Tryz.func32, Tryz.ntmps32
        go_wp2_with fail
        refine HC.out.mono ?_
        rintro e w1 ⟨rfl, hb⟩
        have x5 : w1.cell? ⟨X, 5, none⟩ = some (.bool d.dark) := ((HIN.out _ hb).row.cell 5).trans rfl
        rw [hdk] at x5
        have HB := Lib.hid hb
        clear hb
        go_wp2
        go_ret2
        exact ⟨_, rfl, own_nil _ _, HB.out⟩
/-- Names as a slice of texts. -/
def Texts (w : World) (base : Nat) (v : Value) (ns : List (List UInt8)) : Prop := w.ownsRow base 9 1 v ns.length (ns.map Go.Proofs.encStr)
theorem list_prog (h : DiskAt S w X d) (hF : Fine d) :
    Calls Tryz.prog 29 #[.pointer (some ⟨X, 0, none⟩)] w fun e w' => ∃ v, e = .returned v ∧ Texts w' w.heap.size v (listD d) ∧ Below w.heap.size w w' := by
  obtain ⟨dm, bm, wv, fb, vb, hin, hS⟩ := h
  have x5 : w.cell? ⟨X, 5, none⟩ = some (.bool d.dark) := (hin.row.cell 5).trans rfl
  have x1 : w.cell? ⟨X, 1, none⟩ = some (.map (some dm)) := (hin.row.cell 1).trans rfl
  have HN := Lib.hid (names_prog hin.dir hF.live_rises (by have := hF.live_few; omega))
  clear hin hS hF
  unfold listD
  cases hdk : d.dark
  · rw [hdk] at x5
    simp only [Bool.false_eq_true, if_false]
    go_enter Tryz.func29, Tryz.ntmps29
    go_wp2_with fail
    refine HN.out.mono ?_
    rintro e w1 ⟨v, rfl, ho, hb⟩
    have HO := Lib.hid ho
    have HB := Lib.hid hb
    clear ho hb
    go_wp2
    go_ret
    exact ⟨v, rfl, by unfold Texts; rw [List.length_map]; exact HO.out, HB.out⟩
  · rw [hdk] at x5
    simp only [if_true]
    go_enter Tryz.func29, Tryz.ntmps29
    go_wp2
    go_ret
    exact ⟨_, rfl, ⟨rfl, .inl ⟨rfl, rfl⟩⟩, Below.refl _ _⟩
theorem done_prog (h : DiskAt S w X d) :
    Calls Tryz.prog 31 #[.pointer (some ⟨X, 0, none⟩)] w fun e w' => e = .returned (.int .i64 d.count) ∧ w = w' := by
  obtain ⟨dm, bm, wv, fb, vb, hin, hS⟩ := h
  have x6 : w.cell? ⟨X, 6, none⟩ = some (.int .i64 d.count) := (hin.row.cell 6).trans rfl
  clear hin hS
  go_enter Tryz.func31, Tryz.ntmps31
  go_wp2
  go_ret
  exact ⟨rfl, rfl⟩
theorem fuse_prog (h : DiskAt S w X d) (n : Int) :
    Calls Tryz.prog 20 #[.pointer (some ⟨X, 0, none⟩), .int .i64 n] w fun e w' => e = .returned (.tuple #[]) ∧ After S w X (fuseD d n) w' := by
  obtain ⟨dm, bm, wv, fb, vb, hin, hS⟩ := h
  have x4 : w.cell? ⟨X, 4, none⟩ = some (.int .i64 d.left) := (hin.row.cell 4).trans rfl
  have f4 := hin.row.frozen 4
  have HA := Lib.hid (show After S w X (fuseD d n) (w.setCell ⟨X, 4, none⟩ (.int .i64 (max n (-1)))) from after_row (d' := fuseD d n) hin hS rfl rfl rfl rfl (hin.row.setAt 4 (.int .i64 (max n (-1)))) ((Kept.refl (fun k => k = X) w).set (p := ⟨X, 4, none⟩) (.inl rfl) _))
  clear hin hS
  go_enter Tryz.func20, Tryz.ntmps20
  go_wp2
  go_end0
  exact ⟨rfl, HA.out⟩
end
end Go.Proofs.YtmgolnlkepiocaaGreat.Dk

namespace Go.Proofs.YtmgolnlkepiocaaGreat.Dk
open Go.RowKit Go.Maps
set_option linter.unusedVariables false

theorem own_len (B : Option Addr) (n c m c' : Nat) : (Value.slice B n c).ownBlock = (Value.slice B m c').ownBlock := by cases B <;> rfl
/-- A row of the call's own, cut short. -/
theorem own_cut {w : World} {base : Nat} {B : Option Addr} {n c : Nat} {x : List UInt8} (h : Own w base (.slice B n c) x) {k : Nat} (hk : k ≤ x.length) : Own w base (.slice B k c) (x.take k) := by
  rcases h.2 with ⟨e, h0⟩ | ⟨g, cap, cur, e, hg, hh, hnc, hcm, hcs, htk⟩
  · injection e with e1 e2 e3
    subst e1
    subst e3
    have hx : x = [] := List.eq_nil_of_length_eq_zero h0
    subst hx
    obtain rfl : k = 0 := by simpa using hk
    exact own_nil _ _
  · injection e with e1 e2 e3
    subst e1
    subst e3
    have hl : (x.take k).length = k := by rw [List.length_take]; omega
    refine ⟨by simp [bcells], .inr ⟨g, c, cur, by rw [hl], hg, hh, by rw [hl]; omega, hcm, hcs, ?_⟩⟩
    rw [hl]
    have e2 : (bcells (x.take k)).toList = (bcells x).toList.take k := by simp [bcells, List.map_take]
    rw [e2, ← htk, List.take_take]
    congr 1
    omega
theorem share_at (x : Int) (y : Int) (m : Nat) (hy : y = (m : Int)) (w : World) (hm : m ≤ 140737488355328) (hx0 : -9223372036854775808 ≤ x) (hx1 : x ≤ 9223372036854775807) :
    Calls Tryz.prog 36 #[.int .i64 x, .int .i64 y] w fun e w' => e = .returned (.int .i64 (modU x (m + 1) : Nat)) ∧ w' = w := by
  subst hy
  exact (share_prog x m w hm hx0 hx1).mono fun _ _ h => ⟨h.1, h.2.symm⟩

set_option maxRecDepth 20000 in
theorem crash_one {w : World} {g : Nat} {v : Value} {s : Nat} {x : List UInt8} (hg : Row w g 131 #[v, .int .i64 (s : Int)]) (hv : Own w 0 v x) (hs : s ≤ x.length) (hx : x.length ≤ 4194304) (k : Int) (hk0 : -9223372036854775808 ≤ k) (hk1 : k ≤ 9223372036854775807) :
    Calls Tryz.prog 39 #[.pointer (some ⟨g, 0, none⟩), .int .i64 k] w fun e w' => e = .returned (.tuple #[]) ∧ ∃ v', Row w' g 131 #[v', .int .i64 ((s + modU k (x.length - s + 1) : Nat) : Int)] ∧ Own w' 0 v' (x.take (s + modU k (x.length - s + 1))) ∧ Kept (fun i => i = g) w w' ∧ v'.ownBlock = v.ownBlock := by
  obtain ⟨B, c, hv0, _, _, hlc, hcm⟩ := own_cap hv
  have hmod : modU k (x.length - s + 1) < x.length - s + 1 := Nat.mod_lt _ (by omega)
  have hne := row_ne_rows hg hv (by decide)
  rw [hv0] at hg hv hne ⊢
  have HM := Lib.hid (own_cut hv (k := s + modU k (x.length - s + 1)) (by omega))
  have HSH := Lib.hid (fun w => share_at k ((x.length : Int) - (s : Int)) (x.length - s) (by omega) w (by omega) hk0 hk1)
  generalize hln : x.length = n at *
  generalize modU k (n - s + 1) = r at *
  have g0 : w.cell? ⟨g, 0, none⟩ = some (.slice B n c) := (hg.cell 0).trans rfl
  have g1 : w.cell? ⟨g, 1, none⟩ = some (.int .i64 (s : Int)) := (hg.cell 1).trans rfl
  have f0 := hg.frozen 0
  have w1 : IntKind.i64.wrap ((n : Int) - (s : Int)) = (n : Int) - (s : Int) := IntWalk.i64_in _ (by omega)
  have w2 : IntKind.i64.wrap ((s : Int) + (r : Int)) = (s : Int) + (r : Int) := IntWalk.i64_in _ (by omega)
  have b1 : (0 : Int) ≤ (s : Int) + (r : Int) := by omega
  have b2 : (s : Int) + (r : Int) ≤ (c : Int) := by omega
  have b3 : ((s : Int) + (r : Int)).toNat = s + r := by omega
  have HG := Lib.hid hg
  have hnl : (Value.slice B (s + r) c).ownBlock ≠ some g := by rw [own_len B (s + r) c n c]; exact hne
  clear hg hv hv0 hs hx hmod hlc hcm hln
  go_enter Tryz.func39, Tryz.ntmps39
  go_wp2
  go_still_tail 25, (by kernel_rfl)
  still_call (HSH.out _)
  repeat still_step
  try refine wpStill_nil ?_
  change wpList _ _ _ _ _ w.drew
  have d0 : w.drew.cell? ⟨g, 0, none⟩ = some (.slice B n c) := g0
  have d1 : w.drew.cell? ⟨g, 1, none⟩ = some (.int .i64 (s : Int)) := g1
  have df : w.drew.frozen? ⟨g, 0, none⟩ = false := f0
  have HGD : Hid (Row w.drew g 131 #[.slice B n c, .int .i64 (s : Int)]) := Lib.hid HG.out
  have HMD : Hid (Own w.drew 0 (.slice B (s + r) c) (x.take (s + r))) := Lib.hid HM.out
  have HK : Hid (Kept (fun i => i = g) w w.drew) := Lib.hid ⟨rfl, rfl, rfl, Nat.le_refl _, fun _ _ _ => rfl⟩
  clear HG HM g0 g1 f0
  generalize w.drew = w2 at *
  go_wp2_with fail
  have hr2 : Row (w2.setCell ⟨g, 0, none⟩ (.slice B (s + r) c)) g 131 #[.slice B (s + r) c, .int .i64 (s : Int)] := HGD.out.setAt 0 (.slice B (s + r) c)
  have HS := Lib.hid (fsettle_prog hr2)
  have HR2 := Lib.hid (hr2.setAt 1 (.int .i64 ((s + r : Nat) : Int)))
  have HO2 := Lib.hid (own_setFar (own_setFar HMD.out (p := ⟨g, 0, none⟩) hnl (.slice B (s + r) c)) (p := ⟨g, 1, none⟩) hnl (.int .i64 ((s + r : Nat) : Int)))
  have HK2 := Lib.hid ((HK.out.set (p := ⟨g, 0, none⟩) (.inl rfl) (.slice B (s + r) c)).set (p := ⟨g, 1, none⟩) (.inl rfl) (.int .i64 ((s + r : Nat) : Int)))
  clear hr2
  refine HS.out.mono ?_
  rintro e w3 ⟨rfl, rfl⟩
  go_wp2
  go_end0
  exact ⟨rfl, _, HR2.out, HO2.out, HK2.out, own_len _ _ _ _ _⟩
end Go.Proofs.YtmgolnlkepiocaaGreat.Dk

namespace Go.Proofs.YtmgolnlkepiocaaGreat.Dk
open Go.RowKit Go.Maps
set_option linter.unusedVariables false

theorem prog_step_part {d : Dsk} (h : Fine d) {k : Nat} (hk : k ≤ d.wait.length) (s : Stp) : progStep (dirOf d.base (d.wait.take k)) (entOf (dirOf d.base (d.wait.take k)) s) = stepDir (dirOf d.base (d.wait.take k)) s := by
  cases s with
  | lay n f =>
    show put (lacking (dirOf d.base (d.wait.take k)) []) ⟨n, f⟩ = put (dirOf d.base (d.wait.take k)) ⟨n, f⟩
    have : lacking (dirOf d.base (d.wait.take k)) [] = dirOf d.base (d.wait.take k) := by
      unfold lacking
      rw [List.filter_eq_self]
      intro x hx
      have := (h.inside k hk x hx).2
      cases hn : x.name with
      | nil => rw [hn] at this; cases this
      | cons a r => simp
    rw [this]
  | move n t => rfl
  | take n => rfl
theorem keptOf_none {ks : List Int} {j : Nat} {f : Fil} (h : ks.length ≤ j) : keptOf (ks.drop j) f = modU 0 (f.b.length - f.sure + 1) := by
  rw [List.drop_eq_nil_of_le h]
  show 0 = modU 0 _
  unfold modU
  simp
theorem keptOf_some {ks : List Int} {j : Nat} {f : Fil} (h : j < ks.length) : keptOf (ks.drop j) f = modU (ks.getD j 0) (f.b.length - f.sure + 1) := by
  rw [List.drop_eq_getElem_cons h]
  show modU ks[j] _ = _
  congr 1
  simp [List.getD, List.getElem?_eq_getElem h]
/-- Names of entries are short. -/
def Short (d : Dsk) : Prop := ∀ s ∈ d.wait, match s with | .lay n _ => n.length ≤ 24 | .move n t => n.length ≤ 24 ∧ t.length ≤ 24 | .take n => n.length ≤ 24
theorem texts_at {w : World} {base : Nat} {v : Value} {ns : List (List UInt8)} (h : Texts w base v ns) : ∃ B c, v = .slice B ns.length c ∧ ∀ i, i < ns.length → ∃ g, B = some ⟨g, 0, none⟩ ∧ base ≤ g ∧ g < w.heap.size ∧ w.cell? ⟨g, i, none⟩ = some (.string (txt (ns.getD i []))) := by
  rcases h.2 with ⟨rfl, h0⟩ | ⟨g, cap, cur, rfl, hg, hh, hnc, hcm, hcs, htk⟩
  · exact ⟨none, 0, by rw [h0], fun i hi => by omega⟩
  · refine ⟨some ⟨g, 0, none⟩, cap, rfl, fun i hi => ⟨g, rfl, hg, (Row.lt (show Row w g _ cur from hh)), ?_⟩⟩
    rw [(show Row w g _ cur from hh).cell i]
    have e : cur.toList[i]? = (ns.map Go.Proofs.encStr)[i]? := by
      rw [← htk, List.getElem?_take, if_pos (by omega)]
    rw [Array.getElem?_toList] at e
    rw [e, List.getElem?_map, List.getElem?_eq_getElem hi]
    simp [Go.Proofs.encStr, txt, List.getD, List.getElem?_eq_getElem hi]

set_option maxRecDepth 20000 in
set_option maxHeartbeats 2000000 in
theorem crash_prog {S : Nat → Prop} {w : World} {X : Nat} {d : Dsk} {dm bm : Nat} {wv : Value} {fb : Nat → Nat} {vb : Nat → Value} (hin : DiskIn w X dm bm wv fb vb d) (hS : ∀ k, Foot X dm bm wv fb vb d.files.length k → S k) (hF : Fine d) (hq : Few d) (hsh : Short d)
    (dirs : Int) (hd0 : -9223372036854775808 ≤ dirs) (hd1 : dirs ≤ 9223372036854775807) (V : Option Addr) (ks : List Int) (kc : Nat) (hks : Ints w V ks) (hkS : ks = [] ∨ ∀ ad, V = some ad → ¬ S ad.block) (hkl : ks.length ≤ 281474976710656) (hkb : ∀ i, i < ks.length → -9223372036854775808 ≤ ks.getD i 0 ∧ ks.getD i 0 ≤ 9223372036854775807) :
    Calls Tryz.prog 17 #[.pointer (some ⟨X, 0, none⟩), .int .i64 dirs, .slice V ks.length kc] w fun e w' => e = .returned (.int .i64 0) ∧ After S w X (crashD d dirs ks) w' := by
  obtain ⟨a1, a2, a3, a4, a5, a6⟩ := hin.apart
  obtain ⟨c0, c1, c2, c3, c4, c5, c6⟩ := hin.cells
  obtain ⟨B, c, hwv, hnc⟩ : ∃ B c, wv = .slice B d.wait.length c ∧ d.wait.length ≤ c := by
    rcases hin.wait.2 with ⟨rfl, h0⟩ | ⟨g, cap, cur, rfl, _, _, hnc, _⟩
    · exact ⟨none, 0, by rw [h0], by omega⟩
    · exact ⟨_, _, rfl, hnc⟩
  obtain ⟨m, hm⟩ : ∃ m, modU dirs (d.wait.length + 1) = m := ⟨_, rfl⟩
  have hml : m ≤ d.wait.length := by rw [← hm]; exact Nat.le_of_lt_succ (Nat.mod_lt _ (Nat.succ_pos _))
  have hwl := hq.wait
  have HSH := Lib.hid (fun w => share_at dirs (d.wait.length : Int) d.wait.length rfl w (by omega) hd0 hd1)
  rw [hm] at HSH
  have c3' := c3
  rw [hwv] at c3'
  have b1 : (0 : Int) ≤ (m : Int) := by omega
  have b2 : (m : Int) ≤ (c : Int) := by omega
  clear c3
  go_enter Tryz.func17, Tryz.ntmps17
  go_wp2
  go_quiet ((go_at_call 36; exact Calls.quiet_of_same (HSH.out _)))
  have hb0 : Below w.heap.size w (w.drewN nq) := ⟨rfl, rfl, rfl, Nat.le_refl _, fun _ _ => rfl⟩
  have hin0 := hin.below hb0
  have HB0 := Lib.hid hb0
  have HKS : Hid (Ints (w.drewN nq) V ks) := Lib.hid (hks.below hb0)
  have hsz0 : (w.drewN nq).heap.size = w.heap.size := rfl
  clear hb0 hin hks c0 c1 c2 c3' c4 c5 c6
  generalize w.drewN nq = u at *
  have HIN := Lib.hid hin0
  have HFN := Lib.hid hF
  have HQ := Lib.hid hq
  have HSS := Lib.hid hS
  have HSH2 := Lib.hid hsh
  have HA6 := Lib.hid a6
  have HWV := Lib.hid hwv
  have HKV := Lib.hid hkS
  have HKB := Lib.hid hkb
  have HMD := Lib.hid hm
  clear hin0 hF hq hS hsh a6 hwv hkS hkb hm
  go_wp2
  go_loopw [27] (fun i wr => ∃ k : Nat, k ≤ m ∧ i = .int .i64 (k : Int) ∧ DirAt wr fb bm (dirOf d.base (d.wait.take k)) ∧ Kept (fun j => j = bm) u wr) (fun i _ => m - (intOf i).toNat)
  case atStart => exact ⟨0, Nat.zero_le _, rfl, HIN.out.base, Kept.refl _ _⟩
  case round =>
    obtain ⟨k, hk, rfl, hdir, hK⟩ := hrel
    have HD := Lib.hid hdir
    have HK := Lib.hid hK
    clear hdir hK
    have hrX := row_move HIN.out.row (HK.out.block X HIN.out.row.lt a2)
    by_cases hlt : k < m
    · have hkw : k < d.wait.length := by omega
      have hge := entsOf_get d.wait d.base k hkw
      have hwt := waitC_get fb _ k _ hge
      have hsm := entOf_small (l := dirOf d.base (d.wait.take k)) (HSH2.out _ (List.getElem_mem hkw))
      have hps := prog_step_part HFN.out (k := k) (by omega) d.wait[k]
      have hst : stepDir (dirOf d.base (d.wait.take k)) d.wait[k] = dirOf d.base (d.wait.take (k + 1)) := by
        rw [List.take_succ_eq_append_getElem hkw, dirOf_snoc]
      have hri := dirOf_rises (d.wait.take k) d.base HFN.out.rises
      have hfew := HFN.out.few k (by omega)
      generalize entOf (dirOf d.base (d.wait.take k)) d.wait[k] = x at *
      obtain ⟨g, rfl, hgl, hgc⟩ : ∃ g, B = some ⟨g, 0, none⟩ ∧ g < wr.heap.size ∧ ∀ j v, (waitC fb (entsOf d.base d.wait))[j]? = some v → wr.cell? ⟨g, j, none⟩ = some v := by
        have hw1 := rows_move HIN.out.wait (w' := wr) fun j hj => HK.out.block j (World.ownsRow.lt HIN.out.wait j hj).2 (by rintro rfl; exact a5 hj)
        rw [HWV.out] at hw1
        rcases hw1.2 with ⟨e, h0⟩ | ⟨g, cap, cur, e, _, hh, _, _, hcs, htk⟩
        · omega
        · injection e with e1 e2 e3
          refine ⟨g, e1, Row.lt (show Row wr g _ cur from hh), fun j v hj => ?_⟩
          rw [(show Row wr g _ cur from hh).cell j]
          rw [← htk, List.getElem?_take] at hj
          split at hj
          · simpa using hj
          · cases hj
      have e0 := hgc _ _ hwt.1
      have e1 := hgc _ _ hwt.2.1
      have e2 := hgc _ _ hwt.2.2
      have HCH := Lib.hid (fun w2 (h : DirAt w2 fb bm (dirOf d.base (d.wait.take k))) => change_prog h hri (by omega) x (by omega) (by omega))
      rw [hps, hst] at HCH
      obtain ⟨pp, hpp⟩ : ∃ pp, fileV fb x.2.2 = .pointer pp := by cases x.2.2 <;> exact ⟨_, rfl⟩
      rw [hpp] at e2 HCH
      generalize txt x.1 = t1 at *
      generalize txt x.2.1 = t2 at *
      clear hge hwt hsm hps hst hri hfew hgc hpp
      have x1 : wr.cell? ⟨X, 2, none⟩ = some (.map (some bm)) := (hrX.cell 2).trans rfl
      go_wp2
      have hrE := Row.new wr 100 #[.string t1, .string t2, .pointer pp]
      have hrX1 := hrX.alloc (.cells #[.string t1, .string t2, .pointer pp] 100)
      have hdx := HD.out.block (w' := wr.alloc (.cells #[.string t1, .string t2, .pointer pp] 100)) (Below.heap_alloc _ _ _ HD.out.lt)
      have hkx := HK.out.alloc (.cells #[.string t1, .string t2, .pointer pp] 100)
      generalize wr.alloc (.cells #[.string t1, .string t2, .pointer pp] 100) = x0 at *
      generalize wr.heap.size = gE at *
      have q0 : x0.cell? ⟨gE, 0, none⟩ = some (.string t1) := (hrE.cell 0).trans rfl
      have q1 : x0.cell? ⟨gE, 1, none⟩ = some (.string t2) := (hrE.cell 1).trans rfl
      have q2 : x0.cell? ⟨gE, 2, none⟩ = some (.pointer pp) := (hrE.cell 2).trans rfl
      have q3 : x0.cell? ⟨X, 2, none⟩ = some (.map (some bm)) := (hrX1.cell 2).trans rfl
      have HDX : Hid (DirAt x0.drew fb bm (dirOf d.base (d.wait.take k))) := Lib.hid hdx
      have HKX : Hid (Kept (fun j => j = bm) u x0.drew) := Lib.hid ⟨hkx.os, hkx.tape, hkx.output, hkx.size, hkx.block⟩
      clear hrE hrX1 hdx hkx hrX e0 e1 e2 x1
      go_still_tail 5, (by kernel_rfl)
      change wpList _ _ _ _ _ x0.drew
      go_wp2_with (go_at_call 37; refine (HCH.out x0.drew HDX.out).mono ?_; rintro e w2 ⟨rfl, hd2, hk2⟩; have HD2 := Lib.hid hd2; have HK2 := Lib.hid hk2; clear hd2 hk2)
      go_roundw
      case rel => exact ⟨k + 1, by omega, by go_num, HD2.out, HKX.out.trans HK2.out fun i hi => .inl hi⟩
      case measure => simp [intOf]; omega
    · obtain rfl : k = m := by omega
      have hcd : dirOf d.base (d.wait.take k) = crashDir d dirs := by unfold crashDir; rw [HMD.out]
      rw [hcd] at HD
      have hLr : Rises (crashDir d dirs) := dirOf_rises _ _ HFN.out.rises
      have hLf : (crashDir d dirs).length ≤ 64 := by rw [← hcd]; exact HFN.out.few k (by omega)
      have hLi : ∀ x ∈ crashDir d dirs, x.file < d.files.length ∧ namedB x.name = true := by rw [← hcd]; exact HFN.out.inside k (by omega)
      generalize hLE : crashDir d dirs = L at *
      have HLE := Lib.hid hLE
      clear hLE
      have x1 : wr.cell? ⟨X, 1, none⟩ = some (.map (some dm)) := (hrX.cell 1).trans rfl
      have x2 : wr.cell? ⟨X, 2, none⟩ = some (.map (some bm)) := (hrX.cell 2).trans rfl
      have f1 := hrX.frozen 1
      have hrX1 := hrX.setAt 1 (.map (some bm))
      have hD1 := HD.out.block (w' := wr.setCell ⟨X, 1, none⟩ (.map (some bm))) (Below.heap_setCell _ _ _ _ (Ne.symm a2))
      have HK1 := Lib.hid ((HK.out.mono fun j hj => (Or.inr hj : j = X ∨ j = bm)).set (p := ⟨X, 1, none⟩) (.inl (.inl rfl)) (.map (some bm)))
      have HNM := Lib.hid (names_prog hD1 hLr (by omega))
      have HD1 := Lib.hid hD1
      have HX1 := Lib.hid (show Row (wr.setCell ⟨X, 1, none⟩ (.map (some bm))) X 70 (diskC d bm bm wv) from hrX1)
      have HLR := Lib.hid hLr
      have HLI := Lib.hid hLi
      clear hrX hrX1 hD1 hLr hLi hcd
      go_wp2_with (go_at_call 38; refine HNM.out.mono ?_; rintro e w2 ⟨v, rfl, ho, hb2⟩; obtain ⟨Bn, cn, hvn, hcn⟩ := texts_at (show Texts w2 _ v (L.map Ent.name) by unfold Texts; rw [List.length_map]; exact ho); rw [List.length_map] at hvn hcn; subst hvn; have HCN := Lib.hid hcn; have HB2 := Lib.hid hb2; clear ho hb2 hcn)
      have hy0 : u.heap.size ≤ (wr.setCell ⟨X, 1, none⟩ (.map (some bm))).heap.size := HK1.out.size
      generalize wr.setCell ⟨X, 1, none⟩ (.map (some bm)) = y0 at *
      have hX2 := HX1.out.below HB2.out HX1.out.lt
      have hD2 := HD1.out.block (HB2.out.block bm HD1.out.lt)
      have hF2 := HIN.out.filesIn.move (w' := w2) fun j hj => (HB2.out.block j (by have := HIN.out.filesIn.lt j hj; omega)).trans (HK1.out.block j (HIN.out.filesIn.lt j hj) (by
        obtain ⟨i, hi, e | e⟩ := hj
        · obtain ⟨q1, q2, q3, _⟩ := HA6.out i hi
          rintro (e2 | e2)
          · exact q1 (e.symm.trans e2)
          · exact q3 (e.symm.trans e2)
        · obtain ⟨_, _, _, _, q5, _, q7, _⟩ := HA6.out i hi
          rintro (e2 | e2)
          · rw [e2] at e; exact q5 e
          · rw [e2] at e; exact q7 e))
      have hKS2 : Ints w2 V ks := by
        rcases HKV.out with h0 | hno
        · exact .inl h0
        · rcases HKS.out with h0 | ⟨b, o, rfl, hlt, hc⟩
          · exact .inl h0
          · have hnS := hno _ rfl
            refine .inr ⟨b, o, rfl, by have := HB2.out.size; omega, fun i hi => ?_⟩
            have e : w2.heap[b]? = u.heap[b]? := (HB2.out.block b (by omega)).trans (HK1.out.block b hlt (by
              rintro (e2 | e2)
              · exact hnS (HSS.out b (.inl e2))
              · exact hnS (HSS.out b (.inr (.inr (.inl e2))))))
            exact (World.cell?_of_block (w := u) (a := ⟨b, o + i, none⟩) e).trans (hc i hi)
      have hKV2 : ks = [] ∨ ∀ ad, V = some ad → ∀ n, n < d.files.length → ad.block ≠ fb n := by
        rcases HKV.out with h0 | hno
        · exact .inl h0
        · exact .inr fun ad e n hn e2 => hno ad e (HSS.out _ (.inr (.inr (.inr (.inr ⟨n, hn, .inl e2⟩)))))
      have HX2 := Lib.hid hX2
      have HD2 := Lib.hid hD2
      have HF2 := Lib.hid hF2
      have HKS2 := Lib.hid hKS2
      have HKV2 := Lib.hid hKV2
      have HFB := Lib.hid (show ∀ n, n < d.files.length → fb n < u.heap.size from fun n hn => HIN.out.filesIn.lt _ ⟨n, hn, .inl rfl⟩)
      clear hX2 hD2 hF2 hKS2 hKV2
      go_loopw [51] (fun i wz => ∃ (j : Nat) (fs : List Fil) (vk : Nat → Value), j ≤ L.length ∧ i = .int .i64 (j : Int) ∧ FilesIn wz fb vk fs ∧ fs.length = d.files.length ∧ crashFiles fs (L.drop j) (ks.drop j) = crashFiles d.files L ks ∧ SureOk fs ∧ (∀ n, (fs.getD n fil0).b.length ≤ 4194304) ∧ (∀ n, (vk n).ownBlock = (vb n).ownBlock) ∧ Kept (fun i => ∃ n, n < d.files.length ∧ i = fb n) w2 wz) (fun i _ => L.length - (intOf i).toNat)
      case atStart => exact ⟨0, d.files, vb, Nat.zero_le _, rfl, HF2.out, rfl, rfl, HFN.out.sure, fun n => by have := HFN.out.small n; have := HFN.out.room; omega, fun _ => rfl, Kept.refl _ _⟩
      case round =>
        obtain ⟨j, fs, vk, hj, rfl, hfi, hfl, hcf, hsu, hsm, hown, hK⟩ := hrel
        have hX3 := row_move HX2.out (hK.block X HX2.out.lt (by rintro ⟨n, hn, e⟩; exact (HA6.out n hn).1 e.symm))
        have hD3 := HD2.out.block (hK.block bm HD2.out.lt (by rintro ⟨n, hn, e⟩; exact (HA6.out n hn).2.2.1 e.symm))
        have z1 : wr.cell? ⟨X, 1, none⟩ = some (.map (some bm)) := (hX3.cell 1).trans rfl
        have hsz3 := hK.size
        have hKS3 : Ints wr V ks := by
          rcases HKV2.out with h0 | hno
          · exact .inl h0
          · rcases HKS2.out with h0 | ⟨b, o, rfl, hlt, hc⟩
            · exact .inl h0
            · refine .inr ⟨b, o, rfl, by omega, fun i hi => ?_⟩
              exact (World.cell?_of_block (w := w2) (a := ⟨b, o + i, none⟩) (hK.block b hlt (by rintro ⟨n, hn, e⟩; exact hno _ rfl n hn e))).trans (hc i hi)
        by_cases hlt2 : j < L.length
        · obtain ⟨x, hx⟩ : ∃ x, L[j]? = some x := ⟨_, List.getElem?_eq_getElem hlt2⟩
          have hxm : x ∈ L := List.mem_of_getElem? hx
          obtain ⟨hxf, hxn⟩ := HLI.out x hxm
          have hnm : (L.map Ent.name).getD j [] = x.name := by simp [List.getD, hx]
          obtain ⟨gn, rfl, hgb, hgl, hgc⟩ := HCN.out j hlt2
          rw [hnm] at hgc
          have z2 : wr.cell? ⟨gn, j, none⟩ = some (.string (txt x.name)) := (World.cell?_of_block (w := w2) (a := ⟨gn, j, none⟩) (hK.block gn hgl (by rintro ⟨n, hn, e⟩; have := HFB.out n hn; omega))).trans hgc
          have hwx : whose L x.name = some x.file := (whose_some HLR.out).2 hxm
          have hxs : (txt x.name).size ≤ maxLen := by
            have := named_size (s := txt x.name) (by rw [strL_txt]; exact hxn)
            simp only [maxLen]
            omega
          have hlk := dir_look hD3 (txt x.name) hxs
          rw [show (txt x.name).data.toList = x.name from strL_txt x.name] at hlk
          unfold underV at hlk
          rw [hwx] at hlk
          simp only [ptrV] at hlk
          have hdr : L.drop j = x :: L.drop (j + 1) := by
            rw [List.drop_eq_getElem_cons hlt2]
            rw [List.getElem?_eq_getElem hlt2] at hx
            injection hx with hx
            rw [hx]
          rw [hdr] at hcf
          have hcf' : crashFiles (fs.set x.file (crashOne (fs.getD x.file fil0) (keptOf (ks.drop j) (fs.getD x.file fil0)))) (L.drop (j + 1)) ((ks.drop j).drop 1) = crashFiles d.files L ks := hcf
          rw [List.drop_drop] at hcf'
          have hxf2 : x.file < fs.length := by omega
          have hrow := hfi.file x.file hxf2
          have hby := hfi.byts x.file hxf2
          have hsu1 := hsu x.file
          have hsm1 := hsm x.file
          have HC1 := Lib.hid (fun kk h0 h1 => crash_one hrow hby hsu1 hsm1 kk h0 h1)
          have HNX := Lib.hid (show ∀ (w3 : World) (v' : Value) (kk : Int), keptOf (ks.drop j) (fs.getD x.file fil0) = modU kk ((fs.getD x.file fil0).b.length - (fs.getD x.file fil0).sure + 1) →
              Row w3 (fb x.file) 131 #[v', .int .i64 (((fs.getD x.file fil0).sure + modU kk ((fs.getD x.file fil0).b.length - (fs.getD x.file fil0).sure + 1) : Nat) : Int)] → Own w3 0 v' ((fs.getD x.file fil0).b.take ((fs.getD x.file fil0).sure + modU kk ((fs.getD x.file fil0).b.length - (fs.getD x.file fil0).sure + 1))) → Kept (fun i => i = fb x.file) wr w3 → v'.ownBlock = (vk x.file).ownBlock →
              (∃ (fs' : List Fil) (vk' : Nat → Value), FilesIn w3 fb vk' fs' ∧ fs'.length = d.files.length ∧ crashFiles fs' (L.drop (j + 1)) (ks.drop (j + 1)) = crashFiles d.files L ks ∧ SureOk fs' ∧ (∀ n, (fs'.getD n fil0).b.length ≤ 4194304) ∧ (∀ n, (vk' n).ownBlock = (vb n).ownBlock) ∧ Kept (fun i => ∃ n, n < d.files.length ∧ i = fb n) w2 w3) by
            intro w3 v' kk hkk h1 h2 h3 h4
            refine ⟨_, updV vk x.file v', hfi.set (f' := crashOne (fs.getD x.file fil0) (keptOf (ks.drop j) (fs.getD x.file fil0))) hxf2 (by rw [hkk]; exact h1) (by rw [hkk]; exact h2) (fun i hi h5 h6 => h3.block i (hfi.lt i hi) h5) (fun i hi => .inl (by rw [← h4]; exact hi)), by rw [List.length_set]; exact hfl, hcf', ?_, ?_, ?_, ?_⟩
            · intro n
              rw [fget_set]
              split
              · exact (crashOne_ok _ _ hsu1).1
              · exact hsu n
            · intro n
              rw [fget_set]
              split
              · show ((fs.getD x.file fil0).b.take _).length ≤ 4194304
                rw [List.length_take]
                omega
              · exact hsm n
            · intro n
              unfold updV
              split
              · rename_i hn
                rw [h4, hn]
                exact hown x.file
              · exact hown n
            · exact hK.trans h3 fun i hi => .inl ⟨x.file, hxf, hi⟩)
          have hk0 := fun h => keptOf_none (ks := ks) (j := j) (f := fs.getD x.file fil0) h
          have hk1 := fun h => keptOf_some (ks := ks) (j := j) (f := fs.getD x.file fil0) h
          have HK0 := Lib.hid hk0
          have HK1' := Lib.hid hk1
          generalize fs.getD x.file fil0 = f at *
          clear hrow hby hsu1 hsm1 hcf hcf' hfi hsu hsm hown hK hX3 hD3 hgc hx hxm hxn hnm hwx hdr hxs hk0 hk1 hxf hxf2 hfl
          by_cases hkl2 : j < ks.length
          · have hq1 : decide ((j : Int) < (ks.length : Int)) = true := decide_eq_true (by omega)
            obtain ⟨bV, oV, rfl, hbl, hbc⟩ := hKS3.at_ (by omega)
            have z3 := hbc j hkl2
            obtain ⟨kb0, kb1⟩ := HKB.out j hkl2
            have HKE := Lib.hid (HK1'.out hkl2)
            generalize ks.getD j 0 = kk at *
            clear hbc
            go_wp2_with fail
            refine (HC1.out kk kb0 kb1).mono ?_
            rintro e w3 ⟨rfl, v', k1, k2, k3, k4⟩
            have HF3 := Lib.hid (HNX.out w3 v' kk HKE.out k1 k2 k3 k4)
            clear k1 k2 k3 k4
            go_wp2
            go_roundw
            case rel =>
              obtain ⟨fs', vk', p1, p2, p3, p4, p5, p6, p7⟩ := HF3.out
              exact ⟨j + 1, fs', vk', by omega, by go_num, p1, p2, p3, p4, p5, p6, p7⟩
            case measure => simp [intOf]; omega
          · have hq1 : decide ((j : Int) < (ks.length : Int)) = false := decide_eq_false (by omega)
            go_wp2_with fail
            refine (HC1.out 0 (by omega) (by omega)).mono ?_
            rintro e w3 ⟨rfl, v', k1, k2, k3, k4⟩
            have HF3 := Lib.hid (HNX.out w3 v' 0 (HK0.out (by omega)) k1 k2 k3 k4)
            clear k1 k2 k3 k4
            go_wp2
            go_roundw
            case rel =>
              obtain ⟨fs', vk', p1, p2, p3, p4, p5, p6, p7⟩ := HF3.out
              exact ⟨j + 1, fs', vk', by omega, by go_num, p1, p2, p3, p4, p5, p6, p7⟩
            case measure => simp [intOf]; omega
        · obtain rfl : j = L.length := by omega
          rw [List.drop_length] at hcf
          have hfs : fs = crashFiles d.files L ks := hcf
          subst hfs
          have HST := Lib.hid (settle_prog hX3 hD3)
          have HFI := Lib.hid hfi
          have HOW := Lib.hid hown
          have HKW := Lib.hid hK
          clear hcf hsu hsm hX3 hD3 hfi hown hK hKS3
          go_wp2_with (go_at_call 40; refine HST.out.mono ?_; rintro e w4 ⟨rfl, k1, k2, k3, k4⟩; have t4 : w4.cell? ⟨X, 4, none⟩ = some (.int .i64 d.left) := (k1.cell 4).trans rfl; have t5 : w4.cell? ⟨X, 5, none⟩ = some (.bool d.dark) := (k1.cell 5).trans rfl; have tf4 := k1.frozen 4; have tf5 := k1.frozen 5; have HR4 := Lib.hid k1; have HDA := Lib.hid k2; have HDB := Lib.hid k3; have HK4 := Lib.hid k4; clear k1 k2 k3 k4)
          go_ret
          refine ⟨rfl, ?_⟩
          have hXS := HSS.out X (.inl rfl)
          have hbS := HSS.out bm (.inr (.inr (.inl rfl)))
          have hfS := fun n (hn : n < d.files.length) => HSS.out (fb n) (.inr (.inr (.inr (.inr ⟨n, hn, .inl rfl⟩))))
          have hvS := fun n (hn : n < d.files.length) i (hi : (vb n).ownBlock = some i) => HSS.out i (.inr (.inr (.inr (.inr ⟨n, hn, .inr hi⟩))))
          have lX : X < wr.heap.size := Nat.lt_of_lt_of_le HX2.out.lt HKW.out.size
          have lb : bm < wr.heap.size := Nat.lt_of_lt_of_le HD2.out.lt HKW.out.size
          have s1 := HB2.out.size
          have sw : w.heap.size ≤ wr.heap.size := by omega
          have hset : ∀ k, k ≠ X → ((w4.setCell ⟨X, 4, none⟩ (.int .i64 (-1))).setCell ⟨X, 5, none⟩ (.bool false)).heap[k]? = w4.heap[k]? := fun k hk => by
            rw [Below.heap_setCell _ _ _ _ hk, Below.heap_setCell _ _ _ _ hk]
          have hcr : crashD d dirs ks = ⟨d.room, crashFiles d.files L ks, L, [], -1, false, d.count⟩ := by unfold crashD; rw [HLE.out]
          rw [hcr]
          have hff := HFI.out.move (w' := (w4.setCell ⟨X, 4, none⟩ (.int .i64 (-1))).setCell ⟨X, 5, none⟩ (.bool false)) fun i hi => by
            have hne : i ≠ X := by
              obtain ⟨n, hn, e | e⟩ := hi
              · rw [e]; exact (HA6.out n (by omega)).1
              · rw [HOW.out n] at e
                rintro rfl
                exact (HA6.out n (by omega)).2.2.2.2.1 e
            exact (hset i hne).trans (HK4.out.block i (HFI.out.lt i hi) hne)
          refine ⟨⟨bm, wr.heap.size, .slice none 0 0, fb, vk, ⟨(HR4.out.setAt 4 (.int .i64 (-1))).setAt 5 (.bool false), HDA.out.block (hset bm (Ne.symm a2)), HDB.out.block (hset _ (by omega)), by omega, ⟨rfl, .inl ⟨rfl, rfl⟩⟩, hff.file, hff.byts, hff.fbs, hff.vbs⟩, ?_⟩, ?_⟩
          · rintro i (e | e | e | e | ⟨n, hn, e⟩)
            · exact .inl (by rw [e]; exact hXS)
            · exact .inl (by rw [e]; exact hbS)
            · exact .inr (by omega)
            · simp [Value.ownBlock] at e
            · have hn' : n < d.files.length := by
                have : n < (crashFiles d.files L ks).length := hn
                omega
              rcases e with e | e
              · exact .inl (by rw [e]; exact hfS n hn')
              · exact .inl (hvS n hn' i (by rw [← HOW.out n]; exact e))
          · have K1 : Kept S w y0 := (Kept.below HB0.out).trans HK1.out fun i hi => .inl (hi.elim (fun e => by rw [e]; exact hXS) fun e => by rw [e]; exact hbS)
            have K2 : Kept S w w2 := K1.trans (Kept.below (S := fun _ => False) HB2.out) fun i hi => hi.elim
            have K3 : Kept S w wr := K2.trans HKW.out fun i hi => .inl (by obtain ⟨n, hn, e⟩ := hi; rw [e]; exact hfS n hn)
            have K4 : Kept S w w4 := K3.trans HK4.out fun i hi => .inl (by rw [hi]; exact hXS)
            exact (K4.set (p := ⟨X, 4, none⟩) (.inl hXS) _).set (p := ⟨X, 5, none⟩) (.inl hXS) _
end Go.Proofs.YtmgolnlkepiocaaGreat.Dk
