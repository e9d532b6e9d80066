/- In one text, written by merge.py: RkMet, RkDone, RkWhole, RkPlays, RkPlaysLaw. -/
import Derived.Test.YtiepepikbophmaaRkLotA
import Derived.Test.YtiepepikbophmaaRkDisk
import Derived.Test.YtiepepikbophmaaDkActs
import Derived.Laws.ResultCell
import Derived.Test.YtiepepikbophmaaRkCrash
namespace Go.Proofs.Ytiepepikbophmaa
set_option linter.unusedVariables false

theorem met_of {d d' : Dsk} (h : Met d) (hb : d'.base = d.base) (hw : d'.wait = d.wait) : Met d' := by
  intro k n t hk
  rw [hb, hw]
  rw [hw] at hk
  exact h k n t hk
theorem met_none {d : Dsk} (hw : d.wait = []) : Met d := by
  intro k n t hk
  rw [hw] at hk
  simp at hk
theorem met_snoc {d d' : Dsk} (h : Met d) (hb : d'.base = d.base) (s : Stp) (hw : d'.wait = d.wait ++ [s]) (hs : ∀ n t, s = .move n t → (whose (live d) n).isSome = true) : Met d' := by
  intro k n t hk
  rw [hw] at hk
  rw [hb, hw]
  by_cases hl : k < d.wait.length
  · rw [List.getElem?_append_left hl] at hk
    rw [List.take_append_of_le_length (by omega)]
    exact h k n t hk
  · have hlt : k < (d.wait ++ [s]).length := by
      rcases Nat.lt_or_ge k (d.wait ++ [s]).length with h2 | h2
      · exact h2
      · rw [List.getElem?_eq_none h2] at hk
        cases hk
    rw [List.length_append, List.length_singleton] at hlt
    obtain rfl : k = d.wait.length := by omega
    rw [List.getElem?_append_right (Nat.le_refl _), Nat.sub_self, List.getElem?_cons_zero, Option.some.injEq] at hk
    rw [List.take_left]
    exact hs n t hk
theorem met_new (room : Nat) : Met (newD room) := met_none rfl
theorem met_fuse {d : Dsk} (h : Met d) (n : Int) : Met (fuseD d n) := met_of h rfl rfl
theorem met_crash (d : Dsk) (dirs : Int) (ks : List Int) : Met (crashD d dirs ks) := met_none rfl
theorem met_change {d : Dsk} (h : Met d) (kind : Int) (name to b : List UInt8) (hk : 1 ≤ kind ∧ kind ≤ 6) : Met (change d kind name to b).1 := by
  by_cases h0 : (change d kind name to b).2 = 0
  · obtain ⟨hw, hp, e, _⟩ := done_one h0
    obtain ⟨_, _, _, _, _, p6, p7, _⟩ := power_ok hp
    rw [e]
    unfold applyD
    dsimp only
    by_cases k1 : kind = 1
    · rw [if_pos k1]
      exact met_snoc h p6 _ (by show (power d).1.wait ++ _ = _; rw [p7]) (fun n t e => by cases e)
    · rw [if_neg k1]
      by_cases k2 : kind = 2
      · rw [if_pos k2]
        exact met_of h p6 p7
      · rw [if_neg k2]
        by_cases k3 : kind = 3
        · rw [if_pos k3]
          refine met_snoc h p6 _ (by show (power d).1.wait ++ _ = _; rw [p7]) (fun n t e => ?_)
          obtain ⟨f, hf⟩ := there_of hw (by omega) (by omega)
          injection e with e1 _
          rw [← e1, hf]
          rfl
        · rw [if_neg k3]
          by_cases k4 : kind = 4
          · rw [if_pos k4]
            exact met_snoc h p6 _ (by show (power d).1.wait ++ _ = _; rw [p7]) (fun n t e => by cases e)
          · rw [if_neg k4]
            by_cases k5 : kind = 5
            · rw [if_pos k5]
              exact met_of h p6 p7
            · rw [if_neg k5]
              exact met_none rfl
  · rcases refused h0 with ⟨_, e⟩ | ⟨_, e⟩
    · rw [e]
      exact met_of h rfl rfl
    · rw [e]
      exact h
end Go.Proofs.Ytiepepikbophmaa

namespace Go.Proofs.Ytiepepikbophmaa
open Go.RowKit Go.Maps
set_option linter.unusedVariables false

theorem met_act {d : Dsk} (h : Met d) (a : ActV) : Met (actD d a) := by
  unfold actD
  split
  · exact met_change h _ _ _ _ ‹_›
  · split
    · exact met_fuse h _
    · split
      · exact met_crash _ _ _
      · exact h
theorem ret_three {fn : Func} {p u v : Tmp} (h : fn.results = #[.cell p 31, .tmp u, .tmp v]) (tmps : Array Value) (w : World) (g : Nat) (cs : Array Value) (hp : tmps.getD p undef = .pointer (some ⟨g, 0, none⟩)) (hg : Row w g 31 cs) (hs : cs.size = 7) :
    (results fn tmps).run Try.prog w = .ok (.tuple #[.agg cs, tmps.getD u undef, tmps.getD v undef]) w := by
  have hp' : tmps[p]?.getD undef = .pointer (some ⟨g, 0, none⟩) := by simpa using hp
  simp only [results, h]
  simp [Result.andThen, hp', asAddr, run_loadVar_row w g _ _ cs _ _ hg Try.underlying31 rfl (by rw [hs]; kernel_rfl)]
def DoneTold (T : Nat → Prop) (w : World) (d : Dsk) (a : ActV) (e : Ending) (w' : World) : Prop :=
  ∃ fv bv wv A c, e = .returned (.tuple #[.agg (refC (actD d a) fv bv wv).toArray, .int .i64 (actE d a), .slice A (actB d a).length c]) ∧ RefT T w' fv bv wv (actD d a) ∧ Bys w' A (actB d a) ∧ Below w.heap.size w w'
theorem done_end {T : Nat → Prop} {w W : World} {Y : Nat} {d d' : Dsk} {a : ActV} {bs : List UInt8} {A : Option Addr} {c : Nat} {fv bv wv : Value} {E : Int} {c0 c1 c2 c3 c4 c5 c6 : Value} (hd : actD d a = d') (hE : actE d a = E) (hB : actB d a = bs) (hin : RefT T W fv bv wv d') (hby : Bys W A bs)
    (hY : Row W Y 31 #[c0, c1, c2, c3, c4, c5, c6]) (hn : ∀ v ∈ #[c0, c1, c2, c3, c4, c5, c6], ∀ x, v ≠ Value.int .u8 x) (hb : Below w.heap.size w W) (hY0 : w.heap.size ≤ Y) :
    DoneTold T w d a (.returned (.tuple #[.agg (refC d' fv bv wv).toArray, .int .i64 E, .slice A bs.length c])) (put7 W Y (.int .i64 (d'.room : Int)) fv bv wv (.int .i64 d'.left) (.bool d'.dark) (.int .i64 (d'.count : Int))) := by
  subst hd hE hB
  exact ⟨fv, bv, wv, A, c, rfl, reft_store hin hY hn (put7_kept _ _ _ _ _ _ _ _ _), bys_far hY hn (put7_kept _ _ _ _ _ _ _ _ _) hby, hb.trans ((put7_kept W Y _ _ _ _ _ _ _).to_below (fun k hk => by omega) hb.size)⟩
theorem three_at (w : World) (o1 o2 : Obj) (t : TypeId) (cs : Array Value) : Row (((w.alloc o1).alloc o2).alloc (.cells cs t)) (w.heap.size + 2) t cs := by
  have h := Row.new ((w.alloc o1).alloc o2) t cs
  rwa [show ((w.alloc o1).alloc o2).heap.size = w.heap.size + 2 from by simp] at h
section
variable {T : Nat → Prop} {w : World} {fv bv wv : Value} {d : Dsk} {N : Nat}

set_option maxRecDepth 20000 in
set_option maxHeartbeats 2000000 in
theorem done_1 (h : RefT T w fv bv wv d) (hT : ∀ i, T i → i < w.heap.size) (hk : Ok N d) (hN : N ≤ 1000) (hM : Met d) (a : ActV) (ha : ActOk w a) (hkd : a.kind = 1) :
    Calls Try.prog 15 #[.agg (refC d fv bv wv).toArray, .agg (actC a).toArray] w (DoneTold T w d a) := by
  have hB0 : ∀ (o1 o2 o3 : Obj), Below w.heap.size w (((w.alloc o1).alloc o2).alloc o3) := fun o1 o2 o3 => ((below_one _ _).alloc (by simp) _).alloc (by simp; omega) _
  have HIN := Lib.hid (fun (x : World) (hb : Below w.heap.size w x) => h.below hb)
  obtain ⟨⟨Pf, cf, hfv⟩, ⟨Pb, cb, hbv⟩, ⟨Pw, cw, hwv⟩⟩ := ref_forms h.in_
  have hw := hk.wait
  have hf := hk.files
  have hc := hk.count
  have HCH := Lib.hid (fun (x : World) (hb : Below w.heap.size w x) => change_ref1 (h.below hb) (fun i hi => Nat.lt_of_lt_of_le (hT i hi) hb.size) hk.fine hM (by omega) (by omega) hk.left (by omega) a.name a.to (by have := ha.name; omega) (by have := ha.to; omega) a.A a.b a.bc (ha.b.below hb) (by have := ha.bl; omega))
  have HAD : actD d a = (change d 1 (strL a.name) (strL a.to) a.b).1 := by unfold actD; rw [if_pos (by omega), hkd]
  have HAE : actE d a = (change d 1 (strL a.name) (strL a.to) a.b).2 := by unfold actE; rw [if_pos (by omega), hkd]
  have HAB : actB d a = [] := by unfold actB; exact if_neg (by omega)
  have HAD := Lib.hid HAD
  have HAE := Lib.hid HAE
  have HAB := Lib.hid HAB
  have HBN := Lib.hid hB0
  obtain ⟨kind, name, to, A, b, bc, n, V, ks, kc⟩ := a
  simp only at hkd HCH
  clear h hM ha hB0 hw hf hc hT
  subst hkd
  clear hk
  generalize change d 1 (strL name) (strL to) b = r at *
  obtain ⟨room, files, base, wait, left, dark, count⟩ := d
  simp only at hwv hbv hfv
  simp only [refC, actC] at *
  generalize hnf : files.length = nf at hfv
  generalize hnb : base.length = nb at hbv
  generalize hnw : wait.length = nw at hwv
  subst hwv
  subst hbv
  subst hfv
  clear hnf hnb hnw
  have HX := Lib.hid (((Row.new w 31 #[.int .i64 (room : Int), .slice Pf nf cf, .slice Pb nb cb, .slice Pw nw cw, .int .i64 left, .bool dark, .int .i64 (count : Int)]).alloc (.cells #[.int .i64 1, .string name, .string to, .slice A b.length bc, .int .i64 n, .slice V ks.length kc] 40)).alloc (.cells #[.int .i64 0, .slice none 0 0, .slice none 0 0, .slice none 0 0, .int .i64 0, .bool false, .int .i64 0] 31))
  have HY := Lib.hid (three_at w (.cells #[.int .i64 (room : Int), .slice Pf nf cf, .slice Pb nb cb, .slice Pw nw cw, .int .i64 left, .bool dark, .int .i64 (count : Int)] 31) (.cells #[.int .i64 1, .string name, .string to, .slice A b.length bc, .int .i64 n, .slice V ks.length kc] 40) 31 #[.int .i64 0, .slice none 0 0, .slice none 0 0, .slice none 0 0, .int .i64 0, .bool false, .int .i64 0])
  obtain ⟨⟨rm, fs, bs, ws, lf, dk, ct⟩, E⟩ := r
  go_enter Try.func15, Try.ntmps15
  go_wp2_with fail
  refine (HCH.out _ (HBN.out _ _ _)).mono ?_
  rintro e w4 ⟨fv', bv', wv', rfl, hin4, hb4⟩
  obtain ⟨⟨P1, c1, h1⟩, ⟨P2, c2, h2⟩, ⟨P3, c3, h3⟩⟩ := ref_forms hin4.in_
  simp only at h1 h2 h3
  generalize fs.length = n1 at h1
  generalize bs.length = n2 at h2
  generalize ws.length = n3 at h3
  subst h1
  subst h2
  subst h3
  simp only [refC]
  have HIN4 := Lib.hid hin4
  have HY4 := Lib.hid (HY.out.below hb4 HY.out.lt)
  have HB4 := Lib.hid ((HBN.out (.cells #[.int .i64 (room : Int), .slice Pf nf cf, .slice Pb nb cb, .slice Pw nw cw, .int .i64 left, .bool dark, .int .i64 (count : Int)] 31) (.cells #[.int .i64 1, .string name, .string to, .slice A b.length bc, .int .i64 n, .slice V ks.length kc] 40) (.cells #[.int .i64 0, .slice none 0 0, .slice none 0 0, .slice none 0 0, .int .i64 0, .bool false, .int .i64 0] 31)).trans (hb4.mono (HBN.out _ _ _).size))
  clear hin4 hb4
  have HY5 := Lib.hid (HY4.out.alloc (.cells #[.int .i64 (rm : Int), .slice P1 n1 c1, .slice P2 n2 c2, .slice P3 n3 c3, .int .i64 lf, .bool dk, .int .i64 (ct : Int)] 31))
  have HI5 := Lib.hid (HIN4.out.below (below_one w4 (.cells #[.int .i64 (rm : Int), .slice P1 n1 c1, .slice P2 n2 c2, .slice P3 n3 c3, .int .i64 lf, .bool dk, .int .i64 (ct : Int)] 31)))
  have HB5 := Lib.hid (HB4.out.trans ((below_one w4 (.cells #[.int .i64 (rm : Int), .slice P1 n1 c1, .slice P2 n2 c2, .slice P3 n3 c3, .int .i64 lf, .bool dk, .int .i64 (ct : Int)] 31)).mono HB4.out.size))
  have y0 : (w4.alloc (.cells #[.int .i64 (rm : Int), .slice P1 n1 c1, .slice P2 n2 c2, .slice P3 n3 c3, .int .i64 lf, .bool dk, .int .i64 (ct : Int)] 31)).cell? ⟨w.heap.size + 2, 0, none⟩ = some (.int .i64 0) := (HY5.out.cell 0).trans rfl
  have z0 := HY5.out.frozen 0
  have y1 : (w4.alloc (.cells #[.int .i64 (rm : Int), .slice P1 n1 c1, .slice P2 n2 c2, .slice P3 n3 c3, .int .i64 lf, .bool dk, .int .i64 (ct : Int)] 31)).cell? ⟨w.heap.size + 2, 1, none⟩ = some (.slice none 0 0) := (HY5.out.cell 1).trans rfl
  have z1 := HY5.out.frozen 1
  have y2 : (w4.alloc (.cells #[.int .i64 (rm : Int), .slice P1 n1 c1, .slice P2 n2 c2, .slice P3 n3 c3, .int .i64 lf, .bool dk, .int .i64 (ct : Int)] 31)).cell? ⟨w.heap.size + 2, 2, none⟩ = some (.slice none 0 0) := (HY5.out.cell 2).trans rfl
  have z2 := HY5.out.frozen 2
  have y3 : (w4.alloc (.cells #[.int .i64 (rm : Int), .slice P1 n1 c1, .slice P2 n2 c2, .slice P3 n3 c3, .int .i64 lf, .bool dk, .int .i64 (ct : Int)] 31)).cell? ⟨w.heap.size + 2, 3, none⟩ = some (.slice none 0 0) := (HY5.out.cell 3).trans rfl
  have z3 := HY5.out.frozen 3
  have y4 : (w4.alloc (.cells #[.int .i64 (rm : Int), .slice P1 n1 c1, .slice P2 n2 c2, .slice P3 n3 c3, .int .i64 lf, .bool dk, .int .i64 (ct : Int)] 31)).cell? ⟨w.heap.size + 2, 4, none⟩ = some (.int .i64 0) := (HY5.out.cell 4).trans rfl
  have z4 := HY5.out.frozen 4
  have y5 : (w4.alloc (.cells #[.int .i64 (rm : Int), .slice P1 n1 c1, .slice P2 n2 c2, .slice P3 n3 c3, .int .i64 lf, .bool dk, .int .i64 (ct : Int)] 31)).cell? ⟨w.heap.size + 2, 5, none⟩ = some (.bool false) := (HY5.out.cell 5).trans rfl
  have z5 := HY5.out.frozen 5
  have y6 : (w4.alloc (.cells #[.int .i64 (rm : Int), .slice P1 n1 c1, .slice P2 n2 c2, .slice P3 n3 c3, .int .i64 lf, .bool dk, .int .i64 (ct : Int)] 31)).cell? ⟨w.heap.size + 2, 6, none⟩ = some (.int .i64 0) := (HY5.out.cell 6).trans rfl
  have z6 := HY5.out.frozen 6
  go_wp2_with fail
  (try simp only [Exit.inBlock, Exit.then])
  refine bodyPost_ret (ret_three rfl _ _ _ _ rfl (put7_row HY5.out _ _ _ _ _ _ _) rfl) rfl ?_
  exact done_end (d' := ⟨rm, fs, bs, ws, lf, dk, ct⟩) (E := E) (bs := []) HAD.out HAE.out HAB.out HI5.out (Bys.empty _ none) HY5.out (dsk_bytes ⟨_, rfl⟩ ⟨_, _, _, rfl⟩ ⟨_, _, _, rfl⟩ ⟨_, _, _, rfl⟩ ⟨_, rfl⟩ ⟨_, rfl⟩ ⟨_, rfl⟩) HB5.out (by omega)
set_option maxRecDepth 20000 in
set_option maxHeartbeats 2000000 in
theorem done_2 (h : RefT T w fv bv wv d) (hT : ∀ i, T i → i < w.heap.size) (hk : Ok N d) (hN : N ≤ 1000) (hM : Met d) (a : ActV) (ha : ActOk w a) (hkd : a.kind = 2) :
    Calls Try.prog 15 #[.agg (refC d fv bv wv).toArray, .agg (actC a).toArray] w (DoneTold T w d a) := by
  have hB0 : ∀ (o1 o2 o3 : Obj), Below w.heap.size w (((w.alloc o1).alloc o2).alloc o3) := fun o1 o2 o3 => ((below_one _ _).alloc (by simp) _).alloc (by simp; omega) _
  have HIN := Lib.hid (fun (x : World) (hb : Below w.heap.size w x) => h.below hb)
  obtain ⟨⟨Pf, cf, hfv⟩, ⟨Pb, cb, hbv⟩, ⟨Pw, cw, hwv⟩⟩ := ref_forms h.in_
  have hw := hk.wait
  have hf := hk.files
  have hc := hk.count
  have HCH := Lib.hid (fun (x : World) (hb : Below w.heap.size w x) => change_ref2 (h.below hb) (fun i hi => Nat.lt_of_lt_of_le (hT i hi) hb.size) hk.fine hM (by omega) (by omega) hk.left (by omega) a.name a.to (by have := ha.name; omega) (by have := ha.to; omega) a.A a.b a.bc (ha.b.below hb) (by have := ha.bl; omega))
  have HAD : actD d a = (change d 2 (strL a.name) (strL a.to) a.b).1 := by unfold actD; rw [if_pos (by omega), hkd]
  have HAE : actE d a = (change d 2 (strL a.name) (strL a.to) a.b).2 := by unfold actE; rw [if_pos (by omega), hkd]
  have HAB : actB d a = [] := by unfold actB; exact if_neg (by omega)
  have HAD := Lib.hid HAD
  have HAE := Lib.hid HAE
  have HAB := Lib.hid HAB
  have HBN := Lib.hid hB0
  obtain ⟨kind, name, to, A, b, bc, n, V, ks, kc⟩ := a
  simp only at hkd HCH
  clear h hM ha hB0 hw hf hc hT
  subst hkd
  clear hk
  generalize change d 2 (strL name) (strL to) b = r at *
  obtain ⟨room, files, base, wait, left, dark, count⟩ := d
  simp only at hwv hbv hfv
  simp only [refC, actC] at *
  generalize hnf : files.length = nf at hfv
  generalize hnb : base.length = nb at hbv
  generalize hnw : wait.length = nw at hwv
  subst hwv
  subst hbv
  subst hfv
  clear hnf hnb hnw
  have HX := Lib.hid (((Row.new w 31 #[.int .i64 (room : Int), .slice Pf nf cf, .slice Pb nb cb, .slice Pw nw cw, .int .i64 left, .bool dark, .int .i64 (count : Int)]).alloc (.cells #[.int .i64 2, .string name, .string to, .slice A b.length bc, .int .i64 n, .slice V ks.length kc] 40)).alloc (.cells #[.int .i64 0, .slice none 0 0, .slice none 0 0, .slice none 0 0, .int .i64 0, .bool false, .int .i64 0] 31))
  have HY := Lib.hid (three_at w (.cells #[.int .i64 (room : Int), .slice Pf nf cf, .slice Pb nb cb, .slice Pw nw cw, .int .i64 left, .bool dark, .int .i64 (count : Int)] 31) (.cells #[.int .i64 2, .string name, .string to, .slice A b.length bc, .int .i64 n, .slice V ks.length kc] 40) 31 #[.int .i64 0, .slice none 0 0, .slice none 0 0, .slice none 0 0, .int .i64 0, .bool false, .int .i64 0])
  obtain ⟨⟨rm, fs, bs, ws, lf, dk, ct⟩, E⟩ := r
  go_enter Try.func15, Try.ntmps15
  go_wp2_with fail
  refine (HCH.out _ (HBN.out _ _ _)).mono ?_
  rintro e w4 ⟨fv', bv', wv', rfl, hin4, hb4⟩
  obtain ⟨⟨P1, c1, h1⟩, ⟨P2, c2, h2⟩, ⟨P3, c3, h3⟩⟩ := ref_forms hin4.in_
  simp only at h1 h2 h3
  generalize fs.length = n1 at h1
  generalize bs.length = n2 at h2
  generalize ws.length = n3 at h3
  subst h1
  subst h2
  subst h3
  simp only [refC]
  have HIN4 := Lib.hid hin4
  have HY4 := Lib.hid (HY.out.below hb4 HY.out.lt)
  have HB4 := Lib.hid ((HBN.out (.cells #[.int .i64 (room : Int), .slice Pf nf cf, .slice Pb nb cb, .slice Pw nw cw, .int .i64 left, .bool dark, .int .i64 (count : Int)] 31) (.cells #[.int .i64 2, .string name, .string to, .slice A b.length bc, .int .i64 n, .slice V ks.length kc] 40) (.cells #[.int .i64 0, .slice none 0 0, .slice none 0 0, .slice none 0 0, .int .i64 0, .bool false, .int .i64 0] 31)).trans (hb4.mono (HBN.out _ _ _).size))
  clear hin4 hb4
  have HY5 := Lib.hid (HY4.out.alloc (.cells #[.int .i64 (rm : Int), .slice P1 n1 c1, .slice P2 n2 c2, .slice P3 n3 c3, .int .i64 lf, .bool dk, .int .i64 (ct : Int)] 31))
  have HI5 := Lib.hid (HIN4.out.below (below_one w4 (.cells #[.int .i64 (rm : Int), .slice P1 n1 c1, .slice P2 n2 c2, .slice P3 n3 c3, .int .i64 lf, .bool dk, .int .i64 (ct : Int)] 31)))
  have HB5 := Lib.hid (HB4.out.trans ((below_one w4 (.cells #[.int .i64 (rm : Int), .slice P1 n1 c1, .slice P2 n2 c2, .slice P3 n3 c3, .int .i64 lf, .bool dk, .int .i64 (ct : Int)] 31)).mono HB4.out.size))
  have y0 : (w4.alloc (.cells #[.int .i64 (rm : Int), .slice P1 n1 c1, .slice P2 n2 c2, .slice P3 n3 c3, .int .i64 lf, .bool dk, .int .i64 (ct : Int)] 31)).cell? ⟨w.heap.size + 2, 0, none⟩ = some (.int .i64 0) := (HY5.out.cell 0).trans rfl
  have z0 := HY5.out.frozen 0
  have y1 : (w4.alloc (.cells #[.int .i64 (rm : Int), .slice P1 n1 c1, .slice P2 n2 c2, .slice P3 n3 c3, .int .i64 lf, .bool dk, .int .i64 (ct : Int)] 31)).cell? ⟨w.heap.size + 2, 1, none⟩ = some (.slice none 0 0) := (HY5.out.cell 1).trans rfl
  have z1 := HY5.out.frozen 1
  have y2 : (w4.alloc (.cells #[.int .i64 (rm : Int), .slice P1 n1 c1, .slice P2 n2 c2, .slice P3 n3 c3, .int .i64 lf, .bool dk, .int .i64 (ct : Int)] 31)).cell? ⟨w.heap.size + 2, 2, none⟩ = some (.slice none 0 0) := (HY5.out.cell 2).trans rfl
  have z2 := HY5.out.frozen 2
  have y3 : (w4.alloc (.cells #[.int .i64 (rm : Int), .slice P1 n1 c1, .slice P2 n2 c2, .slice P3 n3 c3, .int .i64 lf, .bool dk, .int .i64 (ct : Int)] 31)).cell? ⟨w.heap.size + 2, 3, none⟩ = some (.slice none 0 0) := (HY5.out.cell 3).trans rfl
  have z3 := HY5.out.frozen 3
  have y4 : (w4.alloc (.cells #[.int .i64 (rm : Int), .slice P1 n1 c1, .slice P2 n2 c2, .slice P3 n3 c3, .int .i64 lf, .bool dk, .int .i64 (ct : Int)] 31)).cell? ⟨w.heap.size + 2, 4, none⟩ = some (.int .i64 0) := (HY5.out.cell 4).trans rfl
  have z4 := HY5.out.frozen 4
  have y5 : (w4.alloc (.cells #[.int .i64 (rm : Int), .slice P1 n1 c1, .slice P2 n2 c2, .slice P3 n3 c3, .int .i64 lf, .bool dk, .int .i64 (ct : Int)] 31)).cell? ⟨w.heap.size + 2, 5, none⟩ = some (.bool false) := (HY5.out.cell 5).trans rfl
  have z5 := HY5.out.frozen 5
  have y6 : (w4.alloc (.cells #[.int .i64 (rm : Int), .slice P1 n1 c1, .slice P2 n2 c2, .slice P3 n3 c3, .int .i64 lf, .bool dk, .int .i64 (ct : Int)] 31)).cell? ⟨w.heap.size + 2, 6, none⟩ = some (.int .i64 0) := (HY5.out.cell 6).trans rfl
  have z6 := HY5.out.frozen 6
  go_wp2_with fail
  (try simp only [Exit.inBlock, Exit.then])
  refine bodyPost_ret (ret_three rfl _ _ _ _ rfl (put7_row HY5.out _ _ _ _ _ _ _) rfl) rfl ?_
  exact done_end (d' := ⟨rm, fs, bs, ws, lf, dk, ct⟩) (E := E) (bs := []) HAD.out HAE.out HAB.out HI5.out (Bys.empty _ none) HY5.out (dsk_bytes ⟨_, rfl⟩ ⟨_, _, _, rfl⟩ ⟨_, _, _, rfl⟩ ⟨_, _, _, rfl⟩ ⟨_, rfl⟩ ⟨_, rfl⟩ ⟨_, rfl⟩) HB5.out (by omega)
set_option maxRecDepth 20000 in
set_option maxHeartbeats 2000000 in
theorem done_3 (h : RefT T w fv bv wv d) (hT : ∀ i, T i → i < w.heap.size) (hk : Ok N d) (hN : N ≤ 1000) (hM : Met d) (a : ActV) (ha : ActOk w a) (hkd : a.kind = 3) :
    Calls Try.prog 15 #[.agg (refC d fv bv wv).toArray, .agg (actC a).toArray] w (DoneTold T w d a) := by
  have hB0 : ∀ (o1 o2 o3 : Obj), Below w.heap.size w (((w.alloc o1).alloc o2).alloc o3) := fun o1 o2 o3 => ((below_one _ _).alloc (by simp) _).alloc (by simp; omega) _
  have HIN := Lib.hid (fun (x : World) (hb : Below w.heap.size w x) => h.below hb)
  obtain ⟨⟨Pf, cf, hfv⟩, ⟨Pb, cb, hbv⟩, ⟨Pw, cw, hwv⟩⟩ := ref_forms h.in_
  have hw := hk.wait
  have hf := hk.files
  have hc := hk.count
  have HCH := Lib.hid (fun (x : World) (hb : Below w.heap.size w x) => change_ref3 (h.below hb) (fun i hi => Nat.lt_of_lt_of_le (hT i hi) hb.size) hk.fine hM (by omega) (by omega) hk.left (by omega) a.name a.to (by have := ha.name; omega) (by have := ha.to; omega) a.A a.b a.bc (ha.b.below hb) (by have := ha.bl; omega))
  have HAD : actD d a = (change d 3 (strL a.name) (strL a.to) a.b).1 := by unfold actD; rw [if_pos (by omega), hkd]
  have HAE : actE d a = (change d 3 (strL a.name) (strL a.to) a.b).2 := by unfold actE; rw [if_pos (by omega), hkd]
  have HAB : actB d a = [] := by unfold actB; exact if_neg (by omega)
  have HAD := Lib.hid HAD
  have HAE := Lib.hid HAE
  have HAB := Lib.hid HAB
  have HBN := Lib.hid hB0
  obtain ⟨kind, name, to, A, b, bc, n, V, ks, kc⟩ := a
  simp only at hkd HCH
  clear h hM ha hB0 hw hf hc hT
  subst hkd
  clear hk
  generalize change d 3 (strL name) (strL to) b = r at *
  obtain ⟨room, files, base, wait, left, dark, count⟩ := d
  simp only at hwv hbv hfv
  simp only [refC, actC] at *
  generalize hnf : files.length = nf at hfv
  generalize hnb : base.length = nb at hbv
  generalize hnw : wait.length = nw at hwv
  subst hwv
  subst hbv
  subst hfv
  clear hnf hnb hnw
  have HX := Lib.hid (((Row.new w 31 #[.int .i64 (room : Int), .slice Pf nf cf, .slice Pb nb cb, .slice Pw nw cw, .int .i64 left, .bool dark, .int .i64 (count : Int)]).alloc (.cells #[.int .i64 3, .string name, .string to, .slice A b.length bc, .int .i64 n, .slice V ks.length kc] 40)).alloc (.cells #[.int .i64 0, .slice none 0 0, .slice none 0 0, .slice none 0 0, .int .i64 0, .bool false, .int .i64 0] 31))
  have HY := Lib.hid (three_at w (.cells #[.int .i64 (room : Int), .slice Pf nf cf, .slice Pb nb cb, .slice Pw nw cw, .int .i64 left, .bool dark, .int .i64 (count : Int)] 31) (.cells #[.int .i64 3, .string name, .string to, .slice A b.length bc, .int .i64 n, .slice V ks.length kc] 40) 31 #[.int .i64 0, .slice none 0 0, .slice none 0 0, .slice none 0 0, .int .i64 0, .bool false, .int .i64 0])
  obtain ⟨⟨rm, fs, bs, ws, lf, dk, ct⟩, E⟩ := r
  go_enter Try.func15, Try.ntmps15
  go_wp2_with fail
  refine (HCH.out _ (HBN.out _ _ _)).mono ?_
  rintro e w4 ⟨fv', bv', wv', rfl, hin4, hb4⟩
  obtain ⟨⟨P1, c1, h1⟩, ⟨P2, c2, h2⟩, ⟨P3, c3, h3⟩⟩ := ref_forms hin4.in_
  simp only at h1 h2 h3
  generalize fs.length = n1 at h1
  generalize bs.length = n2 at h2
  generalize ws.length = n3 at h3
  subst h1
  subst h2
  subst h3
  simp only [refC]
  have HIN4 := Lib.hid hin4
  have HY4 := Lib.hid (HY.out.below hb4 HY.out.lt)
  have HB4 := Lib.hid ((HBN.out (.cells #[.int .i64 (room : Int), .slice Pf nf cf, .slice Pb nb cb, .slice Pw nw cw, .int .i64 left, .bool dark, .int .i64 (count : Int)] 31) (.cells #[.int .i64 3, .string name, .string to, .slice A b.length bc, .int .i64 n, .slice V ks.length kc] 40) (.cells #[.int .i64 0, .slice none 0 0, .slice none 0 0, .slice none 0 0, .int .i64 0, .bool false, .int .i64 0] 31)).trans (hb4.mono (HBN.out _ _ _).size))
  clear hin4 hb4
  have HY5 := Lib.hid (HY4.out.alloc (.cells #[.int .i64 (rm : Int), .slice P1 n1 c1, .slice P2 n2 c2, .slice P3 n3 c3, .int .i64 lf, .bool dk, .int .i64 (ct : Int)] 31))
  have HI5 := Lib.hid (HIN4.out.below (below_one w4 (.cells #[.int .i64 (rm : Int), .slice P1 n1 c1, .slice P2 n2 c2, .slice P3 n3 c3, .int .i64 lf, .bool dk, .int .i64 (ct : Int)] 31)))
  have HB5 := Lib.hid (HB4.out.trans ((below_one w4 (.cells #[.int .i64 (rm : Int), .slice P1 n1 c1, .slice P2 n2 c2, .slice P3 n3 c3, .int .i64 lf, .bool dk, .int .i64 (ct : Int)] 31)).mono HB4.out.size))
  have y0 : (w4.alloc (.cells #[.int .i64 (rm : Int), .slice P1 n1 c1, .slice P2 n2 c2, .slice P3 n3 c3, .int .i64 lf, .bool dk, .int .i64 (ct : Int)] 31)).cell? ⟨w.heap.size + 2, 0, none⟩ = some (.int .i64 0) := (HY5.out.cell 0).trans rfl
  have z0 := HY5.out.frozen 0
  have y1 : (w4.alloc (.cells #[.int .i64 (rm : Int), .slice P1 n1 c1, .slice P2 n2 c2, .slice P3 n3 c3, .int .i64 lf, .bool dk, .int .i64 (ct : Int)] 31)).cell? ⟨w.heap.size + 2, 1, none⟩ = some (.slice none 0 0) := (HY5.out.cell 1).trans rfl
  have z1 := HY5.out.frozen 1
  have y2 : (w4.alloc (.cells #[.int .i64 (rm : Int), .slice P1 n1 c1, .slice P2 n2 c2, .slice P3 n3 c3, .int .i64 lf, .bool dk, .int .i64 (ct : Int)] 31)).cell? ⟨w.heap.size + 2, 2, none⟩ = some (.slice none 0 0) := (HY5.out.cell 2).trans rfl
  have z2 := HY5.out.frozen 2
  have y3 : (w4.alloc (.cells #[.int .i64 (rm : Int), .slice P1 n1 c1, .slice P2 n2 c2, .slice P3 n3 c3, .int .i64 lf, .bool dk, .int .i64 (ct : Int)] 31)).cell? ⟨w.heap.size + 2, 3, none⟩ = some (.slice none 0 0) := (HY5.out.cell 3).trans rfl
  have z3 := HY5.out.frozen 3
  have y4 : (w4.alloc (.cells #[.int .i64 (rm : Int), .slice P1 n1 c1, .slice P2 n2 c2, .slice P3 n3 c3, .int .i64 lf, .bool dk, .int .i64 (ct : Int)] 31)).cell? ⟨w.heap.size + 2, 4, none⟩ = some (.int .i64 0) := (HY5.out.cell 4).trans rfl
  have z4 := HY5.out.frozen 4
  have y5 : (w4.alloc (.cells #[.int .i64 (rm : Int), .slice P1 n1 c1, .slice P2 n2 c2, .slice P3 n3 c3, .int .i64 lf, .bool dk, .int .i64 (ct : Int)] 31)).cell? ⟨w.heap.size + 2, 5, none⟩ = some (.bool false) := (HY5.out.cell 5).trans rfl
  have z5 := HY5.out.frozen 5
  have y6 : (w4.alloc (.cells #[.int .i64 (rm : Int), .slice P1 n1 c1, .slice P2 n2 c2, .slice P3 n3 c3, .int .i64 lf, .bool dk, .int .i64 (ct : Int)] 31)).cell? ⟨w.heap.size + 2, 6, none⟩ = some (.int .i64 0) := (HY5.out.cell 6).trans rfl
  have z6 := HY5.out.frozen 6
  go_wp2_with fail
  (try simp only [Exit.inBlock, Exit.then])
  refine bodyPost_ret (ret_three rfl _ _ _ _ rfl (put7_row HY5.out _ _ _ _ _ _ _) rfl) rfl ?_
  exact done_end (d' := ⟨rm, fs, bs, ws, lf, dk, ct⟩) (E := E) (bs := []) HAD.out HAE.out HAB.out HI5.out (Bys.empty _ none) HY5.out (dsk_bytes ⟨_, rfl⟩ ⟨_, _, _, rfl⟩ ⟨_, _, _, rfl⟩ ⟨_, _, _, rfl⟩ ⟨_, rfl⟩ ⟨_, rfl⟩ ⟨_, rfl⟩) HB5.out (by omega)
set_option maxRecDepth 20000 in
set_option maxHeartbeats 2000000 in
theorem done_4 (h : RefT T w fv bv wv d) (hT : ∀ i, T i → i < w.heap.size) (hk : Ok N d) (hN : N ≤ 1000) (hM : Met d) (a : ActV) (ha : ActOk w a) (hkd : a.kind = 4) :
    Calls Try.prog 15 #[.agg (refC d fv bv wv).toArray, .agg (actC a).toArray] w (DoneTold T w d a) := by
  have hB0 : ∀ (o1 o2 o3 : Obj), Below w.heap.size w (((w.alloc o1).alloc o2).alloc o3) := fun o1 o2 o3 => ((below_one _ _).alloc (by simp) _).alloc (by simp; omega) _
  have HIN := Lib.hid (fun (x : World) (hb : Below w.heap.size w x) => h.below hb)
  obtain ⟨⟨Pf, cf, hfv⟩, ⟨Pb, cb, hbv⟩, ⟨Pw, cw, hwv⟩⟩ := ref_forms h.in_
  have hw := hk.wait
  have hf := hk.files
  have hc := hk.count
  have HCH := Lib.hid (fun (x : World) (hb : Below w.heap.size w x) => change_ref4 (h.below hb) (fun i hi => Nat.lt_of_lt_of_le (hT i hi) hb.size) hk.fine hM (by omega) (by omega) hk.left (by omega) a.name a.to (by have := ha.name; omega) (by have := ha.to; omega) a.A a.b a.bc (ha.b.below hb) (by have := ha.bl; omega))
  have HAD : actD d a = (change d 4 (strL a.name) (strL a.to) a.b).1 := by unfold actD; rw [if_pos (by omega), hkd]
  have HAE : actE d a = (change d 4 (strL a.name) (strL a.to) a.b).2 := by unfold actE; rw [if_pos (by omega), hkd]
  have HAB : actB d a = [] := by unfold actB; exact if_neg (by omega)
  have HAD := Lib.hid HAD
  have HAE := Lib.hid HAE
  have HAB := Lib.hid HAB
  have HBN := Lib.hid hB0
  obtain ⟨kind, name, to, A, b, bc, n, V, ks, kc⟩ := a
  simp only at hkd HCH
  clear h hM ha hB0 hw hf hc hT
  subst hkd
  clear hk
  generalize change d 4 (strL name) (strL to) b = r at *
  obtain ⟨room, files, base, wait, left, dark, count⟩ := d
  simp only at hwv hbv hfv
  simp only [refC, actC] at *
  generalize hnf : files.length = nf at hfv
  generalize hnb : base.length = nb at hbv
  generalize hnw : wait.length = nw at hwv
  subst hwv
  subst hbv
  subst hfv
  clear hnf hnb hnw
  have HX := Lib.hid (((Row.new w 31 #[.int .i64 (room : Int), .slice Pf nf cf, .slice Pb nb cb, .slice Pw nw cw, .int .i64 left, .bool dark, .int .i64 (count : Int)]).alloc (.cells #[.int .i64 4, .string name, .string to, .slice A b.length bc, .int .i64 n, .slice V ks.length kc] 40)).alloc (.cells #[.int .i64 0, .slice none 0 0, .slice none 0 0, .slice none 0 0, .int .i64 0, .bool false, .int .i64 0] 31))
  have HY := Lib.hid (three_at w (.cells #[.int .i64 (room : Int), .slice Pf nf cf, .slice Pb nb cb, .slice Pw nw cw, .int .i64 left, .bool dark, .int .i64 (count : Int)] 31) (.cells #[.int .i64 4, .string name, .string to, .slice A b.length bc, .int .i64 n, .slice V ks.length kc] 40) 31 #[.int .i64 0, .slice none 0 0, .slice none 0 0, .slice none 0 0, .int .i64 0, .bool false, .int .i64 0])
  obtain ⟨⟨rm, fs, bs, ws, lf, dk, ct⟩, E⟩ := r
  go_enter Try.func15, Try.ntmps15
  go_wp2_with fail
  refine (HCH.out _ (HBN.out _ _ _)).mono ?_
  rintro e w4 ⟨fv', bv', wv', rfl, hin4, hb4⟩
  obtain ⟨⟨P1, c1, h1⟩, ⟨P2, c2, h2⟩, ⟨P3, c3, h3⟩⟩ := ref_forms hin4.in_
  simp only at h1 h2 h3
  generalize fs.length = n1 at h1
  generalize bs.length = n2 at h2
  generalize ws.length = n3 at h3
  subst h1
  subst h2
  subst h3
  simp only [refC]
  have HIN4 := Lib.hid hin4
  have HY4 := Lib.hid (HY.out.below hb4 HY.out.lt)
  have HB4 := Lib.hid ((HBN.out (.cells #[.int .i64 (room : Int), .slice Pf nf cf, .slice Pb nb cb, .slice Pw nw cw, .int .i64 left, .bool dark, .int .i64 (count : Int)] 31) (.cells #[.int .i64 4, .string name, .string to, .slice A b.length bc, .int .i64 n, .slice V ks.length kc] 40) (.cells #[.int .i64 0, .slice none 0 0, .slice none 0 0, .slice none 0 0, .int .i64 0, .bool false, .int .i64 0] 31)).trans (hb4.mono (HBN.out _ _ _).size))
  clear hin4 hb4
  have HY5 := Lib.hid (HY4.out.alloc (.cells #[.int .i64 (rm : Int), .slice P1 n1 c1, .slice P2 n2 c2, .slice P3 n3 c3, .int .i64 lf, .bool dk, .int .i64 (ct : Int)] 31))
  have HI5 := Lib.hid (HIN4.out.below (below_one w4 (.cells #[.int .i64 (rm : Int), .slice P1 n1 c1, .slice P2 n2 c2, .slice P3 n3 c3, .int .i64 lf, .bool dk, .int .i64 (ct : Int)] 31)))
  have HB5 := Lib.hid (HB4.out.trans ((below_one w4 (.cells #[.int .i64 (rm : Int), .slice P1 n1 c1, .slice P2 n2 c2, .slice P3 n3 c3, .int .i64 lf, .bool dk, .int .i64 (ct : Int)] 31)).mono HB4.out.size))
  have y0 : (w4.alloc (.cells #[.int .i64 (rm : Int), .slice P1 n1 c1, .slice P2 n2 c2, .slice P3 n3 c3, .int .i64 lf, .bool dk, .int .i64 (ct : Int)] 31)).cell? ⟨w.heap.size + 2, 0, none⟩ = some (.int .i64 0) := (HY5.out.cell 0).trans rfl
  have z0 := HY5.out.frozen 0
  have y1 : (w4.alloc (.cells #[.int .i64 (rm : Int), .slice P1 n1 c1, .slice P2 n2 c2, .slice P3 n3 c3, .int .i64 lf, .bool dk, .int .i64 (ct : Int)] 31)).cell? ⟨w.heap.size + 2, 1, none⟩ = some (.slice none 0 0) := (HY5.out.cell 1).trans rfl
  have z1 := HY5.out.frozen 1
  have y2 : (w4.alloc (.cells #[.int .i64 (rm : Int), .slice P1 n1 c1, .slice P2 n2 c2, .slice P3 n3 c3, .int .i64 lf, .bool dk, .int .i64 (ct : Int)] 31)).cell? ⟨w.heap.size + 2, 2, none⟩ = some (.slice none 0 0) := (HY5.out.cell 2).trans rfl
  have z2 := HY5.out.frozen 2
  have y3 : (w4.alloc (.cells #[.int .i64 (rm : Int), .slice P1 n1 c1, .slice P2 n2 c2, .slice P3 n3 c3, .int .i64 lf, .bool dk, .int .i64 (ct : Int)] 31)).cell? ⟨w.heap.size + 2, 3, none⟩ = some (.slice none 0 0) := (HY5.out.cell 3).trans rfl
  have z3 := HY5.out.frozen 3
  have y4 : (w4.alloc (.cells #[.int .i64 (rm : Int), .slice P1 n1 c1, .slice P2 n2 c2, .slice P3 n3 c3, .int .i64 lf, .bool dk, .int .i64 (ct : Int)] 31)).cell? ⟨w.heap.size + 2, 4, none⟩ = some (.int .i64 0) := (HY5.out.cell 4).trans rfl
  have z4 := HY5.out.frozen 4
  have y5 : (w4.alloc (.cells #[.int .i64 (rm : Int), .slice P1 n1 c1, .slice P2 n2 c2, .slice P3 n3 c3, .int .i64 lf, .bool dk, .int .i64 (ct : Int)] 31)).cell? ⟨w.heap.size + 2, 5, none⟩ = some (.bool false) := (HY5.out.cell 5).trans rfl
  have z5 := HY5.out.frozen 5
  have y6 : (w4.alloc (.cells #[.int .i64 (rm : Int), .slice P1 n1 c1, .slice P2 n2 c2, .slice P3 n3 c3, .int .i64 lf, .bool dk, .int .i64 (ct : Int)] 31)).cell? ⟨w.heap.size + 2, 6, none⟩ = some (.int .i64 0) := (HY5.out.cell 6).trans rfl
  have z6 := HY5.out.frozen 6
  go_wp2_with fail
  (try simp only [Exit.inBlock, Exit.then])
  refine bodyPost_ret (ret_three rfl _ _ _ _ rfl (put7_row HY5.out _ _ _ _ _ _ _) rfl) rfl ?_
  exact done_end (d' := ⟨rm, fs, bs, ws, lf, dk, ct⟩) (E := E) (bs := []) HAD.out HAE.out HAB.out HI5.out (Bys.empty _ none) HY5.out (dsk_bytes ⟨_, rfl⟩ ⟨_, _, _, rfl⟩ ⟨_, _, _, rfl⟩ ⟨_, _, _, rfl⟩ ⟨_, rfl⟩ ⟨_, rfl⟩ ⟨_, rfl⟩) HB5.out (by omega)
set_option maxRecDepth 20000 in
set_option maxHeartbeats 2000000 in
theorem done_5 (h : RefT T w fv bv wv d) (hT : ∀ i, T i → i < w.heap.size) (hk : Ok N d) (hN : N ≤ 1000) (hM : Met d) (a : ActV) (ha : ActOk w a) (hkd : a.kind = 5) :
    Calls Try.prog 15 #[.agg (refC d fv bv wv).toArray, .agg (actC a).toArray] w (DoneTold T w d a) := by
  have hB0 : ∀ (o1 o2 o3 : Obj), Below w.heap.size w (((w.alloc o1).alloc o2).alloc o3) := fun o1 o2 o3 => ((below_one _ _).alloc (by simp) _).alloc (by simp; omega) _
  have HIN := Lib.hid (fun (x : World) (hb : Below w.heap.size w x) => h.below hb)
  obtain ⟨⟨Pf, cf, hfv⟩, ⟨Pb, cb, hbv⟩, ⟨Pw, cw, hwv⟩⟩ := ref_forms h.in_
  have hw := hk.wait
  have hf := hk.files
  have hc := hk.count
  have HCH := Lib.hid (fun (x : World) (hb : Below w.heap.size w x) => change_ref5 (h.below hb) (fun i hi => Nat.lt_of_lt_of_le (hT i hi) hb.size) hk.fine hM (by omega) (by omega) hk.left (by omega) a.name a.to (by have := ha.name; omega) (by have := ha.to; omega) a.A a.b a.bc (ha.b.below hb) (by have := ha.bl; omega))
  have HAD : actD d a = (change d 5 (strL a.name) (strL a.to) a.b).1 := by unfold actD; rw [if_pos (by omega), hkd]
  have HAE : actE d a = (change d 5 (strL a.name) (strL a.to) a.b).2 := by unfold actE; rw [if_pos (by omega), hkd]
  have HAB : actB d a = [] := by unfold actB; exact if_neg (by omega)
  have HAD := Lib.hid HAD
  have HAE := Lib.hid HAE
  have HAB := Lib.hid HAB
  have HBN := Lib.hid hB0
  obtain ⟨kind, name, to, A, b, bc, n, V, ks, kc⟩ := a
  simp only at hkd HCH
  clear h hM ha hB0 hw hf hc hT
  subst hkd
  clear hk
  generalize change d 5 (strL name) (strL to) b = r at *
  obtain ⟨room, files, base, wait, left, dark, count⟩ := d
  simp only at hwv hbv hfv
  simp only [refC, actC] at *
  generalize hnf : files.length = nf at hfv
  generalize hnb : base.length = nb at hbv
  generalize hnw : wait.length = nw at hwv
  subst hwv
  subst hbv
  subst hfv
  clear hnf hnb hnw
  have HX := Lib.hid (((Row.new w 31 #[.int .i64 (room : Int), .slice Pf nf cf, .slice Pb nb cb, .slice Pw nw cw, .int .i64 left, .bool dark, .int .i64 (count : Int)]).alloc (.cells #[.int .i64 5, .string name, .string to, .slice A b.length bc, .int .i64 n, .slice V ks.length kc] 40)).alloc (.cells #[.int .i64 0, .slice none 0 0, .slice none 0 0, .slice none 0 0, .int .i64 0, .bool false, .int .i64 0] 31))
  have HY := Lib.hid (three_at w (.cells #[.int .i64 (room : Int), .slice Pf nf cf, .slice Pb nb cb, .slice Pw nw cw, .int .i64 left, .bool dark, .int .i64 (count : Int)] 31) (.cells #[.int .i64 5, .string name, .string to, .slice A b.length bc, .int .i64 n, .slice V ks.length kc] 40) 31 #[.int .i64 0, .slice none 0 0, .slice none 0 0, .slice none 0 0, .int .i64 0, .bool false, .int .i64 0])
  obtain ⟨⟨rm, fs, bs, ws, lf, dk, ct⟩, E⟩ := r
  go_enter Try.func15, Try.ntmps15
  go_wp2_with fail
  refine (HCH.out _ (HBN.out _ _ _)).mono ?_
  rintro e w4 ⟨fv', bv', wv', rfl, hin4, hb4⟩
  obtain ⟨⟨P1, c1, h1⟩, ⟨P2, c2, h2⟩, ⟨P3, c3, h3⟩⟩ := ref_forms hin4.in_
  simp only at h1 h2 h3
  generalize fs.length = n1 at h1
  generalize bs.length = n2 at h2
  generalize ws.length = n3 at h3
  subst h1
  subst h2
  subst h3
  simp only [refC]
  have HIN4 := Lib.hid hin4
  have HY4 := Lib.hid (HY.out.below hb4 HY.out.lt)
  have HB4 := Lib.hid ((HBN.out (.cells #[.int .i64 (room : Int), .slice Pf nf cf, .slice Pb nb cb, .slice Pw nw cw, .int .i64 left, .bool dark, .int .i64 (count : Int)] 31) (.cells #[.int .i64 5, .string name, .string to, .slice A b.length bc, .int .i64 n, .slice V ks.length kc] 40) (.cells #[.int .i64 0, .slice none 0 0, .slice none 0 0, .slice none 0 0, .int .i64 0, .bool false, .int .i64 0] 31)).trans (hb4.mono (HBN.out _ _ _).size))
  clear hin4 hb4
  have HY5 := Lib.hid (HY4.out.alloc (.cells #[.int .i64 (rm : Int), .slice P1 n1 c1, .slice P2 n2 c2, .slice P3 n3 c3, .int .i64 lf, .bool dk, .int .i64 (ct : Int)] 31))
  have HI5 := Lib.hid (HIN4.out.below (below_one w4 (.cells #[.int .i64 (rm : Int), .slice P1 n1 c1, .slice P2 n2 c2, .slice P3 n3 c3, .int .i64 lf, .bool dk, .int .i64 (ct : Int)] 31)))
  have HB5 := Lib.hid (HB4.out.trans ((below_one w4 (.cells #[.int .i64 (rm : Int), .slice P1 n1 c1, .slice P2 n2 c2, .slice P3 n3 c3, .int .i64 lf, .bool dk, .int .i64 (ct : Int)] 31)).mono HB4.out.size))
  have y0 : (w4.alloc (.cells #[.int .i64 (rm : Int), .slice P1 n1 c1, .slice P2 n2 c2, .slice P3 n3 c3, .int .i64 lf, .bool dk, .int .i64 (ct : Int)] 31)).cell? ⟨w.heap.size + 2, 0, none⟩ = some (.int .i64 0) := (HY5.out.cell 0).trans rfl
  have z0 := HY5.out.frozen 0
  have y1 : (w4.alloc (.cells #[.int .i64 (rm : Int), .slice P1 n1 c1, .slice P2 n2 c2, .slice P3 n3 c3, .int .i64 lf, .bool dk, .int .i64 (ct : Int)] 31)).cell? ⟨w.heap.size + 2, 1, none⟩ = some (.slice none 0 0) := (HY5.out.cell 1).trans rfl
  have z1 := HY5.out.frozen 1
  have y2 : (w4.alloc (.cells #[.int .i64 (rm : Int), .slice P1 n1 c1, .slice P2 n2 c2, .slice P3 n3 c3, .int .i64 lf, .bool dk, .int .i64 (ct : Int)] 31)).cell? ⟨w.heap.size + 2, 2, none⟩ = some (.slice none 0 0) := (HY5.out.cell 2).trans rfl
  have z2 := HY5.out.frozen 2
  have y3 : (w4.alloc (.cells #[.int .i64 (rm : Int), .slice P1 n1 c1, .slice P2 n2 c2, .slice P3 n3 c3, .int .i64 lf, .bool dk, .int .i64 (ct : Int)] 31)).cell? ⟨w.heap.size + 2, 3, none⟩ = some (.slice none 0 0) := (HY5.out.cell 3).trans rfl
  have z3 := HY5.out.frozen 3
  have y4 : (w4.alloc (.cells #[.int .i64 (rm : Int), .slice P1 n1 c1, .slice P2 n2 c2, .slice P3 n3 c3, .int .i64 lf, .bool dk, .int .i64 (ct : Int)] 31)).cell? ⟨w.heap.size + 2, 4, none⟩ = some (.int .i64 0) := (HY5.out.cell 4).trans rfl
  have z4 := HY5.out.frozen 4
  have y5 : (w4.alloc (.cells #[.int .i64 (rm : Int), .slice P1 n1 c1, .slice P2 n2 c2, .slice P3 n3 c3, .int .i64 lf, .bool dk, .int .i64 (ct : Int)] 31)).cell? ⟨w.heap.size + 2, 5, none⟩ = some (.bool false) := (HY5.out.cell 5).trans rfl
  have z5 := HY5.out.frozen 5
  have y6 : (w4.alloc (.cells #[.int .i64 (rm : Int), .slice P1 n1 c1, .slice P2 n2 c2, .slice P3 n3 c3, .int .i64 lf, .bool dk, .int .i64 (ct : Int)] 31)).cell? ⟨w.heap.size + 2, 6, none⟩ = some (.int .i64 0) := (HY5.out.cell 6).trans rfl
  have z6 := HY5.out.frozen 6
  go_wp2_with fail
  (try simp only [Exit.inBlock, Exit.then])
  refine bodyPost_ret (ret_three rfl _ _ _ _ rfl (put7_row HY5.out _ _ _ _ _ _ _) rfl) rfl ?_
  exact done_end (d' := ⟨rm, fs, bs, ws, lf, dk, ct⟩) (E := E) (bs := []) HAD.out HAE.out HAB.out HI5.out (Bys.empty _ none) HY5.out (dsk_bytes ⟨_, rfl⟩ ⟨_, _, _, rfl⟩ ⟨_, _, _, rfl⟩ ⟨_, _, _, rfl⟩ ⟨_, rfl⟩ ⟨_, rfl⟩ ⟨_, rfl⟩) HB5.out (by omega)
set_option maxRecDepth 20000 in
set_option maxHeartbeats 2000000 in
theorem done_6 (h : RefT T w fv bv wv d) (hT : ∀ i, T i → i < w.heap.size) (hk : Ok N d) (hN : N ≤ 1000) (hM : Met d) (a : ActV) (ha : ActOk w a) (hkd : a.kind = 6) :
    Calls Try.prog 15 #[.agg (refC d fv bv wv).toArray, .agg (actC a).toArray] w (DoneTold T w d a) := by
  have hB0 : ∀ (o1 o2 o3 : Obj), Below w.heap.size w (((w.alloc o1).alloc o2).alloc o3) := fun o1 o2 o3 => ((below_one _ _).alloc (by simp) _).alloc (by simp; omega) _
  have HIN := Lib.hid (fun (x : World) (hb : Below w.heap.size w x) => h.below hb)
  obtain ⟨⟨Pf, cf, hfv⟩, ⟨Pb, cb, hbv⟩, ⟨Pw, cw, hwv⟩⟩ := ref_forms h.in_
  have hw := hk.wait
  have hf := hk.files
  have hc := hk.count
  have HCH := Lib.hid (fun (x : World) (hb : Below w.heap.size w x) => change_ref6 (h.below hb) (fun i hi => Nat.lt_of_lt_of_le (hT i hi) hb.size) hk.fine hM (by omega) (by omega) hk.left (by omega) a.name a.to (by have := ha.name; omega) (by have := ha.to; omega) a.A a.b a.bc (ha.b.below hb) (by have := ha.bl; omega))
  have HAD : actD d a = (change d 6 (strL a.name) (strL a.to) a.b).1 := by unfold actD; rw [if_pos (by omega), hkd]
  have HAE : actE d a = (change d 6 (strL a.name) (strL a.to) a.b).2 := by unfold actE; rw [if_pos (by omega), hkd]
  have HAB : actB d a = [] := by unfold actB; exact if_neg (by omega)
  have HAD := Lib.hid HAD
  have HAE := Lib.hid HAE
  have HAB := Lib.hid HAB
  have HBN := Lib.hid hB0
  obtain ⟨kind, name, to, A, b, bc, n, V, ks, kc⟩ := a
  simp only at hkd HCH
  clear h hM ha hB0 hw hf hc hT
  subst hkd
  clear hk
  generalize change d 6 (strL name) (strL to) b = r at *
  obtain ⟨room, files, base, wait, left, dark, count⟩ := d
  simp only at hwv hbv hfv
  simp only [refC, actC] at *
  generalize hnf : files.length = nf at hfv
  generalize hnb : base.length = nb at hbv
  generalize hnw : wait.length = nw at hwv
  subst hwv
  subst hbv
  subst hfv
  clear hnf hnb hnw
  have HX := Lib.hid (((Row.new w 31 #[.int .i64 (room : Int), .slice Pf nf cf, .slice Pb nb cb, .slice Pw nw cw, .int .i64 left, .bool dark, .int .i64 (count : Int)]).alloc (.cells #[.int .i64 6, .string name, .string to, .slice A b.length bc, .int .i64 n, .slice V ks.length kc] 40)).alloc (.cells #[.int .i64 0, .slice none 0 0, .slice none 0 0, .slice none 0 0, .int .i64 0, .bool false, .int .i64 0] 31))
  have HY := Lib.hid (three_at w (.cells #[.int .i64 (room : Int), .slice Pf nf cf, .slice Pb nb cb, .slice Pw nw cw, .int .i64 left, .bool dark, .int .i64 (count : Int)] 31) (.cells #[.int .i64 6, .string name, .string to, .slice A b.length bc, .int .i64 n, .slice V ks.length kc] 40) 31 #[.int .i64 0, .slice none 0 0, .slice none 0 0, .slice none 0 0, .int .i64 0, .bool false, .int .i64 0])
  obtain ⟨⟨rm, fs, bs, ws, lf, dk, ct⟩, E⟩ := r
  go_enter Try.func15, Try.ntmps15
  go_wp2_with fail
  refine (HCH.out _ (HBN.out _ _ _)).mono ?_
  rintro e w4 ⟨fv', bv', wv', rfl, hin4, hb4⟩
  obtain ⟨⟨P1, c1, h1⟩, ⟨P2, c2, h2⟩, ⟨P3, c3, h3⟩⟩ := ref_forms hin4.in_
  simp only at h1 h2 h3
  generalize fs.length = n1 at h1
  generalize bs.length = n2 at h2
  generalize ws.length = n3 at h3
  subst h1
  subst h2
  subst h3
  simp only [refC]
  have HIN4 := Lib.hid hin4
  have HY4 := Lib.hid (HY.out.below hb4 HY.out.lt)
  have HB4 := Lib.hid ((HBN.out (.cells #[.int .i64 (room : Int), .slice Pf nf cf, .slice Pb nb cb, .slice Pw nw cw, .int .i64 left, .bool dark, .int .i64 (count : Int)] 31) (.cells #[.int .i64 6, .string name, .string to, .slice A b.length bc, .int .i64 n, .slice V ks.length kc] 40) (.cells #[.int .i64 0, .slice none 0 0, .slice none 0 0, .slice none 0 0, .int .i64 0, .bool false, .int .i64 0] 31)).trans (hb4.mono (HBN.out _ _ _).size))
  clear hin4 hb4
  have HY5 := Lib.hid (HY4.out.alloc (.cells #[.int .i64 (rm : Int), .slice P1 n1 c1, .slice P2 n2 c2, .slice P3 n3 c3, .int .i64 lf, .bool dk, .int .i64 (ct : Int)] 31))
  have HI5 := Lib.hid (HIN4.out.below (below_one w4 (.cells #[.int .i64 (rm : Int), .slice P1 n1 c1, .slice P2 n2 c2, .slice P3 n3 c3, .int .i64 lf, .bool dk, .int .i64 (ct : Int)] 31)))
  have HB5 := Lib.hid (HB4.out.trans ((below_one w4 (.cells #[.int .i64 (rm : Int), .slice P1 n1 c1, .slice P2 n2 c2, .slice P3 n3 c3, .int .i64 lf, .bool dk, .int .i64 (ct : Int)] 31)).mono HB4.out.size))
  have y0 : (w4.alloc (.cells #[.int .i64 (rm : Int), .slice P1 n1 c1, .slice P2 n2 c2, .slice P3 n3 c3, .int .i64 lf, .bool dk, .int .i64 (ct : Int)] 31)).cell? ⟨w.heap.size + 2, 0, none⟩ = some (.int .i64 0) := (HY5.out.cell 0).trans rfl
  have z0 := HY5.out.frozen 0
  have y1 : (w4.alloc (.cells #[.int .i64 (rm : Int), .slice P1 n1 c1, .slice P2 n2 c2, .slice P3 n3 c3, .int .i64 lf, .bool dk, .int .i64 (ct : Int)] 31)).cell? ⟨w.heap.size + 2, 1, none⟩ = some (.slice none 0 0) := (HY5.out.cell 1).trans rfl
  have z1 := HY5.out.frozen 1
  have y2 : (w4.alloc (.cells #[.int .i64 (rm : Int), .slice P1 n1 c1, .slice P2 n2 c2, .slice P3 n3 c3, .int .i64 lf, .bool dk, .int .i64 (ct : Int)] 31)).cell? ⟨w.heap.size + 2, 2, none⟩ = some (.slice none 0 0) := (HY5.out.cell 2).trans rfl
  have z2 := HY5.out.frozen 2
  have y3 : (w4.alloc (.cells #[.int .i64 (rm : Int), .slice P1 n1 c1, .slice P2 n2 c2, .slice P3 n3 c3, .int .i64 lf, .bool dk, .int .i64 (ct : Int)] 31)).cell? ⟨w.heap.size + 2, 3, none⟩ = some (.slice none 0 0) := (HY5.out.cell 3).trans rfl
  have z3 := HY5.out.frozen 3
  have y4 : (w4.alloc (.cells #[.int .i64 (rm : Int), .slice P1 n1 c1, .slice P2 n2 c2, .slice P3 n3 c3, .int .i64 lf, .bool dk, .int .i64 (ct : Int)] 31)).cell? ⟨w.heap.size + 2, 4, none⟩ = some (.int .i64 0) := (HY5.out.cell 4).trans rfl
  have z4 := HY5.out.frozen 4
  have y5 : (w4.alloc (.cells #[.int .i64 (rm : Int), .slice P1 n1 c1, .slice P2 n2 c2, .slice P3 n3 c3, .int .i64 lf, .bool dk, .int .i64 (ct : Int)] 31)).cell? ⟨w.heap.size + 2, 5, none⟩ = some (.bool false) := (HY5.out.cell 5).trans rfl
  have z5 := HY5.out.frozen 5
  have y6 : (w4.alloc (.cells #[.int .i64 (rm : Int), .slice P1 n1 c1, .slice P2 n2 c2, .slice P3 n3 c3, .int .i64 lf, .bool dk, .int .i64 (ct : Int)] 31)).cell? ⟨w.heap.size + 2, 6, none⟩ = some (.int .i64 0) := (HY5.out.cell 6).trans rfl
  have z6 := HY5.out.frozen 6
  go_wp2_with fail
  (try simp only [Exit.inBlock, Exit.then])
  refine bodyPost_ret (ret_three rfl _ _ _ _ rfl (put7_row HY5.out _ _ _ _ _ _ _) rfl) rfl ?_
  exact done_end (d' := ⟨rm, fs, bs, ws, lf, dk, ct⟩) (E := E) (bs := []) HAD.out HAE.out HAB.out HI5.out (Bys.empty _ none) HY5.out (dsk_bytes ⟨_, rfl⟩ ⟨_, _, _, rfl⟩ ⟨_, _, _, rfl⟩ ⟨_, _, _, rfl⟩ ⟨_, rfl⟩ ⟨_, rfl⟩ ⟨_, rfl⟩) HB5.out (by omega)
set_option maxRecDepth 20000 in
set_option maxHeartbeats 2000000 in
theorem done_7 (h : RefT T w fv bv wv d) (hT : ∀ i, T i → i < w.heap.size) (hk : Ok N d) (hN : N ≤ 1000) (hM : Met d) (a : ActV) (ha : ActOk w a) (hkd : a.kind = 7) :
    Calls Try.prog 15 #[.agg (refC d fv bv wv).toArray, .agg (actC a).toArray] w (DoneTold T w d a) := by
  have hB0 : ∀ (o1 o2 o3 : Obj), Below w.heap.size w (((w.alloc o1).alloc o2).alloc o3) := fun o1 o2 o3 => ((below_one _ _).alloc (by simp) _).alloc (by simp; omega) _
  have HIN := Lib.hid (fun (x : World) (hb : Below w.heap.size w x) => h.below hb)
  obtain ⟨⟨Pf, cf, hfv⟩, ⟨Pb, cb, hbv⟩, ⟨Pw, cw, hwv⟩⟩ := ref_forms h.in_
  have hw := hk.wait
  have hf := hk.files
  have hc := hk.count
  have HCH := Lib.hid (fun (x : World) (hb : Below w.heap.size w x) => read_ref (h.below hb).in_ hk.fine hM (by omega) a.name (by have := ha.name; omega))
  have HAD : actD d a = d := by unfold actD; rw [if_neg (by omega), if_neg (by omega), if_neg (by omega)]
  have HAE : actE d a = (readD d (strL a.name)).2 := by unfold actE; rw [if_neg (by omega), if_pos hkd]
  have HAB : actB d a = (readD d (strL a.name)).1 := by unfold actB; exact if_pos hkd
  have HAD := Lib.hid HAD
  have HAE := Lib.hid HAE
  have HAB := Lib.hid HAB
  have HBN := Lib.hid hB0
  obtain ⟨kind, name, to, A, b, bc, n, V, ks, kc⟩ := a
  simp only at hkd HCH
  clear h hM ha hB0 hw hf hc hT
  subst hkd
  clear hk
  generalize readD d (strL name) = r at *
  obtain ⟨room, files, base, wait, left, dark, count⟩ := d
  simp only at hwv hbv hfv
  simp only [refC, actC] at *
  generalize hnf : files.length = nf at hfv
  generalize hnb : base.length = nb at hbv
  generalize hnw : wait.length = nw at hwv
  subst hwv
  subst hbv
  subst hfv
  clear hnf hnb hnw
  have HX := Lib.hid (((Row.new w 31 #[.int .i64 (room : Int), .slice Pf nf cf, .slice Pb nb cb, .slice Pw nw cw, .int .i64 left, .bool dark, .int .i64 (count : Int)]).alloc (.cells #[.int .i64 7, .string name, .string to, .slice A b.length bc, .int .i64 n, .slice V ks.length kc] 40)).alloc (.cells #[.int .i64 0, .slice none 0 0, .slice none 0 0, .slice none 0 0, .int .i64 0, .bool false, .int .i64 0] 31))
  have HY := Lib.hid (three_at w (.cells #[.int .i64 (room : Int), .slice Pf nf cf, .slice Pb nb cb, .slice Pw nw cw, .int .i64 left, .bool dark, .int .i64 (count : Int)] 31) (.cells #[.int .i64 7, .string name, .string to, .slice A b.length bc, .int .i64 n, .slice V ks.length kc] 40) 31 #[.int .i64 0, .slice none 0 0, .slice none 0 0, .slice none 0 0, .int .i64 0, .bool false, .int .i64 0])
  obtain ⟨rb, E⟩ := r
  go_enter Try.func15, Try.ntmps15
  go_wp2_with fail
  refine (HCH.out _ (HBN.out _ _ _)).mono ?_
  rintro e w4 ⟨A4, c4, rfl, hbs4, _, hb4⟩
  have HBS := Lib.hid hbs4
  have HX4 := Lib.hid (HX.out.below hb4 HX.out.lt)
  have HY4 := Lib.hid (HY.out.below hb4 HY.out.lt)
  have HB4 := Lib.hid ((HBN.out (.cells #[.int .i64 (room : Int), .slice Pf nf cf, .slice Pb nb cb, .slice Pw nw cw, .int .i64 left, .bool dark, .int .i64 (count : Int)] 31) (.cells #[.int .i64 7, .string name, .string to, .slice A b.length bc, .int .i64 n, .slice V ks.length kc] 40) (.cells #[.int .i64 0, .slice none 0 0, .slice none 0 0, .slice none 0 0, .int .i64 0, .bool false, .int .i64 0] 31)).trans (hb4.mono (HBN.out _ _ _).size))
  clear hbs4 hb4
  simp only
  have x0 : w4.cell? ⟨w.heap.size, 0, none⟩ = some (.int .i64 (room : Int)) := (HX4.out.cell 0).trans rfl
  have x1 : w4.cell? ⟨w.heap.size, 1, none⟩ = some (.slice Pf nf cf) := (HX4.out.cell 1).trans rfl
  have x2 : w4.cell? ⟨w.heap.size, 2, none⟩ = some (.slice Pb nb cb) := (HX4.out.cell 2).trans rfl
  have x3 : w4.cell? ⟨w.heap.size, 3, none⟩ = some (.slice Pw nw cw) := (HX4.out.cell 3).trans rfl
  have x4 : w4.cell? ⟨w.heap.size, 4, none⟩ = some (.int .i64 left) := (HX4.out.cell 4).trans rfl
  have x5 : w4.cell? ⟨w.heap.size, 5, none⟩ = some (.bool dark) := (HX4.out.cell 5).trans rfl
  have x6 : w4.cell? ⟨w.heap.size, 6, none⟩ = some (.int .i64 (count : Int)) := (HX4.out.cell 6).trans rfl
  have y0 : w4.cell? ⟨w.heap.size + 2, 0, none⟩ = some (.int .i64 0) := (HY4.out.cell 0).trans rfl
  have z0 := HY4.out.frozen 0
  have y1 : w4.cell? ⟨w.heap.size + 2, 1, none⟩ = some (.slice none 0 0) := (HY4.out.cell 1).trans rfl
  have z1 := HY4.out.frozen 1
  have y2 : w4.cell? ⟨w.heap.size + 2, 2, none⟩ = some (.slice none 0 0) := (HY4.out.cell 2).trans rfl
  have z2 := HY4.out.frozen 2
  have y3 : w4.cell? ⟨w.heap.size + 2, 3, none⟩ = some (.slice none 0 0) := (HY4.out.cell 3).trans rfl
  have z3 := HY4.out.frozen 3
  have y4 : w4.cell? ⟨w.heap.size + 2, 4, none⟩ = some (.int .i64 0) := (HY4.out.cell 4).trans rfl
  have z4 := HY4.out.frozen 4
  have y5 : w4.cell? ⟨w.heap.size + 2, 5, none⟩ = some (.bool false) := (HY4.out.cell 5).trans rfl
  have z5 := HY4.out.frozen 5
  have y6 : w4.cell? ⟨w.heap.size + 2, 6, none⟩ = some (.int .i64 0) := (HY4.out.cell 6).trans rfl
  have z6 := HY4.out.frozen 6
  go_wp2_with fail
  (try simp only [Exit.inBlock, Exit.then])
  refine bodyPost_ret (ret_three rfl _ _ _ _ rfl (put7_row HY4.out _ _ _ _ _ _ _) rfl) rfl ?_
  exact done_end (d' := ⟨room, files, base, wait, left, dark, count⟩) (E := E) (bs := rb) HAD.out HAE.out HAB.out (HIN.out _ HB4.out) HBS.out HY4.out (dsk_bytes ⟨_, rfl⟩ ⟨_, _, _, rfl⟩ ⟨_, _, _, rfl⟩ ⟨_, _, _, rfl⟩ ⟨_, rfl⟩ ⟨_, rfl⟩ ⟨_, rfl⟩) HB4.out (by omega)
set_option maxRecDepth 20000 in
set_option maxHeartbeats 2000000 in
theorem done_8 (h : RefT T w fv bv wv d) (hT : ∀ i, T i → i < w.heap.size) (hk : Ok N d) (hN : N ≤ 1000) (hM : Met d) (a : ActV) (ha : ActOk w a) (hkd : a.kind = 8) :
    Calls Try.prog 15 #[.agg (refC d fv bv wv).toArray, .agg (actC a).toArray] w (DoneTold T w d a) := by
  have hB0 : ∀ (o1 o2 o3 : Obj), Below w.heap.size w (((w.alloc o1).alloc o2).alloc o3) := fun o1 o2 o3 => ((below_one _ _).alloc (by simp) _).alloc (by simp; omega) _
  have HIN := Lib.hid (fun (x : World) (hb : Below w.heap.size w x) => h.below hb)
  obtain ⟨⟨Pf, cf, hfv⟩, ⟨Pb, cb, hbv⟩, ⟨Pw, cw, hwv⟩⟩ := ref_forms h.in_
  have hw := hk.wait
  have hf := hk.files
  have hc := hk.count
  have HCH := Lib.hid (fun (x : World) (hb : Below w.heap.size w x) => fuse_ref (h.below hb).in_ a.n)
  have HAD : actD d a = fuseD d a.n := by unfold actD; rw [if_neg (by omega), if_pos hkd]
  have HAE : actE d a = 0 := by unfold actE; rw [if_neg (by omega), if_neg (by omega)]
  have HAB : actB d a = [] := by unfold actB; exact if_neg (by omega)
  have HAD := Lib.hid HAD
  have HAE := Lib.hid HAE
  have HAB := Lib.hid HAB
  have HBN := Lib.hid hB0
  obtain ⟨kind, name, to, A, b, bc, n, V, ks, kc⟩ := a
  simp only at hkd HCH
  clear h hM ha hB0 hw hf hc hT
  subst hkd
  clear hk
  generalize hfd : fuseD d n = d2 at *
  obtain ⟨room, files, base, wait, left, dark, count⟩ := d
  simp only at hwv hbv hfv
  simp only [refC, actC] at *
  generalize hnf : files.length = nf at hfv
  generalize hnb : base.length = nb at hbv
  generalize hnw : wait.length = nw at hwv
  subst hwv
  subst hbv
  subst hfv
  clear hnf hnb hnw
  have HX := Lib.hid (((Row.new w 31 #[.int .i64 (room : Int), .slice Pf nf cf, .slice Pb nb cb, .slice Pw nw cw, .int .i64 left, .bool dark, .int .i64 (count : Int)]).alloc (.cells #[.int .i64 8, .string name, .string to, .slice A b.length bc, .int .i64 n, .slice V ks.length kc] 40)).alloc (.cells #[.int .i64 0, .slice none 0 0, .slice none 0 0, .slice none 0 0, .int .i64 0, .bool false, .int .i64 0] 31))
  have HY := Lib.hid (three_at w (.cells #[.int .i64 (room : Int), .slice Pf nf cf, .slice Pb nb cb, .slice Pw nw cw, .int .i64 left, .bool dark, .int .i64 (count : Int)] 31) (.cells #[.int .i64 8, .string name, .string to, .slice A b.length bc, .int .i64 n, .slice V ks.length kc] 40) 31 #[.int .i64 0, .slice none 0 0, .slice none 0 0, .slice none 0 0, .int .i64 0, .bool false, .int .i64 0])
  go_enter Try.func15, Try.ntmps15
  have HFD := Lib.hid hfd
  clear hfd
  obtain ⟨rm, fs, bs, ws, lf, dk, ct⟩ := d2
  simp only at HCH
  go_wp2_with fail
  refine (HCH.out _ (HBN.out _ _ _)).mono ?_
  rintro e w4 ⟨rfl, hb4⟩
  have HY4 := Lib.hid (HY.out.below hb4 HY.out.lt)
  have HB4 := Lib.hid ((HBN.out (.cells #[.int .i64 (room : Int), .slice Pf nf cf, .slice Pb nb cb, .slice Pw nw cw, .int .i64 left, .bool dark, .int .i64 (count : Int)] 31) (.cells #[.int .i64 8, .string name, .string to, .slice A b.length bc, .int .i64 n, .slice V ks.length kc] 40) (.cells #[.int .i64 0, .slice none 0 0, .slice none 0 0, .slice none 0 0, .int .i64 0, .bool false, .int .i64 0] 31)).trans (hb4.mono (HBN.out _ _ _).size))
  have HI4 : RefT T w4 (.slice Pf nf cf) (.slice Pb nb cb) (.slice Pw nw cw) ⟨rm, fs, bs, ws, lf, dk, ct⟩ := by
    rw [← HFD.out]
    exact ⟨(HIN.out _ HB4.out).files, (HIN.out _ HB4.out).base, (HIN.out _ HB4.out).wait, (HIN.out _ HB4.out).ff, (HIN.out _ HB4.out).fb, (HIN.out _ HB4.out).fw⟩
  have HI5 := Lib.hid HI4
  clear hb4 HI4
  have y0 : w4.cell? ⟨w.heap.size + 2, 0, none⟩ = some (.int .i64 0) := (HY4.out.cell 0).trans rfl
  have z0 := HY4.out.frozen 0
  have y1 : w4.cell? ⟨w.heap.size + 2, 1, none⟩ = some (.slice none 0 0) := (HY4.out.cell 1).trans rfl
  have z1 := HY4.out.frozen 1
  have y2 : w4.cell? ⟨w.heap.size + 2, 2, none⟩ = some (.slice none 0 0) := (HY4.out.cell 2).trans rfl
  have z2 := HY4.out.frozen 2
  have y3 : w4.cell? ⟨w.heap.size + 2, 3, none⟩ = some (.slice none 0 0) := (HY4.out.cell 3).trans rfl
  have z3 := HY4.out.frozen 3
  have y4 : w4.cell? ⟨w.heap.size + 2, 4, none⟩ = some (.int .i64 0) := (HY4.out.cell 4).trans rfl
  have z4 := HY4.out.frozen 4
  have y5 : w4.cell? ⟨w.heap.size + 2, 5, none⟩ = some (.bool false) := (HY4.out.cell 5).trans rfl
  have z5 := HY4.out.frozen 5
  have y6 : w4.cell? ⟨w.heap.size + 2, 6, none⟩ = some (.int .i64 0) := (HY4.out.cell 6).trans rfl
  have z6 := HY4.out.frozen 6
  go_wp2_with fail
  (try simp only [Exit.inBlock, Exit.then])
  refine bodyPost_ret (ret_three rfl _ _ _ _ rfl (put7_row HY4.out _ _ _ _ _ _ _) rfl) rfl ?_
  exact done_end (d' := ⟨rm, fs, bs, ws, lf, dk, ct⟩) (E := 0) (bs := []) HAD.out HAE.out HAB.out HI5.out (Bys.empty _ none) HY4.out (dsk_bytes ⟨_, rfl⟩ ⟨_, _, _, rfl⟩ ⟨_, _, _, rfl⟩ ⟨_, _, _, rfl⟩ ⟨_, rfl⟩ ⟨_, rfl⟩ ⟨_, rfl⟩) HB4.out (by omega)
set_option maxRecDepth 20000 in
set_option maxHeartbeats 2000000 in
theorem done_9 (h : RefT T w fv bv wv d) (hT : ∀ i, T i → i < w.heap.size) (hk : Ok N d) (hN : N ≤ 1000) (hM : Met d) (a : ActV) (ha : ActOk w a) (hkd : a.kind = 9) :
    Calls Try.prog 15 #[.agg (refC d fv bv wv).toArray, .agg (actC a).toArray] w (DoneTold T w d a) := by
  have hB0 : ∀ (o1 o2 o3 : Obj), Below w.heap.size w (((w.alloc o1).alloc o2).alloc o3) := fun o1 o2 o3 => ((below_one _ _).alloc (by simp) _).alloc (by simp; omega) _
  have HIN := Lib.hid (fun (x : World) (hb : Below w.heap.size w x) => h.below hb)
  obtain ⟨⟨Pf, cf, hfv⟩, ⟨Pb, cb, hbv⟩, ⟨Pw, cw, hwv⟩⟩ := ref_forms h.in_
  have hw := hk.wait
  have hf := hk.files
  have hc := hk.count
  have HCH := Lib.hid (fun (x : World) (hb : Below w.heap.size w x) => crashT_ref (h.below hb) (fun i hi => Nat.lt_of_lt_of_le (hT i hi) hb.size) hk.fine hM (by omega) (by omega) a.n ha.n a.V a.ks a.kc (ha.ks.below hb) (by have := ha.kl; omega) ha.kb)
  have HAD : actD d a = crashD d a.n a.ks := by unfold actD; rw [if_neg (by omega), if_neg (by omega), if_pos hkd]
  have HAE : actE d a = 0 := by unfold actE; rw [if_neg (by omega), if_neg (by omega)]
  have HAB : actB d a = [] := by unfold actB; exact if_neg (by omega)
  have HAD := Lib.hid HAD
  have HAE := Lib.hid HAE
  have HAB := Lib.hid HAB
  have HBN := Lib.hid hB0
  obtain ⟨kind, name, to, A, b, bc, n, V, ks, kc⟩ := a
  simp only at hkd HCH
  clear h hM ha hB0 hw hf hc hT
  subst hkd
  clear hk
  generalize crashD d n ks = d2 at *
  obtain ⟨room, files, base, wait, left, dark, count⟩ := d
  simp only at hwv hbv hfv
  simp only [refC, actC] at *
  generalize hnf : files.length = nf at hfv
  generalize hnb : base.length = nb at hbv
  generalize hnw : wait.length = nw at hwv
  subst hwv
  subst hbv
  subst hfv
  clear hnf hnb hnw
  have HX := Lib.hid (((Row.new w 31 #[.int .i64 (room : Int), .slice Pf nf cf, .slice Pb nb cb, .slice Pw nw cw, .int .i64 left, .bool dark, .int .i64 (count : Int)]).alloc (.cells #[.int .i64 9, .string name, .string to, .slice A b.length bc, .int .i64 n, .slice V ks.length kc] 40)).alloc (.cells #[.int .i64 0, .slice none 0 0, .slice none 0 0, .slice none 0 0, .int .i64 0, .bool false, .int .i64 0] 31))
  have HY := Lib.hid (three_at w (.cells #[.int .i64 (room : Int), .slice Pf nf cf, .slice Pb nb cb, .slice Pw nw cw, .int .i64 left, .bool dark, .int .i64 (count : Int)] 31) (.cells #[.int .i64 9, .string name, .string to, .slice A b.length bc, .int .i64 n, .slice V ks.length kc] 40) 31 #[.int .i64 0, .slice none 0 0, .slice none 0 0, .slice none 0 0, .int .i64 0, .bool false, .int .i64 0])
  obtain ⟨rm, fs, bs, ws, lf, dk, ct⟩ := d2
  go_enter Try.func15, Try.ntmps15
  go_wp2_with fail
  refine (HCH.out _ (HBN.out _ _ _)).mono ?_
  rintro e w4 ⟨fv', bv', wv', rfl, hin4, hb4⟩
  obtain ⟨⟨P1, c1, h1⟩, ⟨P2, c2, h2⟩, ⟨P3, c3, h3⟩⟩ := ref_forms hin4.in_
  simp only at h1 h2 h3
  generalize fs.length = n1 at h1
  generalize bs.length = n2 at h2
  generalize ws.length = n3 at h3
  subst h1
  subst h2
  subst h3
  simp only [refC]
  have HIN4 := Lib.hid hin4
  have HY4 := Lib.hid (HY.out.below hb4 HY.out.lt)
  have HB4 := Lib.hid ((HBN.out (.cells #[.int .i64 (room : Int), .slice Pf nf cf, .slice Pb nb cb, .slice Pw nw cw, .int .i64 left, .bool dark, .int .i64 (count : Int)] 31) (.cells #[.int .i64 9, .string name, .string to, .slice A b.length bc, .int .i64 n, .slice V ks.length kc] 40) (.cells #[.int .i64 0, .slice none 0 0, .slice none 0 0, .slice none 0 0, .int .i64 0, .bool false, .int .i64 0] 31)).trans (hb4.mono (HBN.out _ _ _).size))
  clear hin4 hb4
  have y0 : w4.cell? ⟨w.heap.size + 2, 0, none⟩ = some (.int .i64 0) := (HY4.out.cell 0).trans rfl
  have z0 := HY4.out.frozen 0
  have y1 : w4.cell? ⟨w.heap.size + 2, 1, none⟩ = some (.slice none 0 0) := (HY4.out.cell 1).trans rfl
  have z1 := HY4.out.frozen 1
  have y2 : w4.cell? ⟨w.heap.size + 2, 2, none⟩ = some (.slice none 0 0) := (HY4.out.cell 2).trans rfl
  have z2 := HY4.out.frozen 2
  have y3 : w4.cell? ⟨w.heap.size + 2, 3, none⟩ = some (.slice none 0 0) := (HY4.out.cell 3).trans rfl
  have z3 := HY4.out.frozen 3
  have y4 : w4.cell? ⟨w.heap.size + 2, 4, none⟩ = some (.int .i64 0) := (HY4.out.cell 4).trans rfl
  have z4 := HY4.out.frozen 4
  have y5 : w4.cell? ⟨w.heap.size + 2, 5, none⟩ = some (.bool false) := (HY4.out.cell 5).trans rfl
  have z5 := HY4.out.frozen 5
  have y6 : w4.cell? ⟨w.heap.size + 2, 6, none⟩ = some (.int .i64 0) := (HY4.out.cell 6).trans rfl
  have z6 := HY4.out.frozen 6
  go_wp2_with fail
  (try simp only [Exit.inBlock, Exit.then])
  refine bodyPost_ret (ret_three rfl _ _ _ _ rfl (put7_row HY4.out _ _ _ _ _ _ _) rfl) rfl ?_
  exact done_end (d' := ⟨rm, fs, bs, ws, lf, dk, ct⟩) (E := 0) (bs := []) HAD.out HAE.out HAB.out HIN4.out (Bys.empty _ none) HY4.out (dsk_bytes ⟨_, rfl⟩ ⟨_, _, _, rfl⟩ ⟨_, _, _, rfl⟩ ⟨_, _, _, rfl⟩ ⟨_, rfl⟩ ⟨_, rfl⟩ ⟨_, rfl⟩) HB4.out (by omega)
set_option maxRecDepth 20000 in
set_option maxHeartbeats 2000000 in
theorem done_none (h : RefT T w fv bv wv d) (hT : ∀ i, T i → i < w.heap.size) (hk : Ok N d) (hN : N ≤ 1000) (hM : Met d) (a : ActV) (ha : ActOk w a) (hkd : a.kind < 1 ∨ 9 < a.kind) :
    Calls Try.prog 15 #[.agg (refC d fv bv wv).toArray, .agg (actC a).toArray] w (DoneTold T w d a) := by
  have hB0 : ∀ (o1 o2 o3 : Obj), Below w.heap.size w (((w.alloc o1).alloc o2).alloc o3) := fun o1 o2 o3 => ((below_one _ _).alloc (by simp) _).alloc (by simp; omega) _
  have HIN := Lib.hid (fun (x : World) (hb : Below w.heap.size w x) => h.below hb)
  obtain ⟨⟨Pf, cf, hfv⟩, ⟨Pb, cb, hbv⟩, ⟨Pw, cw, hwv⟩⟩ := ref_forms h.in_
  have hw := hk.wait
  have hf := hk.files
  have hc := hk.count
  have HAD : actD d a = d := by unfold actD; rw [if_neg (by omega), if_neg (by omega), if_neg (by omega)]
  have HAE : actE d a = 0 := by unfold actE; rw [if_neg (by omega), if_neg (by omega)]
  have HAB : actB d a = [] := by unfold actB; exact if_neg (by omega)
  have HAD := Lib.hid HAD
  have HAE := Lib.hid HAE
  have HAB := Lib.hid HAB
  have HBN := Lib.hid hB0
  obtain ⟨kind, name, to, A, b, bc, n, V, ks, kc⟩ := a
  simp only at hkd
  clear h hM ha hB0 hw hf hc hT
  have hq : (decide ((1 : Int) ≤ kind) = true ∧ decide (kind ≤ 6) = false) ∨ decide ((1 : Int) ≤ kind) = false := by
    simp only [decide_eq_true_eq, decide_eq_false_iff_not]
    omega
  have q7 : (kind == 7) = false := by rw [beq_eq_false_iff_ne]; omega
  have q8 : (kind == 8) = false := by rw [beq_eq_false_iff_ne]; omega
  have q9 : (kind == 9) = false := by rw [beq_eq_false_iff_ne]; omega
  clear hkd
  clear hk
  obtain ⟨room, files, base, wait, left, dark, count⟩ := d
  simp only at hwv hbv hfv
  simp only [refC, actC] at *
  generalize hnf : files.length = nf at hfv
  generalize hnb : base.length = nb at hbv
  generalize hnw : wait.length = nw at hwv
  subst hwv
  subst hbv
  subst hfv
  clear hnf hnb hnw
  have HX := Lib.hid (((Row.new w 31 #[.int .i64 (room : Int), .slice Pf nf cf, .slice Pb nb cb, .slice Pw nw cw, .int .i64 left, .bool dark, .int .i64 (count : Int)]).alloc (.cells #[.int .i64 kind, .string name, .string to, .slice A b.length bc, .int .i64 n, .slice V ks.length kc] 40)).alloc (.cells #[.int .i64 0, .slice none 0 0, .slice none 0 0, .slice none 0 0, .int .i64 0, .bool false, .int .i64 0] 31))
  have HY := Lib.hid (three_at w (.cells #[.int .i64 (room : Int), .slice Pf nf cf, .slice Pb nb cb, .slice Pw nw cw, .int .i64 left, .bool dark, .int .i64 (count : Int)] 31) (.cells #[.int .i64 kind, .string name, .string to, .slice A b.length bc, .int .i64 n, .slice V ks.length kc] 40) 31 #[.int .i64 0, .slice none 0 0, .slice none 0 0, .slice none 0 0, .int .i64 0, .bool false, .int .i64 0])
  rcases hq with ⟨q1, q2⟩ | q1
  all_goals
    go_enter Try.func15, Try.ntmps15
    go_wp2_with fail
    (try simp only [Exit.inBlock, Exit.then])
    refine bodyPost_ret (ret_three rfl _ _ _ _ rfl (three_at _ _ _ _ _) rfl) rfl ?_
    unfold DoneTold
    rw [HAD.out, HAE.out, HAB.out]
    exact ⟨_, _, _, none, 0, rfl, HIN.out _ (HBN.out _ _ _), Bys.empty _ _, HBN.out _ _ _⟩
theorem done_ref (h : RefT T w fv bv wv d) (hT : ∀ i, T i → i < w.heap.size) (hk : Ok N d) (hN : N ≤ 1000) (hM : Met d) (a : ActV) (ha : ActOk w a) :
    Calls Try.prog 15 #[.agg (refC d fv bv wv).toArray, .agg (actC a).toArray] w (DoneTold T w d a) := by
  by_cases k0 : a.kind < 1 ∨ 9 < a.kind
  · exact done_none h hT hk hN hM a ha k0
  by_cases k1 : a.kind = 1
  · exact done_1 h hT hk hN hM a ha k1
  by_cases k2 : a.kind = 2
  · exact done_2 h hT hk hN hM a ha k2
  by_cases k3 : a.kind = 3
  · exact done_3 h hT hk hN hM a ha k3
  by_cases k4 : a.kind = 4
  · exact done_4 h hT hk hN hM a ha k4
  by_cases k5 : a.kind = 5
  · exact done_5 h hT hk hN hM a ha k5
  by_cases k6 : a.kind = 6
  · exact done_6 h hT hk hN hM a ha k6
  by_cases k7 : a.kind = 7
  · exact done_7 h hT hk hN hM a ha k7
  by_cases k8 : a.kind = 8
  · exact done_8 h hT hk hN hM a ha k8
  by_cases k9 : a.kind = 9
  · exact done_9 h hT hk hN hM a ha k9
  omega
end
end Go.Proofs.Ytiepepikbophmaa

namespace Go.Proofs.Ytiepepikbophmaa
open Go.RowKit Go.Maps
set_option linter.unusedVariables false

theorem conv_bytes {w : World} {A : Option Addr} {l : List UInt8} (c : Nat) (h : Bys w A l) : (∀ n, (convert 35 9 (.slice A l.length c)).run Try.prog (w.drewN n) = .ok (.string (txt l)) (w.drewN n)) ∧ (convert 35 9 (.slice A l.length c)).run Try.prog w = .ok (.string (txt l)) w :=
  ⟨fun n => conv_bys (w.drewN n) A l c h, conv_bys w A l c h⟩
theorem read_len {d : Dsk} (h : Fine d) (name : List UInt8) : (readD d name).1.length ≤ 4194304 := by
  have hr := h.room.2
  unfold readD
  split
  · simp
  · split
    · simp
    · rename_i n _
      split
      · simp
      · have := h.small n
        show (d.files.getD n fil0).b.length ≤ _
        omega
theorem list_names {d : Dsk} (h : Fine d) : (listD d).length ≤ 64 ∧ ∀ n ∈ listD d, (txt n).size ≤ 281474976710656 := by
  unfold listD
  split
  · exact ⟨by simp, fun n hn => by simp at hn⟩
  · refine ⟨by rw [List.length_map]; exact h.live_few, fun n hn => ?_⟩
    obtain ⟨x, hx, rfl⟩ := List.mem_map.1 hn
    have := named_len (h.live_in x hx).2
    rw [txt_len]
    omega
set_option maxRecDepth 20000 in
set_option maxHeartbeats 1000000 in
theorem whole_prog {S : Nat → Prop} {w : World} {X : Nat} {d : Dsk} {fv bv wv : Value} (hD : DiskAt S w X d) (h : RefIn w fv bv wv d) (hF : Fine d) (hM : Met d) (hwl : d.wait.length ≤ 100000) :
    Calls Try.prog 16 #[.pointer (some ⟨X, 0, none⟩), .agg (refC d fv bv wv).toArray] w fun e w' => e = .returned (.bool true) ∧ Below w.heap.size w w' := by
  have hB0 := below_one w (.cells (refC d fv bv wv).toArray 31)
  have HR0 := Lib.hid (fun w' hb => ref_cells (w := w) (w' := w') (d := d) (fv := fv) (bv := bv) (wv := wv) hb)
  have HDL := Lib.hid (list_prog (hD.below hB0) hF)
  have HLR := Lib.hid (fun (x : World) (hb : Below w.heap.size w x) => list_ref (w := x.drew) ((h.below hb).below (drawn _ _ 1)) hF hM hwl)
  have HDD := Lib.hid (fun (x : World) (hb : Below w.heap.size w x) => done_prog (hD.below hb))
  have HRP := Lib.hid (fun (x : World) (hb : Below w.heap.size w x) (s : ByteArray) hs => read_prog (hD.below hb) hF s hs)
  have HRR := Lib.hid (fun (x : World) (hb : Below w.heap.size w x) (s : ByteArray) hs => read_ref (w := x) (h.below hb) hF hM hwl s hs)
  obtain ⟨hfew, hnam⟩ := list_names hF
  have HNAM := Lib.hid hnam
  have HFI := Lib.hid hF
  have HB0 := Lib.hid hB0
  obtain ⟨⟨Pf, cf, hfv⟩, ⟨Pb, cb, hbv⟩, ⟨Pw, cw, hwv⟩⟩ := ref_forms h
  have HCT := Lib.hid (show ∃ c : Nat, c = d.count from ⟨_, rfl⟩)
  clear h hD hM hwl hB0 hnam hF
  generalize hns : listD d = ns at *
  clear hns
  have HRD := Lib.hid (show ∀ n, (readD d n).1.length ≤ 4194304 from read_len HFI.out)
  clear HFI
  generalize readD d = rd at *
  obtain ⟨room, files, base, wait, left, dark, count⟩ := d
  simp only at hwv hbv hfv HDD
  simp only [refC] at *
  generalize files.length = nf at hfv
  generalize base.length = nb at hbv
  generalize wait.length = nw at hwv
  subst hwv
  subst hbv
  subst hfv
  clear HCT
  go_enter Try.func16, Try.ntmps16
  go_wp2_with fail
  refine HDL.out.mono ?_
  rintro e w2 ⟨v2, rfl, ht2, hb2⟩
  obtain ⟨P2, c2, hv2, hP2⟩ := texts_at ht2
  have HT2 := Lib.hid ht2
  have HP2 := Lib.hid hP2
  have HB2 := Lib.hid (below_then HB0.out hb2)
  have hr2 := HR0.out _ hb2
  subst hv2
  clear ht2 hP2 hb2
  go_wp2_with fail
  have z0 : w2.cell? ⟨w.heap.size, 0, none⟩ = some (.int .i64 (room : Int)) := (hr2.cell 0).trans rfl
  have z1 : w2.cell? ⟨w.heap.size, 1, none⟩ = some (.slice Pf nf cf) := (hr2.cell 1).trans rfl
  have z2 : w2.cell? ⟨w.heap.size, 2, none⟩ = some (.slice Pb nb cb) := (hr2.cell 2).trans rfl
  have z3 : w2.cell? ⟨w.heap.size, 3, none⟩ = some (.slice Pw nw cw) := (hr2.cell 3).trans rfl
  have z4 : w2.cell? ⟨w.heap.size, 4, none⟩ = some (.int .i64 left) := (hr2.cell 4).trans rfl
  have z5 : w2.cell? ⟨w.heap.size, 5, none⟩ = some (.bool dark) := (hr2.cell 5).trans rfl
  have z6 : w2.cell? ⟨w.heap.size, 6, none⟩ = some (.int .i64 (count : Int)) := (hr2.cell 6).trans rfl
  have HR2 : Hid (Row w2.drew w.heap.size 31 #[.int .i64 (room : Int), .slice Pf nf cf, .slice Pb nb cb, .slice Pw nw cw, .int .i64 left, .bool dark, .int .i64 (count : Int)]) := Lib.hid hr2
  have hdc : decide (ns = ns) = true := decide_eq_true rfl
  clear hr2
  go_region_held3 (fun w' => w'.cell? ⟨w.heap.size, 0, none⟩ = some (.int .i64 (room : Int)) ∧ w'.cell? ⟨w.heap.size, 1, none⟩ = some (.slice Pf nf cf) ∧ w'.cell? ⟨w.heap.size, 2, none⟩ = some (.slice Pb nb cb) ∧ w'.cell? ⟨w.heap.size, 3, none⟩ = some (.slice Pw nw cw) ∧ w'.cell? ⟨w.heap.size, 4, none⟩ = some (.int .i64 left) ∧ w'.cell? ⟨w.heap.size, 5, none⟩ = some (.bool dark) ∧ w'.cell? ⟨w.heap.size, 6, none⟩ = some (.int .i64 (count : Int)))
    (first | exact z0 | exact z1 | exact z2 | exact z3 | exact z4 | exact z5 | exact z6 | exact y0 | exact y1 | exact y2 | exact y3 | exact y4 | exact y5 | exact y6 | exact u0 | exact u1 | exact u2 | exact u3 | exact u4 | exact u5 | exact u6 | go_keep)
    (first
      | (go_at_call 50
         refine (HLR.out w2 HB2.out).mono ?_
         rintro e w3 ⟨v3, rfl, ht3, hb3⟩
         obtain ⟨P3, c3, hv3, _⟩ := texts_at ht3
         have hr3 := row_move HR2.out (hb3.block _ HR2.out.lt)
         have y0 : w3.cell? ⟨w.heap.size, 0, none⟩ = some (.int .i64 (room : Int)) := (hr3.cell 0).trans rfl
         have y1 : w3.cell? ⟨w.heap.size, 1, none⟩ = some (.slice Pf nf cf) := (hr3.cell 1).trans rfl
         have y2 : w3.cell? ⟨w.heap.size, 2, none⟩ = some (.slice Pb nb cb) := (hr3.cell 2).trans rfl
         have y3 : w3.cell? ⟨w.heap.size, 3, none⟩ = some (.slice Pw nw cw) := (hr3.cell 3).trans rfl
         have y4 : w3.cell? ⟨w.heap.size, 4, none⟩ = some (.int .i64 left) := (hr3.cell 4).trans rfl
         have y5 : w3.cell? ⟨w.heap.size, 5, none⟩ = some (.bool dark) := (hr3.cell 5).trans rfl
         have y6 : w3.cell? ⟨w.heap.size, 6, none⟩ = some (.int .i64 (count : Int)) := (hr3.cell 6).trans rfl
         have hb3' : Below w2.heap.size w2 w3 := (drawn w2.heap.size w2 1).trans hb3
         have HSA := Lib.hid (same_prog (rows_below HT2.out hb3') ht3 (by omega) (by omega))
         have HB3 := Lib.hid (HB2.out.trans (hb3'.mono HB2.out.size))
         have HB23 := Lib.hid hb3'
         have HR3 := Lib.hid hr3
         have HD3 := Lib.hid (HDD.out w3 HB3.out)
         rw [hv3] at HSA
         clear ht3 hb3 hr3 hb3'
         subst hv3)
      | (go_at_call 49
         refine HSA.out.mono ?_
         rintro e w4 ⟨rfl, hb4⟩
         have hr4 := row_move HR3.out (hb4.block _ HR3.out.lt)
         have u0 : w4.cell? ⟨w.heap.size, 0, none⟩ = some (.int .i64 (room : Int)) := (hr4.cell 0).trans rfl
         have u1 : w4.cell? ⟨w.heap.size, 1, none⟩ = some (.slice Pf nf cf) := (hr4.cell 1).trans rfl
         have u2 : w4.cell? ⟨w.heap.size, 2, none⟩ = some (.slice Pb nb cb) := (hr4.cell 2).trans rfl
         have u3 : w4.cell? ⟨w.heap.size, 3, none⟩ = some (.slice Pw nw cw) := (hr4.cell 3).trans rfl
         have u4 : w4.cell? ⟨w.heap.size, 4, none⟩ = some (.int .i64 left) := (hr4.cell 4).trans rfl
         have u5 : w4.cell? ⟨w.heap.size, 5, none⟩ = some (.bool dark) := (hr4.cell 5).trans rfl
         have u6 : w4.cell? ⟨w.heap.size, 6, none⟩ = some (.int .i64 (count : Int)) := (hr4.cell 6).trans rfl
         have HB4 := Lib.hid (below_then HB3.out hb4)
         have HB24 := Lib.hid (HB23.out.trans (hb4.mono HB23.out.size))
         have HR4 := Lib.hid hr4
         clear hb4 hr4)
      | (go_at_call 51
         first
           | (refine (HDD.out _ HB4.out).mono ?_; rintro e w5 ⟨rfl, rfl⟩)
           | (refine (HDD.out _ HB3.out).mono ?_; rintro e w5 ⟨rfl, rfl⟩)))
  clear z0 z1 z2 z3 z4 z5 z6 y0 y1 y2 y3 y4 y5 y6 u0 u1 u2 u3 u4 u5 u6
  go_wp2_with fail
  go_loopw [6] (fun i wr => ∃ k : Nat, k ≤ ns.length ∧ i = .int .i64 (k : Int) ∧ Below w4.heap.size w4 wr) (fun i _ => ns.length - (intOf i).toNat)
  case atStart => exact ⟨0, Nat.zero_le _, rfl, Below.refl _ _⟩
  case round =>
    obtain ⟨k, hk, rfl, hb⟩ := hrel
    have hbw : Below w.heap.size w wr := below_then HB4.out hb
    have HBW := Lib.hid hbw
    have HB := Lib.hid hb
    by_cases hlt : k < ns.length
    · obtain ⟨g, rfl, _, hgl, hc⟩ := HP2.out k hlt
      have hmem : ns.getD k [] ∈ ns := by
        rw [List.getD_eq_getElem?_getD, List.getElem?_eq_getElem hlt]
        exact List.getElem_mem hlt
      have hnm := HNAM.out _ hmem
      have hb24 := HB24.out
      have hb2r : Below w2.heap.size w2 wr := hb24.trans (hb.mono hb24.size)
      have hc' : wr.cell? ⟨g, k, none⟩ = some (.string (txt (ns.getD k []))) := (hb2r.cell (p := ⟨g, k, none⟩) hgl).trans hc
      have HRP' := Lib.hid (HRP.out wr hbw (txt (ns.getD k [])) hnm)
      have HRR' := Lib.hid (fun (x : World) (hx : Below w.heap.size w x) => HRR.out x hx (txt (ns.getD k [])) hnm)
      rw [strL_txt] at HRP' HRR'
      have hgw : g < wr.heap.size := Nat.lt_of_lt_of_le hgl hb2r.size
      have hxl := HRD.out (ns.getD k [])
      have i1 : (k : Int) < (ns.length : Int) := by omega
      generalize rd (ns.getD k []) = r at *
      generalize ns.getD k [] = nm at *
      obtain ⟨x, er⟩ := r
      try simp only at HRP' hxl
      have HR4' := Lib.hid (HR4.out.below hb HR4.out.lt)
      have HCE := Lib.hid hc'
      clear hb hbw hc hmem hb24 hb2r
      go_wp2_with fail
      refine HRP'.out.mono ?_
      rintro e w5 ⟨v5, rfl, ho5, hb5⟩
      obtain ⟨B5, c5, hv5, _, _⟩ := own_slice' ho5
      have HO5 : Hid (Own w5.drew wr.heap.size v5 x) := Lib.hid ho5
      subst hv5
      have hr5 := HR4'.out.below hb5 HR4'.out.lt
      have hc5 : w5.cell? ⟨g, k, none⟩ = some (.string (txt nm)) := (hb5.cell (p := ⟨g, k, none⟩) hgw).trans HCE.out
      have z0 : w5.cell? ⟨w.heap.size, 0, none⟩ = some (.int .i64 (room : Int)) := (hr5.cell 0).trans rfl
      have z1 : w5.cell? ⟨w.heap.size, 1, none⟩ = some (.slice Pf nf cf) := (hr5.cell 1).trans rfl
      have z2 : w5.cell? ⟨w.heap.size, 2, none⟩ = some (.slice Pb nb cb) := (hr5.cell 2).trans rfl
      have z3 : w5.cell? ⟨w.heap.size, 3, none⟩ = some (.slice Pw nw cw) := (hr5.cell 3).trans rfl
      have z4 : w5.cell? ⟨w.heap.size, 4, none⟩ = some (.int .i64 left) := (hr5.cell 4).trans rfl
      have z5 : w5.cell? ⟨w.heap.size, 5, none⟩ = some (.bool dark) := (hr5.cell 5).trans rfl
      have z6 : w5.cell? ⟨w.heap.size, 6, none⟩ = some (.int .i64 (count : Int)) := (hr5.cell 6).trans rfl
      have HB5 : Hid (Below w.heap.size w w5.drew) := Lib.hid (below_then HBW.out (hb5.trans (drawn _ _ 1)))
      have HB45 : Hid (Below w4.heap.size w4 w5.drew) := Lib.hid (HB.out.trans ((hb5.trans (drawn wr.heap.size w5 1)).mono HB.out.size))
      have HR5 : Hid (Row w5.drew w.heap.size 31 #[.int .i64 (room : Int), .slice Pf nf cf, .slice Pb nb cb, .slice Pw nw cw, .int .i64 left, .bool dark, .int .i64 (count : Int)]) := Lib.hid hr5
      have HG5 : Hid (g < w5.drew.heap.size) := Lib.hid (Nat.lt_of_lt_of_le hgw hb5.size)
      clear ho5 hb5 hr5 hc'
      generalize hxn : x.length = n at *
      go_wp2_with fail
      go_region_held3 (fun w' => w'.cell? ⟨w.heap.size, 0, none⟩ = some (.int .i64 (room : Int)) ∧ w'.cell? ⟨w.heap.size, 1, none⟩ = some (.slice Pf nf cf) ∧ w'.cell? ⟨w.heap.size, 2, none⟩ = some (.slice Pb nb cb) ∧ w'.cell? ⟨w.heap.size, 3, none⟩ = some (.slice Pw nw cw) ∧ w'.cell? ⟨w.heap.size, 4, none⟩ = some (.int .i64 left) ∧ w'.cell? ⟨w.heap.size, 5, none⟩ = some (.bool dark) ∧ w'.cell? ⟨w.heap.size, 6, none⟩ = some (.int .i64 (count : Int)) ∧ w'.cell? ⟨g, k, none⟩ = some (.string (txt nm)))
        (first | exact z0 | exact z1 | exact z2 | exact z3 | exact z4 | exact z5 | exact z6 | exact hc5 | exact y0 | exact y1 | exact y2 | exact y3 | exact y4 | exact y5 | exact y6 | exact y7 | go_keep)
        (first
          | (go_at_call 45
             refine (HRR'.out w5.drew HB5.out).mono ?_
             rintro e w6 ⟨A6, c6, rfl, hy6, hl6, hb6⟩
             have ho6 := own_below HO5.out hb6
             obtain ⟨B6, d6, hv6, hy5, _⟩ := own_slice' ho6
             have k1 : (convert 35 9 (.slice A6 n c6)).run Try.prog w6 = .ok (.string (txt x)) w6 := by
               have := (conv_bytes c6 hy6).2
               simp only [hxn] at this
               exact this
             have k2 : (convert 35 9 (.slice B5 n c5)).run Try.prog w6 = .ok (.string (txt x)) w6 := by
               have := (conv_bytes d6 hy5).2
               rw [← hv6] at this
               exact this
             have hr6 := HR5.out.below hb6 HR5.out.lt
             have y0 : w6.cell? ⟨w.heap.size, 0, none⟩ = some (.int .i64 (room : Int)) := (hr6.cell 0).trans rfl
             have y1 : w6.cell? ⟨w.heap.size, 1, none⟩ = some (.slice Pf nf cf) := (hr6.cell 1).trans rfl
             have y2 : w6.cell? ⟨w.heap.size, 2, none⟩ = some (.slice Pb nb cb) := (hr6.cell 2).trans rfl
             have y3 : w6.cell? ⟨w.heap.size, 3, none⟩ = some (.slice Pw nw cw) := (hr6.cell 3).trans rfl
             have y4 : w6.cell? ⟨w.heap.size, 4, none⟩ = some (.int .i64 left) := (hr6.cell 4).trans rfl
             have y5 : w6.cell? ⟨w.heap.size, 5, none⟩ = some (.bool dark) := (hr6.cell 5).trans rfl
             have y6 : w6.cell? ⟨w.heap.size, 6, none⟩ = some (.int .i64 (count : Int)) := (hr6.cell 6).trans rfl
             have y7 : w6.cell? ⟨g, k, none⟩ = some (.string (txt nm)) := (hb6.cell (p := ⟨g, k, none⟩) HG5.out).trans hc5
             have HB6 := Lib.hid (HB45.out.trans (hb6.mono HB45.out.size))
             have q7 : ((txt x).toList == (txt x).toList) = true := by simp
             clear hy6 hl6 hb6 ho6 hv6 hy5 hr6))
      all_goals
        go_wp2
        go_roundw
        case rel => exact ⟨k + 1, by omega, by go_num, HB6.out⟩
        case measure => simp [intOf]; omega
    · obtain rfl : k = ns.length := by omega
      clear hb hbw
      go_wp2_with fail
      go_ret
      exact ⟨rfl, HBW.out⟩
end Go.Proofs.Ytiepepikbophmaa

namespace Go.Proofs.Ytiepepikbophmaa
open Go.RowKit Go.Maps
set_option linter.unusedVariables false

theorem new_ref_no2 (room : Int) (hr : room < 1 ∨ 4194304 < room) (w : World) :
    Calls Try.prog 12 #[.int .i64 room] w fun e w' => e = .returned (.tuple #[.agg #[.int .i64 0, .slice none 0 0, .slice none 0 0, .slice none 0 0, .int .i64 0, .bool false, .int .i64 0], .int .i64 2]) ∧ Below w.heap.size w w' := by
  by_cases h1 : room < 1
  · have q1 : decide (room < (1 : Int)) = true := decide_eq_true h1
    clear hr h1
    go_enter Try.func12, Try.ntmps12
    go_wp2_with fail
    (try simp only [Exit.inBlock, Exit.then]); refine bodyPost_ret (ret_two rfl _ _ _ _ rfl (Row.new _ _ _) rfl) rfl ?_
    exact ⟨rfl, below_one _ _⟩
  · have q1 : decide (room < (1 : Int)) = false := decide_eq_false h1
    have q2 : decide ((4194304 : Int) < room) = true := decide_eq_true (by omega)
    clear hr h1
    go_enter Try.func12, Try.ntmps12
    go_wp2_with fail
    (try simp only [Exit.inBlock, Exit.then]); refine bodyPost_ret (ret_two rfl _ _ _ _ rfl (Row.new _ _ _) rfl) rfl ?_
    exact ⟨rfl, below_one _ _⟩
section
variable {S : Nat → Prop} {w : World} {X : Nat} {d : Dsk} {N : Nat}
set_option maxRecDepth 20000 in
theorem do_7b (h : DiskAt S w X d) (hk : Ok N d) (a : ActV) (ha : ActOk w a) (hkd : a.kind = 7) :
    Calls Try.prog 14 #[.pointer (some ⟨X, 0, none⟩), .agg (actC a).toArray] w fun e w' => ∃ v, e = .returned (.tuple #[.int .i64 (actE d a), v]) ∧ Own w' w.heap.size v (actB d a) ∧ Below w.heap.size w w' := by
  have hb := below_one w (.cells (actC a).toArray 40)
  obtain ⟨c0, c1, c2, c3, c4, c5⟩ := cells_agg (Row.new w 40 (actC a).toArray)
  have h1 := h.below hb
  have HC := read_prog h1 hk.fine a.name (by have := ha.name; omega)
  have HT := Lib.hid (show ∀ v w', Own w' (w.alloc (.cells (actC a).toArray 40)).heap.size v (readD d (strL a.name)).1 → Below (w.alloc (.cells (actC a).toArray 40)).heap.size (w.alloc (.cells (actC a).toArray 40)) w' → ∃ v', Ending.returned (.tuple #[.int .i64 (readD d (strL a.name)).2, v]) = .returned (.tuple #[.int .i64 (actE d a), v']) ∧ Own w' w.heap.size v' (actB d a) ∧ Below w.heap.size w w' by
    intro v w' h2 h3
    refine ⟨v, ?_, ?_, below_then hb h3⟩
    · unfold actE
      rw [if_neg (by omega), if_pos hkd]
    · unfold actB
      rw [if_pos hkd]
      exact own_lower h2 hb.size)
  obtain ⟨kind, name, to, A, b, bc, n, V, ks, kc⟩ := a
  simp only at hkd
  subst hkd
  have HC' := Lib.hid HC
  clear HC h h1 hk ha hb
  simp only [actC] at *
  generalize readD d (strL name) = r at *
  go_enter Try.func14, Try.ntmps14
  go_wp2_with fail
  refine HC'.out.mono ?_
  rintro e w2 ⟨v, rfl, h2, h3⟩
  obtain ⟨Bv, cv, hv, _, _⟩ := own_slice' h2
  generalize hrl : r.1.length = rl at hv
  subst hv
  have H2 := Lib.hid h2
  have H3 := Lib.hid h3
  clear h2 h3 hrl
  go_wp2
  go_ret2
  exact HT.out _ _ H2.out H3.out
end
theorem diskOf_kept {B : Nat} {S Q : Nat → Prop} {w w' : World} {X : Nat} {d : Dsk} (h : DiskOf B S w X d) (hK : Kept Q w w') (hq : ∀ k, S k → ¬ Q k) : DiskOf B S w' X d := by
  obtain ⟨⟨dm, bm, wv, fb, vb, hin, hS⟩, hown⟩ := h
  exact ⟨⟨dm, bm, wv, fb, vb, hin.move fun k hk => hK.block k (hin.lt k hk) (hq k (hS k hk)), hS⟩, fun k hk => ⟨(hown k hk).1, Nat.lt_of_lt_of_le (hown k hk).2 hK.size⟩⟩
/-- What a call of the program's disk tells and leaves, and what it does not touch. -/
structure DoApart (B : Nat) (S : Nat → Prop) (w : World) (X : Nat) (d : Dsk) (a : ActV) (v : Value) (S' : Nat → Prop) (w' : World) : Prop where
  own : Own w' w.heap.size v (actB d a)
  disk : DiskOf B S' w' X (actD d a)
  old : ∀ k, S' k → S k ∨ w.heap.size ≤ k
  new : ∀ k, S k → S' k
  kept : Kept S w w'
  far : actB d a = [] ∨ ∀ k, v.ownBlock = some k → ¬ S' k
theorem do_apart {B : Nat} {S : Nat → Prop} {w : World} {X : Nat} {d : Dsk} {N : Nat} (h : DiskOf B S w X d) (hk : Ok N d) (hN : N ≤ 1000) (a : ActV) (ha : ActOk w a) (hkS : a.ks = [] ∨ ∀ ad, a.V = some ad → ¬ S ad.block) (hB : B ≤ w.heap.size) :
    Calls Try.prog 14 #[.pointer (some ⟨X, 0, none⟩), .agg (actC a).toArray] w fun e w' => ∃ v S', e = .returned (.tuple #[.int .i64 (actE d a), v]) ∧ DoApart B S w X d a v S' w' := by
  by_cases hkd : a.kind = 7
  · refine (do_7b h.at_ hk a ha hkd).mono ?_
    rintro e w' ⟨v, rfl, ho, hb⟩
    have hd : actD d a = d := by unfold actD; rw [if_neg (by omega), if_neg (by omega), if_neg (by omega)]
    refine ⟨v, S, rfl, ho, by rw [hd]; exact h.below hb, fun k hk => .inl hk, fun k hk => hk, Kept.below hb, .inr fun k hk hs => ?_⟩
    have h1 := (World.ownsRow.lt ho k hk).1
    have h2 := (h.own k hs).2
    omega
  · refine (do_prog h.at_ hk hN a ha hkS).mono ?_
    rintro e w' ⟨v, rfl, ho, ha2⟩
    have hb : actB d a = [] := by unfold actB; exact if_neg hkd
    refine ⟨v, more S w w', rfl, ho, (h.after ha2 hB).1, fun k hk => hk.1, fun k hk => ⟨.inl hk, Nat.lt_of_lt_of_le (h.own k hk).2 ha2.2.size⟩, ha2.2, .inl hb⟩
theorem own_bys2 {w : World} {base n c : Nat} {P : Option Addr} {x : List UInt8} (h : Own w base (.slice P n c) x) : Bys w P x := by
  obtain ⟨B, d, e, hB, _⟩ := own_slice' h
  obtain ⟨rfl, _, _⟩ := Value.slice.inj e
  exact hB
theorem actB_len {d : Dsk} (h : Fine d) (a : ActV) : (actB d a).length ≤ 4194304 := by
  unfold actB
  split
  · exact read_len h _
  · simp
end Go.Proofs.Ytiepepikbophmaa

namespace Go.Proofs.Ytiepepikbophmaa
open Go.RowKit Go.Maps
set_option linter.unusedVariables false

theorem plays_no (room : Int) (hr : room < 1 ∨ 4194304 < room) (V : Option Addr) (m c : Nat) (w : World) :
    Calls Try.prog 3 #[.int .i64 room, .slice V m c] w fun e w' => e = .returned (.bool true) ∧ Below w.heap.size w w' := by
  have HN := Lib.hid (new_no room hr w)
  have HR := Lib.hid (new_ref_no2 room hr w)
  clear hr
  go_enter Try.func3, Try.ntmps3
  go_wp2_with fail
  refine HN.out.mono ?_
  rintro e w1 ⟨rfl, rfl⟩
  go_wp2_with fail
  refine HR.out.mono ?_
  rintro e w2 ⟨rfl, hb2⟩
  have HB2 := Lib.hid hb2
  clear hb2
  go_wp2_with fail
  refine (lives_true _).mono ?_
  rintro e w3 ⟨rfl, hb3⟩
  have HB3 := Lib.hid hb3
  clear hb3
  go_wp2
  go_ret
  exact ⟨rfl, HB2.out.trans (((below_one _ _).mono HB2.out.size).trans (HB3.out.mono (Nat.le_trans HB2.out.size (by simp))))⟩
/-- What the loop keeps. -/
def PlaysRel (w : World) (X R : Nat) (room : Nat) (acs : List ActV) (i : Value) (wr : World) : Prop :=
  ∃ (k : Nat) (fv bv wv : Value) (S : Nat → Prop), k ≤ acs.length ∧ k ≤ 60 ∧ i = .int .i64 (k : Int) ∧ DiskOf w.heap.size S wr X (runD (newD room) acs k) ∧ ¬ S R ∧
    Row wr R 31 (refC (runD (newD room) acs k) fv bv wv).toArray ∧ RefT S wr fv bv wv (runD (newD room) acs k) ∧ Below w.heap.size w wr
theorem met_run {d : Dsk} (h : Met d) (acs : List ActV) : ∀ k, k ≤ acs.length → Met (runD d acs k) := by
  intro k
  induction k with
  | zero => intro _; exact h
  | succ k ih =>
    intro hk
    rw [runD_succ d acs (by omega)]
    exact met_act (ih (by omega)) _
set_option maxRecDepth 20000 in
set_option maxHeartbeats 8000000 in
theorem plays_ok (room : Nat) (hr : 1 ≤ room ∧ room ≤ 4194304) (V : Option Addr) (acs : List ActV) (c : Nat) (w : World) (hV : Acts w V acs) (hl : acs.length ≤ 140737488351232) (hlc : acs.length ≤ c) :
    Calls Try.prog 3 #[.int .i64 (room : Int), .slice V acs.length c] w fun e w' => e = .returned (.bool true) ∧ Below w.heap.size w w' := by
  have HN := Lib.hid (new_ok room hr w)
  have HRN := Lib.hid (fun x => new_ref_ok room hr x)
  have HO := Lib.hid (ok_run (ok_new room hr) acs (acts_n hV))
  have HM := Lib.hid (met_run (met_new room) acs)
  have HV := Lib.hid hV
  have HRT := Lib.hid (fun (T : Nat → Prop) (x : World) => refT_new T x room)
  simp only [refC, newD] at HRN
  clear hV hr
  go_enter Try.func3, Try.ntmps3
  go_wp2_with fail
  refine HN.out.mono ?_
  rintro e w1 ⟨rfl, hD1, hb1⟩
  have HD1 : Hid (DiskAt (From w.heap.size) w1 (w.heap.size + 2) (newD room)) := Lib.hid hD1
  have HB1 := Lib.hid hb1
  clear hD1 hb1
  generalize hX : w.heap.size + 2 = X at *
  go_wp2_with fail
  refine (HRN.out _).mono ?_
  rintro e w2 ⟨rfl, hb2⟩
  have HB2 := Lib.hid (HB1.out.trans (hb2.mono HB1.out.size))
  have HDS := Lib.hid ((diskOf_mk HD1.out).below hb2)
  have HNS := Lib.hid (show ¬ (From w.heap.size w2.heap.size ∧ w2.heap.size < w1.heap.size) from fun h => by have := hb2.size; omega)
  clear hb2
  go_upto_region 5 with fail
  have HROW := Lib.hid (Row.new w2 31 #[.int .i64 (room : Int), .slice none 0 0, .slice none 0 0, .slice none 0 0, .int .i64 (-1), .bool false, .int .i64 ((0 : Nat) : Int)])
  have HDS2 := Lib.hid (HDS.out.below (below_one w2 (.cells #[.int .i64 (room : Int), .slice none 0 0, .slice none 0 0, .slice none 0 0, .int .i64 (-1), .bool false, .int .i64 ((0 : Nat) : Int)] 31)))
  have HB3 := Lib.hid (HB2.out.alloc HB2.out.size (.cells #[.int .i64 (room : Int), .slice none 0 0, .slice none 0 0, .slice none 0 0, .int .i64 (-1), .bool false, .int .i64 ((0 : Nat) : Int)] 31))
  generalize w2.alloc (.cells #[.int .i64 (room : Int), .slice none 0 0, .slice none 0 0, .slice none 0 0, .int .i64 (-1), .bool false, .int .i64 ((0 : Nat) : Int)] 31) = w3 at *
  have HBR := Lib.hid HB2.out.size
  generalize w2.heap.size = R at *
  go_wp2_with fail
  go_loopw [9] (fun i wr => PlaysRel w X R room acs i wr) (fun i _ => 60 - (intOf i).toNat)
  case atStart => exact ⟨0, .slice none 0 0, .slice none 0 0, .slice none 0 0, _, Nat.zero_le _, by omega, rfl, HDS2.out, HNS.out, HROW.out, HRT.out _ _, HB3.out⟩
  case round =>
    obtain ⟨k, fv, bv, wv, S, hk, hk60, rfl, hD, hSR, hrow, hRT, hb⟩ := hrel
    have hok := HO.out k hk
    have hmet := HM.out k hk
    rw [Nat.zero_add] at hok
    have HB := Lib.hid hb
    have HSR := Lib.hid hSR
    have HREF := Lib.hid hRT
    have HDK := Lib.hid hD
    have HROK := Lib.hid hrow
    have HOK := Lib.hid hok
    have HMET := Lib.hid hmet
    obtain ⟨⟨Pf, cf, hfv⟩, ⟨Pb, cb, hbv⟩, ⟨Pw, cw, hwv⟩⟩ := ref_forms hRT.in_
    clear hSR hmet
    by_cases hgo : k < acs.length ∧ k < 60
    · obtain ⟨hlt, h60⟩ := hgo
      obtain ⟨b, o, rfl, ha0, ha, hcell⟩ := acts_at HV.out hb hlt
      have hDO := do_apart hD hok (by omega) _ ha (hD.acts_far ha0 rfl) hb.size
      have HAL := Lib.hid (fun (x : World) (hx : Below w.heap.size w x) => acts_at HV.out hx hlt)
      have HS := Lib.hid (runD_succ (newD room) acs hlt)
      have HDN := Lib.hid (fun (T : Nat → Prop) (x : World) (fv bv wv : Value) (h : RefT T x fv bv wv (runD (newD room) acs k)) (hT : ∀ i, T i → i < x.heap.size) (hx : ActOk x (acs.getD k default)) => done_ref h hT hok (by omega) HMET.out (acs.getD k default) hx)
      have HWH := Lib.hid (fun (T : Nat → Prop) (x : World) (fv bv wv : Value) (h : RefT T x fv bv wv (actD (runD (newD room) acs k) (acs.getD k default))) (S' : Nat → Prop) (hd : DiskAt S' x X (actD (runD (newD room) acs k) (acs.getD k default))) => whole_prog hd h.in_ (ok_act hok _ ha.n.2).fine (met_act HMET.out _) (by have := (ok_act hok _ ha.n.2).wait; omega))
      have HOB := Lib.hid (show (actB (runD (newD room) acs k) (acs.getD k default)).length ≤ 4194304 from actB_len hok.fine _)
      generalize acs.getD k default = aa at *
      generalize runD (newD room) acs k = d at *
      generalize hE : actE d aa = E at *
      generalize hBB : actB d aa = bs at *
      have HE := Lib.hid hE
      have HBB := Lib.hid hBB
      generalize hd2 : actD d aa = d2 at *
      have HD2 := Lib.hid hd2
      obtain ⟨kind, name, to, A, bb, bc, n, V2, ks, kc⟩ := aa
      simp only [actC] at hcell hDO HDN HAL
      have e0 := hcell 0 _ rfl
      have e1 := hcell 1 _ rfl
      have e2 := hcell 2 _ rfl
      have e3 := hcell 3 _ rfl
      have e4 := hcell 4 _ rfl
      have e5 := hcell 5 _ rfl
      have HDO := Lib.hid hDO
      rw [Nat.add_zero] at e0
      have i1 : (k : Int) < (acs.length : Int) := by omega
      have i2 : (k : Int) < 60 := by omega
      clear hcell hDO ha ha0 hD hok hb hE hBB hrow hRT hd2
      go_wp2_with fail
      refine HDO.out.mono ?_
      rintro e w4 ⟨v, S', rfl, hap⟩
      obtain ⟨hown, hdisk, hold, hnew, hkept, hfar⟩ := hap
      have hTT : ∀ i, (S' i ∨ v.ownBlock = some i) → i < w4.heap.size := fun i hi => hi.elim (fun h => (hdisk.own i h).2) (fun h => (World.ownsRow.lt hown i h).2)
      have href4 : RefT (fun q => S' q ∨ v.ownBlock = some q) w4 fv bv wv d := (HREF.out.more (S := fun q => S' q ∨ v.ownBlock = some q) (fun q hq => hq.elim (fun h => hold q h) (fun h => .inr (World.ownsRow.lt hown q h).1))).kept (S := S) (fun q hq => .inl (hnew q hq)) hkept
      have hrow4 := row_move HROK.out (hkept.block _ HROK.out.lt HSR.out)
      have hTR : ¬ (S' R ∨ v.ownBlock = some R) := fun h => by
        have h0 := HROK.out.lt
        rcases h with h | h
        · rcases hold R h with h1 | h1
          · exact HSR.out h1
          · omega
        · have := (World.ownsRow.lt hown R h).1
          omega
      have hb4 := HB.out.trans (hkept.to_below (fun q hq => (HDK.out.own q hq).1) HB.out.size)
      obtain ⟨b', o', hbo, _, ha4, hcell4⟩ := HAL.out w4 hb4
      have hbo' := Option.some.inj hbo
      simp only [Addr.mk.injEq, and_true] at hbo'
      obtain ⟨rfl, rfl⟩ := hbo'
      have hdx := fun (x : World) (hx : Below w4.heap.size w4 x) => HDN.out (fun q => S' q ∨ v.ownBlock = some q) x fv bv wv (href4.below hx) (fun i hi => Nat.lt_of_lt_of_le (hTT i hi) hx.size) (ha4.below hx)
      unfold DoneTold at hdx
      simp only [HD2.out, HE.out, HBB.out] at hdx
      have HDX := Lib.hid hdx
      rw [HBB.out] at hown hfar
      rw [HD2.out] at hdisk
      obtain ⟨P4, c4, hv4, _, _⟩ := own_slice' hown
      have HTT := Lib.hid hTT
      have HTR := Lib.hid hTR
      have HOWN := Lib.hid hown
      have HDISK := Lib.hid hdisk
      have HFAR := Lib.hid hfar
      have HROW4 := Lib.hid hrow4
      have HB4 := Lib.hid hb4
      clear hown hdisk hold hnew hkept hfar hTT href4 hrow4 hTR hb4 hbo ha4 hdx
      generalize hbl : bs.length = nbs at hv4
      obtain ⟨rm, fs, bs1, ws, lf, dk, ct⟩ := d
      obtain ⟨rm2, fs2, bs2, ws2, lf2, dk2, ct2⟩ := d2
      simp only at hfv hbv hwv
      generalize fs.length = nf at hfv
      generalize bs1.length = nb at hbv
      generalize ws.length = nw at hwv
      subst hfv
      subst hbv
      subst hwv
      subst hv4
      simp only [refC] at HDX HROW4 HWH
      have z0 : w4.cell? ⟨R, 0, none⟩ = some (.int .i64 (rm : Int)) := (HROW4.out.cell 0).trans rfl
      have z1 : w4.cell? ⟨R, 1, none⟩ = some (.slice Pf nf cf) := (HROW4.out.cell 1).trans rfl
      have z2 : w4.cell? ⟨R, 2, none⟩ = some (.slice Pb nb cb) := (HROW4.out.cell 2).trans rfl
      have z3 : w4.cell? ⟨R, 3, none⟩ = some (.slice Pw nw cw) := (HROW4.out.cell 3).trans rfl
      have z4 : w4.cell? ⟨R, 4, none⟩ = some (.int .i64 lf) := (HROW4.out.cell 4).trans rfl
      have z5 : w4.cell? ⟨R, 5, none⟩ = some (.bool dk) := (HROW4.out.cell 5).trans rfl
      have z6 : w4.cell? ⟨R, 6, none⟩ = some (.int .i64 (ct : Int)) := (HROW4.out.cell 6).trans rfl
      have a0 : w4.cell? ⟨b, o + k * 6, none⟩ = some (.int .i64 kind) := by have := hcell4 0 _ rfl; rwa [Nat.add_zero] at this
      have a1 : w4.cell? ⟨b, o + k * 6 + 1, none⟩ = some (.string name) := hcell4 1 _ rfl
      have a2 : w4.cell? ⟨b, o + k * 6 + 2, none⟩ = some (.string to) := hcell4 2 _ rfl
      have a3 : w4.cell? ⟨b, o + k * 6 + 3, none⟩ = some (.slice A bb.length bc) := hcell4 3 _ rfl
      have a4 : w4.cell? ⟨b, o + k * 6 + 4, none⟩ = some (.int .i64 n) := hcell4 4 _ rfl
      have a5 : w4.cell? ⟨b, o + k * 6 + 5, none⟩ = some (.slice V2 ks.length kc) := hcell4 5 _ rfl
      clear hcell4 e0 e1 e2 e3 e4 e5
      go_upto_region 9 with fail
      have HBA := Lib.hid (show Below w4.heap.size w4 (w4.alloc (.cells #[.int .i64 0, .slice none 0 0, .slice none 0 0, .slice none 0 0, .int .i64 0, .bool false, .int .i64 0] 31)).drew from (below_one w4 _).trans (drawn _ _ 1))
      have HBD := Lib.hid (show Below w4.heap.size w4 w4.drew from drawn _ _ 1)
      have HZR := Lib.hid (show Row (w4.alloc (.cells #[.int .i64 0, .slice none 0 0, .slice none 0 0, .slice none 0 0, .int .i64 0, .bool false, .int .i64 0] 31)).drew w4.heap.size 31 #[.int .i64 0, .slice none 0 0, .slice none 0 0, .slice none 0 0, .int .i64 0, .bool false, .int .i64 0] from Row.new w4 31 #[.int .i64 0, .slice none 0 0, .slice none 0 0, .slice none 0 0, .int .i64 0, .bool false, .int .i64 0])
      go_region_held3 (fun w' => w'.cell? ⟨R, 0, none⟩ = some (.int .i64 (rm : Int)) ∧ w'.cell? ⟨R, 1, none⟩ = some (.slice Pf nf cf) ∧ w'.cell? ⟨R, 2, none⟩ = some (.slice Pb nb cb) ∧ w'.cell? ⟨R, 3, none⟩ = some (.slice Pw nw cw) ∧ w'.cell? ⟨R, 4, none⟩ = some (.int .i64 lf) ∧ w'.cell? ⟨R, 5, none⟩ = some (.bool dk) ∧ w'.cell? ⟨R, 6, none⟩ = some (.int .i64 (ct : Int)) ∧ w'.cell? ⟨b, o + k * 6, none⟩ = some (.int .i64 kind) ∧ w'.cell? ⟨b, o + k * 6 + 1, none⟩ = some (.string name) ∧ w'.cell? ⟨b, o + k * 6 + 2, none⟩ = some (.string to) ∧ w'.cell? ⟨b, o + k * 6 + 3, none⟩ = some (.slice A bb.length bc) ∧ w'.cell? ⟨b, o + k * 6 + 4, none⟩ = some (.int .i64 n) ∧ w'.cell? ⟨b, o + k * 6 + 5, none⟩ = some (.slice V2 ks.length kc))
        (first | with_reducible assumption | go_keep)
        (first
          | (go_at_call 15
             refine Calls.mono (HDX.out _ (by first | exact HBD.out | exact HBA.out)) ?_
             rintro e w5 ⟨fv2, bv2, wv2, A5, c5, rfl, href5, hby5, hb5⟩
             obtain ⟨⟨Pf2, cf2, hf2⟩, ⟨Pb2, cb2, hb2⟩, ⟨Pw2, cw2, hw2⟩⟩ := ref_forms href5.in_
             simp only at hf2 hb2 hw2
             have hb5' : Below w4.heap.size w4 w5 := by first | exact HBD.out.trans (hb5.mono HBD.out.size) | exact HBA.out.trans (hb5.mono HBA.out.size)
             have hrow5 := HROW4.out.below hb5' HROW4.out.lt
             have y0 : w5.cell? ⟨R, 0, none⟩ = some (.int .i64 (rm : Int)) := (hrow5.cell 0).trans rfl
             have y1 : w5.cell? ⟨R, 1, none⟩ = some (.slice Pf nf cf) := (hrow5.cell 1).trans rfl
             have y2 : w5.cell? ⟨R, 2, none⟩ = some (.slice Pb nb cb) := (hrow5.cell 2).trans rfl
             have y3 : w5.cell? ⟨R, 3, none⟩ = some (.slice Pw nw cw) := (hrow5.cell 3).trans rfl
             have y4 : w5.cell? ⟨R, 4, none⟩ = some (.int .i64 lf) := (hrow5.cell 4).trans rfl
             have y5 : w5.cell? ⟨R, 5, none⟩ = some (.bool dk) := (hrow5.cell 5).trans rfl
             have y6 : w5.cell? ⟨R, 6, none⟩ = some (.int .i64 (ct : Int)) := (hrow5.cell 6).trans rfl
             obtain ⟨b7, o7, hbo7, _, _, hcell5⟩ := HAL.out w5 (HB4.out.trans (hb5'.mono HB4.out.size))
             have hbo8 := Option.some.inj hbo7
             simp only [Addr.mk.injEq, and_true] at hbo8
             obtain ⟨rfl, rfl⟩ := hbo8
             have x0 : w5.cell? ⟨b, o + k * 6, none⟩ = some (.int .i64 kind) := by have := hcell5 0 _ rfl; rwa [Nat.add_zero] at this
             have x1 : w5.cell? ⟨b, o + k * 6 + 1, none⟩ = some (.string name) := hcell5 1 _ rfl
             have x2 : w5.cell? ⟨b, o + k * 6 + 2, none⟩ = some (.string to) := hcell5 2 _ rfl
             have x3 : w5.cell? ⟨b, o + k * 6 + 3, none⟩ = some (.slice A bb.length bc) := hcell5 3 _ rfl
             have x4 : w5.cell? ⟨b, o + k * 6 + 4, none⟩ = some (.int .i64 n) := hcell5 4 _ rfl
             have x5 : w5.cell? ⟨b, o + k * 6 + 5, none⟩ = some (.slice V2 ks.length kc) := hcell5 5 _ rfl
             have HREF5 := Lib.hid href5
             have HBY5 := Lib.hid hby5
             have HB45 := Lib.hid hb5'
             have HROW5 := Lib.hid hrow5
             generalize fs2.length = nf2 at hf2
             generalize bs2.length = nb2 at hb2
             generalize ws2.length = nw2 at hw2
             subst hf2
             subst hb2
             subst hw2
             simp only
             first
             | (have hza := HZR.out.below hb5 HZR.out.lt
                have zc0 : w5.cell? ⟨w4.heap.size, 0, none⟩ = some (.int .i64 0) := (hza.cell 0).trans rfl
                have zf0 := hza.frozen 0
                have zc1 : w5.cell? ⟨w4.heap.size, 1, none⟩ = some (.slice none 0 0) := (hza.cell 1).trans rfl
                have zf1 := hza.frozen 1
                have zc2 : w5.cell? ⟨w4.heap.size, 2, none⟩ = some (.slice none 0 0) := (hza.cell 2).trans rfl
                have zf2 := hza.frozen 2
                have zc3 : w5.cell? ⟨w4.heap.size, 3, none⟩ = some (.slice none 0 0) := (hza.cell 3).trans rfl
                have zf3 := hza.frozen 3
                have zc4 : w5.cell? ⟨w4.heap.size, 4, none⟩ = some (.int .i64 0) := (hza.cell 4).trans rfl
                have zf4 := hza.frozen 4
                have zc5 : w5.cell? ⟨w4.heap.size, 5, none⟩ = some (.bool false) := (hza.cell 5).trans rfl
                have zf5 := hza.frozen 5
                have zc6 : w5.cell? ⟨w4.heap.size, 6, none⟩ = some (.int .i64 0) := (hza.cell 6).trans rfl
                have zf6 := hza.frozen 6
                have HZA := Lib.hid hza
                have hkn : Kept (fun j => j = w4.heap.size) w5 (((((((w5.setCell ⟨w4.heap.size, 0, none⟩ (.int .i64 (rm2 : Int))).setCell ⟨w4.heap.size, 1, none⟩ (.slice Pf2 nf2 cf2)).setCell ⟨w4.heap.size, 2, none⟩ (.slice Pb2 nb2 cb2)).setCell ⟨w4.heap.size, 3, none⟩ (.slice Pw2 nw2 cw2)).setCell ⟨w4.heap.size, 4, none⟩ (.int .i64 lf2)).setCell ⟨w4.heap.size, 5, none⟩ (.bool dk2)).setCell ⟨w4.heap.size, 6, none⟩ (.int .i64 (ct2 : Int))) := put7_kept w5 w4.heap.size (.int .i64 (rm2 : Int)) (.slice Pf2 nf2 cf2) (.slice Pb2 nb2 cb2) (.slice Pw2 nw2 cw2) (.int .i64 lf2) (.bool dk2) (.int .i64 (ct2 : Int))
                have hRn := row_move hrow5 (hkn.block _ hrow5.lt (fun e => by have := HROW4.out.lt; omega))
                have ny0 : (((((((w5.setCell ⟨w4.heap.size, 0, none⟩ (.int .i64 (rm2 : Int))).setCell ⟨w4.heap.size, 1, none⟩ (.slice Pf2 nf2 cf2)).setCell ⟨w4.heap.size, 2, none⟩ (.slice Pb2 nb2 cb2)).setCell ⟨w4.heap.size, 3, none⟩ (.slice Pw2 nw2 cw2)).setCell ⟨w4.heap.size, 4, none⟩ (.int .i64 lf2)).setCell ⟨w4.heap.size, 5, none⟩ (.bool dk2)).setCell ⟨w4.heap.size, 6, none⟩ (.int .i64 (ct2 : Int))).cell? ⟨R, 0, none⟩ = some (.int .i64 (rm : Int)) := (hRn.cell 0).trans rfl
                have ny1 : (((((((w5.setCell ⟨w4.heap.size, 0, none⟩ (.int .i64 (rm2 : Int))).setCell ⟨w4.heap.size, 1, none⟩ (.slice Pf2 nf2 cf2)).setCell ⟨w4.heap.size, 2, none⟩ (.slice Pb2 nb2 cb2)).setCell ⟨w4.heap.size, 3, none⟩ (.slice Pw2 nw2 cw2)).setCell ⟨w4.heap.size, 4, none⟩ (.int .i64 lf2)).setCell ⟨w4.heap.size, 5, none⟩ (.bool dk2)).setCell ⟨w4.heap.size, 6, none⟩ (.int .i64 (ct2 : Int))).cell? ⟨R, 1, none⟩ = some (.slice Pf nf cf) := (hRn.cell 1).trans rfl
                have ny2 : (((((((w5.setCell ⟨w4.heap.size, 0, none⟩ (.int .i64 (rm2 : Int))).setCell ⟨w4.heap.size, 1, none⟩ (.slice Pf2 nf2 cf2)).setCell ⟨w4.heap.size, 2, none⟩ (.slice Pb2 nb2 cb2)).setCell ⟨w4.heap.size, 3, none⟩ (.slice Pw2 nw2 cw2)).setCell ⟨w4.heap.size, 4, none⟩ (.int .i64 lf2)).setCell ⟨w4.heap.size, 5, none⟩ (.bool dk2)).setCell ⟨w4.heap.size, 6, none⟩ (.int .i64 (ct2 : Int))).cell? ⟨R, 2, none⟩ = some (.slice Pb nb cb) := (hRn.cell 2).trans rfl
                have ny3 : (((((((w5.setCell ⟨w4.heap.size, 0, none⟩ (.int .i64 (rm2 : Int))).setCell ⟨w4.heap.size, 1, none⟩ (.slice Pf2 nf2 cf2)).setCell ⟨w4.heap.size, 2, none⟩ (.slice Pb2 nb2 cb2)).setCell ⟨w4.heap.size, 3, none⟩ (.slice Pw2 nw2 cw2)).setCell ⟨w4.heap.size, 4, none⟩ (.int .i64 lf2)).setCell ⟨w4.heap.size, 5, none⟩ (.bool dk2)).setCell ⟨w4.heap.size, 6, none⟩ (.int .i64 (ct2 : Int))).cell? ⟨R, 3, none⟩ = some (.slice Pw nw cw) := (hRn.cell 3).trans rfl
                have ny4 : (((((((w5.setCell ⟨w4.heap.size, 0, none⟩ (.int .i64 (rm2 : Int))).setCell ⟨w4.heap.size, 1, none⟩ (.slice Pf2 nf2 cf2)).setCell ⟨w4.heap.size, 2, none⟩ (.slice Pb2 nb2 cb2)).setCell ⟨w4.heap.size, 3, none⟩ (.slice Pw2 nw2 cw2)).setCell ⟨w4.heap.size, 4, none⟩ (.int .i64 lf2)).setCell ⟨w4.heap.size, 5, none⟩ (.bool dk2)).setCell ⟨w4.heap.size, 6, none⟩ (.int .i64 (ct2 : Int))).cell? ⟨R, 4, none⟩ = some (.int .i64 lf) := (hRn.cell 4).trans rfl
                have ny5 : (((((((w5.setCell ⟨w4.heap.size, 0, none⟩ (.int .i64 (rm2 : Int))).setCell ⟨w4.heap.size, 1, none⟩ (.slice Pf2 nf2 cf2)).setCell ⟨w4.heap.size, 2, none⟩ (.slice Pb2 nb2 cb2)).setCell ⟨w4.heap.size, 3, none⟩ (.slice Pw2 nw2 cw2)).setCell ⟨w4.heap.size, 4, none⟩ (.int .i64 lf2)).setCell ⟨w4.heap.size, 5, none⟩ (.bool dk2)).setCell ⟨w4.heap.size, 6, none⟩ (.int .i64 (ct2 : Int))).cell? ⟨R, 5, none⟩ = some (.bool dk) := (hRn.cell 5).trans rfl
                have ny6 : (((((((w5.setCell ⟨w4.heap.size, 0, none⟩ (.int .i64 (rm2 : Int))).setCell ⟨w4.heap.size, 1, none⟩ (.slice Pf2 nf2 cf2)).setCell ⟨w4.heap.size, 2, none⟩ (.slice Pb2 nb2 cb2)).setCell ⟨w4.heap.size, 3, none⟩ (.slice Pw2 nw2 cw2)).setCell ⟨w4.heap.size, 4, none⟩ (.int .i64 lf2)).setCell ⟨w4.heap.size, 5, none⟩ (.bool dk2)).setCell ⟨w4.heap.size, 6, none⟩ (.int .i64 (ct2 : Int))).cell? ⟨R, 6, none⟩ = some (.int .i64 (ct : Int)) := (hRn.cell 6).trans rfl
                have hbn := (HB4.out.trans (hb5'.mono HB4.out.size)).trans (hkn.to_below (B := w.heap.size) (fun q hq => by have := HB4.out.size; omega) (Nat.le_trans HB4.out.size hb5'.size))
                obtain ⟨b9, o9, hbo9, _, _, hcell9⟩ := HAL.out _ hbn
                have hbo10 := Option.some.inj hbo9
                simp only [Addr.mk.injEq, and_true] at hbo10
                obtain ⟨rfl, rfl⟩ := hbo10
                have nx0 : (((((((w5.setCell ⟨w4.heap.size, 0, none⟩ (.int .i64 (rm2 : Int))).setCell ⟨w4.heap.size, 1, none⟩ (.slice Pf2 nf2 cf2)).setCell ⟨w4.heap.size, 2, none⟩ (.slice Pb2 nb2 cb2)).setCell ⟨w4.heap.size, 3, none⟩ (.slice Pw2 nw2 cw2)).setCell ⟨w4.heap.size, 4, none⟩ (.int .i64 lf2)).setCell ⟨w4.heap.size, 5, none⟩ (.bool dk2)).setCell ⟨w4.heap.size, 6, none⟩ (.int .i64 (ct2 : Int))).cell? ⟨b, o + k * 6, none⟩ = some (.int .i64 kind) := by have := hcell9 0 _ rfl; rwa [Nat.add_zero] at this
                have nx1 : (((((((w5.setCell ⟨w4.heap.size, 0, none⟩ (.int .i64 (rm2 : Int))).setCell ⟨w4.heap.size, 1, none⟩ (.slice Pf2 nf2 cf2)).setCell ⟨w4.heap.size, 2, none⟩ (.slice Pb2 nb2 cb2)).setCell ⟨w4.heap.size, 3, none⟩ (.slice Pw2 nw2 cw2)).setCell ⟨w4.heap.size, 4, none⟩ (.int .i64 lf2)).setCell ⟨w4.heap.size, 5, none⟩ (.bool dk2)).setCell ⟨w4.heap.size, 6, none⟩ (.int .i64 (ct2 : Int))).cell? ⟨b, o + k * 6 + 1, none⟩ = some (.string name) := hcell9 1 _ rfl
                have nx2 : (((((((w5.setCell ⟨w4.heap.size, 0, none⟩ (.int .i64 (rm2 : Int))).setCell ⟨w4.heap.size, 1, none⟩ (.slice Pf2 nf2 cf2)).setCell ⟨w4.heap.size, 2, none⟩ (.slice Pb2 nb2 cb2)).setCell ⟨w4.heap.size, 3, none⟩ (.slice Pw2 nw2 cw2)).setCell ⟨w4.heap.size, 4, none⟩ (.int .i64 lf2)).setCell ⟨w4.heap.size, 5, none⟩ (.bool dk2)).setCell ⟨w4.heap.size, 6, none⟩ (.int .i64 (ct2 : Int))).cell? ⟨b, o + k * 6 + 2, none⟩ = some (.string to) := hcell9 2 _ rfl
                have nx3 : (((((((w5.setCell ⟨w4.heap.size, 0, none⟩ (.int .i64 (rm2 : Int))).setCell ⟨w4.heap.size, 1, none⟩ (.slice Pf2 nf2 cf2)).setCell ⟨w4.heap.size, 2, none⟩ (.slice Pb2 nb2 cb2)).setCell ⟨w4.heap.size, 3, none⟩ (.slice Pw2 nw2 cw2)).setCell ⟨w4.heap.size, 4, none⟩ (.int .i64 lf2)).setCell ⟨w4.heap.size, 5, none⟩ (.bool dk2)).setCell ⟨w4.heap.size, 6, none⟩ (.int .i64 (ct2 : Int))).cell? ⟨b, o + k * 6 + 3, none⟩ = some (.slice A bb.length bc) := hcell9 3 _ rfl
                have nx4 : (((((((w5.setCell ⟨w4.heap.size, 0, none⟩ (.int .i64 (rm2 : Int))).setCell ⟨w4.heap.size, 1, none⟩ (.slice Pf2 nf2 cf2)).setCell ⟨w4.heap.size, 2, none⟩ (.slice Pb2 nb2 cb2)).setCell ⟨w4.heap.size, 3, none⟩ (.slice Pw2 nw2 cw2)).setCell ⟨w4.heap.size, 4, none⟩ (.int .i64 lf2)).setCell ⟨w4.heap.size, 5, none⟩ (.bool dk2)).setCell ⟨w4.heap.size, 6, none⟩ (.int .i64 (ct2 : Int))).cell? ⟨b, o + k * 6 + 4, none⟩ = some (.int .i64 n) := hcell9 4 _ rfl
                have nx5 : (((((((w5.setCell ⟨w4.heap.size, 0, none⟩ (.int .i64 (rm2 : Int))).setCell ⟨w4.heap.size, 1, none⟩ (.slice Pf2 nf2 cf2)).setCell ⟨w4.heap.size, 2, none⟩ (.slice Pb2 nb2 cb2)).setCell ⟨w4.heap.size, 3, none⟩ (.slice Pw2 nw2 cw2)).setCell ⟨w4.heap.size, 4, none⟩ (.int .i64 lf2)).setCell ⟨w4.heap.size, 5, none⟩ (.bool dk2)).setCell ⟨w4.heap.size, 6, none⟩ (.int .i64 (ct2 : Int))).cell? ⟨b, o + k * 6 + 5, none⟩ = some (.slice V2 ks.length kc) := hcell9 5 _ rfl
                have HBN := Lib.hid hbn
                have HRN9 := Lib.hid hRn
                clear hza hkn hRn hbn hcell9 hbo9)
             | skip
             clear href5 hby5 hb5 hb5' hrow5 hcell5 hbo7))
      · obtain ⟨w6, Y, hw6, hY, HREF6, HBY6, HOWN6, HDISK6, HROW6, HRY, HB6, HYR, HTY⟩ : ∃ (w6 : World) (Y : Nat), w6 = (w5.alloc (.cells #[.int .i64 (rm2 : Int), .slice Pf2 nf2 cf2, .slice Pb2 nb2 cb2, .slice Pw2 nw2 cw2, .int .i64 lf2, .bool dk2, .int .i64 (ct2 : Int)] 31)) ∧ Y = w5.heap.size ∧ RefT (fun q => S' q ∨ (Value.slice P4 nbs c4).ownBlock = some q) w6 (.slice Pf2 nf2 cf2) (.slice Pb2 nb2 cb2) (.slice Pw2 nw2 cw2) ⟨rm2, fs2, bs2, ws2, lf2, dk2, ct2⟩ ∧ Bys w6 A5 bs ∧ Own w6 wr.heap.size (.slice P4 nbs c4) bs ∧ DiskOf w.heap.size S' w6 X ⟨rm2, fs2, bs2, ws2, lf2, dk2, ct2⟩ ∧ Row w6 R 31 #[.int .i64 (rm : Int), .slice Pf nf cf, .slice Pb nb cb, .slice Pw nw cw, .int .i64 lf, .bool dk, .int .i64 (ct : Int)] ∧ Row w6 Y 31 #[.int .i64 (rm2 : Int), .slice Pf2 nf2 cf2, .slice Pb2 nb2 cb2, .slice Pw2 nw2 cw2, .int .i64 lf2, .bool dk2, .int .i64 (ct2 : Int)] ∧ Below w.heap.size w w6 ∧ R ≠ Y ∧ ¬ (S' Y ∨ (Value.slice P4 nbs c4).ownBlock = some Y) := by
          have hlt4 := HROW4.out.lt
          refine ⟨_, _, rfl, rfl, HREF5.out.below (below_one w5 _), HBY5.out.below (below_one w5 _), rows_below (rows_below HOWN.out HB45.out) (below_one w5 _), (HDISK.out.below HB45.out).below (below_one w5 _), HROW5.out.alloc _, Row.new w5 _ _, (HB4.out.trans (HB45.out.mono HB4.out.size)).trans ((below_one w5 _).mono (Nat.le_trans HB4.out.size HB45.out.size)), fun e => by have := HB45.out.size; omega, fun h => by have h1 := HTT.out _ h; have h2 := HB45.out.size; omega⟩
        rw [← hw6, ← hY]
        clear hw6 hY
        clear z0 z1 z2 z3 z4 z5 z6 a0 a1 a2 a3 a4 a5 y0 y1 y2 y3 y4 y5 y6 x0 x1 x2 x3 x4 x5
        have HWH6 := Lib.hid (HWH.out (fun q => S' q ∨ (Value.slice P4 nbs c4).ownBlock = some q) w6 (.slice Pf2 nf2 cf2) (.slice Pb2 nb2 cb2) (.slice Pw2 nw2 cw2) HREF6 S' HDISK6.at_)
        have hby6 := own_bys2 HOWN6
        have t1 : (convert 35 9 (.slice P4 nbs c4)).run Try.prog w6 = .ok (.string (txt bs)) w6 := by
          have := conv_bys w6 P4 bs c4 hby6
          rwa [hbl] at this
        have t2 : (convert 35 9 (.slice A5 nbs c5)).run Try.prog w6 = .ok (.string (txt bs)) w6 := by
          have := conv_bys w6 A5 bs c5 HBY6
          rwa [hbl] at this
        have q1 : (E != E) = false := by simp
        have q2 : ((txt bs).toList != (txt bs).toList) = false := by simp
        have u0 : w6.cell? ⟨Y, 0, none⟩ = some (.int .i64 (rm2 : Int)) := (HRY.cell 0).trans rfl
        have u1 : w6.cell? ⟨Y, 1, none⟩ = some (.slice Pf2 nf2 cf2) := (HRY.cell 1).trans rfl
        have u2 : w6.cell? ⟨Y, 2, none⟩ = some (.slice Pb2 nb2 cb2) := (HRY.cell 2).trans rfl
        have u3 : w6.cell? ⟨Y, 3, none⟩ = some (.slice Pw2 nw2 cw2) := (HRY.cell 3).trans rfl
        have u4 : w6.cell? ⟨Y, 4, none⟩ = some (.int .i64 lf2) := (HRY.cell 4).trans rfl
        have u5 : w6.cell? ⟨Y, 5, none⟩ = some (.bool dk2) := (HRY.cell 5).trans rfl
        have u6 : w6.cell? ⟨Y, 6, none⟩ = some (.int .i64 (ct2 : Int)) := (HRY.cell 6).trans rfl
        have HREF7 := Lib.hid HREF6
        have HOWN7 := Lib.hid HOWN6
        have HDISK7 := Lib.hid HDISK6
        have HROW7 := Lib.hid HROW6
        have HRY7 := Lib.hid HRY
        have HB7 := Lib.hid HB6
        have HYR7 := Lib.hid HYR
        have HTY7 := Lib.hid HTY
        have HNB := Lib.hid hbl
        have HNB4 := Lib.hid (show nbs ≤ 4194304 from by rw [← hbl]; exact HOB.out)
        clear HREF6 HBY6 HOWN6 HDISK6 HROW6 HRY HB6 HYR HTY hby6 hbl
        go_wp2_with fail
        refine HWH6.out.mono ?_
        rintro e w7 ⟨rfl, hb7⟩
        have HB67 := Lib.hid hb7
        clear hb7 t1 t2 q1 q2 u0 u1 u2 u3 u4 u5 u6
        go_wp2_with fail
        go_loopw [15] (fun i wx => ∃ (j : Nat) (x : List UInt8), j ≤ nbs ∧ x.length = nbs ∧ i = .int .i64 (j : Int) ∧ Own wx wr.heap.size (.slice P4 nbs c4) x ∧ Kept (fun q => 0 < nbs ∧ (Value.slice P4 nbs c4).ownBlock = some q) w7 wx) (fun i _ => nbs - (intOf i).toNat)
        case atStart => exact ⟨0, bs, Nat.zero_le _, HNB.out, rfl, rows_below HOWN7.out HB67.out, Kept.refl _ _⟩
        case round =>
          obtain ⟨j, x, hj, hx, rfl, hor, hkx⟩ := hrel
          by_cases hjn : j < nbs
          · have hor2 := hor
            rw [← hx] at hor2
            obtain ⟨g, cap, e, hgb, hglt, _, _, hcl⟩ := own_form hor2 (by omega)
            obtain ⟨rfl, _, rfl⟩ := Value.slice.inj e
            have hc := hcl j (by omega)
            rw [hx] at hor2
            have hf := own_frozen hor j
            have hbv := byte_nat (x.getD j 0)
            have HO := Lib.hid hor
            have HKX := Lib.hid hkx
            have HX := Lib.hid hx
            have HNB5 := HNB4.out
            have i5 : (j : Int) < (nbs : Int) := by omega
            clear hor hor2 hkx hcl e hx
            generalize (x.getD j 0).toNat = vv at *
            go_wp2_with fail
            go_roundw
            case rel =>
              refine ⟨j + 1, x.set j (UInt8.ofNat (vv + 1)), by omega, by simpa using HX.out, by go_num, ?_, HKX.out.set (p := ⟨g, j, none⟩) (.inl ⟨by omega, rfl⟩) _⟩
              have h0 := HO.out
              rw [← HX.out] at h0
              have h1 := own_set h0 (i := j) (by rw [HX.out]; omega) (UInt8.ofNat (vv + 1))
              rw [List.length_set, HX.out] at h1
              rw [show ((vv : Int) + 1) % 256 = ((UInt8.ofNat (vv + 1)).toNat : Int) from by rw [UInt8.toNat_ofNat']; omega]
              exact h1
            case measure => simp [intOf]; omega
          · have hyx := row_move (HRY7.out.below HB67.out HRY7.out.lt) (hkx.block Y (Nat.lt_of_lt_of_le HRY7.out.lt HB67.out.size) (fun e => HTY7.out (.inr e.2)))
            have hrx := row_move (HROW7.out.below HB67.out HROW7.out.lt) (hkx.block R (Nat.lt_of_lt_of_le HROW7.out.lt HB67.out.size) (fun e => HTR.out (.inr e.2)))
            have HRX := Lib.hid hrx
            have hdx := diskOf_kept (HDISK7.out.below HB67.out) hkx (fun q hq e => by
              rcases HFAR.out with h0 | h0
              · have h1 := HNB.out
                rw [h0] at h1
                have h2 := e.1
                rw [← h1] at h2
                exact absurd h2 (by simp)
              · exact h0 q e.2 hq)
            have HDX9 := Lib.hid hdx
            have HREF9 := Lib.hid ((HREF7.out.below HB67.out).kept (fun q (hq : 0 < nbs ∧ (Value.slice P4 nbs c4).ownBlock = some q) => .inr hq.2) hkx)
            have HB9 := Lib.hid ((HB7.out.trans (HB67.out.mono HB7.out.size)).trans (hkx.to_below (B := w.heap.size) (fun q hq => Nat.le_trans HB.out.size (World.ownsRow.lt hor q hq.2).1) (Nat.le_trans HB7.out.size HB67.out.size)))
            have u0 : wr.cell? ⟨Y, 0, none⟩ = some (.int .i64 (rm2 : Int)) := (hyx.cell 0).trans rfl
            have u1 : wr.cell? ⟨Y, 1, none⟩ = some (.slice Pf2 nf2 cf2) := (hyx.cell 1).trans rfl
            have u2 : wr.cell? ⟨Y, 2, none⟩ = some (.slice Pb2 nb2 cb2) := (hyx.cell 2).trans rfl
            have u3 : wr.cell? ⟨Y, 3, none⟩ = some (.slice Pw2 nw2 cw2) := (hyx.cell 3).trans rfl
            have u4 : wr.cell? ⟨Y, 4, none⟩ = some (.int .i64 lf2) := (hyx.cell 4).trans rfl
            have u5 : wr.cell? ⟨Y, 5, none⟩ = some (.bool dk2) := (hyx.cell 5).trans rfl
            have u6 : wr.cell? ⟨Y, 6, none⟩ = some (.int .i64 (ct2 : Int)) := (hyx.cell 6).trans rfl
            have r0 : wr.cell? ⟨R, 0, none⟩ = some (.int .i64 (rm : Int)) := (hrx.cell 0).trans rfl
            have r1 : wr.cell? ⟨R, 1, none⟩ = some (.slice Pf nf cf) := (hrx.cell 1).trans rfl
            have r2 : wr.cell? ⟨R, 2, none⟩ = some (.slice Pb nb cb) := (hrx.cell 2).trans rfl
            have r3 : wr.cell? ⟨R, 3, none⟩ = some (.slice Pw nw cw) := (hrx.cell 3).trans rfl
            have r4 : wr.cell? ⟨R, 4, none⟩ = some (.int .i64 lf) := (hrx.cell 4).trans rfl
            have r5 : wr.cell? ⟨R, 5, none⟩ = some (.bool dk) := (hrx.cell 5).trans rfl
            have r6 : wr.cell? ⟨R, 6, none⟩ = some (.int .i64 (ct : Int)) := (hrx.cell 6).trans rfl
            have s0 := hrx.frozen 0
            have s1 := hrx.frozen 1
            have s2 := hrx.frozen 2
            have s3 := hrx.frozen 3
            have s4 := hrx.frozen 4
            have s5 := hrx.frozen 5
            have s6 := hrx.frozen 6
            clear hyx hrx hdx hor hkx
            go_wp2_with fail
            go_roundw
            case rel =>
              have hk7 := put7_kept wr R (.int .i64 (rm2 : Int)) (.slice Pf2 nf2 cf2) (.slice Pb2 nb2 cb2) (.slice Pw2 nw2 cw2) (.int .i64 lf2) (.bool dk2) (.int .i64 (ct2 : Int))
              refine ⟨k + 1, .slice Pf2 nf2 cf2, .slice Pb2 nb2 cb2, .slice Pw2 nw2 cw2, S', by omega, by omega, by go_num, ?_, fun h => HTR.out (.inl h), ?_, ?_, ?_⟩
              · rw [HS.out]
                exact diskOf_kept HDX9.out hk7 (fun q hq e => HTR.out (.inl (by rw [← e]; exact hq)))
              · rw [HS.out]
                exact put7_row HRX.out _ _ _ _ _ _ _
              · rw [HS.out]
                exact reft_store (HREF9.out.more (fun q hq => .inl (.inl hq))) HRX.out (dsk_bytes ⟨_, rfl⟩ ⟨_, _, _, rfl⟩ ⟨_, _, _, rfl⟩ ⟨_, _, _, rfl⟩ ⟨_, rfl⟩ ⟨_, rfl⟩ ⟨_, rfl⟩) hk7
              · exact HB9.out.trans (hk7.to_below (fun q hq => by subst hq; exact HBR.out) HB9.out.size)
            case measure => simp [intOf]; omega
      · obtain ⟨w6, Y, hw6, hY, HREF6, HBY6, HOWN6, HDISK6, HROW6, HRY, HB6, HYR, HTY⟩ : ∃ (w6 : World) (Y : Nat), w6 = (((((((w5.setCell ⟨w4.heap.size, 0, none⟩ (.int .i64 (rm2 : Int))).setCell ⟨w4.heap.size, 1, none⟩ (.slice Pf2 nf2 cf2)).setCell ⟨w4.heap.size, 2, none⟩ (.slice Pb2 nb2 cb2)).setCell ⟨w4.heap.size, 3, none⟩ (.slice Pw2 nw2 cw2)).setCell ⟨w4.heap.size, 4, none⟩ (.int .i64 lf2)).setCell ⟨w4.heap.size, 5, none⟩ (.bool dk2)).setCell ⟨w4.heap.size, 6, none⟩ (.int .i64 (ct2 : Int))) ∧ Y = w4.heap.size ∧ RefT (fun q => S' q ∨ (Value.slice P4 nbs c4).ownBlock = some q) w6 (.slice Pf2 nf2 cf2) (.slice Pb2 nb2 cb2) (.slice Pw2 nw2 cw2) ⟨rm2, fs2, bs2, ws2, lf2, dk2, ct2⟩ ∧ Bys w6 A5 bs ∧ Own w6 wr.heap.size (.slice P4 nbs c4) bs ∧ DiskOf w.heap.size S' w6 X ⟨rm2, fs2, bs2, ws2, lf2, dk2, ct2⟩ ∧ Row w6 R 31 #[.int .i64 (rm : Int), .slice Pf nf cf, .slice Pb nb cb, .slice Pw nw cw, .int .i64 lf, .bool dk, .int .i64 (ct : Int)] ∧ Row w6 Y 31 #[.int .i64 (rm2 : Int), .slice Pf2 nf2 cf2, .slice Pb2 nb2 cb2, .slice Pw2 nw2 cw2, .int .i64 lf2, .bool dk2, .int .i64 (ct2 : Int)] ∧ Below w.heap.size w w6 ∧ R ≠ Y ∧ ¬ (S' Y ∨ (Value.slice P4 nbs c4).ownBlock = some Y) := by
          have hlt4 := HROW4.out.lt
          refine ⟨_, _, rfl, rfl, reft_store HREF5.out HZA.out (by simp) (put7_kept w5 w4.heap.size (.int .i64 (rm2 : Int)) (.slice Pf2 nf2 cf2) (.slice Pb2 nb2 cb2) (.slice Pw2 nw2 cw2) (.int .i64 lf2) (.bool dk2) (.int .i64 (ct2 : Int))), bys_far HZA.out (by simp) (put7_kept w5 w4.heap.size (.int .i64 (rm2 : Int)) (.slice Pf2 nf2 cf2) (.slice Pb2 nb2 cb2) (.slice Pw2 nw2 cw2) (.int .i64 lf2) (.bool dk2) (.int .i64 (ct2 : Int))) HBY5.out, rows_kept (rows_below HOWN.out HB45.out) (put7_kept w5 w4.heap.size (.int .i64 (rm2 : Int)) (.slice Pf2 nf2 cf2) (.slice Pb2 nb2 cb2) (.slice Pw2 nw2 cw2) (.int .i64 lf2) (.bool dk2) (.int .i64 (ct2 : Int))) (fun q hq e => row_ne_rows HZA.out (rows_below HOWN.out HB45.out) (by decide) (by rw [hq, e])), diskOf_kept (HDISK.out.below HB45.out) (put7_kept w5 w4.heap.size (.int .i64 (rm2 : Int)) (.slice Pf2 nf2 cf2) (.slice Pb2 nb2 cb2) (.slice Pw2 nw2 cw2) (.int .i64 lf2) (.bool dk2) (.int .i64 (ct2 : Int))) (fun q hq e => by have h1 := HTT.out q (.inl hq); omega), HRN9.out, put7_row HZA.out _ _ _ _ _ _ _, HBN.out, fun e => by omega, fun h => by have h1 := HTT.out _ h; omega⟩
        rw [← hw6, ← hY]
        clear hw6 hY
        clear z0 z1 z2 z3 z4 z5 z6 a0 a1 a2 a3 a4 a5 y0 y1 y2 y3 y4 y5 y6 x0 x1 x2 x3 x4 x5 zc0 zf0 ny0 zc1 zf1 ny1 zc2 zf2 ny2 zc3 zf3 ny3 zc4 zf4 ny4 zc5 zf5 ny5 zc6 zf6 ny6 nx0 nx1 nx2 nx3 nx4 nx5
        have HWH6 := Lib.hid (HWH.out (fun q => S' q ∨ (Value.slice P4 nbs c4).ownBlock = some q) w6 (.slice Pf2 nf2 cf2) (.slice Pb2 nb2 cb2) (.slice Pw2 nw2 cw2) HREF6 S' HDISK6.at_)
        have hby6 := own_bys2 HOWN6
        have t1 : (convert 35 9 (.slice P4 nbs c4)).run Try.prog w6 = .ok (.string (txt bs)) w6 := by
          have := conv_bys w6 P4 bs c4 hby6
          rwa [hbl] at this
        have t2 : (convert 35 9 (.slice A5 nbs c5)).run Try.prog w6 = .ok (.string (txt bs)) w6 := by
          have := conv_bys w6 A5 bs c5 HBY6
          rwa [hbl] at this
        have q1 : (E != E) = false := by simp
        have q2 : ((txt bs).toList != (txt bs).toList) = false := by simp
        have u0 : w6.cell? ⟨Y, 0, none⟩ = some (.int .i64 (rm2 : Int)) := (HRY.cell 0).trans rfl
        have u1 : w6.cell? ⟨Y, 1, none⟩ = some (.slice Pf2 nf2 cf2) := (HRY.cell 1).trans rfl
        have u2 : w6.cell? ⟨Y, 2, none⟩ = some (.slice Pb2 nb2 cb2) := (HRY.cell 2).trans rfl
        have u3 : w6.cell? ⟨Y, 3, none⟩ = some (.slice Pw2 nw2 cw2) := (HRY.cell 3).trans rfl
        have u4 : w6.cell? ⟨Y, 4, none⟩ = some (.int .i64 lf2) := (HRY.cell 4).trans rfl
        have u5 : w6.cell? ⟨Y, 5, none⟩ = some (.bool dk2) := (HRY.cell 5).trans rfl
        have u6 : w6.cell? ⟨Y, 6, none⟩ = some (.int .i64 (ct2 : Int)) := (HRY.cell 6).trans rfl
        have HREF7 := Lib.hid HREF6
        have HOWN7 := Lib.hid HOWN6
        have HDISK7 := Lib.hid HDISK6
        have HROW7 := Lib.hid HROW6
        have HRY7 := Lib.hid HRY
        have HB7 := Lib.hid HB6
        have HYR7 := Lib.hid HYR
        have HTY7 := Lib.hid HTY
        have HNB := Lib.hid hbl
        have HNB4 := Lib.hid (show nbs ≤ 4194304 from by rw [← hbl]; exact HOB.out)
        clear HREF6 HBY6 HOWN6 HDISK6 HROW6 HRY HB6 HYR HTY hby6 hbl
        go_wp2_with fail
        refine HWH6.out.mono ?_
        rintro e w7 ⟨rfl, hb7⟩
        have HB67 := Lib.hid hb7
        clear hb7 t1 t2 q1 q2 u0 u1 u2 u3 u4 u5 u6
        go_wp2_with fail
        go_loopw [15] (fun i wx => ∃ (j : Nat) (x : List UInt8), j ≤ nbs ∧ x.length = nbs ∧ i = .int .i64 (j : Int) ∧ Own wx wr.heap.size (.slice P4 nbs c4) x ∧ Kept (fun q => 0 < nbs ∧ (Value.slice P4 nbs c4).ownBlock = some q) w7 wx) (fun i _ => nbs - (intOf i).toNat)
        case atStart => exact ⟨0, bs, Nat.zero_le _, HNB.out, rfl, rows_below HOWN7.out HB67.out, Kept.refl _ _⟩
        case round =>
          obtain ⟨j, x, hj, hx, rfl, hor, hkx⟩ := hrel
          by_cases hjn : j < nbs
          · have hor2 := hor
            rw [← hx] at hor2
            obtain ⟨g, cap, e, hgb, hglt, _, _, hcl⟩ := own_form hor2 (by omega)
            obtain ⟨rfl, _, rfl⟩ := Value.slice.inj e
            have hc := hcl j (by omega)
            rw [hx] at hor2
            have hf := own_frozen hor j
            have hbv := byte_nat (x.getD j 0)
            have HO := Lib.hid hor
            have HKX := Lib.hid hkx
            have HX := Lib.hid hx
            have HNB5 := HNB4.out
            have i5 : (j : Int) < (nbs : Int) := by omega
            clear hor hor2 hkx hcl e hx
            generalize (x.getD j 0).toNat = vv at *
            go_wp2_with fail
            go_roundw
            case rel =>
              refine ⟨j + 1, x.set j (UInt8.ofNat (vv + 1)), by omega, by simpa using HX.out, by go_num, ?_, HKX.out.set (p := ⟨g, j, none⟩) (.inl ⟨by omega, rfl⟩) _⟩
              have h0 := HO.out
              rw [← HX.out] at h0
              have h1 := own_set h0 (i := j) (by rw [HX.out]; omega) (UInt8.ofNat (vv + 1))
              rw [List.length_set, HX.out] at h1
              rw [show ((vv : Int) + 1) % 256 = ((UInt8.ofNat (vv + 1)).toNat : Int) from by rw [UInt8.toNat_ofNat']; omega]
              exact h1
            case measure => simp [intOf]; omega
          · have hyx := row_move (HRY7.out.below HB67.out HRY7.out.lt) (hkx.block Y (Nat.lt_of_lt_of_le HRY7.out.lt HB67.out.size) (fun e => HTY7.out (.inr e.2)))
            have hrx := row_move (HROW7.out.below HB67.out HROW7.out.lt) (hkx.block R (Nat.lt_of_lt_of_le HROW7.out.lt HB67.out.size) (fun e => HTR.out (.inr e.2)))
            have HRX := Lib.hid hrx
            have hdx := diskOf_kept (HDISK7.out.below HB67.out) hkx (fun q hq e => by
              rcases HFAR.out with h0 | h0
              · have h1 := HNB.out
                rw [h0] at h1
                have h2 := e.1
                rw [← h1] at h2
                exact absurd h2 (by simp)
              · exact h0 q e.2 hq)
            have HDX9 := Lib.hid hdx
            have HREF9 := Lib.hid ((HREF7.out.below HB67.out).kept (fun q (hq : 0 < nbs ∧ (Value.slice P4 nbs c4).ownBlock = some q) => .inr hq.2) hkx)
            have HB9 := Lib.hid ((HB7.out.trans (HB67.out.mono HB7.out.size)).trans (hkx.to_below (B := w.heap.size) (fun q hq => Nat.le_trans HB.out.size (World.ownsRow.lt hor q hq.2).1) (Nat.le_trans HB7.out.size HB67.out.size)))
            have u0 : wr.cell? ⟨Y, 0, none⟩ = some (.int .i64 (rm2 : Int)) := (hyx.cell 0).trans rfl
            have u1 : wr.cell? ⟨Y, 1, none⟩ = some (.slice Pf2 nf2 cf2) := (hyx.cell 1).trans rfl
            have u2 : wr.cell? ⟨Y, 2, none⟩ = some (.slice Pb2 nb2 cb2) := (hyx.cell 2).trans rfl
            have u3 : wr.cell? ⟨Y, 3, none⟩ = some (.slice Pw2 nw2 cw2) := (hyx.cell 3).trans rfl
            have u4 : wr.cell? ⟨Y, 4, none⟩ = some (.int .i64 lf2) := (hyx.cell 4).trans rfl
            have u5 : wr.cell? ⟨Y, 5, none⟩ = some (.bool dk2) := (hyx.cell 5).trans rfl
            have u6 : wr.cell? ⟨Y, 6, none⟩ = some (.int .i64 (ct2 : Int)) := (hyx.cell 6).trans rfl
            have r0 : wr.cell? ⟨R, 0, none⟩ = some (.int .i64 (rm : Int)) := (hrx.cell 0).trans rfl
            have r1 : wr.cell? ⟨R, 1, none⟩ = some (.slice Pf nf cf) := (hrx.cell 1).trans rfl
            have r2 : wr.cell? ⟨R, 2, none⟩ = some (.slice Pb nb cb) := (hrx.cell 2).trans rfl
            have r3 : wr.cell? ⟨R, 3, none⟩ = some (.slice Pw nw cw) := (hrx.cell 3).trans rfl
            have r4 : wr.cell? ⟨R, 4, none⟩ = some (.int .i64 lf) := (hrx.cell 4).trans rfl
            have r5 : wr.cell? ⟨R, 5, none⟩ = some (.bool dk) := (hrx.cell 5).trans rfl
            have r6 : wr.cell? ⟨R, 6, none⟩ = some (.int .i64 (ct : Int)) := (hrx.cell 6).trans rfl
            have s0 := hrx.frozen 0
            have s1 := hrx.frozen 1
            have s2 := hrx.frozen 2
            have s3 := hrx.frozen 3
            have s4 := hrx.frozen 4
            have s5 := hrx.frozen 5
            have s6 := hrx.frozen 6
            clear hyx hrx hdx hor hkx
            go_wp2_with fail
            go_roundw
            case rel =>
              have hk7 := put7_kept wr R (.int .i64 (rm2 : Int)) (.slice Pf2 nf2 cf2) (.slice Pb2 nb2 cb2) (.slice Pw2 nw2 cw2) (.int .i64 lf2) (.bool dk2) (.int .i64 (ct2 : Int))
              refine ⟨k + 1, .slice Pf2 nf2 cf2, .slice Pb2 nb2 cb2, .slice Pw2 nw2 cw2, S', by omega, by omega, by go_num, ?_, fun h => HTR.out (.inl h), ?_, ?_, ?_⟩
              · rw [HS.out]
                exact diskOf_kept HDX9.out hk7 (fun q hq e => HTR.out (.inl (by rw [← e]; exact hq)))
              · rw [HS.out]
                exact put7_row HRX.out _ _ _ _ _ _ _
              · rw [HS.out]
                exact reft_store (HREF9.out.more (fun q hq => .inl (.inl hq))) HRX.out (dsk_bytes ⟨_, rfl⟩ ⟨_, _, _, rfl⟩ ⟨_, _, _, rfl⟩ ⟨_, _, _, rfl⟩ ⟨_, rfl⟩ ⟨_, rfl⟩ ⟨_, rfl⟩) hk7
              · exact HB9.out.trans (hk7.to_below (fun q hq => by subst hq; exact HBR.out) HB9.out.size)
            case measure => simp [intOf]; omega
    · have HWR := Lib.hid (fun (fv bv wv : Value) (h : RefT S wr fv bv wv (runD (newD room) acs k)) => whole_prog HDK.out.at_ h.in_ HOK.out.fine HMET.out (by have := HOK.out.wait; omega))
      generalize runD (newD room) acs k = d at *
      obtain ⟨rm, fs, bs1, ws, lf, dk, ct⟩ := d
      simp only at hfv hbv hwv
      generalize fs.length = nf at hfv
      generalize bs1.length = nb at hbv
      generalize ws.length = nw at hwv
      subst hfv
      subst hbv
      subst hwv
      simp only [refC] at HROK HWR
      have HWR2 := Lib.hid (HWR.out _ _ _ HREF.out)
      have z0 : wr.cell? ⟨R, 0, none⟩ = some (.int .i64 (rm : Int)) := (HROK.out.cell 0).trans rfl
      have z1 : wr.cell? ⟨R, 1, none⟩ = some (.slice Pf nf cf) := (HROK.out.cell 1).trans rfl
      have z2 : wr.cell? ⟨R, 2, none⟩ = some (.slice Pb nb cb) := (HROK.out.cell 2).trans rfl
      have z3 : wr.cell? ⟨R, 3, none⟩ = some (.slice Pw nw cw) := (HROK.out.cell 3).trans rfl
      have z4 : wr.cell? ⟨R, 4, none⟩ = some (.int .i64 lf) := (HROK.out.cell 4).trans rfl
      have z5 : wr.cell? ⟨R, 5, none⟩ = some (.bool dk) := (HROK.out.cell 5).trans rfl
      have z6 : wr.cell? ⟨R, 6, none⟩ = some (.int .i64 (ct : Int)) := (HROK.out.cell 6).trans rfl
      clear hD hok hb hrow hRT HWR
      rcases (show ¬ ((k : Int) < (acs.length : Int)) ∨ ((k : Int) < (acs.length : Int) ∧ ¬ ((k : Int) < 60)) from by omega) with g1 | ⟨g1, g2⟩
      all_goals
        go_wp2_with fail
        refine HWR2.out.mono ?_
        rintro e w7 ⟨rfl, hb7⟩
        have HB7 := Lib.hid (HB.out.trans (hb7.mono HB.out.size))
        clear hb7
        go_wp2_with fail
        refine (lives_true _).mono ?_
        rintro e w8 ⟨rfl, hb8⟩
        have HB8 := Lib.hid (HB7.out.trans (hb8.mono HB7.out.size))
        clear hb8
        go_wp2
        go_ret
        exact ⟨rfl, HB8.out⟩
theorem diskPlays_walk (w : World) (room : Int) (hroom : -9223372036854775808 ≤ room ∧ room ≤ 9223372036854775807) (V : Option Addr) (acs : List ActV) (c : Nat) (hV : Acts w V acs) (hl : acs.length ≤ 140737488351232) (hlc : acs.length ≤ c) :
    Calls Try.prog 3 #[.int .i64 room, .slice V acs.length c] w fun e w' => e = .returned (.bool true) ∧ Below w.heap.size w w' := by
  by_cases hr : room < 1 ∨ 4194304 < room
  · exact plays_no room hr V acs.length c w
  · obtain ⟨r, rfl⟩ := Int.eq_ofNat_of_zero_le (a := room) (by omega)
    exact plays_ok r (by omega) V acs c w hV hl hlc
end Go.Proofs.Ytiepepikbophmaa
