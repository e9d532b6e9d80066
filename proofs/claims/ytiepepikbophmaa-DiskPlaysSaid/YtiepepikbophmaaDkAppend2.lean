/- Append: what is told, and the disk behind. -/
import Derived.Test.YtiepepikbophmaaDkSize
import Derived.Test.YtiepepikbophmaaDkAppend
import Derived.Deep.RegionHeld3
namespace Go.Proofs.Ytiepepikbophmaa
open Go.RowKit Go.Maps
set_option linter.unusedVariables false

theorem bys_not_disk {w : World} {X dm bm : Nat} {wv : Value} {d : Dsk} {A : Option Addr} {l : List UInt8} (hA : Bys w A l) (hX : Row w X 73 (diskC d dm bm wv)) (hwv : ∀ x, wv ≠ .int .u8 x) : l = [] ∨ ∀ ad, A = some ad → ad.block ≠ X := by
  rcases hA with rfl | ⟨b, o, rfl, hb, hc⟩
  · exact .inl rfl
  · by_cases hl : l = []
    · exact .inl hl
    · refine .inr ?_
      rintro ad e
      injection e with e
      subst e
      show b ≠ X
      rintro rfl
      have h0 := hc 0 (by cases l; exact absurd rfl hl; simp)
      rw [hX.cell] at h0
      unfold diskC at h0
      rcases o with _ | _ | _ | _ | _ | _ | _ | o <;> simp at h0
      exact hwv _ h0
theorem bys_move {w w' : World} {A : Option Addr} {l : List UInt8} (hA : Bys w A l) (hs : w.heap.size ≤ w'.heap.size) (hb : l = [] ∨ ∀ ad, A = some ad → w'.heap[ad.block]? = w.heap[ad.block]?) : Bys w' A l := by
  rcases hA with rfl | ⟨b, o, rfl, hlt, hc⟩
  · exact .inl rfl
  · rcases hb with rfl | hb
    · exact .inl rfl
    · exact .inr ⟨b, o, rfl, by omega, fun i hi => (World.cell?_of_block (w := w) (a := ⟨b, o + i, none⟩) (hb ⟨b, o, none⟩ rfl)).trans (hc i hi)⟩
section
variable {S : Nat → Prop} {w : World} {X dm bm : Nat} {wv : Value} {fb : Nat → Nat} {vb : Nat → Value} {d : Dsk}
theorem rows_value {w : World} {base e size n : Nat} {v : Value} {xs : List Value} (h : w.ownsRow base e size v n xs) : ∀ x, v ≠ .int .u8 x := by
  rcases h.2 with ⟨rfl, _⟩ | ⟨g, cap, cur, rfl, _⟩ <;> intro x e <;> cases e
theorem apply_append {name to b : List UInt8} {n : Nat} (hp : (power d).2 = 0) (hw : whose (live d) name = some n) : applyD (power d).1 2 name to b = { (power d).1 with files := d.files.set n ⟨(d.files.getD n fil0).b ++ b, (d.files.getD n fil0).sure⟩ } := by
  obtain ⟨_, _, _, _, p5, p6, p7, _⟩ := power_ok hp
  have hl : live (power d).1 = live d := by unfold live; rw [p6, p7]
  unfold applyD
  dsimp only
  rw [if_neg (by decide), if_pos rfl, hl, hw, p5]
  rfl
theorem why_append_full {s to b : List UInt8} {n : Nat} (h : namedB s = true) (hw : whose (live d) s = some n) (hr : d.room < total d + b.length) : whyNot d 2 s to b = 7 := by
  unfold whyNot
  rw [if_neg (by simp [h]), if_neg (by simp), if_neg (by simp), if_neg (by simp [hw]), if_pos ⟨rfl, hr⟩]
theorem why_append_fine {s to b : List UInt8} {n : Nat} (h : namedB s = true) (hw : whose (live d) s = some n) (hr : ¬ d.room < total d + b.length) : whyNot d 2 s to b = 0 := by
  unfold whyNot
  rw [if_neg (by simp [h]), if_neg (by simp), if_neg (by simp), if_neg (by simp [hw]), if_neg (fun e => hr e.2)]

theorem append_change (hin : DiskIn w X dm bm wv fb vb d) (hS : ∀ k, Foot X dm bm wv fb vb d.files.length k → S k) (hF : Fine d) (hq : Few d) {n : Nat} (hn : n < d.files.length) {name to l : List UInt8} (hy : whyNot d 2 name to l = 0) (hw : whose (live d) name = some n) {w2 : World} (hb : Below w.heap.size w w2)
    {b1 b2 c : Nat} {A : Option Addr} (hb1 : Row w2 b1 94 #[.pointer (some ⟨fb n, 0, none⟩)]) (hb2 : Row w2 b2 35 #[.slice A l.length c]) (hA : Bys w2 A l) (hl : l.length ≤ 140737488355328) :
    Calls Try.prog 71 #[.pointer (some ⟨X, 0, none⟩), .func (.func 72) #[] #[.pointer (some ⟨b1, 0, none⟩), .pointer (some ⟨b2, 0, none⟩)]] w2 fun e w' => e = .returned (.int .i64 (change d 2 name to l).2) ∧ After S w X (change d 2 name to l).1 w' := by
  have hin2 := hin.below hb
  by_cases hp : (power d).2 = 0
  · rw [change_ok hy hp, apply_append hp hw]
    refine do_ok_append hin2.row hp hF.left hq.left (by have := hq.count; omega) b1 b2 (fun w' => After S w X { (power d).1 with files := d.files.set n ⟨(d.files.getD n fil0).b ++ l, (d.files.getD n fil0).sure⟩ } w') fun w1 hX1 hK1 hs1 => ?_
    obtain ⟨a1, a2, a3, a4, a5, a6⟩ := hin2.apart
    obtain ⟨c1, c2, c3, c4, c5, c6, c7, c8, c9⟩ := a6 n hn
    have hrow := row_move (hin2.file n hn) (hK1.block _ (hin2.file n hn).lt c1)
    have hown1 : Own w1 0 (vb n) (d.files.getD n fil0).b := own_move (hin2.byts n hn) fun k hk => hK1.block k (World.ownsRow.lt (hin2.byts n hn) k hk).2 (by rintro rfl; exact c5 hk)
    have hr1 := row_move hb1 (hK1.block _ hb1.lt (row_ne hb1 hin2.row (by decide)))
    have hr2 := row_move hb2 (hK1.block _ hb2.lt (row_ne hb2 hin2.row (by decide)))
    have hA1 : Bys w1 A l := by
      have hnd := bys_not_disk hA hin2.row (rows_value hin2.wait)
      by_cases hl0 : l = []
      · exact .inl hl0
      refine bys_move hA hK1.size (hnd.imp id fun h ad e => hK1.block _ ?_ (h ad e))
      rcases hA with hl1 | ⟨b, o, rfl, hlt, _⟩
      · exact absurd hl1 hl0
      · injection e with e
        subst e
        exact hlt
    have hsm := hF.small n
    have hrm := hF.room
    refine (append_do hr1 hr2 hrow hown1 hA1 (by omega)).mono ?_
    rintro e w3 ⟨rfl, v', k1, k2, k3, k4⟩
    refine ⟨rfl, ?_⟩
    have K : Kept (fun k => k = X ∨ k = fb n ∨ (vb n).ownBlock = some k) w2 w3 := (hK1.mono fun k hk => (Or.inl hk : k = X ∨ k = fb n ∨ (vb n).ownBlock = some k)).trans k3 fun i hi => .inl (.inr hi)
    have hv : ∀ k, v'.ownBlock = some k → (vb n).ownBlock = some k ∨ w2.heap.size ≤ k := by
      intro k hk
      rcases k4 with e | e
      · exact .inl (by rw [← e]; exact hk)
      · rw [e] at hk
        injection hk with hk
        exact .inr (by omega)
    have hXk : Row w3 X 73 (diskC (power d).1 dm bm wv) := row_move hX1 (k3.block X hX1.lt (by rintro (e | e); exact c1 e.symm; exact c5 e))
    have hfin := hin2.filed hn (v' := v') (f' := ⟨(d.files.getD n fil0).b ++ l, (d.files.getD n fil0).sure⟩) (d' := { (power d).1 with files := d.files.set n ⟨(d.files.getD n fil0).b ++ l, (d.files.getD n fil0).sure⟩ })
      hXk (power_ok hp).2.2.2.2.2.1 (power_ok hp).2.2.2.2.2.2.1 rfl k1 k2 K hv
    exact after_back hb (after_filed hin2 hS hn hfin rfl K hv)
  · rw [change_dark hy hp]
    refine (do_no hin2.row hp _).mono ?_
    rintro e w' ⟨he, k1, k2⟩
    exact ⟨he, after_back hb (after_dark hin2 hS hp k1 k2)⟩
end
section
variable {S : Nat → Prop} {w : World} {X : Nat} {d : Dsk}
set_option maxRecDepth 20000 in
set_option maxHeartbeats 1000000 in
theorem append_prog (h : DiskAt S w X d) (hF : Fine d) (hq : Few d) (s : ByteArray) (to : List UInt8) (A : Option Addr) (l : List UInt8) (c : Nat) (hm : s.size ≤ 281474976710656) (hA : Bys w A l) (hl : l.length ≤ 281474976710656) :
    Calls Try.prog 36 #[.pointer (some ⟨X, 0, none⟩), .string s, .slice A l.length c] w fun e w' => e = .returned (.int .i64 (change d 2 (strL s) to l).2) ∧ After S w X (change d 2 (strL s) to l).1 w' := by
  have HS := Lib.hid (fun w' => after_same (w' := w') h)
  obtain ⟨dm, bm, wv, fb, vb, hin, hS⟩ := h
  have hb0 := below_one w (.cells #[.slice A l.length c] 35)
  have hin0 := hin.below hb0
  have HB0 := Lib.hid hb0
  have hbox := Row.new w 35 #[.slice A l.length c]
  have hmf : ∀ (fn : Fn) (first cap : Array Value) (w : World), (Instr.makeFunc fn first cap).run Try.prog w = .ok (.func fn first cap) w := fun _ _ _ _ => rfl
  cases hn : namedB (strL s)
  · have hw := why_bad (d := d) (kind := 2) (to := to) (b := l) (by decide) hn
    rw [change_no (by rw [hw]; decide), hw]
    have HC := Lib.hid (find_bad hin0 s hm hn)
    clear hin hS hF hq hin0 hb0 hbox
    go_enter Try.func36, Try.ntmps36
    go_wp2_with fail
    refine HC.out.mono ?_
    rintro e w1 ⟨rfl, hb⟩
    have HB := Lib.hid hb
    have HB2 := Lib.hid (below_one w1 (.cells #[.pointer none] 94))
    clear hb
    go_wp2
    go_ret
    exact ⟨rfl, HS.out _ (below_then (below_then HB0.out HB.out) HB2.out)⟩
  · cases hw : whose (live d) (strL s) with
    | none =>
      have hy := why_none (d := d) (kind := 2) (to := to) (b := l) (by decide) hn (fun e => absurd e (by decide)) hw
      rw [change_no (by rw [hy]; decide), hy]
      have HC := Lib.hid (find_none hin0 s hn hw)
      clear hin hS hF hq hin0 hb0 hbox hw
      go_enter Try.func36, Try.ntmps36
      go_wp2_with fail
      refine HC.out.mono ?_
      rintro e w1 ⟨rfl, hb⟩
      have HB := Lib.hid hb
      have HB2 := Lib.hid (below_one w1 (.cells #[.pointer none] 94))
      clear hb
      go_wp2
      go_ret
      exact ⟨rfl, HS.out _ (below_then (below_then HB0.out HB.out) HB2.out)⟩
    | some n =>
      have hnl := (hF.live_in _ ((whose_some hF.live_rises).1 hw)).1
      have HC := Lib.hid (find_some hin0 s n hn hw)
      have HSZ := Lib.hid (fun (x : World) (hb : Below w.heap.size w x) => size_prog (w := x.drew) (hin.below hb).dir hF.live_rises ((hin.below hb).filesIn.move fun _ _ => rfl) (fun x hx => (hF.live_in x hx).1) (by have := hF.total_le; show total d ≤ _; omega))
      rw [show ((live d).map fun x => (d.files.getD x.file fil0).b.length).sum = total d from rfl] at HSZ
      have hT := hF.total_le
      have hrm := hF.room
      have HIN := Lib.hid (fun (x : World) (hb : Below w.heap.size w x) => (hin.below hb).row)
      have HBX := Lib.hid (fun (x : World) (hb : Below (w.alloc (.cells #[.slice A l.length c] 35)).heap.size (w.alloc (.cells #[.slice A l.length c] 35)) x) => hbox.below hb (by simp))
      by_cases hfull : d.room < total d + l.length
      · have hy := why_append_full (d := d) (to := to) (b := l) hn hw hfull
        rw [change_no (by rw [hy]; decide), hy]
        generalize total d = T at *
        have hwr : IntKind.i64.wrap ((T : Int) + (l.length : Int)) = (T : Int) + (l.length : Int) := IntWalk.i64_in _ (by omega)
        have hq1 : decide ((d.room : Int) < (T : Int) + (l.length : Int)) = true := decide_eq_true (by omega)
        clear hin hS hF hq hin0 hb0 hbox hw hT hrm hfull hnl
        go_enter Try.func36, Try.ntmps36
        go_wp2_with fail
        refine HC.out.mono ?_
        rintro e w1 ⟨rfl, hb⟩
        go_wp2
        have hB1 := below_then (below_then HB0.out hb) (below_one w1 (.cells #[.pointer (some ⟨fb n, 0, none⟩)] 94))
        have hrX := HIN.out _ hB1
        have hrB := HBX.out _ (below_then hb (below_one w1 (.cells #[.pointer (some ⟨fb n, 0, none⟩)] 94)))
        generalize w1.alloc (.cells #[.pointer (some ⟨fb n, 0, none⟩)] 94) = x0 at *
        have x0c : x0.cell? ⟨X, 0, none⟩ = some (.int .i64 d.room) := (hrX.cell 0).trans rfl
        have x1c : x0.cell? ⟨X, 1, none⟩ = some (.map (some dm)) := (hrX.cell 1).trans rfl
        have xbc : x0.cell? ⟨w.heap.size, 0, none⟩ = some (.slice A l.length c) := (hrB.cell 0).trans rfl
        have lX := hrX.lt
        have lB := hrB.lt
        have HBB := Lib.hid hB1
        have HRX : Hid (Row x0.drew X 73 (diskC d dm bm wv)) := Lib.hid hrX
        have HRB : Hid (Row x0.drew w.heap.size 35 #[.slice A l.length c]) := Lib.hid hrB
        clear hB1 hrX hrB hb
        go_region_held3 (fun w' => w'.cell? ⟨X, 0, none⟩ = some (.int .i64 d.room) ∧ w'.cell? ⟨X, 1, none⟩ = some (.map (some dm)) ∧ w'.cell? ⟨w.heap.size, 0, none⟩ = some (.slice A l.length c))
          (first | exact y0 | exact y1 | exact y2 | go_keep)
          (first
            | (go_at_call 70
               refine (HSZ.out x0 HBB.out).mono ?_
               rintro e w2 ⟨rfl, hb2⟩
               have y0 : w2.cell? ⟨X, 0, none⟩ = some (.int .i64 d.room) := ((HRX.out.below hb2 lX).cell 0).trans rfl
               have y1 : w2.cell? ⟨X, 1, none⟩ = some (.map (some dm)) := ((HRX.out.below hb2 lX).cell 1).trans rfl
               have y2 : w2.cell? ⟨w.heap.size, 0, none⟩ = some (.slice A l.length c) := ((HRB.out.below hb2 lB).cell 0).trans rfl
               have HB2 := Lib.hid hb2
               clear hb2))
        all_goals
          go_wp2
          go_ret
          exact ⟨rfl, HS.out _ (below_then HBB.out.drew HB2.out)⟩
      · have hy := why_append_fine (d := d) (to := to) (b := l) hn hw hfull
        have HE := Lib.hid (fun (w2 : World) (hb : Below w.heap.size w w2) (b1 b2 : Nat) (hb1 : Row w2 b1 94 #[.pointer (some ⟨fb n, 0, none⟩)]) (hb2 : Row w2 b2 35 #[.slice A l.length c]) => append_change (to := to) hin hS hF hq hnl hy hw hb hb1 hb2 (hA.below hb) (by omega))
        generalize total d = T at *
        have hwr : IntKind.i64.wrap ((T : Int) + (l.length : Int)) = (T : Int) + (l.length : Int) := IntWalk.i64_in _ (by omega)
        have hq1 : decide ((d.room : Int) < (T : Int) + (l.length : Int)) = false := decide_eq_false (by omega)
        clear hin hS hF hq hin0 hb0 hbox hw hT hrm hfull hnl hy
        go_enter Try.func36, Try.ntmps36
        go_wp2_with fail
        refine HC.out.mono ?_
        rintro e w1 ⟨rfl, hb⟩
        go_wp2
        have hB1 := below_then (below_then HB0.out hb) (below_one w1 (.cells #[.pointer (some ⟨fb n, 0, none⟩)] 94))
        have hrX := HIN.out _ hB1
        have hrB := HBX.out _ (below_then hb (below_one w1 (.cells #[.pointer (some ⟨fb n, 0, none⟩)] 94)))
        have hrP := Row.new w1 94 #[.pointer (some ⟨fb n, 0, none⟩)]
        generalize w1.alloc (.cells #[.pointer (some ⟨fb n, 0, none⟩)] 94) = x0 at *
        generalize w1.heap.size = b1 at *
        have lP := hrP.lt
        have HRP : Hid (Row x0.drew b1 94 #[.pointer (some ⟨fb n, 0, none⟩)]) := Lib.hid hrP
        have x0c : x0.cell? ⟨X, 0, none⟩ = some (.int .i64 d.room) := (hrX.cell 0).trans rfl
        have x1c : x0.cell? ⟨X, 1, none⟩ = some (.map (some dm)) := (hrX.cell 1).trans rfl
        have xbc : x0.cell? ⟨w.heap.size, 0, none⟩ = some (.slice A l.length c) := (hrB.cell 0).trans rfl
        have lX := hrX.lt
        have lB := hrB.lt
        have HBB := Lib.hid hB1
        have HRX : Hid (Row x0.drew X 73 (diskC d dm bm wv)) := Lib.hid hrX
        have HRB : Hid (Row x0.drew w.heap.size 35 #[.slice A l.length c]) := Lib.hid hrB
        clear hB1 hrX hrB hb hrP
        go_region_held3 (fun w' => w'.cell? ⟨X, 0, none⟩ = some (.int .i64 d.room) ∧ w'.cell? ⟨X, 1, none⟩ = some (.map (some dm)) ∧ w'.cell? ⟨w.heap.size, 0, none⟩ = some (.slice A l.length c))
          (first | exact y0 | exact y1 | exact y2 | go_keep)
          (first
            | (go_at_call 70
               refine (HSZ.out x0 HBB.out).mono ?_
               rintro e w2 ⟨rfl, hb2⟩
               have y0 : w2.cell? ⟨X, 0, none⟩ = some (.int .i64 d.room) := ((HRX.out.below hb2 lX).cell 0).trans rfl
               have y1 : w2.cell? ⟨X, 1, none⟩ = some (.map (some dm)) := ((HRX.out.below hb2 lX).cell 1).trans rfl
               have y2 : w2.cell? ⟨w.heap.size, 0, none⟩ = some (.slice A l.length c) := ((HRB.out.below hb2 lB).cell 0).trans rfl
               have HB2 := Lib.hid hb2
               clear hb2))
        all_goals
          go_wp2_with fail
          refine (HE.out _ (below_then HBB.out.drew HB2.out) _ _ (HRP.out.below HB2.out lP) (HRB.out.below HB2.out lB)).mono ?_
          rintro e w3 ⟨rfl, h3⟩
          have H3 := Lib.hid h3
          clear h3
          go_wp2
          go_ret
          exact ⟨rfl, H3.out⟩
end
end Go.Proofs.Ytiepepikbophmaa
