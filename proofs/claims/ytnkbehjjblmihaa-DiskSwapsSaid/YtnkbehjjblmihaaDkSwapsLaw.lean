/- The law DiskSwaps: its walk. -/
import Derived.Test.YtnkbehjjblmihaaDkBegun
namespace Go.Proofs.Ytnkbehjjblmihaa
open Go.RowKit Go.Maps
set_option linter.unusedVariables false

def sw1 : Dsk := ⟨4194304, [fil0], [], [.lay nOne 0], -1, false, 1⟩
def sw2 : Dsk := ⟨4194304, [fil0, fil0], [], [.lay nOne 0, .lay nTwo 1], -1, false, 2⟩
def sw3 (a : List UInt8) : Dsk := ⟨4194304, [⟨a, 0⟩, fil0], [], [.lay nOne 0, .lay nTwo 1], -1, false, 3⟩
def sw4 (a b : List UInt8) : Dsk := ⟨4194304, [⟨a, 0⟩, ⟨b, 0⟩], [], [.lay nOne 0, .lay nTwo 1], -1, false, 4⟩
def sw5 (a b : List UInt8) : Dsk := ⟨4194304, [⟨a, a.length⟩, ⟨b, 0⟩], [], [.lay nOne 0, .lay nTwo 1], -1, false, 5⟩
def sw6 (a b : List UInt8) : Dsk := ⟨4194304, [⟨a, a.length⟩, ⟨b, b.length⟩], [], [.lay nOne 0, .lay nTwo 1], -1, false, 6⟩
def sw7 (a b : List UInt8) : Dsk := ⟨4194304, [⟨a, a.length⟩, ⟨b, b.length⟩], [⟨nOne, 0⟩, ⟨nTwo, 1⟩], [], -1, false, 7⟩
def sw9 (a b : List UInt8) : Dsk := ⟨4194304, [⟨a, a.length⟩, ⟨b, b.length⟩], [⟨nOne, 1⟩], [], -1, false, 9⟩
def tOne : ByteArray := ⟨#[111, 110, 101]⟩
def tTwo : ByteArray := ⟨#[116, 119, 111]⟩
theorem strL_one : strL tOne = nOne := rfl
theorem strL_two : strL tTwo = nTwo := rfl
section
variable {S : Nat → Prop} {w : World} {X : Nat}
/-- A call whose change is known. -/
theorem step_known {N : Nat} {d d' : Dsk} {kind : Int} {name to b : List UInt8} (hk : Ok N d) (hkd : 1 ≤ kind ∧ kind ≤ 6) (he : change d kind name to b = (d', 0)) : Ok (N + 1) d' := by
  have := ok_change hk kind name to b hkd
  rwa [he] at this
end
theorem sok0 : Ok 0 (newD 4194304) := ok_new 4194304 (by decide)
theorem sok1 : Ok 1 sw1 := step_known sok0 (by decide) swap_1
theorem sok2 : Ok 2 sw2 := step_known sok1 (by decide) swap_2
theorem sok3 {a : List UInt8} (ha : a.length ≤ 100000) : Ok 3 (sw3 a) := step_known sok2 (by decide) (swap_3 a ha)
theorem sok4 {a b : List UInt8} (h : a.length + b.length ≤ 100000) : Ok 4 (sw4 a b) := step_known (sok3 (by omega)) (by decide) (swap_4 a b h)
theorem sok5 {a b : List UInt8} (h : a.length + b.length ≤ 100000) : Ok 5 (sw5 a b) := step_known (sok4 h) (by decide) (swap_5 a b h)
theorem sok6 {a b : List UInt8} (h : a.length + b.length ≤ 100000) : Ok 6 (sw6 a b) := step_known (sok5 h) (by decide) (swap_6 a b h)
theorem sok7 {a b : List UInt8} (h : a.length + b.length ≤ 100000) : Ok 7 (sw7 a b) := step_known (sok6 h) (by decide) (swap_7 a b)
theorem sok8 {a b : List UInt8} (h : a.length + b.length ≤ 100000) : Ok 8 (swapD a b) := step_known (sok7 h) (by decide) (swap_8 a b)
theorem sok9 {a b : List UInt8} (h : a.length + b.length ≤ 100000) : Ok 9 (sw9 a b) := step_known (sok8 h) (by decide) (swap_sync a b)

set_option maxRecDepth 20000 in
theorem swaps_big (w : World) (A : Option Addr) (a : List UInt8) (ca : Nat) (B : Option Addr) (b : List UInt8) (cb : Nat) (hra : a.length ≤ 140737488351232) (hrb : b.length ≤ 140737488351232) (dirs : Int) (sure : Bool) (hbig : 100000 < a.length + b.length) :
    Calls Try.prog 7 #[.slice A a.length ca, .slice B b.length cb, .int .i64 dirs, .bool sure] w fun e w' => e = .returned (.bool true) ∧ Below w.heap.size w w' := by
  have HN := Lib.hid (new_ok 4194304 (by decide) w)
  have q1 : decide ((100000 : Int) < (a.length : Int) + (b.length : Int)) = true := decide_eq_true (by omega)
  clear hbig
  go_enter Try.func7, Try.ntmps7
  go_wp2_with fail
  refine HN.out.mono ?_
  rintro e w1 ⟨rfl, hD, hb⟩
  have HB := Lib.hid hb
  have HL := Lib.hid (lives_true w1)
  clear hD hb
  go_wp2_with fail
  refine HL.out.mono ?_
  rintro e w2 ⟨rfl, hb2⟩
  have HB2 := Lib.hid hb2
  clear hb2
  go_wp2
  go_ret
  exact ⟨rfl, below_then HB.out HB2.out⟩

theorem sws_1 : change (newD 4194304) 1 nOne [] [] = (sw1, 0) := swap_1
theorem sws_2 : change sw1 1 nTwo [] [] = (sw2, 0) := swap_2
theorem sws_3 (a : List UInt8) (h : a.length ≤ 100000) : change sw2 2 nOne [] a = (sw3 a, 0) := swap_3 a h
theorem sws_4 (a b : List UInt8) (h : a.length + b.length ≤ 100000) : change (sw3 a) 2 nTwo [] b = (sw4 a b, 0) := swap_4 a b h
theorem sws_5 (a b : List UInt8) (h : a.length + b.length ≤ 100000) : change (sw4 a b) 5 nOne [] [] = (sw5 a b, 0) := swap_5 a b h
theorem sws_6 (a b : List UInt8) (h : a.length + b.length ≤ 100000) : change (sw5 a b) 5 nTwo [] [] = (sw6 a b, 0) := swap_6 a b h
theorem sws_7 (a b : List UInt8) : change (sw6 a b) 6 [] [] [] = (sw7 a b, 0) := swap_7 a b
theorem sws_8 (a b : List UInt8) : change (sw7 a b) 3 nTwo nOne [] = (swapD a b, 0) := swap_8 a b
theorem sws_9 (a b : List UInt8) : change (swapD a b) 6 [] [] [] = (sw9 a b, 0) := swap_sync a b
set_option maxRecDepth 40000 in
theorem swaps_go (w : World) (A : Option Addr) (a : List UInt8) (ca : Nat) (hA : Bys w A a) (B : Option Addr) (b : List UInt8) (cb : Nat) (hB : Bys w B b) (dirs : Int) (hd0 : -9223372036854775808 ≤ dirs) (hd1 : dirs ≤ 9223372036854775807) (sure : Bool) (hs : a.length + b.length ≤ 100000) :
    Calls Try.prog 7 #[.slice A a.length ca, .slice B b.length cb, .int .i64 dirs, .bool sure] w fun e w' => e = .returned (.bool true) ∧ Below w.heap.size w w' := by
  have HN := Lib.hid (new_ok 4194304 (by decide) w)
  have q1 : decide ((100000 : Int) < (a.length : Int) + (b.length : Int)) = false := decide_eq_false (by omega)
  have HA := Lib.hid hA
  have HBB := Lib.hid hB
  have HS := Lib.hid hs
  clear hA hB
  go_enter Try.func7, Try.ntmps7
  go_wp2_with fail
  refine HN.out.mono ?_
  rintro e w1 ⟨rfl, hD, hb⟩
  have HD1 : Hid (DiskAt (From w.heap.size) w1 (w.heap.size + 2) (newD 4194304)) := Lib.hid hD
  have HB1 := Lib.hid hb
  clear hD hb
  have HC1 := create_prog HD1.out sok0.fine (sok0.few (by decide)) tOne [] [] (by decide)
  rw [strL_one, sws_1] at HC1
  have HK1 := Lib.hid HC1
  clear HC1
  go_wp2_with fail
  refine HK1.out.mono ?_
  rintro e w2 ⟨rfl, ha⟩
  obtain ⟨hDx, hbx⟩ := After.flat (B := w.heap.size) ha HB1.out.size
  have HD2 := Lib.hid hDx
  have HB2 := Lib.hid (HB1.out.trans hbx)
  clear ha hDx hbx
  have HC2 := create_prog HD2.out sok1.fine (sok1.few (by decide)) tTwo [] [] (by decide)
  rw [strL_two] at HC2
  rw [sws_2] at HC2
  have HK2 := Lib.hid HC2
  clear HC2
  go_wp2_with fail
  refine HK2.out.mono ?_
  rintro e w3 ⟨rfl, ha⟩
  obtain ⟨hDx, hbx⟩ := After.flat (B := w.heap.size) ha HB2.out.size
  have HD3 := Lib.hid hDx
  have HB3 := Lib.hid (HB2.out.trans hbx)
  clear ha hDx hbx
  have HC3 := append_prog HD3.out sok2.fine (sok2.few (by decide)) tOne [] A a ca (by decide) (HA.out.below HB3.out) (by omega)
  rw [strL_one] at HC3
  rw [sws_3 a (by omega)] at HC3
  have HK3 := Lib.hid HC3
  clear HC3
  go_wp2_with fail
  refine HK3.out.mono ?_
  rintro e w4 ⟨rfl, ha⟩
  obtain ⟨hDx, hbx⟩ := After.flat (B := w.heap.size) ha HB3.out.size
  have HD4 := Lib.hid hDx
  have HB4 := Lib.hid (HB3.out.trans hbx)
  clear ha hDx hbx
  have HC4 := append_prog HD4.out (sok3 (by omega)).fine ((sok3 (by omega)).few (by decide)) tTwo [] B b cb (by decide) (HBB.out.below HB4.out) (by omega)
  rw [strL_two] at HC4
  rw [sws_4 a b hs] at HC4
  have HK4 := Lib.hid HC4
  clear HC4
  go_wp2_with fail
  refine HK4.out.mono ?_
  rintro e w5 ⟨rfl, ha⟩
  obtain ⟨hDx, hbx⟩ := After.flat (B := w.heap.size) ha HB4.out.size
  have HD5 := Lib.hid hDx
  have HB5 := Lib.hid (HB4.out.trans hbx)
  clear ha hDx hbx
  have HC5 := sync_prog HD5.out (sok4 hs).fine ((sok4 hs).few (by decide)) tOne [] [] (by decide)
  rw [strL_one] at HC5
  rw [sws_5 a b hs] at HC5
  have HK5 := Lib.hid HC5
  clear HC5
  go_wp2_with fail
  refine HK5.out.mono ?_
  rintro e w6 ⟨rfl, ha⟩
  obtain ⟨hDx, hbx⟩ := After.flat (B := w.heap.size) ha HB5.out.size
  have HD6 := Lib.hid hDx
  have HB6 := Lib.hid (HB5.out.trans hbx)
  clear ha hDx hbx
  have HC6 := sync_prog HD6.out (sok5 hs).fine ((sok5 hs).few (by decide)) tTwo [] [] (by decide)
  rw [strL_two] at HC6
  rw [sws_6 a b hs] at HC6
  have HK6 := Lib.hid HC6
  clear HC6
  go_wp2_with fail
  refine HK6.out.mono ?_
  rintro e w7 ⟨rfl, ha⟩
  obtain ⟨hDx, hbx⟩ := After.flat (B := w.heap.size) ha HB6.out.size
  have HD7 := Lib.hid hDx
  have HB7 := Lib.hid (HB6.out.trans hbx)
  clear ha hDx hbx
  have HC7 := syncdir_prog HD7.out (sok6 hs).fine ((sok6 hs).few (by decide)) [] [] []
  rw [sws_7 a b] at HC7
  have HK7 := Lib.hid HC7
  clear HC7
  go_wp2_with fail
  refine HK7.out.mono ?_
  rintro e w8 ⟨rfl, ha⟩
  obtain ⟨hDx, hbx⟩ := After.flat (B := w.heap.size) ha HB7.out.size
  have HD8 := Lib.hid hDx
  have HB8 := Lib.hid (HB7.out.trans hbx)
  clear ha hDx hbx
  have HC8 := rename_prog HD8.out (sok7 hs).fine ((sok7 hs).few (by decide)) tTwo tOne [] (by decide) (by decide)
  rw [strL_one, strL_two] at HC8
  rw [sws_8 a b] at HC8
  have HK8 := Lib.hid HC8
  clear HC8
  go_wp2_with fail
  refine HK8.out.mono ?_
  rintro e w9 ⟨rfl, ha⟩
  obtain ⟨hDx, hbx⟩ := After.flat (B := w.heap.size) ha HB8.out.size
  have HD9 := Lib.hid hDx
  have HB9 := Lib.hid (HB8.out.trans hbx)
  clear ha hDx hbx
  cases sure
  · -- not sure
    have HR9 := crash_at HD9.out (sok8 hs) (by decide) dirs hd0 hd1 none [] 0 (.inl rfl) (.inl rfl) (by decide) (fun i hi => by simp at hi)
    have HK9 := Lib.hid HR9
    clear HR9
    go_wp2_with fail
    refine HK9.out.mono ?_
    rintro e w10 ⟨rfl, ha⟩
    obtain ⟨hDx, hbx⟩ := After.flat (B := w.heap.size) ha HB9.out.size
    have HD10 := Lib.hid hDx
    have HB10 := Lib.hid (HB9.out.trans hbx)
    clear ha hDx hbx
    have hokc := ok_crash (sok8 hs) dirs []
    have HRA := Lib.hid (fun (x : World) (q : DiskAt (From w.heap.size) x (w.heap.size + 2) (crashD (swapD a b) dirs [])) => read_prog q hokc.fine tOne (by decide))
    have HRB := Lib.hid (fun (x : World) (q : DiskAt (From w.heap.size) x (w.heap.size + 2) (crashD (swapD a b) dirs [])) => read_prog q hokc.fine tTwo (by decide))
    rw [strL_one] at HRA
    rw [strL_two] at HRB
    clear hokc
    rcases swap_crash a b dirs with ⟨g1, g2⟩ | ⟨g1, g2⟩
    · -- the old one
      rw [g1] at HRA
      rw [g2] at HRB
      go_wp2_with fail
      refine (HRA.out _ HD10.out).mono ?_
      rintro e x1 ⟨v1, rfl, ho1, hbx1⟩
      obtain ⟨P1, k1, hv1, hp1, _⟩ := own_slice' ho1
      subst hv1
      have hDy := HD10.out.below hbx1
      have HRB2 := Lib.hid (HRB.out _ hDy)
      have HP1 := Lib.hid hp1
      have HBX := Lib.hid (HB10.out.trans (hbx1.mono HB10.out.size))
      clear ho1 hp1 hbx1 hDy
      go_wp2_with fail
      refine HRB2.out.mono ?_
      rintro e x2 ⟨v2, rfl, ho2, hbx2⟩
      obtain ⟨P2, k2, hv2, _, _⟩ := own_slice' ho2
      generalize (readD _ nTwo).1.length = l2 at hv2
      subst hv2
      have cv1 := conv_bys x2 P1 a k1 (HP1.out.below hbx2)
      have HBY := Lib.hid (HBX.out.trans (hbx2.mono HBX.out.size))
      have cva := conv_bys x2 A a ca (HA.out.below HBY.out)
      have cvb := conv_bys x2 B b cb (HBB.out.below HBY.out)
      have HL := Lib.hid (lives_true x2)
      have rr1 : ((txt a).toList == (txt a).toList) = true := by simp
      have rr2 : ((txt b).toList == (txt b).toList) = true := by simp
      clear ho2 hbx2
      cases hE : ((txt a).toList == (txt b).toList)
      · go_wp2_with fail
        refine HL.out.mono ?_
        rintro e x3 ⟨rfl, hb3⟩
        have HB3x := Lib.hid (HBY.out.trans (hb3.mono HBY.out.size))
        clear hb3
        go_wp2
        go_ret
        exact ⟨rfl, HB3x.out⟩
      · go_wp2_with fail
        refine HL.out.mono ?_
        rintro e x3 ⟨rfl, hb3⟩
        have HB3x := Lib.hid (HBY.out.trans (hb3.mono HBY.out.size))
        clear hb3
        go_wp2
        go_ret
        exact ⟨rfl, HB3x.out⟩
    · -- the new one
      rw [g1] at HRA
      rw [g2] at HRB
      go_wp2_with fail
      refine (HRA.out _ HD10.out).mono ?_
      rintro e x1 ⟨v1, rfl, ho1, hbx1⟩
      obtain ⟨P1, k1, hv1, hp1, _⟩ := own_slice' ho1
      subst hv1
      have hDy := HD10.out.below hbx1
      have HRB2 := Lib.hid (HRB.out _ hDy)
      have HP1 := Lib.hid hp1
      have HBX := Lib.hid (HB10.out.trans (hbx1.mono HB10.out.size))
      clear ho1 hp1 hbx1 hDy
      go_wp2_with fail
      refine HRB2.out.mono ?_
      rintro e x2 ⟨v2, rfl, ho2, hbx2⟩
      obtain ⟨P2, k2, hv2, _, _⟩ := own_slice' ho2
      generalize (readD _ nTwo).1.length = l2 at hv2
      subst hv2
      have cv1 := conv_bys x2 P1 b k1 (HP1.out.below hbx2)
      have HBY := Lib.hid (HBX.out.trans (hbx2.mono HBX.out.size))
      have cva := conv_bys x2 A a ca (HA.out.below HBY.out)
      have cvb := conv_bys x2 B b cb (HBB.out.below HBY.out)
      have HL := Lib.hid (lives_true x2)
      have rr1 : ((txt a).toList == (txt a).toList) = true := by simp
      have rr2 : ((txt b).toList == (txt b).toList) = true := by simp
      clear ho2 hbx2
      cases hE : ((txt b).toList == (txt a).toList)
      · go_wp2_with fail
        refine HL.out.mono ?_
        rintro e x3 ⟨rfl, hb3⟩
        have HB3x := Lib.hid (HBY.out.trans (hb3.mono HBY.out.size))
        clear hb3
        go_wp2
        go_ret
        exact ⟨rfl, HB3x.out⟩
      · go_wp2_with fail
        refine HL.out.mono ?_
        rintro e x3 ⟨rfl, hb3⟩
        have HB3x := Lib.hid (HBY.out.trans (hb3.mono HBY.out.size))
        clear hb3
        go_wp2
        go_ret
        exact ⟨rfl, HB3x.out⟩
  · -- sure
    have HC9 := syncdir_prog HD9.out (sok8 hs).fine ((sok8 hs).few (by decide)) [] [] []
    rw [sws_9 a b] at HC9
    have HK9 := Lib.hid HC9
    clear HC9
    go_wp2_with fail
    refine HK9.out.mono ?_
    rintro e w10 ⟨rfl, ha⟩
    obtain ⟨hDx, hbx⟩ := After.flat (B := w.heap.size) ha HB9.out.size
    have HD10 := Lib.hid hDx
    have HB10 := Lib.hid (HB9.out.trans hbx)
    clear ha hDx hbx
    have HR10 := crash_at HD10.out (sok9 hs) (by decide) dirs hd0 hd1 none [] 0 (.inl rfl) (.inl rfl) (by decide) (fun i hi => by simp at hi)
    have HK10 := Lib.hid HR10
    clear HR10
    go_wp2_with fail
    refine HK10.out.mono ?_
    rintro e w11 ⟨rfl, ha⟩
    obtain ⟨hDx, hbx⟩ := After.flat (B := w.heap.size) ha HB10.out.size
    have HD11 := Lib.hid hDx
    have HB11 := Lib.hid (HB10.out.trans hbx)
    clear ha hDx hbx
    have hokc := ok_crash (sok9 hs) dirs []
    have HRA := Lib.hid (fun (x : World) (q : DiskAt (From w.heap.size) x (w.heap.size + 2) (crashD (sw9 a b) dirs [])) => read_prog q hokc.fine tOne (by decide))
    have HRB := Lib.hid (fun (x : World) (q : DiskAt (From w.heap.size) x (w.heap.size + 2) (crashD (sw9 a b) dirs [])) => read_prog q hokc.fine tTwo (by decide))
    rw [strL_one] at HRA
    rw [strL_two] at HRB
    clear hokc
    obtain ⟨g1, g2⟩ := swap_crash_sync a b dirs
    change readD (crashD (sw9 a b) dirs []) nOne = (b, 0) at g1
    change (readD (crashD (sw9 a b) dirs []) nTwo).2 = 9 at g2
    rw [g1] at HRA
    rw [g2] at HRB
    go_wp2_with fail
    refine (HRA.out _ HD11.out).mono ?_
    rintro e x1 ⟨v1, rfl, ho1, hbx1⟩
    obtain ⟨P1, k1, hv1, hp1, _⟩ := own_slice' ho1
    subst hv1
    have hDy := HD11.out.below hbx1
    have HRB2 := Lib.hid (HRB.out _ hDy)
    have HP1 := Lib.hid hp1
    have HBX := Lib.hid (HB11.out.trans (hbx1.mono HB11.out.size))
    clear ho1 hp1 hbx1 hDy
    go_wp2_with fail
    refine HRB2.out.mono ?_
    rintro e x2 ⟨v2, rfl, ho2, hbx2⟩
    obtain ⟨P2, k2, hv2, _, _⟩ := own_slice' ho2
    generalize (readD _ nTwo).1.length = l2 at hv2
    subst hv2
    have cv1 := conv_bys x2 P1 b k1 (HP1.out.below hbx2)
    have HBY := Lib.hid (HBX.out.trans (hbx2.mono HBX.out.size))
    have cva := conv_bys x2 A a ca (HA.out.below HBY.out)
    have cvb := conv_bys x2 B b cb (HBB.out.below HBY.out)
    have HL := Lib.hid (lives_true x2)
    have rr1 : ((txt a).toList == (txt a).toList) = true := by simp
    have rr2 : ((txt b).toList == (txt b).toList) = true := by simp
    clear ho2 hbx2
    cases hE : ((txt b).toList == (txt a).toList)
    · go_wp2_with fail
      refine HL.out.mono ?_
      rintro e x3 ⟨rfl, hb3⟩
      have HB3x := Lib.hid (HBY.out.trans (hb3.mono HBY.out.size))
      clear hb3
      go_wp2
      go_ret
      exact ⟨rfl, HB3x.out⟩
    · go_wp2_with fail
      refine HL.out.mono ?_
      rintro e x3 ⟨rfl, hb3⟩
      have HB3x := Lib.hid (HBY.out.trans (hb3.mono HBY.out.size))
      clear hb3
      go_wp2
      go_ret
      exact ⟨rfl, HB3x.out⟩
theorem diskSwaps_walk (w : World) (A : Option Addr) (a : List UInt8) (ca : Nat) (hA : Bys w A a) (hra : a.length ≤ 140737488351232) (hla : a.length ≤ ca) (B : Option Addr) (b : List UInt8) (cb : Nat) (hB : Bys w B b) (hrb : b.length ≤ 140737488351232) (hlb : b.length ≤ cb) (dirs : Int) (hd : -9223372036854775808 ≤ dirs ∧ dirs ≤ 9223372036854775807) (sure : Bool) :
    Calls Try.prog 7 #[.slice A a.length ca, .slice B b.length cb, .int .i64 dirs, .bool sure] w fun e w' => e = .returned (.bool true) ∧ Below w.heap.size w w' := by
  by_cases hbig : 100000 < a.length + b.length
  · exact swaps_big w A a ca B b cb hra hrb dirs sure hbig
  · exact swaps_go w A a ca hA B b cb hB dirs hd.1 hd.2 sure (by omega)
end Go.Proofs.Ytnkbehjjblmihaa
