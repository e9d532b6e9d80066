/- The walk of a law of layer 1: numbers that are put one behind the other are got one by one, and then there is nothing more. -/
import Derived.Test.YtbeccnkofanppaaBitOpen
import Derived.Test.YtbeccnkofanppaaBitRowsMath
import Derived.Deep.RegionHeld3
import Derived.Deep.DeepCutAuto
namespace Go.Proofs.Ytbeccnkofanppaa
open Go.RowKit
set_option linter.unusedVariables false

/-- The numbers us stand from the address A on. -/
def Nums (w : World) (A : Option Addr) (us : List Nat) : Prop :=
  us = [] ∨ ∃ b o, A = some ⟨b, o, none⟩ ∧ b < w.heap.size ∧ ∀ i, i < us.length → w.cell? ⟨b, o + i, none⟩ = some (.int .u64 (us.getD i 0 : Int))
theorem Nums.below {w w' : World} {A : Option Addr} {us : List Nat} (h : Nums w A us) (hb : Below w.heap.size w w') : Nums w' A us := by
  rcases h with rfl | ⟨b, o, rfl, hlt, hc⟩
  · exact .inl rfl
  · exact .inr ⟨b, o, rfl, by have := hb.size; omega, fun i hi => (hb.cell (p := ⟨b, o + i, none⟩) hlt).trans (hc i hi)⟩
theorem Bys.setAway {w : World} {V : Option Addr} {l : List UInt8} (h : Bys w V l) {p : Addr} (hp : ∀ ad, V = some ad → ad.block ≠ p.block) (u : Value) : Bys (w.setCell p u) V l := by
  rcases h with rfl | ⟨b, o, rfl, hb, hc⟩
  · exact .inl rfl
  · exact .inr ⟨b, o, rfl, by simpa [World.setCell] using hb, fun i hi => (World.cell?_of_block (w := w) (a := ⟨b, o + i, none⟩) (Below.heap_setCell w p u b (hp _ rfl))).trans (hc i hi)⟩
theorem putnum_end (us : List Nat) (hu : ∀ k, us.getD k 0 ≤ 18446744073709551615) (V : Option Addr) (c k : Nat) (w : World) (hV : Bys w V (st us k).1) (hk : k ≤ 17592186044416) :
    Calls Try.prog 27 #[.agg #[.slice V (st us k).1.length c, .int .i64 (st us k).2], .int .u64 (us.getD k 0)] w fun e w' => ∃ G,
      e = .returned (.tuple #[.agg #[.slice (some ⟨G, 0, none⟩) (st us (k + 1)).1.length (st us (k + 1)).1.length, .int .i64 (st us (k + 1)).2], .int .i64 0]) ∧
      Bys w' (some ⟨G, 0, none⟩) (st us (k + 1)).1 ∧ Below w.heap.size w w' ∧ w.heap.size ≤ G := by
  obtain ⟨h1, h2, _⟩ := st_ok us hu k
  have hl := (rightB_iff.1 h1).2.1
  rw [Int.toNat_natCast] at hl
  exact (putnum_ok V (st us k).1 c (st us k).2 (us.getD k 0) w hV (by omega) (hu k) h1).mono fun e w' ⟨G, he, hG, hb, hg⟩ => ⟨G, he, hG.bys, hb, hg⟩
theorem getnum_st (us : List Nat) (hu : ∀ k, us.getD k 0 ≤ 18446744073709551615) (V : Option Addr) (c n k : Nat) (w : World) (hV : Bys w V (st us n).1) (hn : n ≤ 17592186044416) (hk : k < n) :
    Calls Try.prog 29 #[.agg #[.slice V (st us n).1.length c, .int .i64 (st us n).2], .int .i64 (st us k).2] w fun e w' =>
      e = .returned (.tuple #[.int .u64 (us.getD k 0), .int .i64 (st us (k + 1)).2, .int .i64 0]) ∧ Below w.heap.size w w' := by
  obtain ⟨h1, h2, h3⟩ := st_ok us hu n
  have hl := (rightB_iff.1 h1).2.1
  rw [Int.toNat_natCast] at hl
  have := getnum_prog V (st us n).1 c (st us n).2 (st us k).2 w hV (by omega) (by omega) (by omega)
  rw [gnum_has h1 (h3 k hk).1 (hu k) (h3 k hk).2] at this
  exact this
theorem getnum_stop (us : List Nat) (hu : ∀ k, us.getD k 0 ≤ 18446744073709551615) (V : Option Addr) (c n : Nat) (w : World) (hV : Bys w V (st us n).1) (hn : n ≤ 17592186044416) :
    Calls Try.prog 29 #[.agg #[.slice V (st us n).1.length c, .int .i64 (st us n).2], .int .i64 (st us n).2] w fun e w' =>
      e = .returned (.tuple #[.int .u64 0, .int .i64 0, .int .i64 4]) ∧ Below w.heap.size w w' := by
  obtain ⟨h1, h2, h3⟩ := st_ok us hu n
  have hl := (rightB_iff.1 h1).2.1
  rw [Int.toNat_natCast] at hl
  have := getnum_prog V (st us n).1 c (st us n).2 (st us n).2 w hV (by omega) (by omega) (by omega)
  rw [gnum_end h1] at this
  exact this

set_option maxHeartbeats 1000000 in
theorem bitsRows_walk (w : World) (A : Option Addr) (us : List Nat) (c : Nat) (hA : Nums w A us) (hr : us.length ≤ 17592186044416) (hu : ∀ k, us.getD k 0 ≤ 18446744073709551615) :
    Calls Try.prog 9 #[.slice A us.length c] w fun e w' => e = .returned (.bool true) ∧ Below w.heap.size w w' := by
  have HU := Lib.hid hu
  clear hu
  go_enter Try.func9, Try.ntmps9
  go_wp2
  go_loopw [4] (fun i wr => ∃ (k : Nat) (V : Option Addr) (cc : Nat), k ≤ us.length ∧ i = .int .i64 k ∧ Row wr w.heap.size 24 #[.slice V (st us k).1.length cc, .int .i64 (st us k).2] ∧ Bys wr V (st us k).1 ∧
    Hid (∀ ad, V = some ad → ad.block ≠ w.heap.size) ∧ Below w.heap.size w wr) (fun i _ => us.length - (intOf i).toNat)
  case atStart => exact ⟨0, none, 0, Nat.zero_le _, rfl, Row.new w _ _, Bys.empty _ _, Lib.hid (fun ad h => by cases h), below_one _ _⟩
  case round =>
    obtain ⟨k, V, cc, hk, rfl, hX, hV, hne, hbr⟩ := hrel
    have x0 : wr.cell? ⟨w.heap.size, 0, none⟩ = some (.slice V (st us k).1.length cc) := hX.cell 0
    have x1 : wr.cell? ⟨w.heap.size, 1, none⟩ = some (.int .i64 (st us k).2) := hX.cell 1
    have HX := Lib.hid hX
    clear hX
    by_cases hlt : k < us.length
    · obtain ⟨b, o, rfl, hb, hc⟩ := (hA.below hbr).resolve_left (by intro h; rw [h] at hlt; simp at hlt)
      have hck := hc k hlt
      have HE := Lib.hid (putnum_end us HU.out V cc k)
      clear hc
      have hk1 : Hid (k ≤ 17592186044416) := Lib.hid (by omega)
      have HV1 := Lib.hid (show ∀ o, Bys (wr.alloc o).drew V (st us k).1 from fun o => hV.alloc o)
      have HXd : Row wr.drew w.heap.size 24 #[.slice V (st us k).1.length cc, .int .i64 (st us k).2] := HX.out
      have HXD := Lib.hid HXd
      clear HXd
      have RY0 : Row (wr.alloc (.cells #[.slice none 0 0, .int .i64 0] 24)).drew wr.heap.size 24 #[.slice none 0 0, .int .i64 0] := Row.new wr _ _
      have RY := Lib.hid RY0
      clear RY0
      have HX1 := Lib.hid (show ∀ o, Row (wr.alloc o).drew w.heap.size 24 _ from fun o => HX.out.alloc o)
      have HW1 := Lib.hid (show ∀ o, Below w.heap.size w (wr.alloc o).drew from fun o => (hbr.alloc hbr.size o).drew)
      have hxs := HX.out.lt
      generalize us.getD k 0 = u at *
      generalize hL : (st us k).1 = L at *
      generalize hM : (st us k).2 = M at *
      generalize hL' : (st us (k + 1)).1 = L' at *
      generalize hM' : (st us (k + 1)).2 = M' at *
      have Heq := Lib.hid (And.intro hL (And.intro hM (And.intro hL' hM')))
      clear hL hM hL' hM'
      go_upto_region 5 with fail
      go_cut [5, 6] (fun s5 s6 wx => ∃ Y G : Nat, s5 = .pointer (some ⟨Y, 0, none⟩) ∧ s6 = .int .i64 0 ∧ Row wx Y 24 #[.slice (some ⟨G, 0, none⟩) L'.length L'.length, .int .i64 M'] ∧
        Bys wx (some ⟨G, 0, none⟩) L' ∧ G ≠ w.heap.size ∧ Y ≠ w.heap.size ∧ Row wx w.heap.size 24 #[.slice V L.length cc, .int .i64 M] ∧ Below w.heap.size w wx)
      case first =>
        go_region_held3 (fun w' => w'.cell? ⟨w.heap.size, 0, none⟩ = some (.slice V L.length cc) ∧ w'.cell? ⟨w.heap.size, 1, none⟩ = some (.int .i64 M) ∧ w'.cell? ⟨b, o + k, none⟩ = some (.int .u64 u))
          (first | exact y0 | exact y1 | exact y2 | exact zz0 _ _ | exact zz1 _ _ | exact zz2 _ _ | go_keep)
          (first
            | (go_at_call 27
               refine (HE.out _ (by first | exact hV | exact HV1.out _) hk1.out).mono ?_
               rintro e w2 ⟨G, rfl, hG, hb2, hGw⟩
               have y0 : w2.cell? ⟨w.heap.size, 0, none⟩ = some (.slice V L.length cc) := by first | exact (HXD.out.below hb2 hxs).cell 0 | exact ((HX1.out _).below hb2 (HX1.out _).lt).cell 0
               have y1 : w2.cell? ⟨w.heap.size, 1, none⟩ = some (.int .i64 M) := by first | exact (HXD.out.below hb2 hxs).cell 1 | exact ((HX1.out _).below hb2 (HX1.out _).lt).cell 1
               have y2 : w2.cell? ⟨b, o + k, none⟩ = some (.int .u64 u) := by first | exact (hb2.cell (p := ⟨b, o + k, none⟩) hb).trans hck | exact (hb2.cell (p := ⟨b, o + k, none⟩) (by show b < _; simp; omega)).trans ((World.cell?_alloc_past _ _ _ hb).trans hck)
               have RXK := Lib.hid (show Row w2 w.heap.size 24 #[.slice V L.length cc, .int .i64 M] by first | exact HXD.out.below hb2 hxs | exact (HX1.out _).below hb2 (HX1.out _).lt)
               have HB := Lib.hid (show Below w.heap.size w w2 by first | exact below_then hbr.drew hb2 | exact below_then (HW1.out _) hb2)
               have hGx : wr.heap.size ≤ G := by first | exact hGw | exact Nat.le_trans (by simp) hGw
               first
                 | (have rY : Row w2 wr.heap.size 24 #[.slice none 0 0, .int .i64 0] := RY.out.below hb2 RY.out.lt
                    have yy0 : w2.cell? ⟨wr.heap.size, 0, none⟩ = some (.slice none 0 0) := rY.cell 0
                    have yy1 : w2.cell? ⟨wr.heap.size, 1, none⟩ = some (.int .i64 0) := rY.cell 1
                    have yf0 := rY.frozen 0
                    have yf1 := rY.frozen 1
                    have rX : Row w2 w.heap.size 24 #[.slice V L.length cc, .int .i64 M] := (HX1.out _).below hb2 (HX1.out _).lt
                    have zz0 : ∀ v v', ((w2.setCell ⟨wr.heap.size, 0, none⟩ v).setCell ⟨wr.heap.size, 1, none⟩ v').cell? ⟨w.heap.size, 0, none⟩ = some (.slice V L.length cc) := fun v v' => ((rX.setFar (p := ⟨wr.heap.size, 0, none⟩) (by show w.heap.size ≠ wr.heap.size; omega) v).setFar (p := ⟨wr.heap.size, 1, none⟩) (by show w.heap.size ≠ wr.heap.size; omega) v').cell 0
                    have zz1 : ∀ v v', ((w2.setCell ⟨wr.heap.size, 0, none⟩ v).setCell ⟨wr.heap.size, 1, none⟩ v').cell? ⟨w.heap.size, 1, none⟩ = some (.int .i64 M) := fun v v' => ((rX.setFar (p := ⟨wr.heap.size, 0, none⟩) (by show w.heap.size ≠ wr.heap.size; omega) v).setFar (p := ⟨wr.heap.size, 1, none⟩) (by show w.heap.size ≠ wr.heap.size; omega) v').cell 1
                    have zz2 : ∀ v v', ((w2.setCell ⟨wr.heap.size, 0, none⟩ v).setCell ⟨wr.heap.size, 1, none⟩ v').cell? ⟨b, o + k, none⟩ = some (.int .u64 u) := fun v v' => ((World.cell?_of_block (w := w2.setCell ⟨wr.heap.size, 0, none⟩ v) (a := ⟨b, o + k, none⟩) (Below.heap_setCell _ ⟨wr.heap.size, 1, none⟩ _ b (by show b ≠ wr.heap.size; omega))).trans (World.cell?_of_block (w := w2) (a := ⟨b, o + k, none⟩) (Below.heap_setCell _ ⟨wr.heap.size, 0, none⟩ _ b (by show b ≠ wr.heap.size; omega)))).trans y2
                    have hGy : wr.heap.size + 1 ≤ G := by simpa using hGw
                    have RYK := Lib.hid rY
                    clear rX rY)
                 | skip))
        all_goals (go_wp2_with fail; go_meet)
        all_goals have hlt2 := RXK.out.lt
        · exact ⟨_, G, rfl, rfl, Row.new w2 _ _, hG.alloc _, by omega, by omega, RXK.out.alloc _, HB.out.alloc HB.out.size _⟩
        · exact ⟨_, G, rfl, rfl, (RYK.out.setAt 0 (.slice (some ⟨G, 0, none⟩) L'.length L'.length)).setAt 1 (.int .i64 M'),
            (hG.setAway (p := ⟨wr.heap.size, 0, none⟩) (fun ad h => by injection h with h; subst h; show G ≠ wr.heap.size; omega) _).setAway (p := ⟨wr.heap.size, 1, none⟩) (fun ad h => by injection h with h; subst h; show G ≠ wr.heap.size; omega) _, by omega, by omega,
            (RXK.out.setFar (p := ⟨wr.heap.size, 0, none⟩) (by show w.heap.size ≠ wr.heap.size; omega) _).setFar (p := ⟨wr.heap.size, 1, none⟩) (by show w.heap.size ≠ wr.heap.size; omega) _,
            (HB.out.setCell (p := ⟨wr.heap.size, 0, none⟩) (by show _ ≤ wr.heap.size; omega) _).setCell (p := ⟨wr.heap.size, 1, none⟩) (by show _ ≤ wr.heap.size; omega) _⟩
      case rest =>
        obtain ⟨Y, G, rfl, rfl, hY, hG, hGX, hYX, hX, hbx⟩ := hcut
        have y0 : wc.cell? ⟨Y, 0, none⟩ = some (.slice (some ⟨G, 0, none⟩) L'.length L'.length) := hY.cell 0
        have y1 : wc.cell? ⟨Y, 1, none⟩ = some (.int .i64 M') := hY.cell 1
        have z0 : wc.cell? ⟨w.heap.size, 0, none⟩ = some (.slice V L.length cc) := hX.cell 0
        have z1 : wc.cell? ⟨w.heap.size, 1, none⟩ = some (.int .i64 M) := hX.cell 1
        have f0 := hX.frozen 0
        have f1 := hX.frozen 1
        have R1 := Lib.hid ((hX.setAt 0 (.slice (some ⟨G, 0, none⟩) L'.length L'.length)).setAt 1 (.int .i64 M'))
        clear hX hY x0 x1
        go_wp2
        go_roundw
        case rel =>
          refine ⟨k + 1, some ⟨G, 0, none⟩, L'.length, by omega, by go_num, ?_, ?_, ?_, (hbx.setCell (p := ⟨w.heap.size, 0, none⟩) (Nat.le_refl _) _).setCell (p := ⟨w.heap.size, 1, none⟩) (Nat.le_refl _) _⟩
          · rw [Heq.out.2.2.1, Heq.out.2.2.2]
            exact R1.out
          · rw [Heq.out.2.2.1]
            exact (hG.setAway (p := ⟨w.heap.size, 0, none⟩) (fun ad h => by injection h with h; subst h; exact hGX) _).setAway (p := ⟨w.heap.size, 1, none⟩) (fun ad h => by injection h with h; subst h; exact hGX) _
          · exact fun ad h => by injection h with h; subst h; exact hGX
        case measure => simp [intOf]; omega
    · obtain rfl : k = us.length := by omega
      have hxlt := HX.out.lt
      go_wp2
      go_loopw [7, 8] (fun at_ i ws => ∃ j : Nat, j ≤ us.length ∧ at_ = .int .i64 (st us j).2 ∧ i = .int .i64 j ∧ Below wr.heap.size wr ws) (fun _ i _ => us.length - (intOf i).toNat)
      case atStart => exact ⟨0, Nat.zero_le _, rfl, rfl, Below.refl _ _⟩
      case round =>
        obtain ⟨j, hj, rfl, rfl, hbs⟩ := hrel
        have x0s := (hbs.cell (p := ⟨w.heap.size, 0, none⟩) hxlt).trans x0
        have x1s := (hbs.cell (p := ⟨w.heap.size, 1, none⟩) hxlt).trans x1
        have hVs := hV.below hbs
        by_cases hjl : j < us.length
        · obtain ⟨b, o, rfl, hb, hc⟩ := ((hA.below hbr).below hbs).resolve_left (by intro h; rw [h] at hjl; simp at hjl)
          have hcj := hc j hjl
          have HE := Lib.hid (fun W hW => getnum_st us HU.out V cc us.length j W hW hr hjl)
          have hpp : (st us j).2 < (st us (j + 1)).2 := by show _ < (st us j).2 + (7 + digs (us.getD j 0)); omega
          have hp1 := (st_ok us HU.out (j + 1)).2.1
          clear hc x0 x1
          generalize us.getD j 0 = u at *
          generalize hp : (st us j).2 = p at *
          generalize hp' : (st us (j + 1)).2 = p' at *
          have Hp' := Lib.hid hp'
          clear hp hp'
          have q1 : ((u : Int) != (u : Int)) = false := by simp
          have q2 : decide (p' ≤ p) = false := by simp; omega
          go_wp2_with fail
          refine (HE.out _ hVs).mono ?_
          rintro e w5 ⟨rfl, hb5⟩
          have hcj5 := (hb5.cell (p := ⟨b, o + j, none⟩) hb).trans hcj
          go_wp2
          go_roundw
          case rel => exact ⟨j + 1, by omega, by rw [Hp'.out], by go_num, below_then hbs hb5⟩
          case measure => simp [intOf]; omega
        · obtain rfl : j = us.length := by omega
          have HE := Lib.hid (fun W hW => getnum_stop us HU.out V cc us.length W hW hr)
          generalize hp : (st us us.length).2 = p at *
          clear hp
          go_wp2_with fail
          refine (HE.out _ hVs).mono ?_
          rintro e w5 ⟨rfl, hb5⟩
          have x1t := (hb5.cell (p := ⟨w.heap.size, 1, none⟩) (by have := hbs.size; show w.heap.size < _; omega)).trans x1s
          go_wp2_with fail
          refine (lives_true _).mono ?_
          rintro e w6 ⟨rfl, hb6⟩
          go_wp2
          go_ret
          exact ⟨rfl, below_then (below_then (below_then hbr hbs) hb5) hb6⟩
end Go.Proofs.Ytbeccnkofanppaa
