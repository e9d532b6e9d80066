/- A value laid behind a text as it stands between its marks: as the program does it. -/
import Derived.Test.YtnhaehjkepmbaaaDoorLtLotL
import Derived.Deep.Cut
import Derived.Deep.RegionHeld3
import Derived.Deep.RegionLaw
namespace Go.Proofs.YtnhaehjkepmbaaaDoor
open Go.RowKit
set_option linter.unusedVariables false

theorem row_bys1 {w : World} {g : Nat} {c : UInt8} (h : Row w g 5 #[.int .u8 (c.toNat : Int)]) : Bys w (some ⟨g, 0, none⟩) [c] := Row.bys (l := [c]) h
theorem row_bys2 {w : World} {g : Nat} {c : UInt8} (h : Row w g 5 #[.int .u8 92, .int .u8 (c.toNat : Int)]) : Bys w (some ⟨g, 0, none⟩) [92, c] := Row.bys (l := [92, c]) h
theorem row_bys4 {w : World} {g : Nat} {c d : UInt8} (h : Row w g 5 #[.int .u8 92, .int .u8 120, .int .u8 (c.toNat : Int), .int .u8 (d.toNat : Int)]) : Bys w (some ⟨g, 0, none⟩) [92, 120, c, d] := Row.bys (l := [92, 120, c, d]) h

theorem hex_at (q : Nat) (h : q < 16) : (({ data := #[48, 49, 50, 51, 52, 53, 54, 55, 56, 57, 97, 98, 99, 100, 101, 102] } : ByteArray)[q]'h).toNat = (hexD q).toNat := by
  have : q = 0 ∨ q = 1 ∨ q = 2 ∨ q = 3 ∨ q = 4 ∨ q = 5 ∨ q = 6 ∨ q = 7 ∨ q = 8 ∨ q = 9 ∨ q = 10 ∨ q = 11 ∨ q = 12 ∨ q = 13 ∨ q = 14 ∨ q = 15 := by omega
  rcases this with rfl | rfl | rfl | rfl | rfl | rfl | rfl | rfl | rfl | rfl | rfl | rfl | rfl | rfl | rfl | rfl <;> rfl
theorem esc_prog (base : Nat) (v : Value) (x : List UInt8) (s : ByteArray) (w : World) (hown : Own w base v x) (hbase : base ≤ w.heap.size) (hx : x.length + 4 * s.size ≤ 211106232532992) :
    Calls Tryd.prog 14 #[v, .string s] w fun e w' => ∃ v', e = .returned v' ∧ Own w' base v' (x ++ escL (strL s)) ∧ Below base w w' := by
  go_enter Tryd.func14, Tryd.ntmps14
  go_wp2_with fail
  go_loopw [9, 0] (fun i u wr => ∃ k : Nat, k ≤ s.size ∧ i = .int .i64 (k : Int) ∧ Own wr base u (x ++ escL ((strL s).take k)) ∧ Below base w wr) (fun i _ _ => s.size - (intOf i).toNat)
  case atStart => exact ⟨0, Nat.zero_le _, rfl, by simpa [escL] using hown, Below.refl _ _⟩
  case round =>
    obtain ⟨k, hk, rfl, ho, hbr⟩ := hrel
    by_cases hlt : k < s.size
    · have HT := Lib.hid (escL_snoc s hlt)
      rw [strL_get s hlt] at HT
      have hlen := escL_take_len s k hk
      have hc := s[k].toNat_lt
      by_cases h1 : s[k].toNat = 34 ∨ s[k].toNat = 92
      · have hb : escB s[k] = [92, s[k]] := by unfold escB; rw [if_pos h1]
        rw [hb] at HT
        have HLN := Lib.hid (show (x ++ escL ((strL s).take k)).length + 2 ≤ 211106232532992 by rw [List.length_append]; omega)
        have HBR := Lib.hid hbr
        have hsz := Nat.le_trans hbase hbr.size
        have HOr := Lib.hid ho
        clear hb hlen ho hbr hown
        rcases h1 with h1 | h1
        · have i1 : ((s[k].toNat : Int) == 34) = true := by rw [h1]; rfl
          clear h1
          go_wp2_with (at_builtin; refine app_u8 rfl (.tmp 26) (.tmp 28) rfl base _ _ rfl (own_alloc HOr.out _) _ [92, s[k]] 2 rfl (row_bys2 (Row.new _ _ _)) HLN.out (Nat.le_trans hsz (by simp)) ?_; intro v1 w1 hown1 hb1 _; have HO1 := Lib.hid hown1; have HB1 := Lib.hid ((HBR.out.alloc hsz _).trans hb1); clear hown1 hb1)
          go_roundw
          case rel => exact ⟨k + 1, by omega, by go_num, by rw [HT.out, ← List.append_assoc]; exact HO1.out, HB1.out⟩
          case measure => simp [intOf]; omega
        · have i1 : ((s[k].toNat : Int) == 34) = false := by rw [h1]; rfl
          have i2 : ((s[k].toNat : Int) == 92) = true := by rw [h1]; rfl
          clear h1
          go_wp2_with (at_builtin; refine app_u8 rfl (.tmp 26) (.tmp 28) rfl base _ _ rfl (own_alloc HOr.out _) _ [92, s[k]] 2 rfl (row_bys2 (Row.new _ _ _)) HLN.out (Nat.le_trans hsz (by simp)) ?_; intro v1 w1 hown1 hb1 _; have HO1 := Lib.hid hown1; have HB1 := Lib.hid ((HBR.out.alloc hsz _).trans hb1); clear hown1 hb1)
          go_roundw
          case rel => exact ⟨k + 1, by omega, by go_num, by rw [HT.out, ← List.append_assoc]; exact HO1.out, HB1.out⟩
          case measure => simp [intOf]; omega
      · have i1 : ((s[k].toNat : Int) == 34) = false := by rw [beq_eq_false_iff_ne]; omega
        have i2 : ((s[k].toNat : Int) == 92) = false := by rw [beq_eq_false_iff_ne]; omega
        by_cases h2 : s[k].toNat < 32 ∨ 126 < s[k].toNat
        · have hb : escB s[k] = [92, 120, hexD (s[k].toNat / 16), hexD (s[k].toNat % 16)] := by unfold escB; rw [if_neg h1, if_pos h2]
          rw [hb] at HT
          clear hb
          rcases h2 with h2 | h2
          · have i3 : decide ((s[k].toNat : Int) < 32) = true := by simp; omega
            obtain ⟨q, hq⟩ : ∃ q, s[k].toNat / 16 = q := ⟨_, rfl⟩
            obtain ⟨r, hr⟩ : ∃ r, s[k].toNat % 16 = r := ⟨_, rfl⟩
            rw [hq, hr] at HT
            have j1 : ((s[k].toNat : Int)).tdiv 16 = (q : Int) := by rw [← hq]; rfl
            have j2 : ((s[k].toNat : Int)).tmod 16 = (r : Int) := by rw [← hr]; rfl
            have j3 : IntKind.u8.wrap (q : Int) = q := by rw [IntKind.wrap_u8]; omega
            have j4 : IntKind.u8.wrap (r : Int) = r := by rw [IntKind.wrap_u8]; omega
            have lq : q < 16 := by omega
            have lr : r < 16 := by omega
            have eq1 := hex_at q lq
            have er1 := hex_at r lr
            have lq2 : (q : Int) < 16 := by omega
            have lr2 : (r : Int) < 16 := by omega
            generalize hexD q = hx1 at *
            generalize hexD r = hx2 at *
            have HO : Hid (∀ o, Own ((wr.alloc o).drew) base u0 (x ++ escL ((strL s).take k))) := Lib.hid (fun o => own_below ho ((below_one wr o).drew))
            have HB : Hid (Bys ((wr.alloc (.cells #[.int .u8 92, .int .u8 120, .int .u8 (hx1.toNat : Int), .int .u8 (hx2.toNat : Int)] 5)).drew) (some ⟨wr.heap.size, 0, none⟩) [92, 120, hx1, hx2]) := Lib.hid (row_bys4 (Row.new wr _ _))
            have HBR : Hid (∀ o, Below base w ((wr.alloc o).drew)) := Lib.hid (fun o => (hbr.alloc (Nat.le_trans hbase hbr.size) o).drew)
            have HK : Hid (∀ k, u0.ownBlock = some k → base ≤ k) := Lib.hid (fun k hk => (World.ownsRow.lt ho _ hk).1)
            have HS : Hid (∀ o, base ≤ ((wr.alloc o).drew).heap.size) := Lib.hid (fun o => by have := hbr.size; simp; omega)
            have HLN := Lib.hid (show (x ++ escL ((strL s).take k)).length + [92, 120, hx1, hx2].length ≤ 211106232532992 by rw [List.length_append]; simp only [List.length_cons, List.length_nil]; omega)
            clear h1 h2 hq hr ho hbr hown
            obtain ⟨i0, hi, hz0, hz1, hz2⟩ := info_parts u8_info
            go_upto_region 9 with fail
            go_region_law (refine step_app _ rfl (.tmp 37) (.tmp 44) 39 rfl base i0 Tryd.underlying39 hi hz0 hz1 hz2 u0 (x ++ escL ((strL s).take k)) rfl (HO.out _) (some ⟨wr.heap.size, 0, none⟩) [92, 120, hx1, hx2] 4 rfl HB.out HLN.out (HS.out _) ?_; intro v1 w1 hown1 hg1 _; have HO1 := Lib.hid hown1; have HB1 := Lib.hid (Below.grown (HBR.out _) hg1 (HS.out _) HK.out); clear hown1 hg1)
            all_goals
              go_wp2_with fail
              go_roundw
              case rel => exact ⟨k + 1, by omega, by go_num, by rw [HT.out, ← List.append_assoc]; exact HO1.out, HB1.out⟩
              case measure => simp [intOf]; omega
          · have i3 : decide ((s[k].toNat : Int) < 32) = false := by simp; omega
            have i4 : decide ((126 : Int) < (s[k].toNat : Int)) = true := by simp; omega
            obtain ⟨q, hq⟩ : ∃ q, s[k].toNat / 16 = q := ⟨_, rfl⟩
            obtain ⟨r, hr⟩ : ∃ r, s[k].toNat % 16 = r := ⟨_, rfl⟩
            rw [hq, hr] at HT
            have j1 : ((s[k].toNat : Int)).tdiv 16 = (q : Int) := by rw [← hq]; rfl
            have j2 : ((s[k].toNat : Int)).tmod 16 = (r : Int) := by rw [← hr]; rfl
            have j3 : IntKind.u8.wrap (q : Int) = q := by rw [IntKind.wrap_u8]; omega
            have j4 : IntKind.u8.wrap (r : Int) = r := by rw [IntKind.wrap_u8]; omega
            have lq : q < 16 := by omega
            have lr : r < 16 := by omega
            have eq1 := hex_at q lq
            have er1 := hex_at r lr
            have lq2 : (q : Int) < 16 := by omega
            have lr2 : (r : Int) < 16 := by omega
            generalize hexD q = hx1 at *
            generalize hexD r = hx2 at *
            have HO : Hid (∀ o, Own ((wr.alloc o).drew) base u0 (x ++ escL ((strL s).take k))) := Lib.hid (fun o => own_below ho ((below_one wr o).drew))
            have HB : Hid (Bys ((wr.alloc (.cells #[.int .u8 92, .int .u8 120, .int .u8 (hx1.toNat : Int), .int .u8 (hx2.toNat : Int)] 5)).drew) (some ⟨wr.heap.size, 0, none⟩) [92, 120, hx1, hx2]) := Lib.hid (row_bys4 (Row.new wr _ _))
            have HBR : Hid (∀ o, Below base w ((wr.alloc o).drew)) := Lib.hid (fun o => (hbr.alloc (Nat.le_trans hbase hbr.size) o).drew)
            have HK : Hid (∀ k, u0.ownBlock = some k → base ≤ k) := Lib.hid (fun k hk => (World.ownsRow.lt ho _ hk).1)
            have HS : Hid (∀ o, base ≤ ((wr.alloc o).drew).heap.size) := Lib.hid (fun o => by have := hbr.size; simp; omega)
            have HLN := Lib.hid (show (x ++ escL ((strL s).take k)).length + [92, 120, hx1, hx2].length ≤ 211106232532992 by rw [List.length_append]; simp only [List.length_cons, List.length_nil]; omega)
            clear h1 h2 hq hr ho hbr hown
            obtain ⟨i0, hi, hz0, hz1, hz2⟩ := info_parts u8_info
            go_upto_region 9 with fail
            go_region_law (refine step_app _ rfl (.tmp 37) (.tmp 44) 39 rfl base i0 Tryd.underlying39 hi hz0 hz1 hz2 u0 (x ++ escL ((strL s).take k)) rfl (HO.out _) (some ⟨wr.heap.size, 0, none⟩) [92, 120, hx1, hx2] 4 rfl HB.out HLN.out (HS.out _) ?_; intro v1 w1 hown1 hg1 _; have HO1 := Lib.hid hown1; have HB1 := Lib.hid (Below.grown (HBR.out _) hg1 (HS.out _) HK.out); clear hown1 hg1)
            all_goals
              go_wp2_with fail
              go_roundw
              case rel => exact ⟨k + 1, by omega, by go_num, by rw [HT.out, ← List.append_assoc]; exact HO1.out, HB1.out⟩
              case measure => simp [intOf]; omega
        · have hb : escB s[k] = [s[k]] := by unfold escB; rw [if_neg h1, if_neg h2]
          rw [hb] at HT
          have i3 : decide ((s[k].toNat : Int) < 32) = false := by simp; omega
          have i4 : decide ((126 : Int) < (s[k].toNat : Int)) = false := by simp; omega
          have HLN := Lib.hid (show (x ++ escL ((strL s).take k)).length + 1 ≤ 211106232532992 by rw [List.length_append]; omega)
          have HBR := Lib.hid hbr
          have hsz := Nat.le_trans hbase hbr.size
          have HOr := Lib.hid ho
          clear hb hlen ho hbr hown h1 h2
          go_wp2_with (at_builtin; refine app_u8 rfl (.tmp 15) (.tmp 17) rfl base _ _ rfl (own_alloc HOr.out _) _ [s[k]] 1 rfl (row_bys1 (Row.new _ _ _)) HLN.out (Nat.le_trans hsz (by simp)) ?_; intro v1 w1 hown1 hb1 _; have HO1 := Lib.hid hown1; have HB1 := Lib.hid ((HBR.out.alloc hsz _).trans hb1); clear hown1 hb1)
          go_roundw
          case rel => exact ⟨k + 1, by omega, by go_num, by rw [HT.out, ← List.append_assoc]; exact HO1.out, HB1.out⟩
          case measure => simp [intOf]; omega
    · obtain rfl : k = s.size := by omega
      rw [List.take_of_length_le (by rw [strL_length]; exact Nat.le_refl _)] at ho
      go_wp2_with fail
      go_ret
      exact ⟨_, rfl, ho, hbr⟩
end Go.Proofs.YtnhaehjkepmbaaaDoor
