/- In one text, written by lotify.py: FrGet, FrPut. -/
import Derived.Test.YtmgolnlkepiocaaGreatWaLotA
import Derived.Test.YtmgolnlkepiocaaGreatWaLotE
import Derived.Test.YtmgolnlkepiocaaGreatWaLotB
import Derived.Deep.QuietTactic
import Derived.BigQuiet
namespace Go.Proofs.YtmgolnlkepiocaaGreat
open Go.RowKit
set_option linter.unusedVariables false

theorem u32_or_step (y x k : Nat) (hy : y < 2 ^ (8 * k)) (hx : x < 256) (hk : k < 4) : bits BinOp.or IntKind.u32 (y : Int) ((x : Int) * 2 ^ (8 * k) % 4294967296) = ((y + x * 2 ^ (8 * k) : Nat) : Int) := by
  have hp : 2 ^ (8 * k) * 256 ≤ 2 ^ 32 := by
    rw [show (256 : Nat) = 2 ^ 8 from rfl, ← Nat.pow_add]
    exact Nat.pow_le_pow_right (by omega) (by omega)
  have h4 : x * 2 ^ (8 * k) ≤ 255 * 2 ^ (8 * k) := Nat.mul_le_mul_right _ (by omega)
  have e : (x : Int) * 2 ^ (8 * k) % 4294967296 = ((2 ^ (8 * k) * x : Nat) : Int) := by
    have e2 : (x : Int) * 2 ^ (8 * k) = ((x * 2 ^ (8 * k) : Nat) : Int) := by simp
    rw [e2, Nat.mul_comm]
    rw [Nat.mul_comm] at h4
    omega
  rw [e, u32_or_nat _ _ (by omega) (by rw [Nat.mul_comm]; omega), Nat.or_comm, ← Nat.two_pow_add_eq_or_of_lt hy, Nat.add_comm, Nat.mul_comm]

theorem sumAt_prog (A : Option Addr) (l : List UInt8) (c a : Nat) (w : World) (hA : Bys w A l) (hl : l.length ≤ 140737488355328) (ha : a + 4 ≤ l.length) :
    Calls Tryz.prog 113 #[.slice A l.length c, .int .i64 a] w fun e w' => e = .returned (.int .u32 (leN ((l.drop a).take 4))) ∧ w = w' := by
  obtain ⟨b, o, rfl, hb, hcl⟩ := hA.at_ (by omega)
  go_enter Tryz.func113, Tryz.ntmps113
  go_wp2
  go_loop [5, 7] (fun s i => ∃ k : Nat, k ≤ 4 ∧ i = .int .i64 k ∧ s = .int .u32 (leN ((l.drop a).take k))) (fun _ i => 4 - (intOf i).toNat)
  case atStart => exact ⟨0, by omega, rfl, by simp [leN]⟩
  case round =>
    obtain ⟨k, hk, rfl, rfl⟩ := hrel
    by_cases hlt : k < 4
    · have hx := hcl (a + k) (by omega)
      have hbx := byte_nat (l.getD (a + k) 0)
      have hy : leN ((l.drop a).take k) < 2 ^ (8 * k) := by
        have := leN_lt ((l.drop a).take k)
        rwa [show ((l.drop a).take k).length = k from by simp; omega] at this
      have Hs := Lib.hid (leN_step l a k (by omega))
      have Ho := Lib.hid (u32_or_step (leN ((l.drop a).take k)) (l.getD (a + k) 0).toNat k hy hbx hlt)
      rw [← Hs.out] at Ho
      clear hy hcl
      generalize leN ((l.drop a).take k) = y at *
      generalize (l.getD (a + k) 0).toNat = x at *
      go_wp2
      go_round
      case rel => exact ⟨k + 1, by omega, by go_num, by rw [← Ho.out]⟩
      case measure => simp [intOf]; omega
    · obtain rfl : k = 4 := by omega
      generalize hyy : leN ((l.drop a).take 4) = y at *
      have Hy := Lib.hid hyy
      clear hcl hyy
      go_wp2
      go_ret
      exact ⟨ret_num' (by rw [Hy.out]), rfl⟩

theorem get_bad (A : Option Addr) (l : List UInt8) (c : Nat) (a : Int) (w : World) (ha : a < 0 ∨ (l.length : Int) < a) :
    Calls Tryz.prog 71 #[.slice A l.length c, .int .i64 a] w fun e w' => e = .returned (.tuple #[.slice none 0 0, .int .i64 0, .int .i64 2]) ∧ w = w' := by
  have h : decide (a < 0) = true ∨ (decide (a < 0) = false ∧ decide ((l.length : Int) < a) = true) := by simp only [decide_eq_true_eq, decide_eq_false_iff_not]; omega
  rcases h with h | ⟨h, h2⟩
  all_goals
    go_enter Tryz.func71, Tryz.ntmps71
    go_wp2
    go_ret3
    exact ⟨rfl, rfl⟩

theorem get_few (A : Option Addr) (m c a : Nat) (w : World) (hlc : m ≤ c) (hl : m ≤ 140737488355328) (ha : a ≤ m) (h : m - a < 6) :
    Calls Tryz.prog 71 #[.slice A m c, .int .i64 a] w fun e w' => e = .returned (.tuple #[.slice none 0 0, .int .i64 0, .int .i64 4]) ∧ w = w' := by
  have q1 : decide ((a : Int) < 0) = false := by simp
  have q2 : decide ((m : Int) < (a : Int)) = false := by simp; omega
  rcases A with _ | ⟨b, o, s⟩
  all_goals
    go_enter Tryz.func71, Tryz.ntmps71
    go_wp2
  all_goals go_ret3
  all_goals exact ⟨rfl, rfl⟩

theorem fn_int (l : List UInt8) (a : Nat) : (2 : Int) + (l.getD a 0).toNat * 256 + (l.getD (a + 1) 0).toNat = ((2 + fn l a : Nat) : Int) := by unfold fn; omega

set_option maxHeartbeats 1000000 in
theorem get_short (b o : Nat) (l : List UInt8) (c a : Nat) (w : World) (hA : Bys w (some ⟨b, o, none⟩) l) (hlc : l.length ≤ c) (hl : l.length ≤ 140737488355328) (h6 : 6 ≤ l.length - a) (h : l.length - a < fn l a + 6) :
    Calls Tryz.prog 71 #[.slice (some ⟨b, o, none⟩) l.length c, .int .i64 a] w fun e w' => e = .returned (.tuple #[.slice none 0 0, .int .i64 0, .int .i64 4]) ∧ Below w.heap.size w w' := by
  have q1 : decide ((a : Int) < 0) = false := by simp
  have q2 : decide ((l.length : Int) < (a : Int)) = false := by simp; omega
  have q3 : ¬ c = a := by omega
  obtain ⟨b', o', e, hb, hcl⟩ := hA.at_ (by omega)
  obtain ⟨rfl, rfl⟩ : b = b' ∧ o = o' := by simpa using e
  have hx0 := hcl a (by omega)
  have hx1 := hcl (a + 1) (by omega)
  rw [← Nat.add_assoc] at hx1
  have b0 := byte_nat (l.getD a 0)
  have b1 := byte_nat (l.getD (a + 1) 0)
  have HF := Lib.hid (fn_int l a)
  have hfn := fn_lt l a
  have hr0 : (0 : Int) < ((l.length - a : Nat) : Int) := by omega
  have hr1 : (1 : Int) < ((l.length - a : Nat) : Int) := by omega
  have hsh : decide (((l.length - a : Nat) : Int) < 2 + (l.getD a 0).toNat * 256 + (l.getD (a + 1) 0).toNat + 4) = true := by rw [decide_eq_true_eq, HF.out]; omega
  clear hA hcl e hfn h HF
  generalize (l.getD a 0).toNat = x0 at *
  generalize (l.getD (a + 1) 0).toNat = x1 at *
  go_enter Tryz.func71, Tryz.ntmps71
  go_wp2_with fail
  go_quiet (fail)
  go_wp2
  go_ret3
  exact ⟨rfl, below_drewN' (Below.refl _ _) _⟩

theorem bys_drewN' {w : World} {A : Option Addr} {l : List UInt8} (h : Bys w A l) (n : Nat) : Bys (w.drewN n) A l := h
theorem ret_get {v v' : Value} {b c b' c' : Int} (h1 : v = v') (h2 : b = b') (h3 : c = c') : Ending.returned (.tuple #[v, .int .i64 b, .int .i64 c]) = .returned (.tuple #[v', .int .i64 b', .int .i64 c']) := by rw [h1, h2, h3]
set_option maxHeartbeats 2000000 in
theorem get_whole (b o : Nat) (l : List UInt8) (c a f : Nat) (w : World) (hf : fn l a = f) (hA : Bys w (some ⟨b, o, none⟩) l) (hlc : l.length ≤ c) (hl : l.length ≤ 140737488355328) (h : f + 6 ≤ l.length - a) (hcr : carries l a) :
    Calls Tryz.prog 71 #[.slice (some ⟨b, o, none⟩) l.length c, .int .i64 a] w fun e w' => ∃ v, e = .returned (.tuple #[v, .int .i64 ((a + f + 6 : Nat) : Int), .int .i64 0]) ∧ Own w' w.heap.size v ((l.drop (a + 2)).take f) ∧ Below w.heap.size w w' := by
  have q1 : decide ((a : Int) < 0) = false := by simp
  have q2 : decide ((l.length : Int) < (a : Int)) = false := by simp; omega
  have q3 : ¬ c = a := by omega
  obtain ⟨b', o', e, hb, hcl⟩ := hA.at_ (by omega)
  obtain ⟨rfl, rfl⟩ : b = b' ∧ o = o' := by simpa using e
  have hx0 := hcl a (by omega)
  have hx1 := hcl (a + 1) (by omega)
  rw [← Nat.add_assoc] at hx1
  have b0 := byte_nat (l.getD a 0)
  have b1 := byte_nat (l.getD (a + 1) 0)
  have HF := fn_int l a
  rw [hf] at HF
  have hfn := fn_lt l a
  rw [hf] at hfn
  have hr0 : (0 : Int) < ((l.length - a : Nat) : Int) := by omega
  have hr1 : (1 : Int) < ((l.length - a : Nat) : Int) := by omega
  have hsh : decide (((l.length - a : Nat) : Int) < 2 + (l.getD a 0).toNat * 256 + (l.getD (a + 1) 0).toNat + 4) = false := by rw [decide_eq_false_iff_not, HF]; omega
  have hdl : (l.drop a).length = l.length - a := List.length_drop
  have htl : ((l.drop a).take (2 + f)).length = 2 + f := by simp; omega
  have hB : ∀ n, Bys (w.drewN n) (some ⟨b, o + a, none⟩) (l.drop a) := fun n => hA.from a
  have HS1 := (fun n => sumAt_prog (some ⟨b, o + a, none⟩) (l.drop a) (c - a) (2 + f) (w.drewN n) (hB n) (by omega) (by omega))
  have HS2 := (fun n => sum_prog (some ⟨b, o + a, none⟩) ((l.drop a).take (2 + f)) (c - a) (w.drewN n) ((hB n).front _) (by omega))
  have hcr' : leN (((l.drop a).drop (2 + f)).take 4) = sumN ((l.drop a).take (2 + f)) := by
    unfold carries at hcr
    rw [hf] at hcr
    rw [List.drop_drop]
    exact hcr
  have e2 : ((2 + f : Nat) : Int) = 2 + (f : Int) := by omega
  simp only [hcr', hdl, e2] at HS1
  simp only [htl] at HS2
  have HS1 := Lib.hid HS1
  have HS2 := Lib.hid HS2
  have HB2 := Lib.hid ((hA.from (a + 2)).front f)
  rw [← Nat.add_assoc] at HB2
  have hl2 : ((l.drop (a + 2)).take f).length = f := by simp; omega
  have HFF := Lib.hid HF
  clear hA hcl e hcr hcr' hdl htl hB hf HF e2
  generalize sumN ((l.drop a).take (2 + f)) = S at *
  generalize hXX : (l.drop (a + 2)).take f = X at *
  clear hXX
  subst hl2
  generalize (l.getD a 0).toNat = x0 at *
  generalize (l.getD (a + 1) 0).toNat = x1 at *
  go_enter Tryz.func71, Tryz.ntmps71
  go_wp2_with fail
  go_quiet (fail)
  go_wp2_with fail
  rw [HFF.out, Int.natCast_add]
  go_quiet (first
    | (go_at_call 113; exact (HS1.out _).mono fun _ _ h => ⟨h.1, _, h.2.symm⟩)
    | (go_at_call 66; exact (HS2.out _).mono fun _ _ h => ⟨h.1, _, h.2.symm⟩))
  go_wp2_with (at_builtin; refine app_u8 rfl (.tmp 48) (.tmp 51) rfl w.heap.size _ [] rfl (own_empty (Row.new _ _ _) (Nat.le_refl _)) (some ⟨b, o + a + 2, none⟩) X (c - a - 2) (by first | rfl | (show Value.slice (some ⟨b, o + a + 2, none⟩) (2 + X.length - 2) (c - a - 2) = _; rw [Nat.add_sub_cancel_left])) ((bys_drewN' HB2.out _).alloc _) (by simp only [List.length_nil]; omega) (by simp) ?_; intro v1 w1 hown1 hb1 hg1)
  go_ret3
  exact ⟨v1, ret_get rfl (by omega) rfl, hown1, ((below_drewN' (Below.refl _ w) _).alloc (Nat.le_refl _) _).trans hb1⟩
set_option maxHeartbeats 2000000 in
theorem get_corrupt (b o : Nat) (l : List UInt8) (c a f : Nat) (w : World) (hf : fn l a = f) (hA : Bys w (some ⟨b, o, none⟩) l) (hlc : l.length ≤ c) (hl : l.length ≤ 140737488355328) (h : f + 6 ≤ l.length - a) (hcr : ¬ carries l a) :
    Calls Tryz.prog 71 #[.slice (some ⟨b, o, none⟩) l.length c, .int .i64 a] w fun e w' => e = .returned (.tuple #[.slice none 0 0, .int .i64 0, .int .i64 5]) ∧ Below w.heap.size w w' := by
  have q1 : decide ((a : Int) < 0) = false := by simp
  have q2 : decide ((l.length : Int) < (a : Int)) = false := by simp; omega
  have q3 : ¬ c = a := by omega
  obtain ⟨b', o', e, hb, hcl⟩ := hA.at_ (by omega)
  obtain ⟨rfl, rfl⟩ : b = b' ∧ o = o' := by simpa using e
  have hx0 := hcl a (by omega)
  have hx1 := hcl (a + 1) (by omega)
  rw [← Nat.add_assoc] at hx1
  have b0 := byte_nat (l.getD a 0)
  have b1 := byte_nat (l.getD (a + 1) 0)
  have HF := fn_int l a
  rw [hf] at HF
  have hfn := fn_lt l a
  rw [hf] at hfn
  have hr0 : (0 : Int) < ((l.length - a : Nat) : Int) := by omega
  have hr1 : (1 : Int) < ((l.length - a : Nat) : Int) := by omega
  have hsh : decide (((l.length - a : Nat) : Int) < 2 + (l.getD a 0).toNat * 256 + (l.getD (a + 1) 0).toNat + 4) = false := by rw [decide_eq_false_iff_not, HF]; omega
  have hdl : (l.drop a).length = l.length - a := List.length_drop
  have htl : ((l.drop a).take (2 + f)).length = 2 + f := by simp; omega
  have hB : ∀ n, Bys (w.drewN n) (some ⟨b, o + a, none⟩) (l.drop a) := fun n => hA.from a
  have HS1 := (fun n => sumAt_prog (some ⟨b, o + a, none⟩) (l.drop a) (c - a) (2 + f) (w.drewN n) (hB n) (by omega) (by omega))
  have HS2 := (fun n => sum_prog (some ⟨b, o + a, none⟩) ((l.drop a).take (2 + f)) (c - a) (w.drewN n) ((hB n).front _) (by omega))
  have hcr' : leN (((l.drop a).drop (2 + f)).take 4) ≠ sumN ((l.drop a).take (2 + f)) := by
    unfold carries at hcr
    rw [hf] at hcr
    rw [List.drop_drop]
    exact hcr
  have hne : (((leN (((l.drop a).drop (2 + f)).take 4) : Nat) : Int) != ((sumN ((l.drop a).take (2 + f)) : Nat) : Int)) = true := by rw [bne_iff_ne]; omega
  have e2 : ((2 + f : Nat) : Int) = 2 + (f : Int) := by omega
  simp only [hdl, e2] at HS1
  simp only [htl] at HS2
  have HS1 := Lib.hid HS1
  have HS2 := Lib.hid HS2
  have HFF := Lib.hid HF
  clear hA hcl e hcr hcr' hdl htl hB hf HF e2
  generalize leN (((l.drop a).drop (2 + f)).take 4) = S1 at *
  generalize sumN ((l.drop a).take (2 + f)) = S at *
  generalize (l.getD a 0).toNat = x0 at *
  generalize (l.getD (a + 1) 0).toNat = x1 at *
  go_enter Tryz.func71, Tryz.ntmps71
  go_wp2_with fail
  go_quiet (fail)
  go_wp2_with fail
  rw [HFF.out, Int.natCast_add]
  go_quiet (first
    | (go_at_call 113; exact (HS1.out _).mono fun _ _ h => ⟨h.1, _, h.2.symm⟩)
    | (go_at_call 66; exact (HS2.out _).mono fun _ _ h => ⟨h.1, _, h.2.symm⟩))
  go_wp2
  go_ret3
  exact ⟨rfl, below_drewN' (below_drewN' (Below.refl _ _) _) _⟩

/-- What is read as a frame at a place, whatever there is. -/
theorem get_prog (A : Option Addr) (l : List UInt8) (c a : Nat) (x : List UInt8) (n e : Nat) (w : World) (hA : Bys w A l) (hlc : l.length ≤ c) (hl : l.length ≤ 140737488355328) (ha : a ≤ l.length) (hg : FG l a x n e) :
    Calls Tryz.prog 71 #[.slice A l.length c, .int .i64 a] w fun e' w' => ∃ v, e' = .returned (.tuple #[v, .int .i64 n, .int .i64 e]) ∧ Own w' w.heap.size v x ∧ Below w.heap.size w w' := by
  cases hg with
  | few h =>
    refine (get_few A l.length c a w hlc hl ha h).mono ?_
    rintro e w' ⟨rfl, rfl⟩
    exact ⟨_, rfl, own_nil _ _, Below.refl _ _⟩
  | short h6 h =>
    obtain ⟨b, o, rfl, _⟩ := hA.at_ (by omega)
    refine (get_short b o l c a w hA hlc hl h6 h).mono ?_
    rintro e w' ⟨rfl, hb⟩
    exact ⟨_, rfl, own_nil _ _, hb⟩
  | bad h hc =>
    obtain ⟨b, o, rfl, _⟩ := hA.at_ (by omega)
    refine (get_corrupt b o l c a _ w rfl hA hlc hl h hc).mono ?_
    rintro e w' ⟨rfl, hb⟩
    exact ⟨_, rfl, own_nil _ _, hb⟩
  | ok h hc =>
    obtain ⟨b, o, rfl, _⟩ := hA.at_ (by omega)
    exact get_whole b o l c a _ w rfl hA hlc hl h hc
end Go.Proofs.YtmgolnlkepiocaaGreat

namespace Go.Proofs.YtmgolnlkepiocaaGreat
open Go.RowKit
set_option linter.unusedVariables false

theorem bys_2 {w : World} {g : Nat} {x y : UInt8} (h : Row w g 5 #[.int .u8 (x.toNat : Int), .int .u8 (y.toNat : Int)]) : Bys w (some ⟨g, 0, none⟩) [x, y] := Row.bys (l := [x, y]) h
theorem byte_mod (n : Nat) : (n : Int) % 256 = ((UInt8.ofNat n).toNat : Int) := by rw [UInt8.toNat_ofNat']; omega
theorem le4_at (s k : Nat) (hk : k < 4) : (le4 s).take (k + 1) = (le4 s).take k ++ [UInt8.ofNat (s / 2 ^ (8 * k))] := by
  have : k = 0 ∨ k = 1 ∨ k = 2 ∨ k = 3 := by omega
  rcases this with rfl | rfl | rfl | rfl <;> simp [le4]
theorem headL_length (x : List UInt8) : (headL x).length = x.length + 2 := by simp [headL]

set_option maxHeartbeats 1000000 in
theorem put_prog (A : Option Addr) (l : List UInt8) (c : Nat) (V : Option Addr) (x : List UInt8) (cx : Nat) (w : World) (hA : Bys w A l) (hV : Bys w V x) (hl : l.length ≤ 140737488351232) (hx : x.length ≤ 65535) :
    Calls Tryz.prog 34 #[.slice A l.length c, .slice V x.length cx] w fun e w' => ∃ v, e = .returned (.tuple #[v, .int .i64 0]) ∧ Own w' w.heap.size v (l ++ frameL x) ∧ Below w.heap.size w w' := by
  have d0 : decide ((65535 : Int) < (x.length : Int)) = false := by simp; omega
  have hhl := headL_length x
  have Hb0 := Lib.hid (show (x.length : Int) / 256 = ((UInt8.ofNat (x.length / 256)).toNat : Int) by rw [UInt8.toNat_ofNat']; omega)
  have Hhead := Lib.hid (show (l ++ [UInt8.ofNat (x.length / 256), UInt8.ofNat x.length]) ++ x = l ++ headL x by simp [headL])
  have Hf := Lib.hid (show l ++ frameL x = (l ++ headL x) ++ le4 (sumN (headL x)) by simp [frameL])
  go_enter Tryz.func34, Tryz.ntmps34
  go_wp2_with fail
  refine (longer_prog A l c _ w hA (by omega) (by omega) (by omega)).mono ?_
  rintro e w1 ⟨v1, rfl, hown1, hb1⟩
  obtain ⟨B1, d1, rfl, _⟩ := own_slice' hown1
  have hs1 := hb1.size
  have hV1 := hV.below hb1
  have HO1 := Lib.hid hown1
  have Hb1 := Lib.hid hb1
  clear hown1 hb1
  go_wp2_with (first
    | (at_builtin; refine app_u8 rfl (.tmp 18) (.tmp 26) rfl w.heap.size _ l rfl (own_alloc HO1.out _) _ [UInt8.ofNat (x.length / 256), UInt8.ofNat x.length] 2 rfl (bys_2 (by rw [← Hb0.out, ← byte_mod]; exact Row.new _ _ _)) (by simp only [List.length_cons, List.length_nil]; omega) (Nat.le_trans hs1 (by simp)) ?_; intro v2 w2 hown2 hb2' hg2; have hb2 : Below w.heap.size w w2 := (Hb1.out.alloc hs1 _).trans hb2'; have hV2 := hV.below hb2; clear hg2 hb2')
    | (at_builtin; refine app_u8 rfl (.tmp 28) (.tmp 29) rfl w.heap.size _ _ rfl hown2 V x cx rfl hV2 (by simp; omega) hb2.size ?_; intro v3 w3 hown3 hb3' hg3; rw [Hhead.out] at hown3; have hb3 : Below w.heap.size w w3 := hb2.trans hb3'; obtain ⟨g, cap, hv3, hgb, hglt, hcap, hmax, _⟩ := own_form hown3 (by rw [List.length_append]; omega); subst hv3; have hq : ¬ cap = l.length := (by rw [List.length_append] at hcap; omega); have HO3 := Lib.hid hown3; clear hown3 hcap hg3 hb3' hown2 hb2 hV2))
  have hB3 : Bys w3 (some ⟨g, l.length, none⟩) (headL x) := by
    have := (own_bys HO3.out).from l.length
    rwa [Nat.zero_add, List.drop_left] at this
  have HS := sum_prog _ (headL x) (cap - l.length) w3 hB3 (by omega)
  rw [hhl] at HS
  refine HS.mono ?_
  rintro e w4 ⟨rfl, rfl⟩
  have hS := sumN_lt (headL x)
  generalize sumN (headL x) = S at *
  generalize hY : l ++ headL x = Y at *
  have hYl : Y.length = l.length + (x.length + 2) := by rw [← hY, List.length_append, hhl]
  have HYl := Lib.hid hYl
  clear HS hB3 hY hYl
  go_wp2_with fail
  go_loopw [6, 36] (fun v i wr => ∃ k : Nat, k ≤ 4 ∧ i = .int .i64 k ∧ Own wr w.heap.size v (Y ++ (le4 S).take k) ∧ Below w.heap.size w wr) (fun _ i _ => 4 - (intOf i).toNat)
  case atStart =>
    refine ⟨0, by omega, rfl, ?_, hb3⟩
    have := HO3.out
    rw [HYl.out] at this
    simpa using this
  case round =>
    obtain ⟨k, hk, rfl, hor, hbr⟩ := hrel
    have hlen : (Y ++ (le4 S).take k).length ≤ 140737488500000 := by
      have := HYl.out
      have h4 : (le4 S).length = 4 := rfl
      rw [List.length_append, List.length_take]
      omega
    by_cases hlt : k < 4
    · have HT := Lib.hid (le4_at S k hlt)
      have Hd := Lib.hid (show (S : Int) / 2 ^ (8 * k) % 256 = ((UInt8.ofNat (S / 2 ^ (8 * k))).toNat : Int) by
        have e : (S : Int) / 2 ^ (8 * k) = ((S / 2 ^ (8 * k) : Nat) : Int) := by simp
        rw [e, byte_mod])
      have hs := hbr.size
      go_wp2_with (at_builtin; refine app_u8 rfl (.tmp 39) (.tmp 45) rfl w.heap.size _ _ rfl (own_alloc hor _) _ [UInt8.ofNat (S / 2 ^ (8 * k))] 1 rfl (bys_1 (by rw [← Hd.out]; exact Row.new _ _ _)) (by simp only [List.length_cons, List.length_nil]; omega) (Nat.le_trans hs (by simp)) ?_; intro v5 w5 hown5 hb5 hg5)
      go_roundw
      case rel => exact ⟨k + 1, by omega, by go_num, by rw [HT.out, ← List.append_assoc]; exact hown5, (hbr.alloc hs _).trans hb5⟩
      case measure => simp [intOf]; omega
    · obtain rfl : k = 4 := by omega
      rw [show (le4 S).take 4 = le4 S from rfl] at hor
      go_wp2
      go_ret2
      exact ⟨_, rfl, by rw [Hf.out]; exact hor, hbr⟩
theorem put_big (A V : Option Addr) (l c n cx : Nat) (w : World) (hn : 65535 < n) (hm : n ≤ 281474976710656) :
    Calls Tryz.prog 34 #[.slice A l c, .slice V n cx] w fun e w' => e = .returned (.tuple #[.slice none 0 0, .int .i64 3]) ∧ w = w' := by
  have d0 : decide ((65535 : Int) < (n : Int)) = true := by simp; omega
  go_enter Tryz.func34, Tryz.ntmps34
  go_wp2
  go_ret2
  exact ⟨rfl, rfl⟩
theorem bys_4 {w : World} {g : Nat} {x y z t : UInt8} (h : Row w g 5 #[.int .u8 (x.toNat : Int), .int .u8 (y.toNat : Int), .int .u8 (z.toNat : Int), .int .u8 (t.toNat : Int)]) : Bys w (some ⟨g, 0, none⟩) [x, y, z, t] := Row.bys (l := [x, y, z, t]) h
theorem own_2 {w : World} {base g : Nat} {x y : UInt8} (h : Row w g 5 #[.int .u8 (x.toNat : Int), .int .u8 (y.toNat : Int)]) (hb : base ≤ g) : Own w base (.slice (some ⟨g, 0, none⟩) 2 2) [x, y] := own_whole (x := [x, y]) h hb (by simp [maxLen])

theorem frame_ref (V : Option Addr) (x : List UInt8) (cx : Nat) (w : World) (hV : Bys w V x) (hx : x.length ≤ 65535) :
    Calls Tryz.prog 63 #[.slice V x.length cx] w fun e w' => ∃ v, e = .returned v ∧ Own w' w.heap.size v (frameL x) ∧ Below w.heap.size w w' := by
  have hhl := headL_length x
  have Hb0 := Lib.hid (show (x.length : Int) / 256 = ((UInt8.ofNat (x.length / 256)).toNat : Int) by rw [UInt8.toNat_ofNat']; omega)
  have Hhead := Lib.hid (show [UInt8.ofNat (x.length / 256), UInt8.ofNat x.length] ++ x = headL x by simp [headL])
  have Hf := Lib.hid (show frameL x = headL x ++ le4 (sumN (headL x)) from rfl)
  go_enter Tryz.func63, Tryz.ntmps63
  go_wp2_with (at_builtin; refine app_u8 rfl (.tmp 13) (.tmp 14) rfl w.heap.size _ [UInt8.ofNat (x.length / 256), UInt8.ofNat x.length] rfl (own_2 (by rw [← Hb0.out, ← byte_mod]; exact Row.new _ _ _) (Nat.le_refl _)) V x cx rfl (hV.alloc _) (by simp only [List.length_cons, List.length_nil]; omega) (by simp) ?_; intro v1 w1 hown1 hb1' hg1; rw [Hhead.out] at hown1; have hb1 : Below w.heap.size w w1 := (below_one _ _).trans hb1'; obtain ⟨B1, d1, hv1, hB1, _⟩ := own_slice' hown1; rw [hhl] at hv1; subst hv1; have HO1 := Lib.hid hown1; clear hown1 hg1 hb1')
  have HS := sum_prog B1 (headL x) d1 w1 hB1 (by omega)
  have HSr := sum_ref B1 (headL x) d1 w1 hB1 (by omega)
  rw [hhl] at HSr
  refine HSr.mono ?_
  rintro e w4 ⟨rfl, rfl⟩
  have hS := sumN_lt (headL x)
  generalize sumN (headL x) = S at *
  have hs1 := hb1.size
  have Hc := Lib.hid (show [UInt8.ofNat S, UInt8.ofNat (S / 256), UInt8.ofNat (S / 65536), UInt8.ofNat (S / 16777216)] = le4 S from rfl)
  have Hd0 := Lib.hid (byte_mod S)
  have Hd1 := Lib.hid (show (S : Int) / 256 % 256 = ((UInt8.ofNat (S / 256)).toNat : Int) by rw [← byte_mod]; omega)
  have Hd2 := Lib.hid (show (S : Int) / 65536 % 256 = ((UInt8.ofNat (S / 65536)).toNat : Int) by rw [← byte_mod]; omega)
  have Hd3 := Lib.hid (show (S : Int) / 16777216 = ((UInt8.ofNat (S / 16777216)).toNat : Int) by rw [← byte_mod]; omega)
  clear HS HSr hB1
  go_wp2_with (at_builtin; refine app_u8 rfl (.tmp 18) (.tmp 33) rfl w.heap.size _ (headL x) rfl (own_alloc HO1.out _) _ (le4 S) 4 rfl (by rw [← Hc.out]; exact bys_4 (by rw [← Hd0.out, ← Hd1.out, ← Hd2.out, ← Hd3.out]; exact Row.new _ _ _)) (by simp only [le4, List.length_cons, List.length_nil]; omega) (Nat.le_trans hs1 (by simp)) ?_; intro v5 w5 hown5 hb5 hg5)
  go_ret
  exact ⟨_, rfl, by rw [Hf.out]; exact hown5, (hb1.alloc hs1 _).trans hb5⟩

end Go.Proofs.YtmgolnlkepiocaaGreat
