/- Two digits to the base 16 read as a byte: as the library's ParseUint does it. -/
import Derived.Test.YtnhaehjkepmbaaaDoorLtLotL
import Derived.Lib.ConvBytes
import Derived.Deep.Cut
namespace Go.Proofs.YtnhaehjkepmbaaaDoor
open Go.RowKit
set_option linter.unusedVariables false

theorem or32 : ∀ n : Fin 256, bits BinOp.or IntKind.u8 (n.val : Int) 32 = ((n.val ||| 32 : Nat) : Int) := by decide +kernel
theorem lower_prog (n : Nat) (hn : n < 256) (w : World) : Calls Tryd.prog 40 #[.int .u8 (n : Int)] w fun e w' => e = .returned (.int .u8 ((n ||| 32 : Nat) : Int)) ∧ w = w' := by
  have h := or32 ⟨n, hn⟩
  simp only at h
  go_enter Tryd.func40, Tryd.ntmps40
  go_wp2_with fail
  go_ret
  exact ⟨rfl, rfl⟩
/-- What a byte is worth as a digit (99: it is none). -/
def hexN (n : Nat) : Nat := if 48 ≤ n ∧ n ≤ 57 then n - 48 else if 97 ≤ (n ||| 32) ∧ (n ||| 32) ≤ 122 then (n ||| 32) - 87 else 99
theorem hex_cases (n : Nat) : (decide ((48 : Int) ≤ (n : Int)) = true ∧ decide ((n : Int) ≤ 57) = true ∧ hexN n = n - 48) ∨
    ((decide ((48 : Int) ≤ (n : Int)) = false ∨ (decide ((48 : Int) ≤ (n : Int)) = true ∧ decide ((n : Int) ≤ 57) = false)) ∧ decide ((97 : Int) ≤ ((n ||| 32 : Nat) : Int)) = true ∧ decide (((n ||| 32 : Nat) : Int) ≤ 122) = true ∧ hexN n = (n ||| 32) - 87 ∧ 97 ≤ (n ||| 32) ∧ (n ||| 32) ≤ 122) ∨
    ((decide ((48 : Int) ≤ (n : Int)) = false ∨ (decide ((48 : Int) ≤ (n : Int)) = true ∧ decide ((n : Int) ≤ 57) = false)) ∧ (decide ((97 : Int) ≤ ((n ||| 32 : Nat) : Int)) = false ∨ (decide ((97 : Int) ≤ ((n ||| 32 : Nat) : Int)) = true ∧ decide (((n ||| 32 : Nat) : Int) ≤ 122) = false)) ∧ hexN n = 99) := by
  unfold hexN
  simp only [decide_eq_true_eq, decide_eq_false_iff_not]
  split
  · left; omega
  · split
    · right; left; omega
    · right; right; omega
set_option maxRecDepth 100000 in
set_option maxHeartbeats 4000000 in
theorem pu_ok (s : ByteArray) (a b : UInt8) (hs : strL s = [a, b]) (hxa : hexN a.toNat < 16) (hxb : hexN b.toNat < 16) (v : Nat) (hv : 16 * hexN a.toNat + hexN b.toNat = v) (w : World) :
    Calls Tryd.prog 36 #[.string s, .int .i64 16, .int .i64 8] w fun e w' => e = .returned (.tuple #[.int .u64 (v : Int), .nilIface]) ∧ Below w.heap.size w w' := by
  have hcv := Go.Lib.run_convert_string_bytes (P := Tryd.prog) w 9 39 5 s Tryd.underlying9 Tryd.underlying39 Tryd.underlying5
  have ha := a.toNat_lt
  have hb := b.toNat_lt
  have hsz : s.size = 2 := by rw [← strL_length, hs]; rfl
  have hne : (s.toList == []) = false := by rw [ByteArray.toList_eq, beq_eq_false_iff_ne]; intro e; have : strL s = [] := e; rw [hs] at this; cases this
  obtain ⟨W, hW⟩ : ∃ W, Go.Lib.bytesWorld w 5 s = W := ⟨_, rfl⟩
  have c0 : W.cell? ⟨w.heap.size, 0, none⟩ = some (.int .u8 (a.toNat : Int)) := by
    rw [← hW, Go.Lib.bytesWorld_cell w 5 s 0 (by omega)]
    have : s.data.toList = [a, b] := hs
    rw [this]; rfl
  have c1 : W.cell? ⟨w.heap.size, 1, none⟩ = some (.int .u8 (b.toNat : Int)) := by
    rw [← hW, Go.Lib.bytesWorld_cell w 5 s 1 (by omega)]
    have : s.data.toList = [a, b] := hs
    rw [this]; rfl
  have HB : Hid (Below w.heap.size w W) := Lib.hid (by
    rw [← hW]
    exact ⟨rfl, rfl, rfl, by rw [Go.Lib.bytesWorld_size]; omega, fun k hk => Go.Lib.bytesWorld_at_old w _ s k hk⟩)
  rw [hW, hsz] at hcv
  generalize grownCap w 2 0 5 = cap at hcv
  clear hW
  go_enter Tryd.func36, Tryd.ntmps36
  clear hs
  generalize a.toNat = na at *
  generalize b.toNat = nb at *
  go_upto_region 36 with fail
  clear hcv hne hsz
  have hla := or32 ⟨na, by omega⟩
  have hlb := or32 ⟨nb, by omega⟩
  simp only at hla hlb
  have h95a : na = 95 → (na ||| 32) = 127 := by rintro rfl; rfl
  have h95b : nb = 95 → (nb ||| 32) = 127 := by rintro rfl; rfl
  have hca := hex_cases na
  have hcb := hex_cases nb
  have C0 := Lib.hid c0
  have C1 := Lib.hid c1
  clear c0 c1
  have hla3 := lower_prog na (by omega)
  have hlb3 := lower_prog nb (by omega)
  obtain ⟨x, hx⟩ : ∃ x, hexN na = x := ⟨_, rfl⟩
  obtain ⟨y, hy⟩ : ∃ y, hexN nb = y := ⟨_, rfl⟩
  have hv2 : 16 * x + y = v := by rw [← hx, ← hy]; exact hv
  rw [hx] at hca hxa
  rw [hy] at hcb hxb
  clear hx hy
  generalize (na ||| 32) = na3 at *
  generalize (nb ||| 32) = nb3 at *
  have HLA := Lib.hid hla3
  have HLB := Lib.hid hlb3
  clear hla3 hlb3 hla hlb
  go_loop [101, 13, 12] (fun i u z => ((i = .int .i64 0 ∧ u = .int .u64 0) ∨ (i = .int .i64 1 ∧ u = .int .u64 (x : Int)) ∨ (i = .int .i64 2 ∧ u = .int .u64 (v : Int))) ∧ z = .bool false) (fun i _ _ => 2 - (intOf i).toNat)
  case atStart => exact ⟨.inl ⟨rfl, rfl⟩, rfl⟩
  case round =>
    obtain ⟨hrel, rfl⟩ := hrel
    rcases hrel with ⟨rfl, rfl⟩ | ⟨rfl, rfl⟩ | ⟨rfl, rfl⟩
    · have c0 := C0.out
      have k1 : decide ((16 : Int) ≤ (x : Int)) = false := decide_eq_false (by omega)
      have k2 : decide ((255 : Int) < (x : Int)) = false := decide_eq_false (by omega)
      have k3 : decide ((x : Int) < 0) = false := decide_eq_false (by omega)
      have k4 : IntKind.u64.wrap (x : Int) = x := by rw [IntKind.wrap_u64]; omega
      rcases hca with ⟨h1, h2, h3⟩ | ⟨h0, h1, h2, h3, h4, h5⟩ | ⟨_, _, h3⟩
      · have e1 : ((na : Int) == 95) = false := by simp only [decide_eq_true_eq] at h2; rw [beq_eq_false_iff_ne]; omega
        have w1 : IntKind.u8.wrap ((na : Int) - 48) = (x : Int) := by simp only [decide_eq_true_eq] at h1 h2; rw [IntKind.wrap_u8]; omega
        clear h3 hcb h95a h95b
        go_wp2_with fail
        exact ⟨by simp, by simp [intOf]⟩
      · have e1 : ((na : Int) == 95) = false := by rw [beq_eq_false_iff_ne]; intro e; have := h95a (by omega); omega
        have w1 : IntKind.u8.wrap ((na3 : Int) - 97) = ((na3 - 97 : Nat) : Int) := by rw [IntKind.wrap_u8]; omega
        have w2 : IntKind.u8.wrap (((na3 - 97 : Nat) : Int) + 10) = (x : Int) := by rw [IntKind.wrap_u8]; omega
        obtain ⟨m, hm⟩ : ∃ m, na3 - 97 = m := ⟨_, rfl⟩
        rw [hm] at w1 w2
        clear h3 h4 h5 hm hcb h95a h95b
        rcases h0 with h0 | ⟨h0, h6⟩
        all_goals
          go_wp2_with (first | (go_at_call 40; refine (HLA.out _).mono ?_; rintro e w1 ⟨rfl, hw1⟩; subst hw1))
          exact ⟨by simp, by simp [intOf]⟩
      · omega
    · have c1 := C1.out
      have k1 : decide ((16 : Int) ≤ (y : Int)) = false := decide_eq_false (by omega)
      obtain ⟨t, ht⟩ : ∃ t, x * 16 = t := ⟨_, rfl⟩
      have k0 : decide ((1152921504606846976 : Int) ≤ (x : Int)) = false := decide_eq_false (by omega)
      have k5 : IntKind.u64.wrap ((x : Int) * 16) = (t : Int) := by rw [IntKind.wrap_u64]; omega
      have k4 : IntKind.u64.wrap (y : Int) = y := by rw [IntKind.wrap_u64]; omega
      have k6 : IntKind.u64.wrap ((t : Int) + (y : Int)) = (v : Int) := by rw [IntKind.wrap_u64]; omega
      have k2 : decide ((255 : Int) < (v : Int)) = false := decide_eq_false (by omega)
      have k3 : decide ((v : Int) < (t : Int)) = false := decide_eq_false (by omega)
      have k7 : t ≤ v := by omega
      clear ht hv2
      rcases hcb with ⟨h1, h2, h3⟩ | ⟨h0, h1, h2, h3, h4, h5⟩ | ⟨_, _, h3⟩
      · have e1 : ((nb : Int) == 95) = false := by simp only [decide_eq_true_eq] at h2; rw [beq_eq_false_iff_ne]; omega
        have w1 : IntKind.u8.wrap ((nb : Int) - 48) = (y : Int) := by simp only [decide_eq_true_eq] at h1 h2; rw [IntKind.wrap_u8]; omega
        clear h3 hca h95a h95b
        go_wp2_with fail
        exact ⟨by simp, by simp [intOf]⟩
      · have e1 : ((nb : Int) == 95) = false := by rw [beq_eq_false_iff_ne]; intro e; have := h95b (by omega); omega
        have w1 : IntKind.u8.wrap ((nb3 : Int) - 97) = ((nb3 - 97 : Nat) : Int) := by rw [IntKind.wrap_u8]; omega
        have w2 : IntKind.u8.wrap (((nb3 - 97 : Nat) : Int) + 10) = (y : Int) := by rw [IntKind.wrap_u8]; omega
        obtain ⟨m, hm⟩ : ∃ m, nb3 - 97 = m := ⟨_, rfl⟩
        rw [hm] at w1 w2
        clear h3 h4 h5 hm hca h95a h95b
        rcases h0 with h0 | ⟨h0, h6⟩
        all_goals
          go_wp2_with (first | (go_at_call 40; refine (HLB.out _).mono ?_; rintro e w1 ⟨rfl, hw1⟩; subst hw1))
          exact ⟨by simp, by simp [intOf]⟩
      · omega
    · go_wp2_with fail
      go_ret2
      exact ⟨rfl, HB.out⟩
end Go.Proofs.YtnhaehjkepmbaaaDoor
