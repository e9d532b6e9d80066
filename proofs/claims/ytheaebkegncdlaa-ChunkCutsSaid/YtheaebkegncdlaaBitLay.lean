/- What the closure that lays digits down does to the memory: one row of bytes and one counter, and nothing else. -/
import Derived.Test.YtheaebkegncdlaaBitGet
import Derived.Test.YtheaebkegncdlaaMem
import Derived.BigRegion
import Derived.Laws.Rows
namespace Go.Proofs.Ytheaebkegncdlaa
open Go.RowKit
set_option linter.unusedVariables false

theorem lay_val (x : UInt8) (u e k : Nat) (hk : k < 8) (hz : x.toNat / 2 ^ (7 - k) % 2 = 0) :
    bits BinOp.or IntKind.u8 (x.toNat : Int) (bits BinOp.and IntKind.u8 ((u : Int) / 2 ^ e % 256) 1 * 2 ^ (7 - k) % 256) = ((orByte x k (dig u e)).toNat : Int) := by
  have hd := dig_lt u e
  obtain ⟨h1, h2, _⟩ := orByte_facts x k (dig u e) hk hd hz
  have hlt := byte_toNat (orByte x k (dig u e))
  have hx := byte_toNat x
  have e1 : (u : Int) / 2 ^ e % 256 = ((u / 2 ^ e % 256 : Nat) : Int) := by simp
  have e2 : bits BinOp.and IntKind.u8 ((u / 2 ^ e % 256 : Nat) : Int) 1 = ((dig u e : Nat) : Int) := by
    rw [show (1 : Int) = ((1 : Nat) : Int) from rfl, u8_and_nat _ 1 (by omega) (by omega), Nat.and_one_is_mod]
    unfold dig
    congr 1
    omega
  have e3 : ((dig u e : Nat) : Int) * 2 ^ (7 - k) % 256 = ((dig u e * 2 ^ (7 - k) : Nat) : Int) := by
    have : dig u e * 2 ^ (7 - k) < 256 := by omega
    rw [show ((dig u e : Nat) : Int) * 2 ^ (7 - k) = ((dig u e * 2 ^ (7 - k) : Nat) : Int) from by simp]
    omega
  rw [e1, e2, e3, u8_or_nat _ _ hx (by omega), h1]

set_option maxHeartbeats 400000 in
theorem lay_prog (F : Nat → Nat) (hF : ∀ i, F i < 2) (m p u n L At G N' : Nat) (w : World) (hu : u ≤ 18446744073709551615) (hn : n ≤ 64) (hp : p + n ≤ 8 * m) (hm : m ≤ 562949953421312)
    (hd : ∀ j, j < n → F (p + j) = dig u (n - 1 - j)) (hL : Row w L 58 #[.slice (some ⟨G, 0, none⟩) m m, .int .i64 N']) (hA : Row w At 3 #[.int .i64 p]) (hG : Row w G 5 (bcells (mk m (cutF F p))))
    (hAG : At ≠ G) (hLA : L ≠ At) (hLG : L ≠ G) :
    Calls Try.prog 64 #[.int .u64 u, .int .i64 n, .pointer (some ⟨L, 0, none⟩), .pointer (some ⟨At, 0, none⟩)] w fun e w' =>
      e = .returned (.tuple #[]) ∧ Row w' At 3 #[.int .i64 (p + n : Nat)] ∧ Row w' G 5 (bcells (mk m (cutF F (p + n)))) ∧ Two w w' G At := by
  go_enter Try.func64, Try.ntmps64
  go_wp2
  go_loopw [9] (fun i wr => ∃ k : Nat, k ≤ n ∧ i = .int .i64 k ∧ Row wr At 3 #[.int .i64 (p + k : Nat)] ∧ Row wr G 5 (bcells (mk m (cutF F (p + k)))) ∧ Two w wr G At) (fun i _ => n - (intOf i).toNat)
  case atStart => exact ⟨0, Nat.zero_le _, rfl, hA, hG, Two.refl _ _ _⟩
  case round =>
    obtain ⟨k, hk, rfl, hAr, hGr, htwo⟩ := hrel
    by_cases hlt : k < n
    · have hL0 : wr.cell? ⟨L, 0, none⟩ = some (.slice (some ⟨G, 0, none⟩) m m) := (htwo.cell (p := ⟨L, 0, none⟩) hL.lt hLG hLA).trans (hL.cell 0)
      have hA0 : wr.cell? ⟨At, 0, none⟩ = some (.int .i64 ((p + k : Nat) : Int)) := hAr.cell 0
      have hAf := hAr.frozen 0
      obtain ⟨hz, hset⟩ := set_step hF m (p + k) (by omega)
      have hG0 := (hGr.cell ((p + k) / 8)).trans (bcells_get _ _ (by rw [length_mk]; omega))
      have hGf := hGr.frozen ((p + k) / 8)
      have hAGb : ¬ At = G := hAG
      have hdk := hd k hlt
      generalize hl : mk m (cutF F (p + k)) = l at *
      have hx := byte_toNat (l.getD ((p + k) / 8) 0)
      have Hl := Lib.hid hl
      clear hl
      have Hz := Lib.hid hz
      have Hset := Lib.hid hset
      have Hdk := Lib.hid hdk
      have HAr := Lib.hid hAr
      have HGr := Lib.hid hGr
      clear hz hset hdk hd hAr hGr hG hA
      generalize hxx : l.getD ((p + k) / 8) 0 = x at *
      have Hx := Lib.hid hxx
      clear hxx
      have hi1 : (p + k) / 8 < m := by omega
      simp only [Int.natCast_add] at hA0
      go_wp2
      go_region
      go_wp2
      rw [lay_val x u (n - 1 - k) ((p + k) % 8) (by omega) (by rw [← Hx.out]; exact Hz.out), ← Hdk.out]
      refine ⟨⟨k + 1, by omega, by go_num, ?_, ?_, (((htwo.set (p := ⟨G, (p + k) / 8, none⟩) (.inl rfl) _).set (p := ⟨At, 0, none⟩) (.inr rfl) _)).drewN 1⟩, by simp [intOf]; omega⟩
      · have h1 := (HAr.out.setFar (p := ⟨G, (p + k) / 8, none⟩) hAG (.int .u8 ((orByte x ((p + k) % 8) (F (p + k))).toNat : Int))).setAt 0 (.int .i64 ((p : Int) + k + 1))
        rw [show ((p + (k + 1) : Nat) : Int) = (p : Int) + k + 1 from by omega]
        exact h1
      · have h1 := (HGr.out.setAt ((p + k) / 8) (.int .u8 ((orByte x ((p + k) % 8) (F (p + k))).toNat : Int))).setFar (p := ⟨At, 0, none⟩) (fun e => hAG e.symm) (.int .i64 ((p : Int) + k + 1))
        rw [bcells_set, Hset.out] at h1
        exact h1
    · have e : k = n := by omega
      subst e
      go_wp2
      go_end0
      exact ⟨rfl, hAr, hGr, htwo⟩
end Go.Proofs.Ytheaebkegncdlaa
