/- A share of loose bytes or of entries; whether names are right; the file that stands under a name. -/
import Derived.Test.YtiepepikbophmaaDkName
namespace Go.Proofs.Ytiepepikbophmaa
open Go.RowKit
set_option linter.unusedVariables false

theorem share_prog (x : Int) (n : Nat) (w : World) (hn : n ≤ 140737488355328) (hx0 : -9223372036854775808 ≤ x) (hx1 : x ≤ 9223372036854775807) :
    Calls Try.prog 74 #[.int .i64 x, .int .i64 n] w fun e w' => e = .returned (.int .i64 (modU x (n + 1) : Nat)) ∧ w = w' := by
  have hu : IntKind.u64.wrap x = ((x % 18446744073709551616).toNat : Int) := by
    rw [IntKind.wrap_u64]
    omega
  obtain ⟨u, hu2⟩ : ∃ u : Nat, (x % 18446744073709551616).toNat = u := ⟨_, rfl⟩
  have HM := Lib.hid (show modU x (n + 1) = u % (n + 1) by unfold modU; rw [hu2])
  rw [hu2] at hu
  have hz2 : (((n : Int) + 1) == 0) = false := by rw [beq_eq_false_iff_ne]; omega
  have hlt : u % (n + 1) < n + 1 := Nat.mod_lt _ (by omega)
  have hr2 : (u : Int).tmod ((n : Int) + 1) = ((u % (n + 1) : Nat) : Int) := by rw [Int.ofNat_tmod]; rfl
  generalize u % (n + 1) = r at *
  rw [HM.out]
  clear hu2
  go_enter Try.func74, Try.ntmps74
  go_wp2_with fail
  go_outline
  go_ret
  exact ⟨rfl, rfl⟩

theorem ret_int {a b : Int} (h : a = b) : Ending.returned (.int .i64 a) = .returned (.int .i64 b) := by rw [h]
/-- Are all of them names? -/
def okNames (ss : List ByteArray) : Bool := ss.all fun s => namedB (strL s)
theorem ok_snoc (ss : List ByteArray) {k : Nat} {s : ByteArray} (h : ss[k]? = some s) : okNames (ss.take (k + 1)) = (okNames (ss.take k) && namedB (strL s)) := by
  unfold okNames
  rw [List.take_add_one, h, List.all_append]
  simp
theorem ok_no (ss : List ByteArray) {k : Nat} {s : ByteArray} (h : ss[k]? = some s) (hn : namedB (strL s) = false) : okNames ss = false := by
  unfold okNames
  rw [List.all_eq_false]
  exact ⟨s, List.mem_of_getElem? h, by simp [hn]⟩
def nameE (ok : Bool) : Int := if ok then 0 else 8
theorem check_prog (X g : Nat) (ss : List ByteArray) (w : World) (hl : ss.length ≤ 4) (hc : ∀ k s, ss[k]? = some s → w.cell? ⟨g, k, none⟩ = some (.string s) ∧ s.size ≤ 281474976710656) :
    Calls Try.prog 67 #[.pointer (some ⟨X, 0, none⟩), .slice (some ⟨g, 0, none⟩) ss.length ss.length] w fun e w' => e = .returned (.int .i64 (nameE (okNames ss))) ∧ w = w' := by
  go_enter Try.func67, Try.ntmps67
  go_wp2_with fail
  go_loop [11] (fun i => ∃ k : Nat, k ≤ ss.length ∧ i = .int .i64 (k : Int) ∧ okNames (ss.take k) = true) (fun i => ss.length - (intOf i).toNat)
  case atStart => exact ⟨0, Nat.zero_le _, rfl, rfl⟩
  case round =>
    obtain ⟨k, hk, rfl, hall⟩ := hrel
    by_cases hlt : k < ss.length
    · obtain ⟨s, hs⟩ : ∃ s, ss[k]? = some s := ⟨_, List.getElem?_eq_getElem hlt⟩
      obtain ⟨c0, hsz⟩ := hc k s hs
      have HN := Lib.hid (ok_snoc ss hs)
      have HO := Lib.hid hall
      have HF := Lib.hid (fun h => ok_no ss hs h)
      clear hall hc hs
      cases hnm : namedB (strL s)
      · go_wp2_with fail
        refine (isname_prog s w hsz).mono ?_
        rintro e w1 ⟨rfl, rfl⟩
        rw [hnm]
        go_wp2_with fail
        go_ret
        exact ⟨ret_int (by rw [HF.out hnm]; rfl), rfl⟩
      · go_wp2_with fail
        refine (isname_prog s w hsz).mono ?_
        rintro e w1 ⟨rfl, rfl⟩
        rw [hnm]
        go_wp2_with fail
        go_round
        case rel => exact ⟨k + 1, by omega, by go_num, by rw [HN.out, HO.out, hnm]; rfl⟩
        case measure => simp [intOf]; omega
    · obtain rfl : k = ss.length := by omega
      rw [List.take_length] at hall
      have HO := Lib.hid hall
      clear hall hc
      go_wp2_with fail
      go_ret
      exact ⟨ret_int (by rw [HO.out]; rfl), rfl⟩
theorem check_nil (v : Value) (w : World) :
    Calls Try.prog 67 #[.pointer none, v] w fun e w' => e = .returned (.int .i64 1) ∧ w = w' := by
  go_enter Try.func67, Try.ntmps67
  go_wp2_with fail
  go_ret
  exact ⟨rfl, rfl⟩
end Go.Proofs.Ytiepepikbophmaa
