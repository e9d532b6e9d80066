/- The reader of layer 5: numbers read one behind the other; what is broken gives up by a panic. -/
import Derived.Test.YtheaebkegncdlaaChSmp
import Derived.Test.YtheaebkegncdlaaChEncode
import Derived.Deep.RegionHeld3
import Derived.Deep.RegionLaw
import Derived.Deep.RegionWith
import Derived.BigRegion
import Derived.WalkLawsBesides
namespace Go.Proofs.Ytheaebkegncdlaa
open Go.RowKit Go.Maps
set_option linter.unusedVariables false

/-- What a broken chunk panics with. -/
def broken : List PanicEntry := [{ v := .iface 25 (.int .i64 5), recovered := false }]
theorem must_yes (w : World) : Calls Try.prog 50 #[.bool true] w fun e w' => e = .returned (.tuple #[]) ∧ w = w' := by
  have hnot : ∀ (x : Bool) (w : World), (Op.unary .not (.bool x)).run Try.prog w = .ok (.bool (!x)) w := fun _ _ => rfl
  go_enter Try.func50, Try.ntmps50
  go_wp2
  go_end0
  exact ⟨rfl, rfl⟩
theorem must_no (w : World) : Calls Try.prog 50 #[.bool false] w fun e w' => e = .panicked broken ∧ w = w' := by
  go_enter Try.func50, Try.ntmps50
  go_wp2
  exact ⟨rfl, rfl, rfl⟩

/-- The reader at block X stands at the place p of the bits of b. -/
def Rd (w : World) (X : Nat) (A : Option Addr) (b : List UInt8) (c p : Nat) : Prop :=
  Row w X 82 #[.slice A b.length c, .int .i64 ((8 * b.length : Nat) : Int), .int .i64 (p : Int)]

set_option maxRecDepth 20000 in
set_option maxHeartbeats 1000000 in
theorem rnum_yes {w : World} {X : Nat} {A : Option Addr} {b : List UInt8} {c p u q : Nat} (h : Rd w X A b c p) (hA : Bys w A b) (hl : b.length ≤ 140737488355328) (hg : gnum b ((8 * b.length : Nat) : Int) p = (u, (q : Int), 0)) :
    Calls Try.prog 49 #[.pointer (some ⟨X, 0, none⟩)] w fun e w' => e = .returned (.int .u64 (u : Int)) ∧ Rd w' X A b c q ∧ Two w w' X X := by
  have HG := Lib.hid (fun W hW => by have := getnum_prog A b c ((8 * b.length : Nat) : Int) p W hW (by omega) (by omega) (by omega); rw [hg] at this; exact this)
  have hX : Row w.drew X 82 #[.slice A b.length c, .int .i64 ((8 * b.length : Nat) : Int), .int .i64 (p : Int)] := h
  have c0 : w.cell? ⟨X, 0, none⟩ = some (.slice A b.length c) := hX.cell 0
  have c1 : w.cell? ⟨X, 1, none⟩ = some (.int .i64 ((8 * b.length : Nat) : Int)) := hX.cell 1
  have c2 : w.cell? ⟨X, 2, none⟩ = some (.int .i64 (p : Int)) := hX.cell 2
  have hAd : Bys w.drew A b := hA
  have HX := Lib.hid hX
  have HAd := Lib.hid hAd
  clear hX hAd h hA hg
  generalize hN : 8 * b.length = N at *
  have HNN := Lib.hid hN
  clear hN
  go_enter Try.func49, Try.ntmps49
  go_wp2_with fail
  go_region_with (go_at_call 61
                  refine (HG.out _ HAd.out).mono ?_
                  rintro e w2 ⟨rfl, hb2⟩
                  have hX2 := HX.out.below hb2 HX.out.lt
                  have y2 : w2.cell? ⟨X, 2, none⟩ = some (.int .i64 (p : Int)) := hX2.cell 2
                  have z2 := hX2.frozen 2
                  have HX2 := Lib.hid hX2
                  have HB2 := Lib.hid hb2)
  all_goals
    clear c0 c1 c2
    go_wp2_with fail
    refine (must_yes _).mono ?_
    rintro e w3 ⟨rfl, rfl⟩
    go_wp2_with fail
    go_ret
    refine ⟨rfl, (by unfold Rd; rw [HNN.out]; exact HX2.out.setAt 2 _), ?_⟩
    have k : Two w w2 X X := ⟨HB2.out.os, HB2.out.tape, HB2.out.output, HB2.out.size, fun i hi _ _ => HB2.out.block i hi⟩
    exact k.set (p := ⟨X, 2, none⟩) (.inl rfl) _

set_option maxRecDepth 20000 in
set_option maxHeartbeats 1000000 in
theorem rnum_no {w : World} {X : Nat} {A : Option Addr} {b : List UInt8} {c p : Nat} {code : Int} (h : Rd w X A b c p) (hA : Bys w A b) (hl : b.length ≤ 140737488355328) (hc : (code != 0) = true) (hg : gnum b ((8 * b.length : Nat) : Int) p = (0, 0, code)) :
    Calls Try.prog 49 #[.pointer (some ⟨X, 0, none⟩)] w fun e w' => e = .panicked broken ∧ Two w w' X X := by
  have HG := Lib.hid (fun W hW => by have := getnum_prog A b c ((8 * b.length : Nat) : Int) p W hW (by omega) (by omega) (by omega); rw [hg] at this; exact this)
  have hX : Row w.drew X 82 #[.slice A b.length c, .int .i64 ((8 * b.length : Nat) : Int), .int .i64 (p : Int)] := h
  have c0 : w.cell? ⟨X, 0, none⟩ = some (.slice A b.length c) := hX.cell 0
  have c1 : w.cell? ⟨X, 1, none⟩ = some (.int .i64 ((8 * b.length : Nat) : Int)) := hX.cell 1
  have c2 : w.cell? ⟨X, 2, none⟩ = some (.int .i64 (p : Int)) := hX.cell 2
  have hAd : Bys w.drew A b := hA
  have HX := Lib.hid hX
  have HAd := Lib.hid hAd
  have he : (code == 0) = false := by rw [beq_eq_false_iff_ne]; exact bne_iff_ne.1 hc
  clear hX hAd h hA hg
  generalize hN : 8 * b.length = N at *
  have HNN := Lib.hid hN
  clear hN
  go_enter Try.func49, Try.ntmps49
  go_wp2_with fail
  go_region_with (go_at_call 61
                  refine (HG.out _ HAd.out).mono ?_
                  rintro e w2 ⟨rfl, hb2⟩
                  have HB2 := Lib.hid hb2)
  all_goals
    clear c0 c1 c2
    go_wp2_with fail
    refine (must_no _).mono ?_
    rintro e w3 ⟨rfl, rfl⟩
    go_wp2_with fail
    exact ⟨rfl, rfl, HB2.out.os, HB2.out.tape, HB2.out.output, HB2.out.size, fun i hi _ _ => HB2.out.block i hi⟩
end Go.Proofs.Ytheaebkegncdlaa
