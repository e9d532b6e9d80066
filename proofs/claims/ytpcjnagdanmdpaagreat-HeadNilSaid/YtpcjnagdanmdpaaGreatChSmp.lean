/- Rows of samples (two cells each): that stand at an address, that are the call's own; append of such a row to an own one; how a law's argument of that type is opened. -/
import Derived.Test.YtpcjnagdanmdpaaGreatRowsG
import Derived.Test.YtpcjnagdanmdpaaGreatChMath
import Derived.Test.YtpcjnagdanmdpaaGreatOpen
namespace Go.Proofs.YtpcjnagdanmdpaaGreat.Ch
open Go.ChangeShapes Go.WideShapes Go.ChangeAt Go.RowKit Go.Joins Go.Maps
set_option linter.unusedVariables false
def smpE (s : Smp) : List Value := [.int .i64 s.1, .int .i64 s.2]
theorem smpE_len (s : Smp) : (smpE s).length = 2 := rfl
def Smps (w : World) (A : Option Addr) (l : List Smp) : Prop := At w A (l.flatMap smpE)
theorem Smps.at_ {w : World} {A : Option Addr} {l : List Smp} (h : Smps w A l) {i : Nat} (hi : i < l.length) :
    ∃ b o, A = some ⟨b, o, none⟩ ∧ b < w.heap.size ∧ w.cell? ⟨b, o + i * 2, none⟩ = some (.int .i64 (tOf l i)) ∧ w.cell? ⟨b, o + i * 2 + 1, none⟩ = some (.int .i64 (vOf l i)) := by
  have hlen := flat_len smpE 2 smpE_len l
  rcases h with h | ⟨b, o, rfl, hb, hc⟩
  · rw [h] at hlen; simp at hlen; omega
  · refine ⟨b, o, rfl, hb, ?_, ?_⟩
    · have := hc (i * 2 + 0) _ (flat_get smpE 2 smpE_len l i _ 0 (getD_some l (0, 0) hi) (by omega))
      exact this
    · have := hc (i * 2 + 1) _ (flat_get smpE 2 smpE_len l i _ 1 (getD_some l (0, 0) hi) (by omega))
      exact this
/-- The first address is the same for every element. -/
theorem Smps.all {w : World} {A : Option Addr} {l : List Smp} (h : Smps w A l) (hl : 0 < l.length) :
    ∃ b o, A = some ⟨b, o, none⟩ ∧ b < w.heap.size ∧ ∀ i, i < l.length → w.cell? ⟨b, o + i * 2, none⟩ = some (.int .i64 (tOf l i)) ∧ w.cell? ⟨b, o + i * 2 + 1, none⟩ = some (.int .i64 (vOf l i)) := by
  obtain ⟨b, o, rfl, hb, _⟩ := h.at_ hl
  refine ⟨b, o, rfl, hb, fun i hi => ?_⟩
  obtain ⟨b', o', e, _, h1, h2⟩ := h.at_ hi
  injection e with e
  injection e with e1 e2 _
  subst e1 e2
  exact ⟨h1, h2⟩
/-- The value v is a row of samples of the call's own, from block base on, and holds l. -/
def OwnS (w : World) (base : Nat) (v : Value) (l : List Smp) : Prop := w.ownsRow base 68 2 v l.length (l.flatMap smpE)
section
variable {w w' : World} {base : Nat} {v : Value} {l : List Smp}
theorem owns_nil (w : World) (base : Nat) : OwnS w base (.slice none 0 0) [] := ⟨rfl, .inl ⟨rfl, rfl⟩⟩
theorem owns_below (h : OwnS w base v l) (hb : Below w.heap.size w w') : OwnS w' base v l := rows_below h hb
theorem owns_slice (h : OwnS w base v l) : ∃ P c, v = .slice P l.length c ∧ l.length ≤ c ∧ Smps w P l ∧ ∀ ad, P = some ad → base ≤ ad.block := rows_slice h
end
theorem sample_info : (Tryz.prog.info? 68).map (fun i => (i.zero, i.size, i.bytes)) = some (some (.agg #[.int .i64 0, .int .i64 0]), 2, 16) := by kernel_rfl
theorem smps_cell {w : World} {g : Nat} {t v : Int} (h : Row w g 68 #[.int .i64 t, .int .i64 v]) : Smps w (some ⟨g, 0, none⟩) [(t, v)] := At.row h
section
variable {H : Type} {enc : TypeId × Value → H} {W : World} {base : Nat} {sp : Nat → Bool} {held : Bool}
end
end Go.Proofs.YtpcjnagdanmdpaaGreat.Ch
