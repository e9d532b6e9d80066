/- The document's examples of layer 10: the two sets, what is told of them. -/
import Derived.Test.YtojlcipphnegaaaGreatIxFind3
import Derived.Test.YtojlcipphnegaaaGreatIxBytes
import Derived.Test.YtojlcipphnegaaaGreatIxBytesRef
import Derived.Test.YtojlcipphnegaaaGreatIxRd1
namespace Go.Proofs.YtojlcipphnegaaaGreat
open Go.RowKit Go.Maps
set_option linter.unusedVariables false
set_option maxRecDepth 100000

def exSS : List (List Lbl) := [[(⟨#[97]⟩, ⟨#[120]⟩)], [(⟨#[97]⟩, ⟨#[120]⟩), (⟨#[98]⟩, ⟨#[121]⟩)]]
theorem exSS_right : ixChk exSS = 0 := by decide +kernel
theorem exM_right : mchkAll [(1, ⟨#[98]⟩, ⟨#[121]⟩)] = 0 := by decide +kernel
theorem exM_find : findL exSS [(1, ⟨#[98]⟩, ⟨#[121]⟩)] = [1] := by decide +kernel
theorem ownl_made {w : World} {g base : Nat} {l : List Lbl} (h : Row w g 35 (l.flatMap lblE).toArray) (hb : base ≤ g) (hl : l.length ≤ 1000000) : OwnL w base (.slice (some ⟨g, 0, none⟩) l.length l.length) l := by
  have e := flat_len lblE 2 lblE_len l
  exact ⟨e, .inr ⟨g, l.length, (l.flatMap lblE).toArray, rfl, hb, h, Nat.le_refl _, by simp only [maxLen]; omega, by simp only [List.size_toArray]; rw [e], by
    show (l.flatMap lblE).take (l.length * 2) = _
    exact List.take_of_length_le (by omega)⟩⟩
theorem ownsets_made {w : World} {g base : Nat} (ps : List LPl) (h : Row w g 31 (ps.map slE).toArray) (hb : base ≤ g) (hl : ps.length ≤ 1000000) (hp : ∀ p ∈ ps, (Lbls w p.1 p.2.2 ∧ p.2.2.length ≤ p.2.1) ∧ OwnL w base (slE p) p.2.2) : OwnSets w base (.slice (some ⟨g, 0, none⟩) ps.length ps.length) (ps.map fun p => p.2.2) :=
  ⟨ps, rfl, ⟨by simp, .inr ⟨g, ps.length, (ps.map slE).toArray, rfl, hb, h, Nat.le_refl _, by simp only [maxLen]; omega, by simp, by
    show (ps.map slE).take (ps.length * 1) = _
    exact List.take_of_length_le (by simp)⟩⟩, hp⟩
theorem two_prog (w : World) : Calls Tryz.prog 32 #[] w fun e w' => ∃ v, e = .returned v ∧ OwnSets w' w.heap.size v exSS ∧ Below w.heap.size w w' := by
  have r1 := Row.new w 35 #[.string ⟨#[97]⟩, .string ⟨#[120]⟩]
  have b1 := below_one w (.cells #[.string ⟨#[97]⟩, .string ⟨#[120]⟩] 35)
  have r2 := Row.new (w.alloc (.cells #[.string ⟨#[97]⟩, .string ⟨#[120]⟩] 35)) 35 #[.string ⟨#[97]⟩, .string ⟨#[120]⟩, .string ⟨#[98]⟩, .string ⟨#[121]⟩]
  have b2 := below_one (w.alloc (.cells #[.string ⟨#[97]⟩, .string ⟨#[120]⟩] 35)) (.cells #[.string ⟨#[97]⟩, .string ⟨#[120]⟩, .string ⟨#[98]⟩, .string ⟨#[121]⟩] 35)
  have hs1 : (w.alloc (.cells #[.string ⟨#[97]⟩, .string ⟨#[120]⟩] 35)).heap.size = w.heap.size + 1 := by simp
  have o1 := ownl_made (l := [(⟨#[97]⟩, ⟨#[120]⟩)]) r1 (Nat.le_refl _) (by decide)
  have o2 := ownl_made (l := [(⟨#[97]⟩, ⟨#[120]⟩), (⟨#[98]⟩, ⟨#[121]⟩)]) (base := w.heap.size) r2 (by omega) (by decide)
  rw [hs1] at o2 r2
  have o1' := ownl_below o1 b2
  have HO1 := Lib.hid o1'
  have HO2 := Lib.hid o2
  clear r1 r2 b1 b2 hs1 o1 o2 o1'
  go_enter Tryz.func32, Tryz.ntmps32
  go_wp2_with fail
  go_ret
  refine ⟨_, rfl, ?_, ?_⟩
  · have hR := Row.new ((w.alloc (.cells #[.string ⟨#[97]⟩, .string ⟨#[120]⟩] 35)).alloc (.cells #[.string ⟨#[97]⟩, .string ⟨#[120]⟩, .string ⟨#[98]⟩, .string ⟨#[121]⟩] 35)) 31 #[.slice (some ⟨w.heap.size, 0, none⟩) 1 1, .slice (some ⟨w.heap.size + 1, 0, none⟩) 2 2]
    have hb := below_one ((w.alloc (.cells #[.string ⟨#[97]⟩, .string ⟨#[120]⟩] 35)).alloc (.cells #[.string ⟨#[97]⟩, .string ⟨#[120]⟩, .string ⟨#[98]⟩, .string ⟨#[121]⟩] 35)) (.cells #[.slice (some ⟨w.heap.size, 0, none⟩) 1 1, .slice (some ⟨w.heap.size + 1, 0, none⟩) 2 2] 31)
    have hs : ((w.alloc (.cells #[.string ⟨#[97]⟩, .string ⟨#[120]⟩] 35)).alloc (.cells #[.string ⟨#[97]⟩, .string ⟨#[120]⟩, .string ⟨#[98]⟩, .string ⟨#[121]⟩] 35)).heap.size = w.heap.size + 1 + 1 := by simp
    have k1 := ownl_below HO1.out hb
    have k2 := ownl_below HO2.out hb
    rw [hs] at hR
    refine ownsets_made (base := w.heap.size) [(some ⟨w.heap.size, 0, none⟩, 1, [(⟨#[97]⟩, ⟨#[120]⟩)]), (some ⟨w.heap.size + 1, 0, none⟩, 2, [(⟨#[97]⟩, ⟨#[120]⟩), (⟨#[98]⟩, ⟨#[121]⟩)])] hR (by omega) (by simp) ?_
    intro p hp
    simp only [List.mem_cons, List.not_mem_nil, or_false] at hp
    rcases hp with rfl | rfl
    · obtain ⟨P, c, e, _, hL, _⟩ := ownl_slice k1
      injection e with e1 e2 e3
      subst e1
      exact ⟨⟨hL, by simp⟩, k1⟩
    · obtain ⟨P, c, e, _, hL, _⟩ := ownl_slice k2
      injection e with e1 e2 e3
      subst e1
      exact ⟨⟨hL, by simp⟩, k2⟩
  · exact (((Below.refl _ _).alloc (Nat.le_refl _) _).alloc (by simp) _).alloc (by simp; omega) _

theorem exFind {w w' : World} {e : Ending} (h : FindTold w exSS [(1, ⟨#[98]⟩, ⟨#[121]⟩)] e w') : ∃ v, e = .returned (.tuple #[v, .int .i64 0]) ∧ OwnZ w' w.heap.size v [1] ∧ Below w.heap.size w w' := by
  unfold FindTold at h
  rw [exM_right, if_pos rfl, exM_find] at h
  exact h
theorem exNew {w w' : World} {e : Ending} (h : NewTold w exSS e w') : ∃ X, e = .returned (.tuple #[.pointer (some ⟨X, 0, none⟩), .int .i64 0]) ∧ IdxAt w' w.heap.size X exSS ∧ Below w.heap.size w w' := by
  obtain ⟨hb, ⟨h, _⟩ | ⟨_, X, h1, h2⟩⟩ := h
  · exact absurd exSS_right h
  · exact ⟨X, h1, h2, hb⟩
theorem mts_one {w : World} {g : Nat} {k : Int} {n v : ByteArray} (h : Row w g 54 #[.int .i64 k, .string n, .string v]) : Mts w (some ⟨g, 0, none⟩) [(k, n, v)] := At.row h
theorem exLen : exSS.length = 2 := rfl
theorem exEach : ∀ i, (exSS.getD i []).length ≤ 100000000000000 := by
  intro i
  rcases i with _ | _ | i
  · decide
  · decide
  · show ([] : List Lbl).length ≤ _
    decide
end Go.Proofs.YtojlcipphnegaaaGreat
