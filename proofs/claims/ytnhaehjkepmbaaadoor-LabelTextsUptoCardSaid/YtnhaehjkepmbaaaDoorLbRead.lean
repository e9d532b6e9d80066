/- Labels read out of bytes: what is read where, and how the program reads one. -/
import Derived.Test.YtnhaehjkepmbaaaDoorLbPutRef
namespace Go.Proofs.YtnhaehjkepmbaaaDoor
open Go.RowKit Go.Maps
set_option linter.unusedVariables false

/-- What is read as a number at any place (one out of the bytes too). -/
def GX (l : List UInt8) (a : Int) (n nx e : Nat) : Prop := ((a < 0 ∨ (l.length : Int) < a) ∧ n = 0 ∧ nx = 0 ∧ e = 2) ∨ ∃ k : Nat, a = k ∧ k ≤ l.length ∧ GU l k n nx e
theorem gx_total (l : List UInt8) (a : Int) : ∃ n nx e, GX l a n nx e := by
  by_cases h : a < 0 ∨ (l.length : Int) < a
  · exact ⟨0, 0, 2, .inl ⟨h, rfl, rfl, rfl⟩⟩
  · obtain ⟨k, rfl⟩ := Int.eq_ofNat_of_zero_le (a := a) (by omega)
    obtain ⟨n, nx, e, hg⟩ := gu_total l k (by omega)
    exact ⟨n, nx, e, .inr ⟨k, rfl, by omega, hg⟩⟩
theorem gx_place {l : List UInt8} {a : Int} {n nx e : Nat} (h : GX l a n nx e) : (e = 0 → nx ≤ l.length ∧ 0 < nx) ∧ n < 9223372036854775808 := by
  rcases h with ⟨_, rfl, rfl, rfl⟩ | ⟨k, rfl, _, hg⟩
  · exact ⟨fun h => absurd h (by omega), by omega⟩
  · exact ⟨fun he => ⟨(gu_place hg he).1, (gu_place hg he).2.1⟩, gu_small hg⟩
/-- What is read as a text at any place. -/
def TX (l : List UInt8) (a : Int) (s : ByteArray) (k e : Nat) : Prop := ∃ n nx e0, GX l a n nx e0 ∧ GT l n nx e0 s k e
theorem tx_total (l : List UInt8) (a : Int) : ∃ s k e, TX l a s k e := by
  obtain ⟨n, nx, e0, h⟩ := gx_total l a
  obtain ⟨s, k, e, h2⟩ := gt_total l n nx e0 (fun he => ((gx_place h).1 he).1)
  exact ⟨s, k, e, n, nx, e0, h, h2⟩
theorem tx_size {l : List UInt8} {a : Int} {s : ByteArray} {k e : Nat} (h : TX l a s k e) : s.size ≤ 65535 := by
  obtain ⟨n, nx, e0, _, h2⟩ := h
  cases h2 with
  | no e h => simp [ByteArray.size]
  | big h => simp [ByteArray.size]
  | short h hx hs => simp [ByteArray.size]
  | ok h hx hs => simp [txt, ByteArray.size]; omega
/-- What is read as n labels from a place on: the labels, the place behind, the error. -/
inductive RL (l : List UInt8) : Nat → Int → List Lbl → Int → Nat → Prop
  | done (a : Int) : RL l 0 a [] a 0
  | bad1 (n : Nat) (a : Int) (s : ByteArray) (k e : Nat) (h : TX l a s k e) (he : e ≠ 0) : RL l (n + 1) a [] 0 e
  | bad2 (n : Nat) (a : Int) (s : ByteArray) (k : Nat) (s2 : ByteArray) (k2 e : Nat) (h : TX l a s k 0) (h2 : TX l k s2 k2 e) (he : e ≠ 0) : RL l (n + 1) a [] 0 e
  | ok (n : Nat) (a : Int) (s : ByteArray) (k : Nat) (s2 : ByteArray) (k2 : Nat) (ls : List Lbl) (p : Int) (e : Nat) (h : TX l a s k 0) (h2 : TX l k s2 k2 0) (r : RL l n k2 ls p e) : RL l (n + 1) a ((s, s2) :: ls) p e
theorem rl_total (l : List UInt8) : ∀ n a, ∃ ls p e, RL l n a ls p e := by
  intro n
  induction n with
  | zero => intro a; exact ⟨_, _, _, .done a⟩
  | succ n ih =>
    intro a
    obtain ⟨s, k, e, h⟩ := tx_total l a
    by_cases he : e = 0
    · subst he
      obtain ⟨s2, k2, e2, h2⟩ := tx_total l k
      by_cases he2 : e2 = 0
      · subst he2
        obtain ⟨ls, p, e, r⟩ := ih k2
        exact ⟨_, _, _, .ok n a s k s2 k2 ls p e h h2 r⟩
      · exact ⟨_, _, _, .bad2 n a s k s2 k2 e2 h h2 he2⟩
    · exact ⟨_, _, _, .bad1 n a s k e h he⟩
theorem rl_size {l : List UInt8} {n : Nat} {a : Int} {ls : List Lbl} {p : Int} {e : Nat} (h : RL l n a ls p e) : LFits ls ∧ ls.length ≤ n := by
  induction h with
  | done a => exact ⟨fun i hi => by simp at hi, Nat.le_refl _⟩
  | bad1 n a s k e h he => exact ⟨fun i hi => by simp at hi, by simp⟩
  | bad2 n a s k s2 k2 e h h2 he => exact ⟨fun i hi => by simp at hi, by simp⟩
  | ok n a s k s2 k2 ls p e h h2 r ih =>
    refine ⟨fun i hi => ?_, by rw [List.length_cons]; omega⟩
    cases i with
    | zero =>
      have h3 := tx_size h
      have h4 := tx_size h2
      show s.size ≤ _ ∧ s2.size ≤ _
      omega
    | succ i => exact ih.1 i (by simpa using hi)

theorem ret_lbl3 {fn : Func} {p u v : Tmp} (h : fn.results = #[.cell p 37, .tmp u, .tmp v]) (tmps : Array Value) (w : World) (g : Nat) (cs : Array Value) (hp : tmps.getD p undef = .pointer (some ⟨g, 0, none⟩)) (hg : Row w g 37 cs) (hs : cs.size = 2) :
    (results fn tmps).run Tryd.prog w = .ok (.tuple #[.agg cs, tmps.getD u undef, tmps.getD v undef]) w := by
  have hp' : tmps[p]?.getD undef = .pointer (some ⟨g, 0, none⟩) := by simpa using hp
  simp only [results, h]
  simp [hp', asAddr, Result.andThen, run_loadVar_row w g _ _ cs _ _ hg Tryd.underlying37 rfl (by rw [hs]; kernel_rfl)]
end Go.Proofs.YtnhaehjkepmbaaaDoor
