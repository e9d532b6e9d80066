/- Of, of the program: bytes that are an index's are read as it, and no others. -/
import Derived.Test.YtojlcipphnegaaaGreatIxRd4
import Derived.Test.YtojlcipphnegaaaGreatIxBothWalk
namespace Go.Proofs.YtojlcipphnegaaaGreat
open Go.RowKit Go.Maps
set_option linter.unusedVariables false
set_option maxRecDepth 100000
/-- What Of tells. -/
def OfTold (b : List UInt8) (w : World) (o : Option (List (List Lbl))) (e : Ending) (w' : World) : Prop :=
  Below w.heap.size w w' ∧ (((∀ ss, o = some ss → ¬ (ixChk ss = 0 ∧ ixBytes ss = b)) ∧ e = .returned (.tuple #[.pointer none, .int .i64 5])) ∨
    ∃ ss X B, o = some ss ∧ ixChk ss = 0 ∧ ixBytes ss = b ∧ e = .returned (.tuple #[.pointer (some ⟨X, 0, none⟩), .int .i64 0]) ∧ w.heap.size ≤ B ∧ IdxAt w' B X ss)
section
variable (A : Option Addr) (b : List UInt8) (c : Nat) (hbc : b.length ≤ c) (hbl : b.length ≤ 140737488355328)
include hbc hbl
set_option maxHeartbeats 4000000 in
theorem of_prog (o : Option (List (List Lbl))) (w : World) (hA : Bys w A b) (h : IxP (GU b) (XO b) o) :
    Calls Tryz.prog 20 #[.slice A b.length c] w (OfTold b w o) := by
  have HA := Lib.hid (fun x (h : Below w.heap.size w x) => (show Bys x A b from hA.below h))
  have HC := Lib.hid (rsets_prog A b c hbc hbl o w hA h)
  have HNB := Lib.hid hbl
  clear hA h hbc hbl
  obtain ⟨nb, hnb⟩ : ∃ nb, b.length = nb := ⟨_, rfl⟩
  have HEQ := Lib.hid (fun P c1 (l : List UInt8) d x (h1 : Bys x P l) (h : Below w.heap.size w x) => equal_prog P A l b c1 d x h1 (HA.out x h))
  rw [hnb] at HC HEQ ⊢
  clear hnb
  go_enter Tryz.func20, Tryz.ntmps20
  go_wp2_with fail
  refine HC.out.mono ?_
  rintro e w2 ⟨hb2, ⟨rfl, E, hE, rfl⟩ | ⟨ss, v, rfl, h256, h8, rfl, hO⟩⟩
  · have j1 : (E != 0) = true := bne_iff_ne.2 hE
    have HB2 := Lib.hid hb2
    clear hb2 hE
    go_wp2_with fail
    go_ret2
    exact ⟨HB2.out, .inl ⟨fun ss h => (by cases h), rfl⟩⟩
  · obtain ⟨P, d, rfl, hd, hS, _⟩ := ownsets_slice hO
    have HB2 := Lib.hid hb2
    have hll : ∀ i, (ss.getD i []).length ≤ 100000000000000 := by
      intro i
      rcases Nat.lt_or_ge i ss.length with h | h
      · have := h8 _ (ss_at h)
        omega
      · rw [List.getD_eq_getElem?_getD, List.getElem?_eq_none h]
        exact Nat.zero_le _
    have HN := Lib.hid (new_prog P ss d w2 hS (by omega) hll)
    clear hb2 hO hS hd h8 hll
    by_cases hz : ixChk ss = 0
    · have HY := Lib.hid (fun X B x (h : IdxAt x B X ss) => bytes_prog X ss B x h hz)
      have HZ := Lib.hid hz
      clear hz
      go_wp2_with fail
      refine (HN.out.mono fun e w' h => new_yes HZ.out h).mono ?_
      rintro e w3 ⟨X, rfl, hI, hb3⟩
      have HI := Lib.hid hI
      have HB3 := Lib.hid (below_then HB2.out hb3)
      clear hI hb3 HN
      go_wp2_with fail
      refine (HY.out _ _ _ HI.out).mono ?_
      rintro e w4 ⟨u, rfl, hu, hb4⟩
      obtain ⟨P4, d4, rfl, hP4, _⟩ := own_slice' hu
      have HI4 := Lib.hid (HI.out.below hb4)
      have HB4 := Lib.hid (below_then HB3.out hb4)
      have HP4 := Lib.hid hP4
      clear hu hb4 hP4
      go_wp2_with fail
      refine (HEQ.out _ _ _ _ _ HP4.out HB4.out).mono ?_
      rintro e w' ⟨rfl, rfl⟩
      by_cases hq : ixBytes ss = b
      · rw [decide_eq_true hq]
        go_wp2_with fail
        go_ret2
        exact ⟨HB4.out, .inr ⟨ss, X, w2.heap.size, rfl, HZ.out, hq, rfl, HB2.out.size, HI4.out⟩⟩
      · rw [decide_eq_false hq]
        go_wp2_with fail
        go_ret2
        exact ⟨HB4.out, .inl ⟨fun ss' h => (by obtain rfl := Option.some.inj h; exact fun h2 => hq h2.2), rfl⟩⟩
    · have j1 : (ixChk ss != 0) = true := bne_iff_ne.2 hz
      have HN' := Lib.hid (HN.out.mono fun e w' h => new_no hz h)
      have HZ := Lib.hid hz
      clear hz HN
      generalize hE : ixChk ss = E at *
      have HEE := Lib.hid hE
      clear hE
      go_wp2_with fail
      refine HN'.out.mono ?_
      rintro e w3 ⟨rfl, hb3⟩
      have HB3 := Lib.hid (below_then HB2.out hb3)
      clear hb3
      go_wp2_with fail
      go_ret2
      exact ⟨HB3.out, .inl ⟨fun ss' h => (by obtain rfl := Option.some.inj h; rw [HEE.out]; exact fun h2 => HZ.out h2.1), rfl⟩⟩
end
/-- Of whatever bytes: of what is told for them. -/
theorem of_any (A : Option Addr) (b : List UInt8) (c : Nat) (hbc : b.length ≤ c) (hbl : b.length ≤ 140737488355328) (w : World) (hA : Bys w A b) :
    Calls Tryz.prog 20 #[.slice A b.length c] w fun e w' => Below w.heap.size w w' ∧ (e = .returned (.tuple #[.pointer none, .int .i64 5]) ∨
      ∃ ss X B, ixChk ss = 0 ∧ ixBytes ss = b ∧ e = .returned (.tuple #[.pointer (some ⟨X, 0, none⟩), .int .i64 0]) ∧ w.heap.size ≤ B ∧ IdxAt w' B X ss) := by
  obtain ⟨o, h⟩ := ixP_total (P := fun a => a ≤ b.length) (gu_all b) (xo_all b) (Nat.zero_le _)
  refine (of_prog A b c hbc hbl o w hA h).mono ?_
  rintro e w' ⟨hb, ⟨_, h⟩ | ⟨ss, X, B, _, h1, h2, h3, h4, h5⟩⟩
  · exact ⟨hb, .inl h⟩
  · exact ⟨hb, .inr ⟨ss, X, B, h1, h2, h3, h4, h5⟩⟩
theorem gu_right (b pre more : List UInt8) (n : Nat) (hn : n < 9223372036854775808) (h : pre ++ uintL n ++ more = b) : GU b pre.length n (pre ++ uintL n).length 0 := by
  rw [← h, List.length_append]
  exact gu_of pre more n hn
theorem xo_right (b pre more : List UInt8) (s : ByteArray) (hs : s.size ≤ 65535) (h : pre ++ (uintL s.size ++ strL s) ++ more = b) : XO b pre.length s (pre ++ (uintL s.size ++ strL s)).length 0 := by
  have h1 := gu_right b pre (strL s ++ more) s.size (by omega) (by rw [← h]; simp)
  have hl : (strL s).length = s.size := by
    show s.data.toList.length = s.data.size
    simp
  refine ⟨by rw [← h]; simp, s.size, _, 0, h1, ?_⟩
  have hx : (pre ++ uintL s.size).length ≤ b.length := by
    rw [← h]
    simp only [List.length_append]
    omega
  have h2 := GT.ok (l := b) s.size (pre ++ uintL s.size).length hs hx (by rw [← h]; simp only [List.length_append, hl]; omega)
  have e1 : txt ((b.drop (pre ++ uintL s.size).length).take s.size) = s := by
    rw [← h, show pre ++ (uintL s.size ++ strL s) ++ more = (pre ++ uintL s.size) ++ (strL s ++ more) by simp, List.drop_left, ← hl, List.take_left]
    exact ByteArray.ext (by show (strL s).toArray = _; simp [strL])
  rw [e1, show (pre ++ uintL s.size).length + s.size = (pre ++ (uintL s.size ++ strL s)).length by simp only [List.length_append, hl]; omega] at h2
  exact h2
/-- The bytes of right sets are read as them. -/
theorem of_right (A : Option Addr) (ss : List (List Lbl)) (c : Nat) (hr : ixChk ss = 0) (hbc : (ixBytes ss).length ≤ c) (w : World) (hA : Bys w A (ixBytes ss)) :
    Calls Tryz.prog 20 #[.slice A (ixBytes ss).length c] w fun e w' => Below w.heap.size w w' ∧
      ∃ X B, e = .returned (.tuple #[.pointer (some ⟨X, 0, none⟩), .int .i64 0]) ∧ w.heap.size ≤ B ∧ IdxAt w' B X ss := by
  have h := ix_pr (ix_back (gu_right (ixBytes ss)) (xo_right (ixBytes ss)) hr rfl)
  have hl := bytes_len hr
  refine (of_prog A (ixBytes ss) c hbc (by omega) (some ss) w hA h).mono ?_
  rintro e w' ⟨hb, ⟨h, _⟩ | ⟨ss', X, B, h0, h1, h2, h3, h4, h5⟩⟩
  · exact absurd ⟨hr, rfl⟩ (h ss rfl)
  · obtain rfl := Option.some.inj h0
    exact ⟨hb, X, B, h3, h4, h5⟩
end Go.Proofs.YtojlcipphnegaaaGreat
