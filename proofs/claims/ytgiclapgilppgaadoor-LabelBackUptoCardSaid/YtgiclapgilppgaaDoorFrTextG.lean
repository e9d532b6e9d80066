/- A text laid down behind bytes and read at a place, as the program and as the document's own answer do it. -/
import Derived.Test.YtgiclapgilppgaaDoorFrPutUintG
import Derived.Test.YtgiclapgilppgaaDoorFrGetUintG
import Derived.Test.YtgiclapgilppgaaDoorAppStr
namespace Go.Proofs.YtgiclapgilppgaaDoor
open Go.RowKit
set_option linter.unusedVariables false

/-- A text's bytes, with how many they are ahead. -/
def textL (s : ByteArray) : List UInt8 := uintL s.size ++ strL s

theorem puttext_prog (A : Option Addr) (l : List UInt8) (c : Nat) (s : ByteArray) (w : World) (hA : Bys w A l) (hl : l.length ≤ 140737488351232) (hs : s.size ≤ 65535) :
    Calls Tryd.prog 52 #[.slice A l.length c, .string s] w fun e w' => ∃ v, e = .returned (.tuple #[v, .int .i64 0]) ∧ Own w' w.heap.size v (l ++ textL s) ∧ Below w.heap.size w w' := by
  have d0 : decide ((65535 : Int) < (s.size : Int)) = false := by simp; omega
  have hu9 := uintL_9 (n := s.size) (by omega)
  have Ht := Lib.hid (show (l ++ uintL s.size) ++ strL s = l ++ textL s by simp [textL])
  go_enter Tryd.func52, Tryd.ntmps52
  go_wp2_with fail
  refine (putuint_prog A l c s.size w hA (by omega) (by omega)).mono ?_
  rintro e w1 ⟨v1, rfl, hown1, hb1⟩
  obtain ⟨B1, d1, hv1, _⟩ := own_slice' hown1
  subst hv1
  have hlen : (l ++ uintL s.size).length ≤ 140737488351300 := by rw [List.length_append]; omega
  generalize l ++ uintL s.size = y at *
  go_wp2_with (at_builtin; refine app_str rfl (.tmp 21) (.tmp 22) rfl w.heap.size _ y rfl hown1 s rfl (by omega) hb1.size ?_; intro v2 w2 hown2 hb2 hg2)
  go_ret2
  exact ⟨v2, rfl, by rw [← Ht.out]; exact hown2, hb1.trans hb2⟩
theorem puttext_big (A : Option Addr) (n c : Nat) (s : ByteArray) (w : World) (hs : 65535 < s.size) (hm : s.size ≤ 281474976710656) :
    Calls Tryd.prog 52 #[.slice A n c, .string s] w fun e w' => e = .returned (.tuple #[.slice none 0 0, .int .i64 3]) ∧ w = w' := by
  have d0 : decide ((65535 : Int) < (s.size : Int)) = true := by simp; omega
  go_enter Tryd.func52, Tryd.ntmps52
  go_wp2
  go_ret2
  exact ⟨rfl, rfl⟩
theorem text_ref (s : ByteArray) (w : World) (hs : s.size ≤ 65535) :
    Calls Tryd.prog 70 #[.string s] w fun e w' => ∃ v, e = .returned v ∧ Own w' w.heap.size v (textL s) ∧ Below w.heap.size w w' := by
  have hu9 := uintL_9 (n := s.size) (by omega)
  have Ht := Lib.hid (show uintL s.size ++ strL s = textL s from rfl)
  go_enter Tryd.func70, Tryd.ntmps70
  go_wp2_with fail
  refine (uint_ref s.size w (by omega)).mono ?_
  rintro e w1 ⟨v1, rfl, hown1, hb1⟩
  obtain ⟨B1, d1, hv1, _⟩ := own_slice' hown1
  subst hv1
  generalize uintL s.size = y at *
  go_wp2_with (at_builtin; refine app_str rfl (.tmp 5) (.tmp 6) rfl w.heap.size _ y rfl hown1 s rfl (by omega) hb1.size ?_; intro v2 w2 hown2 hb2 hg2)
  go_ret
  exact ⟨v2, rfl, by rw [← Ht.out]; exact hown2, hb1.trans hb2⟩
/-- What is read as a text, by what is read as a number. -/
inductive GT (l : List UInt8) : Nat → Nat → Nat → ByteArray → Nat → Nat → Prop
  | no (n nx e : Nat) (h : e ≠ 0) : GT l n nx e ⟨#[]⟩ 0 e
  | big (n nx : Nat) (h : 65535 < n) : GT l n nx 0 ⟨#[]⟩ 0 3
  | short (n nx : Nat) (h : n ≤ 65535) (hx : nx ≤ l.length) (hs : l.length - nx < n) : GT l n nx 0 ⟨#[]⟩ 0 4
  | ok (n nx : Nat) (h : n ≤ 65535) (hx : nx ≤ l.length) (hs : n ≤ l.length - nx) : GT l n nx 0 (txt ((l.drop nx).take n)) (nx + n) 0
theorem gt_total (l : List UInt8) (n nx e : Nat) (h : e = 0 → nx ≤ l.length) : ∃ s k e2, GT l n nx e s k e2 := by
  by_cases he : e = 0
  · subst he
    by_cases hn : 65535 < n
    · exact ⟨_, _, _, .big n nx hn⟩
    · by_cases hs : l.length - nx < n
      · exact ⟨_, _, _, .short n nx (by omega) (h rfl) hs⟩
      · exact ⟨_, _, _, .ok n nx (by omega) (h rfl) (by omega)⟩
  · exact ⟨_, _, _, .no n nx e he⟩
theorem gu_place {l : List UInt8} {a n nx e : Nat} (h : GU l a n nx e) : e = 0 → nx ≤ l.length ∧ 0 < nx ∧ a < nx := by
  intro he
  cases h with
  | short k hk hc he' => cases he
  | nought k hk h0 hc he' hz => cases he
  | long he' hc => cases he
  | ok k hk hc he' hl hz => omega
theorem gu_small {l : List UInt8} {a n nx e : Nat} (h : GU l a n nx e) : n < 9223372036854775808 := by
  cases h with
  | short k hk hc he' => omega
  | nought k hk h0 hc he' hz => omega
  | long he' hc => omega
  | ok k hk hc he' hl hz =>
    have h1 := digN_lt l a (k + 1)
    have h2 : 128 ^ (k + 1) ≤ 128 ^ 9 := Nat.pow_le_pow_right (by omega) (by omega)
    omega

theorem ret_text {s s' : ByteArray} {b c b' c' : Int} (h1 : s = s') (h2 : b = b') (h3 : c = c') : Ending.returned (.tuple #[.string s, .int .i64 b, .int .i64 c]) = .returned (.tuple #[.string s', .int .i64 b', .int .i64 c']) := by rw [h1, h2, h3]
set_option maxHeartbeats 1000000 in
theorem gettext_prog (A : Option Addr) (l : List UInt8) (c : Nat) (a : Int) (n nx e : Nat) (s : ByteArray) (k e2 : Nat) (w : World) (hA : Bys w A l) (hlc : l.length ≤ c) (hl : l.length ≤ 140737488355328) (hn : n < 9223372036854775808) (hnx : e = 0 → 0 < nx)
    (hu : Calls Tryd.prog 55 #[.slice A l.length c, .int .i64 a] w fun e' w' => e' = .returned (.tuple #[.int .i64 n, .int .i64 nx, .int .i64 e]) ∧ Below w.heap.size w w') (hg : GT l n nx e s k e2) :
    Calls Tryd.prog 72 #[.slice A l.length c, .int .i64 a] w fun e' w' => e' = .returned (.tuple #[.string s, .int .i64 k, .int .i64 e2]) ∧ Below w.heap.size w w' := by
  go_enter Tryd.func72, Tryd.ntmps72
  go_wp2_with fail
  refine hu.mono ?_
  rintro e' w1 ⟨rfl, hb1⟩
  have hA1 := hA.below hb1
  have Hb := Lib.hid hb1
  clear hu hb1
  cases hg with
  | no e h =>
    have q : ((e : Int) != 0) = true := by rw [bne_iff_ne]; omega
    clear hnx
    go_wp2
    go_ret3
    exact ⟨rfl, Hb.out⟩
  | big h =>
    have q : decide ((65535 : Int) < (n : Int)) = true := by simp; omega
    clear hnx
    go_wp2
    go_ret3
    exact ⟨rfl, Hb.out⟩
  | short h hx hs =>
    have q : decide ((65535 : Int) < (n : Int)) = false := by simp; omega
    have q2 : decide ((l.length : Int) - (nx : Int) < (n : Int)) = true := by simp; omega
    clear hnx
    go_wp2
    go_ret3
    exact ⟨rfl, Hb.out⟩
  | ok h hx hs =>
    have q : decide ((65535 : Int) < (n : Int)) = false := by simp; omega
    have q2 : decide ((l.length : Int) - (nx : Int) < (n : Int)) = false := by simp; omega
    have hp := hnx rfl
    clear hnx
    obtain ⟨b, o, rfl, _⟩ := hA.at_ (by omega)
    have hln : ((l.drop nx).take n).length = n := by simp; omega
    have hBX := (hA1.from nx).front n
    have HT := Lib.hid (show ∀ W, W = w1 → True from fun _ _ => trivial)
    by_cases hc : c = nx
    · have h0 : n = 0 := by omega
      have c1 : (convert 42 9 (.slice (some ⟨b, o, none⟩) n 0)).run Tryd.prog w1 = .ok (.string (txt [])) w1 := by
        subst h0
        exact conv_bys w1 (some ⟨b, o, none⟩) [] 0 (Bys.empty _ _)
      have HTX := Lib.hid (show txt [] = txt ((l.drop nx).take n) by rw [h0, List.take_zero])
      clear hBX hln HT h0
      go_wp2
      go_ret3
      exact ⟨ret_text HTX.out (by omega) rfl, Hb.out⟩
    · have c1 := conv_bys w1 (some ⟨b, o + nx, none⟩) ((l.drop nx).take n) (c - nx) hBX
      rw [hln] at c1
      generalize hT : txt ((l.drop nx).take n) = T at *
      have HTT := Lib.hid hT
      clear hBX hln HT hT
      go_wp2
      go_ret3
      exact ⟨ret_text HTT.out.symm (by omega) rfl, Hb.out⟩
set_option maxHeartbeats 1000000 in
theorem gettext_ref (A : Option Addr) (l : List UInt8) (c : Nat) (a : Int) (n nx e : Nat) (s : ByteArray) (k e2 : Nat) (w : World) (hA : Bys w A l) (hlc : l.length ≤ c) (hl : l.length ≤ 140737488355328) (hn : n < 9223372036854775808) (hnx : e = 0 → 0 < nx)
    (hu : Calls Tryd.prog 57 #[.slice A l.length c, .int .i64 a] w fun e' w' => e' = .returned (.tuple #[.int .i64 n, .int .i64 nx, .int .i64 e]) ∧ Below w.heap.size w w') (hg : GT l n nx e s k e2) :
    Calls Tryd.prog 58 #[.slice A l.length c, .int .i64 a] w fun e' w' => e' = .returned (.tuple #[.string s, .int .i64 k, .int .i64 e2]) ∧ Below w.heap.size w w' := by
  go_enter Tryd.func58, Tryd.ntmps58
  go_wp2_with fail
  refine hu.mono ?_
  rintro e' w1 ⟨rfl, hb1⟩
  have hA1 := hA.below hb1
  have Hb := Lib.hid hb1
  clear hu hb1
  cases hg with
  | no e h =>
    have q : ((e : Int) != 0) = true := by rw [bne_iff_ne]; omega
    clear hnx
    go_wp2
    go_ret3
    exact ⟨rfl, Hb.out⟩
  | big h =>
    have q : decide ((65535 : Int) < (n : Int)) = true := by simp; omega
    clear hnx
    go_wp2
    go_ret3
    exact ⟨rfl, Hb.out⟩
  | short h hx hs =>
    have q : decide ((65535 : Int) < (n : Int)) = false := by simp; omega
    have q2 : decide ((l.length : Int) - (nx : Int) < (n : Int)) = true := by simp; omega
    clear hnx
    go_wp2
    go_ret3
    exact ⟨rfl, Hb.out⟩
  | ok h hx hs =>
    have q : decide ((65535 : Int) < (n : Int)) = false := by simp; omega
    have q2 : decide ((l.length : Int) - (nx : Int) < (n : Int)) = false := by simp; omega
    have hp := hnx rfl
    clear hnx
    obtain ⟨b, o, rfl, _⟩ := hA.at_ (by omega)
    have hln : ((l.drop nx).take n).length = n := by simp; omega
    have hBX := (hA1.from nx).front n
    have HT := Lib.hid (show ∀ W, W = w1 → True from fun _ _ => trivial)
    by_cases hc : c = nx
    · have h0 : n = 0 := by omega
      have c1 : (convert 42 9 (.slice (some ⟨b, o, none⟩) n 0)).run Tryd.prog w1 = .ok (.string (txt [])) w1 := by
        subst h0
        exact conv_bys w1 (some ⟨b, o, none⟩) [] 0 (Bys.empty _ _)
      have HTX := Lib.hid (show txt [] = txt ((l.drop nx).take n) by rw [h0, List.take_zero])
      clear hBX hln HT h0
      go_wp2
      go_ret3
      exact ⟨ret_text HTX.out (by omega) rfl, Hb.out⟩
    · have c1 := conv_bys w1 (some ⟨b, o + nx, none⟩) ((l.drop nx).take n) (c - nx) hBX
      rw [hln] at c1
      generalize hT : txt ((l.drop nx).take n) = T at *
      have HTT := Lib.hid hT
      clear hBX hln HT hT
      go_wp2
      go_ret3
      exact ⟨ret_text HTT.out.symm (by omega) rfl, Hb.out⟩
end Go.Proofs.YtgiclapgilppgaaDoor
