/- A text laid down behind bytes and read at a place, as the program and as the document's own answer do it. -/
import Derived.Test.YtnhaehjkepmbaaaDoorFrPutUint
import Derived.Test.YtnhaehjkepmbaaaDoorFrGetUint
namespace Go.Proofs.YtnhaehjkepmbaaaDoor
open Go.RowKit
set_option linter.unusedVariables false

/-- A text's bytes, with how many they are ahead. -/
def textL (s : ByteArray) : List UInt8 := uintL s.size ++ strL s

/-- What is read as a text, by what is read as a number. -/
inductive GT (l : List UInt8) : Nat → Nat → Nat → ByteArray → Nat → Nat → Prop
  | no (n nx e : Nat) (h : e ≠ 0) : GT l n nx e ⟨#[]⟩ 0 e
  | big (n nx : Nat) (h : 65535 < n) : GT l n nx 0 ⟨#[]⟩ 0 3
  | short (n nx : Nat) (h : n ≤ 65535) (hx : nx ≤ l.length) (hs : l.length - nx < n) : GT l n nx 0 ⟨#[]⟩ 0 4
  | ok (n nx : Nat) (h : n ≤ 65535) (hx : nx ≤ l.length) (hs : n ≤ l.length - nx) : GT l n nx 0 (txt ((l.drop nx).take n)) (nx + n) 0
theorem gt_total (l : List UInt8) (n nx e : Nat) (h : e = 0 → nx ≤ l.length) : ∃ s k e2, GT l n nx e s k e2 := by
  by_cases he : e = 0
  · subst he
    by_cases hn : 65535 < n
    · exact ⟨_, _, _, .big n nx hn⟩
    · by_cases hs : l.length - nx < n
      · exact ⟨_, _, _, .short n nx (by omega) (h rfl) hs⟩
      · exact ⟨_, _, _, .ok n nx (by omega) (h rfl) (by omega)⟩
  · exact ⟨_, _, _, .no n nx e he⟩
theorem gu_place {l : List UInt8} {a n nx e : Nat} (h : GU l a n nx e) : e = 0 → nx ≤ l.length ∧ 0 < nx ∧ a < nx := by
  intro he
  cases h with
  | short k hk hc he' => cases he
  | nought k hk h0 hc he' hz => cases he
  | long he' hc => cases he
  | ok k hk hc he' hl hz => omega
theorem gu_small {l : List UInt8} {a n nx e : Nat} (h : GU l a n nx e) : n < 9223372036854775808 := by
  cases h with
  | short k hk hc he' => omega
  | nought k hk h0 hc he' hz => omega
  | long he' hc => omega
  | ok k hk hc he' hl hz =>
    have h1 := digN_lt l a (k + 1)
    have h2 : 128 ^ (k + 1) ≤ 128 ^ 9 := Nat.pow_le_pow_right (by omega) (by omega)
    omega

theorem ret_text {s s' : ByteArray} {b c b' c' : Int} (h1 : s = s') (h2 : b = b') (h3 : c = c') : Ending.returned (.tuple #[.string s, .int .i64 b, .int .i64 c]) = .returned (.tuple #[.string s', .int .i64 b', .int .i64 c']) := by rw [h1, h2, h3]
end Go.Proofs.YtnhaehjkepmbaaaDoor
