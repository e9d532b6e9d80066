/- In one text, written by lotify.py: Words, BitMath, Mem, App, Str, Own, AppStr. -/
import Derived.Lib.Hide
import Derived.Test.YtnhaehjkepmbaaaDoorChecked
import Derived.ProofKit
import Derived.Deep.AppendLies
import Derived.WalkSpells
import Derived.WalkLawsBesides
namespace Go.Proofs.YtnhaehjkepmbaaaDoor
open Go.RowKit

/-- The bytes l stand from the address A on (of none nothing is asked). -/
def Bys (w : World) (A : Option Addr) (l : List UInt8) : Prop :=
  l = [] ∨ ∃ b o, A = some ⟨b, o, none⟩ ∧ b < w.heap.size ∧ ∀ i, i < l.length → w.cell? ⟨b, o + i, none⟩ = some (.int .u8 ((l.getD i 0).toNat : Int))

theorem Bys.empty (w : World) (A : Option Addr) : Bys w A [] := .inl rfl
theorem Bys.keep {w w' : World} {A : Option Addr} {l : List UInt8} (h : Bys w A l) (hs : w.heap.size ≤ w'.heap.size) (hk : ∀ p : Addr, p.block < w.heap.size → w'.cell? p = w.cell? p) : Bys w' A l := by
  rcases h with rfl | ⟨b, o, rfl, hb, hc⟩
  · exact .inl rfl
  · exact .inr ⟨b, o, rfl, by omega, fun i hi => (hk _ hb).trans (hc i hi)⟩
theorem Bys.below {w w' : World} {A : Option Addr} {l : List UInt8} (h : Bys w A l) (hb : Below w.heap.size w w') : Bys w' A l := h.keep hb.size fun _ hp => hb.cell hp
theorem Bys.alloc {w : World} {A : Option Addr} {l : List UInt8} (h : Bys w A l) (o : Obj) : Bys (w.alloc o) A l := h.below ((Below.refl _ _).alloc (Nat.le_refl _) o)
theorem Bys.at_ {w : World} {A : Option Addr} {l : List UInt8} (h : Bys w A l) (hl : 0 < l.length) :
    ∃ b o, A = some ⟨b, o, none⟩ ∧ b < w.heap.size ∧ ∀ i, i < l.length → w.cell? ⟨b, o + i, none⟩ = some (.int .u8 ((l.getD i 0).toNat : Int)) := by
  rcases h with rfl | h
  · simp at hl
  · exact h

/-- What stood below a block stands still: for the walk. -/
theorem stands {W w1 : World} (hb : Below W.heap.size W w1) :
    (∀ b o, b < W.heap.size → w1.cell? ⟨b, o, none⟩ = W.cell? ⟨b, o, none⟩) ∧ (∀ b o, b < W.heap.size → w1.frozen? ⟨b, o, none⟩ = W.frozen? ⟨b, o, none⟩) :=
  ⟨fun b o h => hb.cell (p := ⟨b, o, none⟩) h, fun b o h => hb.frozen (p := ⟨b, o, none⟩) h⟩
theorem below_drewN' {B : Nat} {a w : World} (h : Below B a w) (n : Nat) : Below B a (w.drewN n) := ⟨h.os, h.tape, h.output, h.size, h.block⟩
theorem below_one (w : World) (o : Obj) : Below w.heap.size w (w.alloc o) := (Below.refl _ _).alloc (Nat.le_refl _) o
theorem below_then {w w1 w2 : World} (h : Below w.heap.size w w1) (k : Below w1.heap.size w1 w2) : Below w.heap.size w w2 := h.trans (k.mono h.size)
end Go.Proofs.YtnhaehjkepmbaaaDoor

namespace Go.Proofs.YtnhaehjkepmbaaaDoor

theorem getD_out {α : Type} (l : List α) (d : α) {i : Nat} (h : l.length ≤ i) : l.getD i d = d := by
  rw [List.getD_eq_getElem?_getD, List.getElem?_eq_none h]
  rfl
theorem getD_in {α : Type} (l : List α) (d : α) {i : Nat} (h : i < l.length) : l.getD i d = l[i] := by
  rw [List.getD_eq_getElem?_getD, List.getElem?_eq_getElem h]
  rfl
theorem getD_set_ne {α : Type} (l : List α) (d v : α) {i j : Nat} (h : i ≠ j) : (l.set i v).getD j d = l.getD j d := by
  simp only [List.getD_eq_getElem?_getD, List.getElem?_set_ne h]
theorem getD_set_self {α : Type} (l : List α) (d v : α) {i : Nat} (h : i < l.length) : (l.set i v).getD i d = v := by
  simp [List.getD_eq_getElem?_getD, h]

/-- Bit i of bytes. -/
def bitN (l : List UInt8) (i : Nat) : Nat := (l.getD (i / 8) 0).toNat / 2 ^ (7 - i % 8) % 2
/-- Digit k of a number to the base 2. -/
def dig (u k : Nat) : Nat := u / 2 ^ k % 2
/-- How many digits a number has. -/
def digs (u : Nat) : Nat := if u = 0 then 0 else Nat.log2 u + 1
/-- Are bits right? -/
def rightB (l : List UInt8) (N : Int) : Bool :=
  decide (0 ≤ N) && decide (l.length = (N.toNat + 7) / 8) && (List.range (8 * l.length)).all fun i => decide (i < N.toNat) || decide (bitN l i = 0)
/-- The number that n bits from a place on are. -/
def getN (l : List UInt8) (at_ : Nat) : Nat → Nat
  | 0 => 0
  | n + 1 => 2 * getN l at_ n + bitN l (at_ + n)
def byteOf (f : Nat → Nat) : UInt8 := UInt8.ofNat (f 0 * 128 + f 1 * 64 + f 2 * 32 + f 3 * 16 + f 4 * 8 + f 5 * 4 + f 6 * 2 + f 7)
/-- Bytes by their bits. -/
def mk (m : Nat) (f : Nat → Nat) : List UInt8 := (List.range m).map fun j => byteOf fun k => f (8 * j + k)
/-- The first n bits, and nothing behind them. -/
def cutF (f : Nat → Nat) (n : Nat) : Nat → Nat := fun i => if i < n then f i else 0
def putF (l : List UInt8) (N u n : Nat) : Nat → Nat := fun i => if i < N then bitN l i else if i < N + n then dig u (N + n - 1 - i) else 0
def putL (l : List UInt8) (N u n : Nat) : List UInt8 := mk ((N + n + 7) / 8) (putF l N u n)

theorem rightB_iff {l : List UInt8} {N : Int} : rightB l N = true ↔ 0 ≤ N ∧ l.length = (N.toNat + 7) / 8 ∧ ∀ i, N.toNat ≤ i → bitN l i = 0 := by
  unfold rightB
  simp only [Bool.and_eq_true, decide_eq_true_eq, List.all_eq_true, List.mem_range, Bool.or_eq_true]
  constructor
  · rintro ⟨⟨h0, h1⟩, h2⟩
    refine ⟨h0, h1, fun i hi => ?_⟩
    by_cases h : i < 8 * l.length
    · rcases h2 i h with h3 | h3
      · omega
      · exact h3
    · unfold bitN
      rw [getD_out _ _ (by omega)]
      simp
  · rintro ⟨h0, h1, h2⟩
    refine ⟨⟨h0, h1⟩, fun i _ => ?_⟩
    by_cases h : i < N.toNat
    · exact .inl h
    · exact .inr (h2 i (by omega))

theorem bitN_lt (l : List UInt8) (i : Nat) : bitN l i < 2 := Nat.mod_lt _ (by omega)
theorem dig_lt (u k : Nat) : dig u k < 2 := Nat.mod_lt _ (by omega)
theorem putF_lt (l : List UInt8) (N u n i : Nat) : putF l N u n i < 2 := by
  unfold putF
  have := bitN_lt l i
  have := dig_lt u (N + n - 1 - i)
  split
  · assumption
  · split
    · assumption
    · omega
theorem cutF_lt {f : Nat → Nat} (hf : ∀ i, f i < 2) (n i : Nat) : cutF f n i < 2 := by
  unfold cutF
  have := hf i
  split <;> omega

theorem byte_toNat (x : UInt8) : x.toNat < 256 := x.toNat_lt
theorem byte_ext {a b : UInt8} (h : ∀ k, k < 8 → a.toNat / 2 ^ (7 - k) % 2 = b.toNat / 2 ^ (7 - k) % 2) : a = b := by
  have ha := byte_toNat a
  have hb := byte_toNat b
  have h0 := h 0 (by omega)
  have h1 := h 1 (by omega)
  have h2 := h 2 (by omega)
  have h3 := h 3 (by omega)
  have h4 := h 4 (by omega)
  have h5 := h 5 (by omega)
  have h6 := h 6 (by omega)
  have h7 := h 7 (by omega)
  simp only [Nat.reduceSub, Nat.reducePow, Nat.pow_zero, Nat.div_one] at h0 h1 h2 h3 h4 h5 h6 h7
  apply UInt8.toNat_inj.1
  omega
theorem byteOf_bit {f : Nat → Nat} (hf : ∀ k, f k < 2) (k : Nat) (hk : k < 8) : (byteOf f).toNat / 2 ^ (7 - k) % 2 = f k := by
  have g0 := hf 0
  have g1 := hf 1
  have g2 := hf 2
  have g3 := hf 3
  have g4 := hf 4
  have g5 := hf 5
  have g6 := hf 6
  have g7 := hf 7
  unfold byteOf
  rw [UInt8.toNat_ofNat']
  have hk' : k = 0 ∨ k = 1 ∨ k = 2 ∨ k = 3 ∨ k = 4 ∨ k = 5 ∨ k = 6 ∨ k = 7 := by omega
  rcases hk' with rfl | rfl | rfl | rfl | rfl | rfl | rfl | rfl <;> simp only [Nat.reduceSub, Nat.reducePow, Nat.pow_zero, Nat.div_one] <;> omega

theorem length_mk (m : Nat) (f : Nat → Nat) : (mk m f).length = m := by simp [mk]
theorem bitN_mk {f : Nat → Nat} (hf : ∀ k, f k < 2) (m i : Nat) (hi : i < 8 * m) : bitN (mk m f) i = f i := by
  unfold bitN mk
  rw [getD_in _ _ (by simp; omega)]
  simp only [List.getElem_map, List.getElem_range]
  rw [byteOf_bit (f := fun k => f (8 * (i / 8) + k)) (fun k => hf _) (i % 8) (by omega)]
  congr 1
  omega
theorem bitN_out (l : List UInt8) (i : Nat) (hi : 8 * l.length ≤ i) : bitN l i = 0 := by
  unfold bitN
  rw [getD_out _ _ (by omega)]
  simp
theorem bits_ext {l l' : List UInt8} (hl : l.length = l'.length) (h : ∀ i, i < 8 * l.length → bitN l i = bitN l' i) : l = l' := by
  apply List.ext_getElem hl
  intro j h1 h2
  apply byte_ext
  intro k hk
  have := h (8 * j + k) (by omega)
  unfold bitN at this
  rw [show (8 * j + k) / 8 = j from by omega, show (8 * j + k) % 8 = k from by omega, getD_in _ _ h1, getD_in _ _ h2] at this
  exact this

/-- One bit more in a byte in which it is 0. -/
def orByte (x : UInt8) (k d : Nat) : UInt8 := UInt8.ofNat (x.toNat + d * 2 ^ (7 - k))
theorem fin_or : ∀ x : Fin 256, ∀ k : Fin 8, ∀ d : Fin 2, x.val / 2 ^ (7 - k.val) % 2 = 0 →
    (x.val ||| d.val * 2 ^ (7 - k.val)) = x.val + d.val * 2 ^ (7 - k.val) ∧ x.val + d.val * 2 ^ (7 - k.val) < 256 ∧
      ∀ j : Fin 8, (x.val + d.val * 2 ^ (7 - k.val)) / 2 ^ (7 - j.val) % 2 = if j.val = k.val then d.val else x.val / 2 ^ (7 - j.val) % 2 := by decide +kernel
theorem orByte_facts (x : UInt8) (k d : Nat) (hk : k < 8) (hd : d < 2) (h : x.toNat / 2 ^ (7 - k) % 2 = 0) :
    (x.toNat ||| d * 2 ^ (7 - k)) = (orByte x k d).toNat ∧ x.toNat + d * 2 ^ (7 - k) = (orByte x k d).toNat ∧
      ∀ j, j < 8 → (orByte x k d).toNat / 2 ^ (7 - j) % 2 = if j = k then d else x.toNat / 2 ^ (7 - j) % 2 := by
  obtain ⟨h1, h2, h3⟩ := fin_or ⟨x.toNat, byte_toNat x⟩ ⟨k, hk⟩ ⟨d, hd⟩ h
  simp only at h1 h2 h3
  have e : (orByte x k d).toNat = x.toNat + d * 2 ^ (7 - k) := by
    unfold orByte
    rw [UInt8.toNat_ofNat']
    exact Nat.mod_eq_of_lt h2
  refine ⟨h1.trans e.symm, e.symm, fun j hj => ?_⟩
  rw [e]
  exact h3 ⟨j, hj⟩

theorem set_step {f : Nat → Nat} (hf : ∀ k, f k < 2) (m n : Nat) (hn : n < 8 * m) :
    bitN (mk m (cutF f n)) n = 0 ∧
      (mk m (cutF f n)).set (n / 8) (orByte ((mk m (cutF f n)).getD (n / 8) 0) (n % 8) (f n)) = mk m (cutF f (n + 1)) := by
  have h0 : bitN (mk m (cutF f n)) n = 0 := by rw [bitN_mk (cutF_lt hf n) m n hn]; simp [cutF]
  refine ⟨h0, ?_⟩
  have hlen := length_mk m (cutF f n)
  apply bits_ext (by simp [length_mk])
  intro i hi
  rw [List.length_set, hlen] at hi
  rw [bitN_mk (cutF_lt hf _) m i hi]
  obtain ⟨_, _, h3⟩ := orByte_facts ((mk m (cutF f n)).getD (n / 8) 0) (n % 8) (f n) (by omega) (hf n) h0
  by_cases hb : i / 8 = n / 8
  · have hg : bitN ((mk m (cutF f n)).set (n / 8) (orByte ((mk m (cutF f n)).getD (n / 8) 0) (n % 8) (f n))) i = (orByte ((mk m (cutF f n)).getD (n / 8) 0) (n % 8) (f n)).toNat / 2 ^ (7 - i % 8) % 2 := by
      unfold bitN
      rw [hb, getD_set_self _ _ _ (by rw [length_mk]; omega)]
    rw [hg, h3 (i % 8) (by omega)]
    by_cases he : i = n
    · subst he
      simp [cutF]
    · rw [if_neg (by omega)]
      have := bitN_mk (cutF_lt hf n) m i hi
      unfold bitN at this
      rw [hb] at this
      rw [this]
      unfold cutF
      by_cases h : i < n
      · rw [if_pos h, if_pos (by omega)]
      · rw [if_neg h, if_neg (by omega)]
  · have hg : bitN ((mk m (cutF f n)).set (n / 8) (orByte ((mk m (cutF f n)).getD (n / 8) 0) (n % 8) (f n))) i = bitN (mk m (cutF f n)) i := by
      unfold bitN
      rw [getD_set_ne _ _ _ (by omega)]
    rw [hg, bitN_mk (cutF_lt hf n) m i hi]
    unfold cutF
    by_cases h : i < n
    · rw [if_pos h, if_pos (by omega)]
    · rw [if_neg h, if_neg (by omega)]

/-- Right bits, copied into a longer row of zeros. -/
theorem copy_start {l : List UInt8} {N m : Nat} {F : Nat → Nat} (hr : rightB l (N : Int) = true) (hF2 : ∀ i, F i < 2) (hF : ∀ i, i < N → F i = bitN l i) (hle : l.length ≤ m) :
    l ++ List.replicate (m - l.length) 0 = mk m (cutF F N) := by
  obtain ⟨_, h1, h2⟩ := rightB_iff.1 hr
  rw [Int.toNat_natCast] at h1 h2
  apply bits_ext (by simp [length_mk]; omega)
  intro i hi
  rw [List.length_append, List.length_replicate] at hi
  rw [bitN_mk (cutF_lt hF2 _) m i (by omega)]
  have hg : bitN (l ++ List.replicate (m - l.length) 0) i = bitN l i := by
    unfold bitN
    by_cases h : i / 8 < l.length
    · rw [getD_in _ _ (by simp; omega), List.getElem_append_left h, getD_in _ _ h]
    · rw [getD_in _ _ (by simp; omega), List.getElem_append_right (by omega), List.getElem_replicate, getD_out _ _ (by omega)]
  rw [hg]
  unfold cutF
  by_cases h : i < N
  · rw [if_pos h, hF i h]
  · rw [if_neg h]
    exact h2 i (by omega)
theorem cut_all (l : List UInt8) (N u n m : Nat) : mk m (cutF (putF l N u n) (N + n)) = mk m (putF l N u n) := by
  congr 1
  funext i
  unfold cutF putF
  by_cases h : i < N + n
  · rw [if_pos h]
  · rw [if_neg h, if_neg (by omega), if_neg h]

theorem right_put {l : List UInt8} {N u n : Nat} : rightB (putL l N u n) ((N + n : Nat) : Int) = true := by
  refine rightB_iff.2 ⟨by omega, ?_, fun i hi => ?_⟩
  · rw [Int.toNat_natCast, putL, length_mk]
  · rw [Int.toNat_natCast] at hi
    by_cases h : i < 8 * ((N + n + 7) / 8)
    · rw [putL, bitN_mk (putF_lt l N u n) _ _ h]
      unfold putF
      rw [if_neg (by omega), if_neg (by omega)]
    · exact bitN_out _ _ (by rw [putL, length_mk]; omega)
theorem bit_put {l : List UInt8} {N u n i : Nat} (hi : i < N + n) : bitN (putL l N u n) i = putF l N u n i :=
  bitN_mk (putF_lt l N u n) _ _ (by omega)

theorem getN_lt (l : List UInt8) (a n : Nat) : getN l a n < 2 ^ n := by
  induction n with
  | zero => simp [getN]
  | succ n ih =>
    have := bitN_lt l (a + n)
    unfold getN
    rw [Nat.pow_succ]
    omega
theorem getN_of_dig {l : List UInt8} {a n u : Nat} (hu : u < 2 ^ n) (h : ∀ j, j < n → bitN l (a + j) = dig u (n - 1 - j)) : getN l a n = u := by
  have key : ∀ k, k ≤ n → getN l a k = u / 2 ^ (n - k) := by
    intro k
    induction k with
    | zero => intro _; simp [getN, Nat.div_eq_of_lt hu]
    | succ k ih =>
      intro hk
      unfold getN
      rw [ih (by omega), h k (by omega)]
      unfold dig
      have e : n - k = (n - (k + 1)) + 1 := by omega
      rw [e, Nat.pow_succ, ← Nat.div_div_eq_div_mul, show n - 1 - k = n - (k + 1) from by omega]
      omega
  have := key n (Nat.le_refl _)
  simpa using this
theorem dig_getN (l : List UInt8) (a : Nat) : ∀ n j, j < n → dig (getN l a n) (n - 1 - j) = bitN l (a + j) := by
  intro n
  induction n with
  | zero => intro j hj; omega
  | succ n ih =>
    intro j hj
    have hb := bitN_lt l (a + n)
    unfold getN
    by_cases h : j = n
    · subst h
      simp only [Nat.add_sub_cancel, Nat.sub_self]
      unfold dig
      simp only [Nat.pow_zero, Nat.div_one]
      omega
    · have := ih j (by omega)
      rw [← this]
      unfold dig
      rw [show n + 1 - 1 - j = (n - 1 - j) + 1 from by omega, Nat.pow_succ, Nat.mul_comm (2 ^ (n - 1 - j)) 2, ← Nat.div_div_eq_div_mul]
      congr 2
      omega
theorem getN_congr {l l' : List UInt8} {a a' n : Nat} (h : ∀ j, j < n → bitN l (a + j) = bitN l' (a' + j)) : getN l a n = getN l' a' n := by
  induction n with
  | zero => rfl
  | succ n ih => unfold getN; rw [ih (fun j hj => h j (by omega)), h n (by omega)]

theorem digs_le {u n : Nat} : digs u ≤ n ↔ u < 2 ^ n := by
  unfold digs
  by_cases h : u = 0
  · subst h
    simp
    exact Nat.pos_of_ne_zero (by simp)
  · rw [if_neg h]
    have := Nat.log2_lt (k := n) h
    omega
theorem digs_half {u : Nat} (h : u ≠ 0) : digs u = digs (u / 2) + 1 := by
  have key : ∀ n, digs u ≤ n ↔ digs (u / 2) + 1 ≤ n := by
    intro n
    cases n with
    | zero =>
      have : digs u ≠ 0 := by unfold digs; rw [if_neg h]; omega
      omega
    | succ n =>
      rw [digs_le, Nat.add_le_add_iff_right, digs_le, Nat.pow_succ]
      omega
  have h1 := (key (digs u)).1 (Nat.le_refl _)
  have h2 := (key (digs (u / 2) + 1)).2 (Nat.le_refl _)
  omega
theorem digs_zero : digs 0 = 0 := by simp [digs]
theorem digs_64 {u : Nat} (h : u ≤ 18446744073709551615) : digs u ≤ 64 := by rw [digs_le]; omega
/-- What the program asks of the last byte of right bits. -/
theorem fin_last : ∀ x : Fin 256, ∀ s : Fin 8, (x.val * 2 ^ s.val % 256 = 0) ↔ ∀ j : Fin 8, s.val ≤ j.val → x.val / 2 ^ (7 - j.val) % 2 = 0 := by decide +kernel
theorem right_last {l : List UInt8} {N : Nat} (h : l.length = (N + 7) / 8) (h8 : ¬ N % 8 = 0) :
    decide ((l.getD (l.length - 1) 0).toNat * 2 ^ (N % 8) % 256 = 0) = rightB l (N : Int) := by
  have key := fin_last ⟨_, byte_toNat (l.getD (l.length - 1) 0)⟩ ⟨N % 8, by omega⟩
  simp only at key
  rw [Bool.eq_iff_iff, decide_eq_true_eq, rightB_iff, key, Int.toNat_natCast]
  constructor
  · intro hk
    refine ⟨by omega, h, fun i hi => ?_⟩
    by_cases ho : 8 * l.length ≤ i
    · exact bitN_out _ _ ho
    · have := hk ⟨i % 8, by omega⟩ (by show N % 8 ≤ i % 8; omega)
      unfold bitN
      rw [show i / 8 = l.length - 1 from by omega]
      exact this
  · rintro ⟨_, _, hk⟩ j hj
    have := hk (8 * (l.length - 1) + j.val) (by omega)
    unfold bitN at this
    rw [show (8 * (l.length - 1) + j.val) / 8 = l.length - 1 from by omega, show (8 * (l.length - 1) + j.val) % 8 = j.val from by omega] at this
    exact this
theorem right_whole {l : List UInt8} {N : Nat} (h : l.length = (N + 7) / 8) (h8 : N % 8 = 0) : rightB l (N : Int) = true := by
  refine rightB_iff.2 ⟨by omega, by rw [Int.toNat_natCast]; exact h, fun i hi => bitN_out _ _ (by rw [Int.toNat_natCast] at hi; omega)⟩
theorem right_neg {l : List UInt8} {N : Int} (h : N < 0) : rightB l N = false := by
  rw [Bool.eq_false_iff]
  intro hr
  have := (rightB_iff.1 hr).1
  omega
theorem right_size {l : List UInt8} {N : Nat} (h : l.length ≠ (N + 7) / 8) : rightB l (N : Int) = false := by
  rw [Bool.eq_false_iff]
  intro hr
  have := (rightB_iff.1 hr).2.1
  rw [Int.toNat_natCast] at this
  exact h this
end Go.Proofs.YtnhaehjkepmbaaaDoor

namespace Go.Proofs.YtnhaehjkepmbaaaDoor
open Go.RowKit
set_option linter.unusedVariables false

def bcells (l : List UInt8) : Array Value := (l.map fun x => Value.int .u8 (x.toNat : Int)).toArray
theorem bcells_size (l : List UInt8) : (bcells l).size = l.length := by simp [bcells]
theorem bcells_get (l : List UInt8) (i : Nat) (h : i < l.length) : (bcells l)[i]? = some (.int .u8 ((l.getD i 0).toNat : Int)) := by
  simp [bcells, h]
theorem bcells_set (l : List UInt8) (i : Nat) (x : UInt8) : (bcells l).setIfInBounds i (.int .u8 (x.toNat : Int)) = bcells (l.set i x) := by
  simp [bcells]

/-- Block g is just these cells of type t, none of them frozen. -/
def Row (w : World) (g : Nat) (t : TypeId) (cs : Array Value) : Prop := w.heap[g]? = some (.cells cs t (0, 0))
section
variable {w w' : World} {g : Nat} {t : TypeId} {cs : Array Value}
theorem Row.lt (h : Row w g t cs) : g < w.heap.size := by
  rcases Nat.lt_or_ge g w.heap.size with hlt | hge
  · exact hlt
  · unfold Row at h
    rw [Array.getElem?_eq_none hge] at h
    cases h
theorem Row.cell (h : Row w g t cs) (i : Nat) : w.cell? ⟨g, i, none⟩ = cs[i]? := cell_of_row w g i cs t (0, 0) h
theorem Row.frozen (h : Row w g t cs) (i : Nat) : w.frozen? ⟨g, i, none⟩ = false := by
  unfold Row at h
  simp [World.frozen?, h]
theorem Row.setAt (h : Row w g t cs) (i : Nat) (u : Value) : Row (w.setCell ⟨g, i, none⟩ u) g t (cs.setIfInBounds i u) := by
  unfold Row at h ⊢
  simp [World.setCell, Array.getElem?_modify, h]
theorem Row.setFar (h : Row w g t cs) {p : Addr} (hp : g ≠ p.block) (u : Value) : Row (w.setCell p u) g t cs := (Below.heap_setCell w p u g hp).trans h
theorem Row.below {B : Nat} (h : Row w g t cs) (hb : Below B w w') (hg : g < B) : Row w' g t cs := (hb.block g hg).trans h
theorem Row.new (w : World) (t : TypeId) (cs : Array Value) : Row (w.alloc (.cells cs t)) w.heap.size t cs := heap_alloc_new w _
theorem Row.alloc (h : Row w g t cs) (o : Obj) : Row (w.alloc o) g t cs := (Below.heap_alloc w o g h.lt).trans h
end

/-- But for the blocks g and h, and for what is new, nothing has turned. -/
structure Two (w w' : World) (g h : Nat) : Prop where
  os : w'.os = w.os
  tape : w'.tape = w.tape
  output : w'.output = w.output
  size : w.heap.size ≤ w'.heap.size
  block : ∀ k, k < w.heap.size → k ≠ g → k ≠ h → w'.heap[k]? = w.heap[k]?
theorem Two.refl (w : World) (g h : Nat) : Two w w g h := ⟨rfl, rfl, rfl, Nat.le_refl _, fun _ _ _ _ => rfl⟩
theorem Two.drewN {w w' : World} {g h : Nat} (k : Two w w' g h) (n : Nat) : Two w (w'.drewN n) g h := ⟨k.os, k.tape, k.output, k.size, k.block⟩
theorem Two.set {w w' : World} {g h : Nat} (k : Two w w' g h) {p : Addr} (hp : p.block = g ∨ p.block = h) (u : Value) : Two w (w'.setCell p u) g h :=
  ⟨k.os, k.tape, k.output, by simpa [World.setCell] using k.size, fun i hi h1 h2 => (Below.heap_setCell w' p u i (by omega)).trans (k.block i hi h1 h2)⟩
theorem Two.trans {a b c : World} {g h : Nat} (k : Two a b g h) (m : Two b c g h) : Two a c g h :=
  ⟨m.os.trans k.os, m.tape.trans k.tape, m.output.trans k.output, Nat.le_trans k.size m.size, fun i hi h1 h2 => (m.block i (Nat.lt_of_lt_of_le hi k.size) h1 h2).trans (k.block i hi h1 h2)⟩
theorem Two.below {B : Nat} {a w w' : World} {g h : Nat} (b : Below B a w) (k : Two w w' g h) (hB : B ≤ w.heap.size) (hg : B ≤ g) (hh : B ≤ h) : Below B a w' :=
  b.trans ⟨k.os, k.tape, k.output, k.size, fun i hi => k.block i (by omega) (by omega) (by omega)⟩
theorem Two.cell {w w' : World} {g h : Nat} (k : Two w w' g h) {p : Addr} (hp : p.block < w.heap.size) (h1 : p.block ≠ g) (h2 : p.block ≠ h) : w'.cell? p = w.cell? p :=
  World.cell?_of_block (w := w) (k.block p.block hp h1 h2)


/-- The value v is a row of bytes of the call's own, from block base on, and holds x. -/
def Own (w : World) (base : Nat) (v : Value) (x : List UInt8) : Prop := w.ownsRow base 5 1 v x.length (bcells x).toList

theorem own_nil (w : World) (base : Nat) : Own w base (.slice none 0 0) [] := ⟨by simp [bcells], .inl ⟨rfl, rfl⟩⟩
theorem own_form {w : World} {base : Nat} {v : Value} {x : List UInt8} (h : Own w base v x) (hx : 0 < x.length) :
    ∃ g cap, v = .slice (some ⟨g, 0, none⟩) x.length cap ∧ base ≤ g ∧ g < w.heap.size ∧ x.length ≤ cap ∧ cap ≤ maxLen ∧ ∀ i, i < x.length → w.cell? ⟨g, i, none⟩ = some (.int .u8 ((x.getD i 0).toNat : Int)) := by
  rcases h.2 with ⟨rfl, h0⟩ | ⟨g, cap, cur, rfl, hg, hh, hnc, hcm, hcs, htk⟩
  · omega
  · have hrow : Row w g 5 cur := hh
    refine ⟨g, cap, rfl, hg, hrow.lt, hnc, hcm, fun i hi => ?_⟩
    rw [hrow.cell i, ← bcells_get x i hi]
    have e : cur.toList[i]? = (bcells x).toList[i]? := by
      rw [← htk, List.getElem?_take]
      rw [if_pos (by omega)]
    simpa [Array.getElem?_toList] using e
theorem own_bys {w : World} {base g cap : Nat} {x : List UInt8} (h : Own w base (.slice (some ⟨g, 0, none⟩) x.length cap) x) : Bys w (some ⟨g, 0, none⟩) x := by
  rcases Nat.eq_zero_or_pos x.length with h0 | h0
  · exact .inl (List.eq_nil_of_length_eq_zero h0)
  · obtain ⟨g', cap', e, _, hlt, _, _, hc⟩ := own_form h h0
    injection e with e1 _ _
    injection e1 with e1
    injection e1 with e1 _ _
    subst e1
    exact .inr ⟨g, 0, rfl, hlt, fun i hi => by rw [Nat.zero_add]; exact hc i hi⟩

/-- A row that grows grows by no more than a quarter and a little. -/
theorem cap_quarter {need old : Nat} (h : old < need) : Builtin.nextslicecap need old ≤ need + need / 4 + 512 := by
  unfold Builtin.nextslicecap
  split
  · omega
  · split
    · omega
    · rw [growBy_four]
      repeat' split
      all_goals omega

section
variable {P : Program} (w : World)
theorem run_app_nil (base t ty : Nat) (i : TypeInfo) (ht : P.underlying t = some (.slice 5)) (hi : P.info? 5 = some i) (v : Value) (x : List UInt8) (hown : Own w base v x) (c : Nat) :
    (Builtin.append_ #[t, t] ty #[v, .slice none 0 c]).run P w = .ok v w := by
  rcases hown.2 with ⟨rfl, _⟩ | ⟨g, cap, cur, rfl, _, _, hnc, _⟩
  · simp [Builtin.append_, run_underlying ht, sizeOf, typeInfo, hi, Builtin.lenOf, Builtin.firstCells]
  · simp [Builtin.append_, run_underlying ht, sizeOf, typeInfo, hi, Builtin.lenOf, Builtin.firstCells, hnc, storeCells]

theorem run_app (base t ty : Nat) (i : TypeInfo) (ht : P.underlying t = some (.slice 5)) (hi : P.info? 5 = some i) (hz : i.zero = some (.int .u8 0)) (hs : i.size = 1) (hby : i.bytes = 1)
    (v : Value) (x : List UInt8) (hown : Own w base v x) (A : Option Addr) (l : List UInt8) (c : Nat) (hA : Bys w A l) (hn : x.length + l.length ≤ 211106232532992) (hbase : base ≤ w.heap.size) :
    ∃ v' w', (Builtin.append_ #[t, t] ty #[v, .slice A l.length c]).run P w = .ok v' w' ∧ Own w' base v' (x ++ l) ∧ w.grownBy w' v.ownBlock ∧ (v'.ownBlock = v.ownBlock ∨ v'.ownBlock = some w.heap.size) := by
  have key : ∀ a : Addr, (∀ j u, (bcells l).toList[j]? = some u → w.cell? (a.add j) = some u) →
      ∃ v' w', (Builtin.append_ #[t, t] ty #[v, .slice (some a) l.length c]).run P w = .ok v' w' ∧ Own w' base v' (x ++ l) ∧ w.grownBy w' v.ownBlock ∧ (v'.ownBlock = v.ownBlock ∨ v'.ownBlock = some w.heap.size) := by
    intro a ha
    by_cases hsm : x.length + l.length ≤ 140737488355328
    · obtain ⟨v', w', h1, h2, h3, _, h5⟩ := run_append_own_at (P := P) w base t ty 5 i (.int .u8 0) 1 1 ht hi hz hs hby rfl (by omega) v x.length (bcells x).toList hown a l.length c (bcells l).toList
        (by simp [bcells]) ha (by intro u hu; simp [bcells] at hu; obtain ⟨y, _, rfl⟩ := hu; rfl) (by simp only [maxLen]; omega) (by omega) hbase
      refine ⟨v', w', h1, ?_, h3, h5⟩
      unfold Own
      rw [List.length_append, show (bcells (x ++ l)).toList = (bcells x).toList ++ (bcells l).toList from by simp [bcells]]
      exact h2
    · have hll : (bcells l).toList.length = l.length * i.size := by simp [bcells, hs]
      have made : ∀ old, old < x.length + l.length → ∀ row : Option Nat,
          Own (w.drew.alloc (.cells ((bcells x).toList.toArray ++ (bcells l).toList.toArray ++ Builtin.zeroCells (Value.int .u8 0).cells (grownCap w (x.length + l.length) old 5 - (x.length + l.length))) 5)) base
            (.slice (some ⟨w.heap.size, 0, none⟩) (x.length + l.length) (grownCap w (x.length + l.length) old 5)) (x ++ l) ∧
          w.grownBy (w.drew.alloc (.cells ((bcells x).toList.toArray ++ (bcells l).toList.toArray ++ Builtin.zeroCells (Value.int .u8 0).cells (grownCap w (x.length + l.length) old 5 - (x.length + l.length))) 5)) row := by
        intro old ho row
        have hge := grownCap_ge w (x.length + l.length) old 5
        have hle := grownCap_le_maxLen w (x.length + l.length) old 5 (by simp only [maxLen]; omega)
        refine ⟨⟨by simp [bcells], .inr ⟨w.heap.size, _, _, by rw [List.length_append], hbase, heap_alloc_new w.drew _, by rw [List.length_append]; exact hge, hle, ?_, ?_⟩⟩, ⟨rfl, rfl, rfl, by simp, fun k hk _ => heap_alloc_old w.drew _ hk⟩⟩
        · simp only [Array.size_append, List.size_toArray, size_zeroCells, Value.cells]
          simp [bcells]
          omega
        · have e : ((bcells x).toList.toArray ++ (bcells l).toList.toArray).toList = (bcells (x ++ l)).toList := by simp [bcells]
          rw [Array.toList_append, e]
          exact List.take_left' (by simp [bcells])
      have hone : ∀ u ∈ (bcells l).toList, u.oneCell' = true := by intro u hu; simp [bcells] at hu; obtain ⟨y, _, rfl⟩ := hu; rfl
      rcases hown.2 with ⟨rfl, h0⟩ | ⟨g, cap, cur, rfl, hg, hh, hnc, hcm, hcs, htk⟩
      · obtain rfl := List.eq_nil_of_length_eq_zero h0
        simp only [List.length_nil, Nat.zero_add] at hn hsm made ⊢
        have hr := run_append_nil (P := P) w t ty 5 i (.int .u8 0) ht hi hz a l.length c (bcells l).toList hll ha (by omega) (by omega) (by rw [hby]; omega)
        obtain ⟨m1, m2⟩ := made 0 (by omega) none
        refine ⟨_, _, hr, ?_, ?_, .inr rfl⟩
        · simpa [bcells] using m1
        · simpa [bcells, Value.ownBlock] using m2
      · by_cases hroom : x.length + l.length ≤ cap
        · have hr := run_append_room (P := P) w t ty 5 i ht hi g x.length cap cur hh a l.length c (bcells l).toList hll ha hone hroom (by rw [hll, hs, hcs]; omega)
          refine ⟨_, _, hr, ⟨by simp [bcells], .inr ⟨g, cap, _, by rw [List.length_append], hg, setRow_heap w g cur _ 5 _ hh, by rw [List.length_append]; exact hroom, hcm, ?_, ?_⟩⟩, ⟨rfl, rfl, rfl, by simp, fun k _ hk => setRow_other w g k _ (fun e => hk (by simp [Value.ownBlock, e]))⟩, .inl rfl⟩
          · rw [hs]
            simp only [List.size_toArray, List.length_append, List.length_take, List.length_drop, Array.length_toList, hll, hs, hcs]
            omega
          · rw [hs, htk]
            have e : (bcells x).toList ++ (bcells l).toList = (bcells (x ++ l)).toList := by simp [bcells]
            rw [e]
            exact List.take_left' (by simp [bcells])
        · have hr := run_append_grow (P := P) w t ty 5 i (.int .u8 0) ht hi hz ⟨g, 0, none⟩ x.length cap (bcells x).toList (by simp [bcells, hs]) (World.ownsRow.cells hown (g := g) rfl) a l.length c (bcells l).toList hll ha (by omega) (by omega)
            (by rw [hby]; have := cap_quarter (need := x.length + l.length) (old := cap) (by omega); omega)
          obtain ⟨m1, m2⟩ := made cap (by omega) (some g)
          exact ⟨_, _, hr, m1, m2, .inr rfl⟩
  rcases hA with rfl | ⟨b, o, rfl, hb, hc⟩
  · rcases A with _ | a
    · exact ⟨v, w, run_app_nil w base t ty i ht hi v x hown c, by rw [List.append_nil]; exact hown, World.grownBy.refl w _, .inl rfl⟩
    · exact key a (fun j u hj => by simp [bcells] at hj)
  · refine key ⟨b, o, none⟩ (fun j u hj => ?_)
    have hjl : j < l.length := by
      have := (List.getElem?_eq_some_iff.1 hj).1
      simpa [bcells] using this
    have e := bcells_get l j hjl
    rw [← Array.getElem?_toList, hj] at e
    rw [e]
    have := hc j hjl
    have hadd : (⟨b, o, none⟩ : Addr).add j = ⟨b, o + j, none⟩ := by
      unfold Addr.add
      split
      · rename_i h; subst h; rfl
      · rfl
    rw [hadd]
    exact this

theorem wp_app {o : Oper} {a : Act} {K : Act → World → Prop} {Q : Exit → Act → World → Prop} (s y : Operand) (t : Nat)
    (ho : o.op = .call { callee := .builtin .append, args := #[s, y], argTypes := #[t, t] })
    (base : Nat) (i : TypeInfo) (ht : P.underlying t = some (.slice 5)) (hi : P.info? 5 = some i) (hz : i.zero = some (.int .u8 0)) (hs1 : i.size = 1) (hby : i.bytes = 1)
    (v : Value) (x : List UInt8) (hs : a.eval s = v) (hown : Own w base v x) (A : Option Addr) (l : List UInt8) (c : Nat) (hy : a.eval y = .slice A l.length c) (hA : Bys w A l) (hn : x.length + l.length ≤ 211106232532992) (hbase : base ≤ w.heap.size)
    (h : ∀ v' w', Own w' base v' (x ++ l) → w.grownBy w' v.ownBlock → (v'.ownBlock = v.ownBlock ∨ v'.ownBlock = some w.heap.size) → K (a.put o.dst v') w') : o.wp P a w K Q := by
  obtain ⟨v', w', hr, h2, h3, h4⟩ := run_app (P := P) w base t o.type i ht hi hz hs1 hby v x hown A l c hA hn hbase
  unfold Oper.wp execOp
  simp only [ho, resolve, invoke, builtin, Sem.run_bind, Sem.run_pure, Result.andThen_ok, List.map_toArray, List.map_cons, List.map_nil, hs, hy, hr]
  exact h v' w' h2 h3 h4

theorem wpList_app {ops : Array Oper} {rest : List Oper} {o : Oper} {a : Act} {Q : Exit → Act → World → Prop} (hgd : o.guard = none) (s y : Operand) (t : Nat)
    (ho : o.op = .call { callee := .builtin .append, args := #[s, y], argTypes := #[t, t] })
    (base : Nat) (i : TypeInfo) (ht : P.underlying t = some (.slice 5)) (hi : P.info? 5 = some i) (hz : i.zero = some (.int .u8 0)) (hs1 : i.size = 1) (hby : i.bytes = 1)
    (v : Value) (x : List UInt8) (hs : a.eval s = v) (hown : Own w base v x) (A : Option Addr) (l : List UInt8) (c : Nat) (hy : a.eval y = .slice A l.length c) (hA : Bys w A l) (hn : x.length + l.length ≤ 211106232532992) (hbase : base ≤ w.heap.size)
    (h : ∀ v' w', Own w' base v' (x ++ l) → w.grownBy w' v.ownBlock → (v'.ownBlock = v.ownBlock ∨ v'.ownBlock = some w.heap.size) → wpList P ops Q rest (a.put o.dst v') w') : wpList P ops Q (o :: rest) a w :=
  wpList_plain hgd fun _ hK => wp_app w s y t ho base i ht hi hz hs1 hby v x hs hown A l c hy hA hn hbase fun v' w' h2 h3 h4 => hK _ _ (h v' w' h2 h3 h4)

theorem step_app {ops : Array Oper} {o : Oper} {a : Act} {K : Act → World → Prop} {Q : Exit → Act → World → Prop} {E : Prop} (hgd : o.guard = none) (s y : Operand) (t : Nat)
    (ho : o.op = .call { callee := .builtin .append, args := #[s, y], argTypes := #[t, t] })
    (base : Nat) (i : TypeInfo) (ht : P.underlying t = some (.slice 5)) (hi : P.info? 5 = some i) (hz : i.zero = some (.int .u8 0)) (hs1 : i.size = 1) (hby : i.bytes = 1)
    (v : Value) (x : List UInt8) (hs : a.eval s = v) (hown : Own w base v x) (A : Option Addr) (l : List UInt8) (c : Nat) (hy : a.eval y = .slice A l.length c) (hA : Bys w A l) (hn : x.length + l.length ≤ 211106232532992) (hbase : base ≤ w.heap.size)
    (h : ∀ v' w', Own w' base v' (x ++ l) → w.grownBy w' v.ownBlock → (v'.ownBlock = v.ownBlock ∨ v'.ownBlock = some w.heap.size) → K (a.put o.dst v') w') :
    if Region.wanted o (yielded ops a.tmps) = true then Oper.wp P o a w K Q else E := by
  have hw : Region.wanted o (yielded ops a.tmps) = true := by simp [Region.wanted, hgd]
  rw [if_pos hw]
  exact wp_app w s y t ho base i ht hi hz hs1 hby v x hs hown A l c hy hA hn hbase h
end

theorem add_at (b o j : Nat) : (⟨b, o, none⟩ : Addr).add j = ⟨b, o + j, none⟩ := by
  unfold Addr.add
  split
  · rename_i h; subst h; rfl
  · rfl
def txt (l : List UInt8) : ByteArray := ⟨l.toArray⟩
theorem nums_txt (l : List UInt8) : strOfNums (l.map fun x => (x.toNat : Int)) = txt l := by
  unfold strOfNums txt
  congr 2
  rw [List.map_map]
  conv => rhs; rw [← List.map_id l]
  apply List.map_congr_left
  intro x _
  simp
theorem conv_bys (w : World) (A : Option Addr) (l : List UInt8) (c : Nat) (hA : Bys w A l) :
    (convert 39 9 (.slice A l.length c)).run Tryd.prog w = .ok (.string (txt l)) w := by
  rcases hA with rfl | ⟨b, o, rfl, _, hc⟩
  · rcases A with _ | a
    · exact run_convert_bytes_nil w 39 5 Tryd.underlying39 Tryd.underlying5 _ _ 9 Tryd.underlying9
    · have h := run_convert_bytes_string (P := Tryd.prog) w 39 9 5 (some a) 0 c Tryd.underlying39 Tryd.underlying5 Tryd.underlying9
      show (convert 39 9 (.slice (some a) 0 c)).run Tryd.prog w = _
      rw [h, run_bytesToString w a 0 c [] (by simpa using run_loadCells_list (P := Tryd.prog) w a [] (fun j v hj => by simp at hj))]
      rfl
  · have h := run_convert_bytes_arg (P := Tryd.prog) w 39 5 Tryd.underlying39 Tryd.underlying5 b o l.length c (l.map fun x => (x.toNat : Int)) (by simp)
      (fun i hi => by rw [hc i hi]; simp [hi]) 9 Tryd.underlying9
    rw [h, nums_txt]
theorem txt_eq (a b : List UInt8) : (txt a = txt b) ↔ a = b := by
  unfold txt
  constructor
  · intro h
    injection h with h
    exact List.toArray_inj h
  · rintro rfl
    rfl

theorem byte_nat (x : UInt8) : x.toNat < 256 := x.toNat_lt
theorem Row.bys {w : World} {g : Nat} {l : List UInt8} (h : Row w g 5 (bcells l)) : Bys w (some ⟨g, 0, none⟩) l :=
  .inr ⟨g, 0, rfl, h.lt, fun i hi => by rw [Nat.zero_add, h.cell i]; exact bcells_get l i hi⟩
theorem grown_row {w w' : World} {row : Option Nat} {g : Nat} {t : TypeId} {cs : Array Value} (h : Row w g t cs) (hg : w.grownBy w' row) (hne : some g ≠ row) : Row w' g t cs := (hg.block g h.lt hne).trans h
theorem row_at (w : World) (o : Obj) (cs : Array Value) (t : TypeId) : Row ((w.alloc o).alloc (.cells cs t)) (w.heap.size + 1) t cs := by
  have := Row.new (w.alloc o) t cs
  rw [show (w.alloc o).heap.size = w.heap.size + 1 from by simp] at this
  exact this
theorem Bys.grown {w w' : World} {V : Option Addr} {l : List UInt8} {row : Option Nat} (h : Bys w V l) (hg : w.grownBy w' row) (hV : ∀ ad, V = some ad → some ad.block ≠ row) : Bys w' V l := by
  rcases h with rfl | ⟨b, o, rfl, hb, hc⟩
  · exact .inl rfl
  · exact .inr ⟨b, o, rfl, Nat.lt_of_lt_of_le hb hg.size, fun i hi => (World.cell?_of_block (w := w) (a := ⟨b, o + i, none⟩) (hg.block b hb (hV ⟨b, o, none⟩ rfl))).trans (hc i hi)⟩
theorem Bys.setAway {w : World} {V : Option Addr} {l : List UInt8} (h : Bys w V l) {p : Addr} (hp : ∀ ad, V = some ad → ad.block ≠ p.block) (u : Value) : Bys (w.setCell p u) V l := by
  rcases h with rfl | ⟨b, o, rfl, hb, hc⟩
  · exact .inl rfl
  · exact .inr ⟨b, o, rfl, by simpa [World.setCell] using hb, fun i hi => (World.cell?_of_block (w := w) (a := ⟨b, o + i, none⟩) (Below.heap_setCell w p u b (hp _ rfl))).trans (hc i hi)⟩
/-- Part of bytes, from a place on. -/
theorem Bys.from {w : World} {b o : Nat} {l : List UInt8} (h : Bys w (some ⟨b, o, none⟩) l) (k : Nat) : Bys w (some ⟨b, o + k, none⟩) (l.drop k) := by
  rcases h with rfl | ⟨b', o', e, hb, hc⟩
  · exact .inl (by simp)
  · injection e with e
    injection e with e1 e2 _
    subst e1
    subst e2
    refine .inr ⟨b, o + k, rfl, hb, fun i hi => ?_⟩
    rw [List.length_drop] at hi
    have := hc (k + i) (by omega)
    rw [← Nat.add_assoc] at this
    rw [this, getD_in l 0 (by omega), getD_in (l.drop k) 0 (by rw [List.length_drop]; omega), List.getElem_drop]
theorem Bys.front {w : World} {A : Option Addr} {l : List UInt8} (h : Bys w A l) (k : Nat) : Bys w A (l.take k) := by
  rcases h with rfl | ⟨b, o, rfl, hb, hc⟩
  · exact .inl (by simp)
  · refine .inr ⟨b, o, rfl, hb, fun i hi => ?_⟩
    rw [List.length_take] at hi
    rw [hc i (by omega), getD_in l 0 (by omega), getD_in (l.take k) 0 (by rw [List.length_take]; omega), List.getElem_take]

section
variable {w : World} {base : Nat} {v : Value} {x : List UInt8}
theorem own_alloc (h : Own w base v x) (o : Obj) : Own (w.alloc o) base v x := World.ownsRow.alloc h o
theorem own_empty {g : Nat} (h : Row w g 5 #[]) (hb : base ≤ g) : Own w base (.slice (some ⟨g, 0, none⟩) 0 0) [] :=
  ⟨by simp [bcells], .inr ⟨g, 0, #[], rfl, hb, h, Nat.le_refl _, by simp [maxLen], by simp, by simp [bcells]⟩⟩
theorem own_whole {g : Nat} (h : Row w g 5 (bcells x)) (hb : base ≤ g) (hx : x.length ≤ maxLen) : Own w base (.slice (some ⟨g, 0, none⟩) x.length x.length) x :=
  ⟨by simp [bcells], .inr ⟨g, x.length, bcells x, rfl, hb, h, Nat.le_refl _, hx, by simp [bcells], List.take_of_length_le (by simp [bcells])⟩⟩
theorem own_room {g n : Nat} (h : Row w g 5 (bcells (List.replicate n 0))) (hb : base ≤ g) (hn : n ≤ maxLen) : Own w base (.slice (some ⟨g, 0, none⟩) 0 n) [] :=
  ⟨by simp [bcells], .inr ⟨g, n, _, rfl, hb, h, Nat.zero_le _, hn, by simp [bcells], by simp [bcells]⟩⟩
theorem own_below {w' : World} (h : Own w base v x) (hb : Below w.heap.size w w') : Own w' base v x := by
  refine ⟨h.1, ?_⟩
  rcases h.2 with h2 | ⟨g, cap, cur, hv, hg, hh, r⟩
  · exact .inl h2
  · exact .inr ⟨g, cap, cur, hv, hg, (hb.block g (Row.lt (cs := cur) hh)).trans hh, r⟩
theorem own_grown {w' : World} {row : Option Nat} (h : Own w base v x) (hg : w.grownBy w' row) (hne : ∀ k, v.ownBlock = some k → some k ≠ row) : Own w' base v x := by
  refine ⟨h.1, ?_⟩
  rcases h.2 with h2 | ⟨g, cap, cur, rfl, hb, hh, r⟩
  · exact .inl h2
  · exact .inr ⟨g, cap, cur, rfl, hb, (hg.block g (Row.lt (cs := cur) hh) (hne g rfl)).trans hh, r⟩
theorem own_lower {base' : Nat} (h : Own w base v x) (hb : base' ≤ base) : Own w base' v x := by
  refine ⟨h.1, ?_⟩
  rcases h.2 with h2 | ⟨g, cap, cur, hv, hg, r⟩
  · exact .inl h2
  · exact .inr ⟨g, cap, cur, hv, by omega, r⟩
theorem own_slice' (h : Own w base v x) : ∃ B d, v = .slice B x.length d ∧ Bys w B x ∧ ∀ ad, B = some ad → base ≤ ad.block := by
  rcases h.2 with ⟨rfl, h0⟩ | ⟨g, cap, cur, rfl, hg, _⟩
  · obtain rfl := List.eq_nil_of_length_eq_zero h0
    exact ⟨none, 0, rfl, Bys.empty _ _, fun ad e => by cases e⟩
  · exact ⟨some ⟨g, 0, none⟩, cap, rfl, own_bys h, fun ad e => by injection e with e; subst e; exact hg⟩
theorem own_cap (h : Own w base v x) : ∃ B d, v = .slice B x.length d ∧ Bys w B x ∧ (∀ ad, B = some ad → base ≤ ad.block) ∧ x.length ≤ d ∧ d ≤ maxLen := by
  rcases h.2 with ⟨rfl, h0⟩ | ⟨g, cap, cur, rfl, hg, hh, hnc, hcm, _⟩
  · obtain rfl := List.eq_nil_of_length_eq_zero h0
    exact ⟨none, 0, rfl, Bys.empty _ _, (fun ad e => by cases e), by simp, by simp [maxLen]⟩
  · exact ⟨some ⟨g, 0, none⟩, cap, rfl, own_bys h, (fun ad e => by injection e with e; subst e; exact hg), hnc, hcm⟩
theorem own_ne {X : Nat} {t : TypeId} {cs : Array Value} (h : Own w base v x) (hX : Row w X t cs) (ht : t ≠ 5) : some X ≠ v.ownBlock := by
  rcases h.2 with ⟨rfl, _⟩ | ⟨g, cap, cur, rfl, hg, hh, _⟩
  · simp [Value.ownBlock]
  · simp only [Value.ownBlock]
    rintro e
    injection e with e
    subst e
    unfold Row at hX
    rw [hX] at hh
    injection hh with hh
    injection hh with h1 h2 h3
    exact ht h2
theorem own_set {g cap i : Nat} (h : Own w base (.slice (some ⟨g, 0, none⟩) x.length cap) x) (hi : i < x.length) (y : UInt8) :
    Own (w.setCell ⟨g, i, none⟩ (.int .u8 (y.toNat : Int))) base (.slice (some ⟨g, 0, none⟩) (x.set i y).length cap) (x.set i y) := by
  rcases h.2 with ⟨e, _⟩ | ⟨g', cap', cur, e, hg, hh, hnc, hcm, hcs, htk⟩
  · cases e
  · injection e with e1 _ e3
    injection e1 with e1
    injection e1 with e1 _ _
    subst e1
    subst e3
    have hrow : Row w g 5 cur := hh
    have h2 : Row _ g 5 _ := hrow.setAt i (.int .u8 (y.toNat : Int))
    refine ⟨by simp [bcells], .inr ⟨g, cap, cur.setIfInBounds i (.int .u8 (y.toNat : Int)), rfl, hg, h2, by rw [List.length_set]; exact hnc, hcm, by rw [Array.size_setIfInBounds]; exact hcs, ?_⟩⟩
    rw [List.length_set, Array.toList_setIfInBounds, List.take_set, htk]
    simp [bcells]
theorem own_setFar {p : Addr} (h : Own w base v x) (hp : v.ownBlock ≠ some p.block) (u : Value) : Own (w.setCell p u) base v x := by
  refine ⟨h.1, ?_⟩
  rcases h.2 with h2 | ⟨g, cap, cur, rfl, hb, hh, r⟩
  · exact .inl h2
  · exact .inr ⟨g, cap, cur, rfl, hb, Row.setFar (cs := cur) hh (fun e => hp (by simp [Value.ownBlock, e])) u, r⟩
theorem own_frozen {g cap n : Nat} (h : Own w base (.slice (some ⟨g, 0, none⟩) n cap) x) (i : Nat) : w.frozen? ⟨g, i, none⟩ = false := by
  rcases h.2 with ⟨e, _⟩ | ⟨g', cap', cur, e, hg, hh, hnc, hcm, hcs, htk⟩
  · cases e
  · injection e with e1 _ _
    injection e1 with e1
    injection e1 with e1 _ _
    subst e1
    exact Row.frozen (cs := cur) hh i
end

theorem u8_info : (Tryd.prog.info? 5).map (fun i => (i.zero, i.size, i.bytes)) = some (some (.int .u8 0), 1, 1) := by kernel_rfl
theorem u8_size : (Tryd.prog.info? 5).map (·.size) = some 1 := by kernel_rfl
theorem made_bytes (m : Nat) : madeCells (Value.int .u8 0).cells (m * 1) = bcells (List.replicate m 0) := by
  apply Array.ext
  · simp [madeCells, bcells]
  · intro i h1 h2
    simp [madeCells, bcells, Value.cells, Nat.mod_one]
theorem make_room (m : Int) (h0 : 0 ≤ m) (hm : m ≤ 281474976710656) (W : World) :
    (Instr.makeSlice 39 (.int .i64 0) (.int .i64 m)).run Tryd.prog W = .ok (.slice (some ⟨W.heap.size, 0, none⟩) 0 m.toNat) (W.alloc (.cells (bcells (List.replicate m.toNat 0)) 5)) := by
  obtain ⟨i0, hi, hz0, hz1, hz2⟩ := info_parts u8_info
  have hr := run_make (P := Tryd.prog) W 39 5 i0 (.int .u8 0) Tryd.underlying39 hi hz0 .i64 .i64 0 m (by omega) (by omega) (by rw [hz2]; omega) (by omega)
  simp only [hz1, made_bytes] at hr
  exact hr

/-- append of bytes to a row of the call's own, at a walk's built-in. -/
theorem app_u8 {w : World} {ops : Array Oper} {rest : List Oper} {o : Oper} {a : Act} {Q : Exit → Act → World → Prop} (hgd : o.guard = none) (s y : Operand)
    (ho : o.op = .call { callee := .builtin .append, args := #[s, y], argTypes := #[39, 39] })
    (base : Nat) (v : Value) (x : List UInt8) (hs : a.eval s = v) (hown : Own w base v x) (A : Option Addr) (l : List UInt8) (c : Nat) (hy : a.eval y = .slice A l.length c) (hA : Bys w A l) (hn : x.length + l.length ≤ 211106232532992) (hbase : base ≤ w.heap.size)
    (h : ∀ v' w', Own w' base v' (x ++ l) → Below base w w' → w.grownBy w' v.ownBlock → wpList Tryd.prog ops Q rest (a.put o.dst v') w') : wpList Tryd.prog ops Q (o :: rest) a w := by
  obtain ⟨i0, hi, hz0, hz1, hz2⟩ := info_parts u8_info
  exact wpList_app _ hgd s y 39 ho base i0 Tryd.underlying39 hi hz0 hz1 hz2 v x hs hown A l c hy hA hn hbase
    fun v' w' h1 h2 _ => h v' w' h1 (Below.grown (Below.refl base w) h2 hbase (fun k hk => (World.ownsRow.lt hown _ hk).1)) h2

/-- A text's bytes. -/
def strL (s : ByteArray) : List UInt8 := s.data.toList
theorem strL_length (s : ByteArray) : (strL s).length = s.size := by
  show s.data.toList.length = s.data.size
  simp
theorem txt_strL (s : ByteArray) : txt (strL s) = s := by simp [txt, strL]
theorem strL_txt (l : List UInt8) : strL (txt l) = l := by simp [txt, strL]
theorem cells_strL (s : ByteArray) : Go.Lib.strCells s = (bcells (strL s)).toList := by simp [Go.Lib.strCells, bcells, strL]

theorem own_made (w : World) (base : Nat) (x l : List UInt8) (old : Nat) (ho : old < x.length + l.length) (hn : x.length + l.length ≤ 211106232532992) (hbase : base ≤ w.heap.size) (row : Option Nat) :
    Own (w.drew.alloc (.cells ((bcells x).toList.toArray ++ (bcells l).toList.toArray ++ Builtin.zeroCells (Value.int .u8 0).cells (grownCap w (x.length + l.length) old 5 - (x.length + l.length))) 5)) base
      (.slice (some ⟨w.heap.size, 0, none⟩) (x.length + l.length) (grownCap w (x.length + l.length) old 5)) (x ++ l) ∧
    w.grownBy (w.drew.alloc (.cells ((bcells x).toList.toArray ++ (bcells l).toList.toArray ++ Builtin.zeroCells (Value.int .u8 0).cells (grownCap w (x.length + l.length) old 5 - (x.length + l.length))) 5)) row := by
  have hge := grownCap_ge w (x.length + l.length) old 5
  have hle := grownCap_le_maxLen w (x.length + l.length) old 5 (by simp only [maxLen]; omega)
  refine ⟨⟨by simp [bcells], .inr ⟨w.heap.size, _, _, by rw [List.length_append], hbase, heap_alloc_new w.drew _, by rw [List.length_append]; exact hge, hle, ?_, ?_⟩⟩, ⟨rfl, rfl, rfl, by simp, fun k hk _ => heap_alloc_old w.drew _ hk⟩⟩
  · simp only [Array.size_append, List.size_toArray, size_zeroCells, Value.cells]
    simp [bcells]
    omega
  · have e : ((bcells x).toList.toArray ++ (bcells l).toList.toArray).toList = (bcells (x ++ l)).toList := by simp [bcells]
    rw [Array.toList_append, e]
    exact List.take_left' (by simp [bcells])

theorem run_app_str (w : World) (base ty : Nat) (v : Value) (x : List UInt8) (hown : Own w base v x) (s : ByteArray) (hn : x.length + s.size ≤ 211106232532992) (hbase : base ≤ w.heap.size) :
    ∃ v' w', (Builtin.append_ #[39, 9] ty #[v, .string s]).run Tryd.prog w = .ok v' w' ∧ Own w' base v' (x ++ strL s) ∧ w.grownBy w' v.ownBlock := by
  obtain ⟨i, hi, hz, hs, hby⟩ := info_parts u8_info
  have hll := strL_length s
  have e1 : (s.data.map fun b => Value.int .u8 b.toNat) = (bcells (strL s)).toList.toArray := by
    apply Array.ext'
    simp [bcells, strL]
  have e2 : (Go.Lib.strCells s).toArray = (bcells (strL s)).toList.toArray := by rw [cells_strL]
  rcases hown.2 with ⟨rfl, h0⟩ | ⟨g, cap, cur, rfl, hg, hh, hnc, hcm, hcs, htk⟩
  · obtain rfl := List.eq_nil_of_length_eq_zero h0
    by_cases hm : s.size = 0
    · have hx : strL s = [] := List.eq_nil_of_length_eq_zero (by rw [hll, hm])
      have hf := Go.Lib.run_firstCells_string (P := Tryd.prog) w 1 s
      rw [hm, cells_strL, hx] at hf
      refine ⟨.slice none 0 0, w, ?_, by rw [hx]; exact own_nil _ _, World.grownBy.refl w _⟩
      simp [Builtin.append_, run_underlying Tryd.underlying39, run_underlying Tryd.underlying9, sizeOf, typeInfo, hi, hs, Builtin.lenOf, hm, hf]
    · have hr := run_append_nil_string (P := Tryd.prog) w 39 9 ty 5 i (.int .u8 0) Tryd.underlying39 Tryd.underlying9 hi hz s (by omega) (by simp only [List.length_nil] at hn; omega) (by rw [hby]; simp only [List.length_nil] at hn; omega)
      rw [e1] at hr
      obtain ⟨m1, m2⟩ := own_made w base [] (strL s) 0 (by rw [hll]; simp; omega) (by rw [hll]; exact hn) hbase none
      simp only [List.length_nil, Nat.zero_add, hll] at m1 m2
      refine ⟨_, _, hr, ?_, ?_⟩
      · simpa [bcells] using m1
      · simpa [bcells, Value.ownBlock] using m2
  · by_cases hroom : x.length + s.size ≤ cap
    · have hr := Go.Lib.run_append_room_string (P := Tryd.prog) w 39 9 ty 5 i Tryd.underlying39 Tryd.underlying9 hi hs g x.length cap cur hh s hroom (by omega)
      refine ⟨_, _, hr, ⟨by simp [bcells], .inr ⟨g, cap, _, by rw [List.length_append, hll], hg, setRow_heap w g cur _ 5 _ hh, by rw [List.length_append, hll]; exact hroom, hcm, ?_, ?_⟩⟩, ⟨rfl, rfl, rfl, by simp, fun k _ hk => setRow_other w g k _ (fun e => hk (by simp [Value.ownBlock, e]))⟩⟩
      · simp only [List.size_toArray, List.length_append, List.length_take, List.length_drop, Array.length_toList, Go.Lib.strCells_length]
        omega
      · rw [Nat.mul_one] at htk
        rw [htk, cells_strL]
        have e : (bcells x).toList ++ (bcells (strL s)).toList = (bcells (x ++ strL s)).toList := by simp [bcells]
        rw [e]
        exact List.take_left' (by simp [bcells])
    · have hr := Go.Lib.run_append_grow_string (P := Tryd.prog) w 39 9 ty 5 i (.int .u8 0) Tryd.underlying39 Tryd.underlying9 hi hz ⟨g, 0, none⟩ x.length cap (bcells x).toList (by simp [bcells, hs]) (World.ownsRow.cells hown (g := g) rfl) s (by omega) (by omega)
        (by rw [hby]; have := cap_quarter (need := x.length + s.size) (old := cap) (by omega); omega)
      rw [e2] at hr
      obtain ⟨m1, m2⟩ := own_made w base x (strL s) cap (by rw [hll]; omega) (by rw [hll]; exact hn) hbase (some g)
      rw [hll] at m1 m2
      exact ⟨_, _, hr, m1, m2⟩

/-- append of a text's bytes, at a walk's built-in. -/
theorem app_str {w : World} {ops : Array Oper} {rest : List Oper} {o : Oper} {a : Act} {Q : Exit → Act → World → Prop} (hgd : o.guard = none) (sl y : Operand)
    (ho : o.op = .call { callee := .builtin .append, args := #[sl, y], argTypes := #[39, 9] })
    (base : Nat) (v : Value) (x : List UInt8) (hs : a.eval sl = v) (hown : Own w base v x) (s : ByteArray) (hy : a.eval y = .string s) (hn : x.length + s.size ≤ 211106232532992) (hbase : base ≤ w.heap.size)
    (h : ∀ v' w', Own w' base v' (x ++ strL s) → Below base w w' → w.grownBy w' v.ownBlock → wpList Tryd.prog ops Q rest (a.put o.dst v') w') : wpList Tryd.prog ops Q (o :: rest) a w := by
  refine wpList_plain hgd fun K hK => ?_
  obtain ⟨v', w', hr, h2, h3⟩ := run_app_str w base o.type v x hown s hn hbase
  unfold Oper.wp execOp
  simp only [ho, resolve, invoke, builtin, Sem.run_bind, Sem.run_pure, Result.andThen_ok, List.map_toArray, List.map_cons, List.map_nil, hs, hy, hr]
  exact hK _ _ (h v' w' h2 (Below.grown (Below.refl base w) h3 hbase (fun k hk => (World.ownsRow.lt hown _ hk).1)) h3)
end Go.Proofs.YtnhaehjkepmbaaaDoor
