/- In one text, written by lotify.py: LbMath, LbText, LbName, LbName2. -/
import Derived.Test.YtnhaehjkepmbaaaDoorLtLotA
import Derived.Deep.RegionWith
namespace Go.Proofs.YtnhaehjkepmbaaaDoor
open Go.RowKit
set_option linter.unusedVariables false

/-- A label: its name and its value. -/
abbrev Lbl := ByteArray × ByteArray
def lbl0 : Lbl := (⟨#[]⟩, ⟨#[]⟩)
def nmOf (l : List Lbl) (i : Nat) : ByteArray := (l.getD i lbl0).1
def vlOf (l : List Lbl) (i : Nat) : ByteArray := (l.getD i lbl0).2
def letterB (c : UInt8) : Bool := (decide (97 ≤ c.toNat) && decide (c.toNat ≤ 122)) || ((decide (65 ≤ c.toNat) && decide (c.toNat ≤ 90)) || decide (c.toNat = 95))
def digitB (c : UInt8) : Bool := decide (48 ≤ c.toNat) && decide (c.toNat ≤ 57)
/-- May the byte c stand at place k of a name? -/
def okB (c : UInt8) (k : Nat) : Bool := letterB c || (decide (0 < k) && digitB c)
/-- From place k on, as many as n bytes. -/
def okF (s : List UInt8) : Nat → Nat → Bool
  | 0, _ => true
  | n + 1, k => if okB (s.getD k 0) k = true then okF s n (k + 1) else false
def nameB (s : List UInt8) : Bool := (decide (0 < s.length) && decide (s.length ≤ 32)) && okF s s.length 0
/-- Is the text a above (or the same as) b, as Go compares texts? -/
def leB (a b : ByteArray) : Bool := Op.bytesLess a.toList b.toList || a.toList == b.toList
/-- What label k of l has against it (0: nothing). -/
def lbErrAt (l : List Lbl) (k : Nat) : Int :=
  if nameB (strL (nmOf l k)) = false then 8
  else if (vlOf l k).size = 0 then 2
  else if 64 < (vlOf l k).size then 3
  else if 0 < k ∧ leB (nmOf l k) (nmOf l (k - 1)) = true then 13
  else 0
def lbErrF (l : List Lbl) : Nat → Nat → Int
  | 0, _ => 0
  | n + 1, k => if lbErrAt l k = 0 then lbErrF l n (k + 1) else lbErrAt l k
/-- What refuses labels (0: nothing: they are a right set). -/
def lbChk (l : List Lbl) : Int := if 8 < l.length then 3 else lbErrF l l.length 0

theorem lbErrF_ok {l : List Lbl} {n k : Nat} (h : lbErrF l n k = 0) : ∀ i, i < n → lbErrAt l (k + i) = 0 := by
  induction n generalizing k with
  | zero => intro i hi; omega
  | succ n ih =>
    intro i hi
    rw [lbErrF] at h
    by_cases h0 : lbErrAt l k = 0
    · rw [if_pos h0] at h
      cases i with
      | zero => exact h0
      | succ i =>
        have := ih h i (by omega)
        rwa [show k + (i + 1) = k + 1 + i from by omega]
    · rw [if_neg h0] at h
      exact absurd h h0
theorem lbErrF_of {l : List Lbl} {n k : Nat} (h : ∀ i, i < n → lbErrAt l (k + i) = 0) : lbErrF l n k = 0 := by
  induction n generalizing k with
  | zero => rfl
  | succ n ih =>
    rw [lbErrF, if_pos (show lbErrAt l k = 0 from h 0 (by omega))]
    exact ih fun i hi => by have := h (i + 1) (by omega); rwa [show k + (i + 1) = k + 1 + i from by omega] at this
theorem lbChk_ok {l : List Lbl} : lbChk l = 0 ↔ l.length ≤ 8 ∧ ∀ i, i < l.length → lbErrAt l i = 0 := by
  unfold lbChk
  by_cases h8 : 8 < l.length
  · rw [if_pos h8]
    constructor
    · intro h; exact absurd h (by omega)
    · rintro ⟨h, _⟩; omega
  · rw [if_neg h8]
    constructor
    · intro h
      exact ⟨by omega, fun i hi => by have := lbErrF_ok h i hi; rwa [Nat.zero_add] at this⟩
    · rintro ⟨_, h⟩
      exact lbErrF_of fun i hi => by rw [Nat.zero_add]; exact h i hi
theorem lbErrAt_zero {l : List Lbl} {k : Nat} : lbErrAt l k = 0 ↔ nameB (strL (nmOf l k)) = true ∧ 0 < (vlOf l k).size ∧ (vlOf l k).size ≤ 64 ∧ (0 < k → leB (nmOf l k) (nmOf l (k - 1)) = false) := by
  unfold lbErrAt
  cases nameB (strL (nmOf l k))
  · simp
  · rw [if_neg (by simp)]
    by_cases h1 : (vlOf l k).size = 0
    · rw [if_pos h1]; constructor
      · intro h; exact absurd h (by omega)
      · rintro ⟨_, h, _⟩; omega
    · rw [if_neg h1]
      by_cases h2 : 64 < (vlOf l k).size
      · rw [if_pos h2]; constructor
        · intro h; exact absurd h (by omega)
        · rintro ⟨_, _, h, _⟩; omega
      · rw [if_neg h2]
        by_cases h3 : 0 < k ∧ leB (nmOf l k) (nmOf l (k - 1)) = true
        · rw [if_pos h3]; constructor
          · intro h; exact absurd h (by omega)
          · rintro ⟨_, _, _, h⟩; rw [h h3.1] at h3; simp at h3
        · rw [if_neg h3]
          refine ⟨fun _ => ⟨rfl, by omega, by omega, fun hk => ?_⟩, fun _ => rfl⟩
          cases hl : leB (nmOf l k) (nmOf l (k - 1))
          · rfl
          · exact absurd ⟨hk, hl⟩ h3
theorem nameB_size {s : ByteArray} (h : nameB (strL s) = true) : 0 < s.size ∧ s.size ≤ 32 := by
  unfold nameB at h
  rw [strL_length] at h
  simp only [Bool.and_eq_true, decide_eq_true_eq] at h
  exact h.1

def hexL : List UInt8 := [48, 49, 50, 51, 52, 53, 54, 55, 56, 57, 97, 98, 99, 100, 101, 102]
def hexD (q : Nat) : UInt8 := hexL.getD q 0
/-- A byte as it stands between a value's marks. -/
def escB (c : UInt8) : List UInt8 :=
  if c.toNat = 34 ∨ c.toNat = 92 then [92, c]
  else if c.toNat < 32 ∨ 126 < c.toNat then [92, 120, hexD (c.toNat / 16), hexD (c.toNat % 16)]
  else [c]
def escL (s : List UInt8) : List UInt8 := s.flatMap escB
/-- A label as it stands in a set's text. -/
def lblT (x : Lbl) : List UInt8 := strL x.1 ++ [61, 34] ++ escL (strL x.2) ++ [34]
/-- Labels from place i on, n of them: ahead of each but the first one stand a comma and a blank. -/
def lblsT (l : List Lbl) : Nat → List UInt8
  | 0 => []
  | k + 1 => lblsT l k ++ (if 0 < k then [44, 32] else []) ++ lblT (l.getD k lbl0)
/-- The text of labels. -/
def printL (l : List Lbl) : List UInt8 := [123] ++ lblsT l l.length ++ [125]

theorem escB_len (c : UInt8) : (escB c).length ≤ 4 := by
  unfold escB; split
  · simp
  · split <;> simp
theorem escL_len (s : List UInt8) : (escL s).length ≤ 4 * s.length := by
  unfold escL
  induction s with
  | nil => simp
  | cons c r ih => rw [List.flatMap_cons, List.length_append, List.length_cons]; have := escB_len c; omega
theorem escL_snoc (s : ByteArray) {k : Nat} (h : k < s.size) : escL ((strL s).take (k + 1)) = escL ((strL s).take k) ++ escB ((strL s).getD k 0) := by
  unfold escL
  rw [List.take_succ_eq_append_getElem (by rw [strL_length]; exact h), List.flatMap_append, getD_in _ 0 (by rw [strL_length]; exact h)]
  simp
theorem escL_take_len (s : ByteArray) (k : Nat) (h : k ≤ s.size) : (escL ((strL s).take k)).length ≤ 4 * k := by
  have := escL_len ((strL s).take k)
  rw [List.length_take, strL_length] at this
  omega
theorem hex_byte (q : Nat) (h : q < 16) : (hexD q).toNat = (if q < 10 then 48 + q else 87 + q) := by
  have : q = 0 ∨ q = 1 ∨ q = 2 ∨ q = 3 ∨ q = 4 ∨ q = 5 ∨ q = 6 ∨ q = 7 ∨ q = 8 ∨ q = 9 ∨ q = 10 ∨ q = 11 ∨ q = 12 ∨ q = 13 ∨ q = 14 ∨ q = 15 := by omega
  rcases this with rfl | rfl | rfl | rfl | rfl | rfl | rfl | rfl | rfl | rfl | rfl | rfl | rfl | rfl | rfl | rfl <;> rfl

/-- No fewer than the bytes of the text of the first k labels. -/
def costT (l : List Lbl) : Nat → Nat
  | 0 => 1
  | k + 1 => costT l k + (6 + (nmOf l k).size + 4 * (vlOf l k).size)
theorem costT_mono (l : List Lbl) {j k : Nat} (h : j ≤ k) : costT l j ≤ costT l k := by
  induction k with
  | zero => rw [show j = 0 from by omega]; exact Nat.le_refl _
  | succ k ih =>
    rcases Nat.lt_or_ge j (k + 1) with h1 | h1
    · have := ih (by omega); rw [costT]; omega
    · rw [show j = k + 1 from by omega]; exact Nat.le_refl _
theorem lblsT_len (l : List Lbl) (k : Nat) : (lblsT l k).length + 1 ≤ costT l k := by
  induction k with
  | zero => exact Nat.le_refl _
  | succ k ih =>
    rw [lblsT, costT, List.length_append, List.length_append]
    have h1 : (lblT (l.getD k lbl0)).length ≤ 3 + (nmOf l k).size + 4 * (vlOf l k).size := by
      unfold lblT
      have := escL_len (strL (l.getD k lbl0).2)
      rw [strL_length] at this
      simp only [List.length_append, List.length_cons, List.length_nil, strL_length]
      unfold nmOf vlOf
      omega
    have h2 : (if 0 < k then ([44, 32] : List UInt8) else []).length ≤ 2 := by split <;> simp
    omega

theorem strL_get (s : ByteArray) {k : Nat} (h : k < s.size) : (strL s).getD k 0 = s[k] := by
  rw [getD_in _ 0 (by rw [strL_length]; exact h)]
  rfl
theorem ret_bool {a b : Bool} (h : a = b) : Ending.returned (.bool a) = .returned (.bool b) := by rw [h]
theorem letter_cases (c : UInt8) (n : Nat) (hn : c.toNat = n) : (decide (97 ≤ n) = true ∧ decide (n ≤ 122) = true ∧ letterB c = true) ∨
    (decide (97 ≤ n) = true ∧ decide (n ≤ 122) = false ∧ decide (65 ≤ n) = true ∧ decide (n ≤ 90) = false ∧ (n == 95) = false ∧ letterB c = false) ∨
    (decide (97 ≤ n) = false ∧ decide (65 ≤ n) = true ∧ decide (n ≤ 90) = true ∧ letterB c = true) ∨
    (decide (97 ≤ n) = false ∧ decide (65 ≤ n) = true ∧ decide (n ≤ 90) = false ∧ (n == 95) = true ∧ letterB c = true) ∨
    (decide (97 ≤ n) = false ∧ decide (65 ≤ n) = true ∧ decide (n ≤ 90) = false ∧ (n == 95) = false ∧ letterB c = false) ∨
    (decide (97 ≤ n) = false ∧ decide (65 ≤ n) = false ∧ (n == 95) = false ∧ letterB c = false) := by
  subst hn
  unfold letterB
  by_cases h1 : 97 ≤ c.toNat <;> by_cases h2 : c.toNat ≤ 122 <;> by_cases h3 : 65 ≤ c.toNat <;> by_cases h4 : c.toNat ≤ 90 <;> by_cases h5 : c.toNat = 95 <;> simp [h1, h2, h3, h4, h5] <;> omega
theorem letter_prog (c : UInt8) (w : World) :
    Calls Tryd.prog 27 #[.int .u8 (c.toNat : Int)] w fun e w' => e = .returned (.bool (letterB c)) ∧ w = w' := by
  have hc := c.toNat_lt
  obtain ⟨n, hn⟩ : ∃ n, c.toNat = n := ⟨_, rfl⟩
  have k1 : decide ((97 : Int) ≤ (n : Int)) = decide (97 ≤ n) := by rw [decide_eq_decide]; omega
  have k2 : decide ((n : Int) ≤ 122) = decide (n ≤ 122) := by rw [decide_eq_decide]; omega
  have k3 : decide ((65 : Int) ≤ (n : Int)) = decide (65 ≤ n) := by rw [decide_eq_decide]; omega
  have k4 : decide ((n : Int) ≤ 90) = decide (n ≤ 90) := by rw [decide_eq_decide]; omega
  have k5 : ((n : Int) == 95) = (n == 95) := by rw [Bool.eq_iff_iff, beq_iff_eq, beq_iff_eq]; omega
  have key := letter_cases c n hn
  rw [hn] at *
  rcases key with ⟨h1, h2, h⟩ | ⟨h1, h2, h3, h4, h5, h⟩ | ⟨h1, h3, h4, h⟩ | ⟨h1, h3, h4, h5, h⟩ | ⟨h1, h3, h4, h5, h⟩ | ⟨h1, h3, h5, h⟩
  all_goals
    rw [h]
    simp only [h1] at k1
    try simp only [h2] at k2
    try simp only [h3] at k3
    try simp only [h4] at k4
    try simp only [h5] at k5
    clear h hn hc
    go_enter Tryd.func27, Tryd.ntmps27
    go_wp2
    go_ret
    exact ⟨rfl, rfl⟩
theorem digit_prog (c : UInt8) (w : World) :
    Calls Tryd.prog 28 #[.int .u8 (c.toNat : Int)] w fun e w' => e = .returned (.bool (digitB c)) ∧ w = w' := by
  have hc := c.toNat_lt
  unfold digitB
  generalize c.toNat = n at *
  have k1 : decide ((48 : Int) ≤ (n : Int)) = decide (48 ≤ n) := by rw [decide_eq_decide]; omega
  have k2 : decide ((n : Int) ≤ 57) = decide (n ≤ 57) := by rw [decide_eq_decide]; omega
  cases h1 : decide (48 ≤ n) <;> cases h2 : decide (n ≤ 57)
  all_goals
    rw [h1] at k1
    rw [h2] at k2
    go_enter Tryd.func28, Tryd.ntmps28
    go_wp2
    go_ret
    exact ⟨rfl, rfl⟩

theorem name_prog (s : ByteArray) (w : World) :
    Calls Tryd.prog 20 #[.string s] w fun e w' => e = .returned (.bool (nameB (strL s))) ∧ w = w' := by
  by_cases h0 : s.size = 0
  · have e : nameB (strL s) = false := by unfold nameB; rw [strL_length, h0]; rfl
    rw [e]
    have d0 : ((s.size : Int) == 0) = true := by rw [h0]; rfl
    clear e
    go_enter Tryd.func20, Tryd.ntmps20
    go_wp2
    go_ret
    exact ⟨rfl, rfl⟩
  have d0 : ((s.size : Int) == 0) = false := by rw [beq_eq_false_iff_ne]; omega
  by_cases h1 : 32 < s.size
  · have e : nameB (strL s) = false := by unfold nameB; rw [strL_length, decide_eq_true (show 0 < s.size by omega), decide_eq_false (show ¬ s.size ≤ 32 by omega)]; rfl
    rw [e]
    have d1 : decide ((32 : Int) < (s.size : Int)) = true := by simp; omega
    clear e
    go_enter Tryd.func20, Tryd.ntmps20
    go_wp2
    go_ret
    exact ⟨rfl, rfl⟩
  have d1 : decide ((32 : Int) < (s.size : Int)) = false := by simp; omega
  have HE := Lib.hid (show nameB (strL s) = okF (strL s) s.size 0 by unfold nameB; rw [strL_length, decide_eq_true (show 0 < s.size by omega), decide_eq_true (show s.size ≤ 32 by omega)]; rfl)
  rw [HE.out]
  go_enter Tryd.func20, Tryd.ntmps20
  go_wp2_with fail
  go_loop [14] (fun i => ∃ k : Nat, k ≤ s.size ∧ i = .int .i64 (k : Int) ∧ okF (strL s) (s.size - k) k = okF (strL s) s.size 0) (fun i => s.size - (intOf i).toNat)
  case atStart => exact ⟨0, Nat.zero_le _, rfl, rfl⟩
  case round =>
    obtain ⟨k, hk, rfl, hall⟩ := hrel
    by_cases hlt : k < s.size
    · rw [show s.size - k = (s.size - (k + 1)) + 1 from by omega, okF, strL_get s hlt] at hall
      have HA := Lib.hid hall
      clear hall
      have HL := Lib.hid (letter_prog s[k] w)
      have HD := Lib.hid (digit_prog s[k] w)
      cases hl : letterB s[k]
      · rw [hl] at HL
        by_cases hk0 : k = 0
        · have eb : okB s[k] k = false := by unfold okB; rw [hl, decide_eq_false (by omega)]; rfl
          rw [eb] at HA
          have i0 : ((k : Int) == 0) = true := by rw [hk0]; rfl
          clear eb hl hk0
          go_wp2_with fail
          refine HL.out.mono ?_
          rintro e w1 ⟨rfl, rfl⟩
          go_wp2_with fail
          go_ret
          exact ⟨by rw [← HA.out]; rfl, rfl⟩
        · have i0 : ((k : Int) == 0) = false := by rw [beq_eq_false_iff_ne]; omega
          cases hd : digitB s[k]
          · have eb : okB s[k] k = false := by unfold okB; rw [hl, hd]; simp
            rw [eb] at HA
            rw [hd] at HD
            clear eb hl hd hk0
            go_wp2_with fail
            refine HL.out.mono ?_
            rintro e w1 ⟨rfl, rfl⟩
            go_wp2_with fail
            refine HD.out.mono ?_
            rintro e w1 ⟨rfl, rfl⟩
            go_wp2_with fail
            go_ret
            exact ⟨by rw [← HA.out]; rfl, rfl⟩
          · have eb : okB s[k] k = true := by unfold okB; rw [hl, hd, decide_eq_true (by omega)]; rfl
            rw [eb, if_pos rfl] at HA
            rw [hd] at HD
            clear eb hl hd hk0
            go_wp2_with fail
            refine HL.out.mono ?_
            rintro e w1 ⟨rfl, rfl⟩
            go_wp2_with fail
            refine HD.out.mono ?_
            rintro e w1 ⟨rfl, rfl⟩
            go_wp2_with fail
            exact ⟨⟨k + 1, by omega, by go_num, HA.out⟩, by simp [intOf]; omega⟩
      · have eb : okB s[k] k = true := by unfold okB; rw [hl]; rfl
        rw [eb, if_pos rfl] at HA
        rw [hl] at HL
        clear eb hl
        go_wp2_with fail
        refine HL.out.mono ?_
        rintro e w1 ⟨rfl, rfl⟩
        go_wp2_with fail
        exact ⟨⟨k + 1, by omega, by go_num, HA.out⟩, by simp [intOf]; omega⟩
    · obtain rfl : k = s.size := by omega
      rw [Nat.sub_self, okF] at hall
      have HA := Lib.hid hall
      clear hall
      go_wp2_with fail
      go_ret
      exact ⟨ret_bool HA.out, rfl⟩

theorem name_end (s : ByteArray) (hs : s.size ≤ 140737488351232) (h : okF (strL s) s.size 0 = true) : nameB (strL s) = (!(s.toList == []) && decide ((s.size : Int) ≤ 32)) := by
  have e1 : (s.toList == []) = decide (s.size = 0) := by
    rw [ByteArray.toList_eq, Bool.eq_iff_iff, beq_iff_eq, decide_eq_true_eq]
    have := strL_length s
    unfold strL at this
    constructor
    · intro e; rw [e] at this; simpa using this.symm
    · intro e; exact List.eq_nil_of_length_eq_zero (by omega)
  unfold nameB
  rw [strL_length, h, e1]
  by_cases h0 : s.size = 0
  · simp [h0]
  · by_cases h1 : s.size ≤ 32
    · rw [decide_eq_true (show 0 < s.size by omega), decide_eq_true h1, decide_eq_false h0, decide_eq_true (show (s.size : Int) ≤ 32 by omega)]; rfl
    · rw [decide_eq_true (show 0 < s.size by omega), decide_eq_false h1, decide_eq_false h0, decide_eq_false (show ¬ (s.size : Int) ≤ 32 by omega)]; rfl
theorem name_stop (s : ByteArray) (h : okF (strL s) s.size 0 = false) : nameB (strL s) = false := by
  unfold nameB
  rw [strL_length, h, Bool.and_false]

theorem name_ref (s : ByteArray) (w : World) (hs : s.size ≤ 140737488351232) :
    Calls Tryd.prog 22 #[.string s] w fun e w' => e = .returned (.bool (nameB (strL s))) ∧ w = w' := by
  have HE := Lib.hid (name_end s hs)
  have HF := Lib.hid (name_stop s)
  go_enter Tryd.func22, Tryd.ntmps22
  go_wp2_with fail
  go_loop [3] (fun i => ∃ k : Nat, k ≤ s.size ∧ i = .int .i64 (k : Int) ∧ okF (strL s) (s.size - k) k = okF (strL s) s.size 0) (fun i => s.size - (intOf i).toNat)
  case atStart => exact ⟨0, Nat.zero_le _, rfl, rfl⟩
  case round =>
    obtain ⟨k, hk, rfl, hall⟩ := hrel
    by_cases hlt : k < s.size
    · rw [show s.size - k = (s.size - (k + 1)) + 1 from by omega, okF, strL_get s hlt] at hall
      have hc := s[k].toNat_lt
      have key := letter_cases s[k] s[k].toNat rfl
      obtain ⟨cb, hcb⟩ : ∃ c, s[k] = c := ⟨_, rfl⟩
      have ho : okB cb k = (letterB cb || (decide (0 < k) && (decide (48 ≤ cb.toNat) && decide (cb.toNat ≤ 57)))) := rfl
      rw [hcb] at hall key hc
      have HA := Lib.hid hall
      clear hall
      have hn : s[k].toNat = cb.toNat := by rw [hcb]
      generalize cb.toNat = n at *
      have k1 : decide ((97 : Int) ≤ (n : Int)) = decide (97 ≤ n) := by rw [decide_eq_decide]; omega
      have k2 : decide ((n : Int) ≤ 122) = decide (n ≤ 122) := by rw [decide_eq_decide]; omega
      have k3 : decide ((65 : Int) ≤ (n : Int)) = decide (65 ≤ n) := by rw [decide_eq_decide]; omega
      have k4 : decide ((n : Int) ≤ 90) = decide (n ≤ 90) := by rw [decide_eq_decide]; omega
      have k5 : ((n : Int) == 95) = (n == 95) := by rw [Bool.eq_iff_iff, beq_iff_eq, beq_iff_eq]; omega
      have k6 : decide ((n : Int) < 48) = !decide (48 ≤ n) := by by_cases h : 48 ≤ n <;> simp [h] <;> omega
      have k7 : decide ((57 : Int) < (n : Int)) = !decide (n ≤ 57) := by by_cases h : n ≤ 57 <;> simp [h] <;> omega
      rcases key with ⟨h1, h2, h⟩ | ⟨h1, h2, h3, h4, h5, h⟩ | ⟨h1, h3, h4, h⟩ | ⟨h1, h3, h4, h5, h⟩ | ⟨h1, h3, h4, h5, h⟩ | ⟨h1, h3, h5, h⟩
      all_goals
        rw [h] at ho
        simp only [h1] at k1
        try simp only [h2] at k2
        try simp only [h3] at k3
        try simp only [h4] at k4
        try simp only [h5] at k5
        clear h
        rw [← hn] at k1 k2 k3 k4 k5
      all_goals first
        | (have eb : okB cb k = true := by rw [ho]; rfl
           rw [eb, if_pos rfl] at HA
           clear eb ho k6 k7 hcb hc hn
           go_wp2_with fail
           exact ⟨⟨k + 1, by omega, by go_num, HA.out⟩, by simp [intOf]; omega⟩)
        | (rw [Bool.false_or] at ho
           by_cases hk0 : k = 0
           · have i0 : ((k : Int) == 0) = true := by rw [hk0]; rfl
             rw [decide_eq_false (show ¬ 0 < k by omega), Bool.false_and] at ho
             rw [ho] at HA
             clear k6 k7 hcb hc hn ho hk0
             go_wp2_with fail
             go_ret
             exact ⟨ret_bool (HF.out (by rw [← HA.out]; rfl)).symm, rfl⟩
           · have i0 : ((k : Int) == 0) = false := by rw [beq_eq_false_iff_ne]; omega
             rw [decide_eq_true (show 0 < k by omega), Bool.true_and] at ho
             rw [← hn] at k6 k7 ho
             cases d1 : decide (48 ≤ s[k].toNat)
             · rw [d1, Bool.false_and] at ho
               rw [d1] at k6
               rw [ho] at HA
               clear k7 hcb hc hn ho hk0 d1
               go_wp2_with fail
               go_ret
               exact ⟨ret_bool (HF.out (by rw [← HA.out]; rfl)).symm, rfl⟩
             · cases d2 : decide (s[k].toNat ≤ 57)
               · rw [d1, d2] at ho
                 rw [d1] at k6
                 rw [d2] at k7
                 rw [ho] at HA
                 clear hcb hc hn ho hk0 d1 d2
                 go_wp2_with fail
                 go_ret
                 exact ⟨ret_bool (HF.out (by rw [← HA.out]; rfl)).symm, rfl⟩
               · rw [d1, d2] at ho
                 rw [d1] at k6
                 rw [d2] at k7
                 rw [ho, if_pos (by rfl)] at HA
                 clear hcb hc hn ho hk0 d1 d2
                 go_wp2_with fail
                 exact ⟨⟨k + 1, by omega, by go_num, HA.out⟩, by simp [intOf]; omega⟩)
    · obtain rfl : k = s.size := by omega
      rw [Nat.sub_self, okF] at hall
      have HA := Lib.hid (HE.out hall.symm)
      clear hall
      by_cases h0 : s.size = 0
      · have e1 : (s.toList == []) = true := by
          rw [ByteArray.toList_eq, beq_iff_eq]
          exact List.eq_nil_of_length_eq_zero (by have := strL_length s; unfold strL at this; omega)
        rw [e1] at HA
        go_wp2_with fail
        go_ret
        exact ⟨ret_bool HA.out.symm, rfl⟩
      · have e1 : (s.toList == []) = false := by
          rw [ByteArray.toList_eq, beq_eq_false_iff_ne]
          intro e
          have := strL_length s
          unfold strL at this
          rw [e] at this
          simp at this
          omega
        rw [e1] at HA
        go_wp2_with fail
        go_ret
        exact ⟨ret_bool HA.out.symm, rfl⟩
end Go.Proofs.YtnhaehjkepmbaaaDoor
