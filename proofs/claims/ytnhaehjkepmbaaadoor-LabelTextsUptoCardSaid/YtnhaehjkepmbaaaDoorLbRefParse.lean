/- The document's Parse, at any text: refused, or labels whose text it is; the text of right labels is not refused. -/
import Derived.Test.YtnhaehjkepmbaaaDoorLbUnqM
import Derived.Test.YtnhaehjkepmbaaaDoorLbCut
import Derived.Test.YtnhaehjkepmbaaaDoorLbCheckRef
import Derived.Test.YtnhaehjkepmbaaaDoorLbPrintRef
import Derived.Test.YtnhaehjkepmbaaaDoorHdTxt
import Derived.Test.YtnhaehjkepmbaaaDoorLbUnesc
namespace Go.Proofs.YtnhaehjkepmbaaaDoor
open Go.RowKit
set_option linter.unusedVariables false
set_option linter.unusedSimpArgs false
/-- Where the reading of a right set's text stands. -/
def DB (o : Option (List Lbl)) (L : List UInt8) (a : Nat) (l : List Lbl) : Prop := ∀ l0, o = some l0 → ∃ i, i ≤ l0.length ∧ l = l0.take i ∧ L.drop a = restL (l0.drop i)
def LSz (n : Nat) (l : List Lbl) : Prop := ∀ x ∈ l, x.1.size ≤ n ∧ x.2.size ≤ n
theorem lsz_fits {n : Nat} {l : List Lbl} (h : LSz n l) (hn : n ≤ 140737488351232) : LFits l := by
  intro i hi
  have hm : l.getD i lbl0 ∈ l := List.mem_of_getElem? (getD_some l lbl0 hi)
  have := h _ hm
  exact ⟨Nat.le_trans this.1 hn, Nat.le_trans this.2 hn⟩
section
variable {o : Option (List Lbl)} {s : ByteArray} {a : Nat} {l : List Lbl}
theorem nm_first {x : Lbl} (h : nameB (strL x.1) = true) : ∃ c r, strL x.1 = c :: r ∧ c ≠ 125 ∧ c ≠ 61 := by
  cases e : strL x.1 with
  | nil => rw [e] at h; simp [nameB] at h
  | cons c r =>
    have h61 := name_no_mark h c (by rw [e]; simp)
    refine ⟨c, r, rfl, ?_, h61⟩
    intro e2
    subst e2
    rw [e] at h
    unfold nameB at h
    simp only [Bool.and_eq_true] at h
    obtain ⟨_, h⟩ := h
    rw [List.length_cons, okF, if_neg (show ¬ okB ((125 :: r).getD 0 0) 0 = true from (show ¬ okB 125 0 = true by decide))] at h
    cases h
/-- Inside: a label is still to be read. -/
theorem db_in (ho : ∀ l0, o = some l0 → lbChk l0 = 0 ∧ printL l0 = strL s) (hd : DB o (strL s) a l) (ha : (strL s)[a]? ≠ some 125) : ∀ l0, o = some l0 → ∃ i, i < l0.length ∧ l = l0.take i ∧ (strL s).drop a = lblT (l0.getD i lbl0) ++ sepL (l0.drop (i + 1)) ∧ nameB (strL (l0.getD i lbl0).1) = true := by
  intro l0 h0
  obtain ⟨i, hi, h1, h2⟩ := hd l0 h0
  rcases Nat.lt_or_ge i l0.length with h | h
  · refine ⟨i, h, h1, ?_, right_names (ho l0 h0).1 _ (List.mem_of_getElem? (getD_some l0 lbl0 h))⟩
    rw [h2, List.drop_eq_getElem_cons h, restL_cons, List.getD_eq_getElem?_getD, List.getElem?_eq_getElem h]
    rfl
  · exfalso
    apply ha
    have h3 := congrArg (fun l => l[0]?) h2
    rw [List.drop_of_length_le h] at h3
    simpa [restL] using h3
/-- At the end all labels are read. -/
theorem db_out (ho : ∀ l0, o = some l0 → lbChk l0 = 0 ∧ printL l0 = strL s) (hd : DB o (strL s) a l) (ha : s.size ≤ a ∨ (strL s)[a]? = some 125 ∨ 8 < l.length) : ∀ l0, o = some l0 → l = l0 := by
  intro l0 h0
  obtain ⟨i, hi, h1, h2⟩ := hd l0 h0
  have h8 := (lbChk_ok.1 (ho l0 h0).1).1
  rcases Nat.lt_or_ge i l0.length with h | h
  · exfalso
    rw [List.drop_eq_getElem_cons h, restL_cons] at h2
    have hn := right_names (ho l0 h0).1 l0[i] (List.getElem_mem h)
    obtain ⟨c, r, e, hc, _⟩ := nm_first hn
    unfold lblT at h2
    rw [e] at h2
    have h3 := congrArg (fun l => l[0]?) h2
    simp only [List.getElem?_drop, Nat.add_zero, List.cons_append, List.getElem?_cons_zero] at h3
    rcases ha with ha | ha | ha
    · rw [strL_out s ha] at h3
      cases h3
    · rw [ha] at h3
      injection h3 with h3
      exact hc h3.symm
    · rw [h1, List.length_take] at ha
      omega
  · rw [h1, List.take_of_length_le h]
/-- The name's end. -/
theorem db_mark (hin : ∀ l0, o = some l0 → ∃ i, i < l0.length ∧ l = l0.take i ∧ (strL s).drop a = lblT (l0.getD i lbl0) ++ sepL (l0.drop (i + 1)) ∧ nameB (strL (l0.getD i lbl0).1) = true) {e : Nat} (hae : a ≤ e) (hno : ∀ t, a ≤ t → t < e → (strL s)[t]? ≠ some 61) :
    ∀ l0, o = some l0 → e < s.size ∧ ((strL s)[e]? = some 61 → ∃ i, i < l0.length ∧ l = l0.take i ∧ s.extract a e = (l0.getD i lbl0).1 ∧ strL (s.extract (e + 1) s.size) = 34 :: (escL (strL (l0.getD i lbl0).2) ++ 34 :: sepL (l0.drop (i + 1)))) := by
  intro l0 h0
  obtain ⟨i, hi, h1, h2, h3⟩ := hin l0 h0
  obtain ⟨x, hx⟩ : ∃ x, l0.getD i lbl0 = x := ⟨_, rfl⟩
  rw [hx] at h2 h3
  have hnm := name_no_mark h3
  have hat : ∀ t, (strL s)[a + t]? = (strL x.1 ++ (61 :: 34 :: (escL (strL x.2) ++ 34 :: sepL (l0.drop (i + 1)))))[t]? := fun t => by
    have := congrArg (fun l => l[t]?) h2
    simp only [List.getElem?_drop] at this
    rw [this]
    unfold lblT
    simp
  have h61 : (strL s)[a + (strL x.1).length]? = some 61 := by rw [hat, List.getElem?_append_right (Nat.le_refl _), Nat.sub_self]; rfl
  have hle : e ≤ a + (strL x.1).length := by
    rcases Nat.lt_or_ge (a + (strL x.1).length) e with h | h
    · exact absurd h61 (hno _ (by omega) h)
    · exact h
  have hsz : a + (strL x.1).length < s.size := by
    rcases Nat.lt_or_ge (a + (strL x.1).length) s.size with h | h
    · exact h
    · rw [strL_out s h] at h61; cases h61
  refine ⟨by omega, fun he => ⟨i, hi, h1, ?_⟩⟩
  rw [hx]
  have hee : e = a + (strL x.1).length := by
    rcases Nat.lt_or_ge e (a + (strL x.1).length) with h | h
    · exfalso
      have := hat (e - a)
      rw [show a + (e - a) = e by omega, he, List.getElem?_append_left (by omega)] at this
      obtain ⟨q, h4⟩ := List.getElem?_eq_some_iff.1 this.symm
      exact hnm _ (List.getElem_mem q) h4
    · omega
  subst hee
  constructor
  · rw [← txt_strL (s.extract a (a + (strL x.1).length)), strL_ext, h2]
    unfold lblT
    rw [show a + (strL x.1).length - a = (strL x.1).length by omega]
    simp
    exact txt_strL x.1
  · rw [strL_ext, List.take_of_length_le (by rw [List.length_drop, strL_length]; omega), show a + (strL x.1).length + 1 = a + ((strL x.1).length + 1) by omega, ← List.drop_drop, h2]
    unfold lblT
    simp
/-- The next label. -/
theorem db_next {i v k : Nat} {l0 : List Lbl} (hi : i < l0.length) (hd : (strL s).drop a = sepL (l0.drop (i + 1))) :
    (if a + 1 < s.size ∧ (strL s)[a]? = some 44 then (strL s).drop (a + 2) else (strL s).drop a) = restL (l0.drop (i + 1)) := by
  cases e : l0.drop (i + 1) with
  | nil =>
    rw [e] at hd
    have h0 : (strL s)[a]? = some 125 := by
      have := congrArg (fun l => l[0]?) hd
      simpa [sepL] using this
    rw [if_neg (by rw [h0]; rintro ⟨_, h⟩; exact absurd h (by decide)), hd]
    rfl
  | cons y r =>
    rw [e] at hd
    have h0 : (strL s)[a]? = some 44 := by
      have := congrArg (fun l => l[0]?) hd
      simpa [sepL] using this
    have h1 : (strL s)[a + 1]? = some 32 := by
      have := congrArg (fun l => l[1]?) hd
      simpa [sepL] using this
    have hs : a + 1 < s.size := by
      rcases Nat.lt_or_ge (a + 1) s.size with h | h
      · exact h
      · rw [strL_out s h] at h1; cases h1
    rw [if_pos ⟨hs, h0⟩, ← List.drop_drop, hd]
    rfl
end
theorem opt_none {o : Option (List Lbl)} (h : ∀ l0, o = some l0 → False) : o = none := by
  cases o with
  | none => rfl
  | some l0 => exact (h l0 rfl).elim
theorem uq_short {L : List UInt8} {k : Nat} {x : List UInt8} (h : UQ L k x) : x.length + 1 ≤ k := by
  induction h with
  | start => simp
  | mark _ _ _ _ ih => simp; omega
  | hex _ _ _ _ _ _ _ ih => simp; omega
  | plain _ _ _ _ ih => simp; omega
theorem db_step {o : Option (List Lbl)} {s : ByteArray} {a e k : Nat} {l : List Lbl} {x : List UInt8} (hm : ∀ l0, o = some l0 → ∃ i, i < l0.length ∧ l = l0.take i ∧ s.extract a e = (l0.getD i lbl0).1 ∧ strL (s.extract (e + 1) s.size) = 34 :: (escL (strL (l0.getD i lbl0).2) ++ 34 :: sepL (l0.drop (i + 1))))
    (hu : UnqTold (s.extract (e + 1) s.size) (.returned (.tuple #[.string (txt x), .int .i64 ((k : Int) + 1)]))) :
    ∀ l0, o = some l0 → ∃ i, i < l0.length ∧ l ++ [(s.extract a e, txt x)] = l0.take (i + 1) ∧ (strL s).drop (e + 1 + (k + 1)) = sepL (l0.drop (i + 1)) := by
  intro l0 h0
  obtain ⟨i, hi, h1, h2, h3⟩ := hm l0 h0
  have h4 := unq_front h3 (by unfold quoL; rw [strL_txt]; simp) hu
  simp only [Ending.returned.injEq, Value.tuple.injEq, Array.mk.injEq, List.cons.injEq, Value.string.injEq, Value.int.injEq, and_true, true_and] at h4
  obtain ⟨h5, h6⟩ := h4
  have hk : k + 1 = (escL (strL (l0.getD i lbl0).2)).length + 2 := by omega
  refine ⟨i, hi, ?_, ?_⟩
  · rw [h1, h2, h5, txt_strL, List.take_succ_eq_append_getElem hi, List.getD_eq_getElem?_getD, List.getElem?_eq_getElem hi]
    rfl
  · have h7 : strL (s.extract (e + 1) s.size) = (strL s).drop (e + 1) := by rw [strL_ext, List.take_of_length_le (by rw [List.length_drop, strL_length]; omega)]
    rw [h7] at h3
    rw [← List.drop_drop, h3, hk, List.drop_succ_cons, List.drop_append]
    simp
theorem no_unq {o : Option (List Lbl)} {s : ByteArray} {a e : Nat} {l : List Lbl} (hm : ∀ l0, o = some l0 → ∃ i, i < l0.length ∧ l = l0.take i ∧ s.extract a e = (l0.getD i lbl0).1 ∧ strL (s.extract (e + 1) s.size) = 34 :: (escL (strL (l0.getD i lbl0).2) ++ 34 :: sepL (l0.drop (i + 1))))
    (hu : NoUQ (strL (s.extract (e + 1) s.size))) : o = none := opt_none fun l0 h0 => by
  obtain ⟨i, hi, h1, h2, h3⟩ := hm l0 h0
  exact no_nouq h3 (by unfold quoL; rw [strL_txt]; simp) hu
theorem db_on {o : Option (List Lbl)} {s : ByteArray} {A : Nat} {l' : List Lbl} (h : ∀ l0, o = some l0 → ∃ i, i < l0.length ∧ l' = l0.take (i + 1) ∧ (strL s).drop A = sepL (l0.drop (i + 1))) :
    (A + 1 < s.size ∧ (strL s)[A]? = some 44 → DB o (strL s) (A + 2) l') ∧ (¬ (A + 1 < s.size ∧ (strL s)[A]? = some 44) → DB o (strL s) A l') := by
  refine ⟨fun hc l0 h0 => ?_, fun hc l0 h0 => ?_⟩
  · obtain ⟨i, hi, h1, h2⟩ := h l0 h0
    have := db_next (v := 0) (k := 0) hi h2
    rw [if_pos hc] at this
    exact ⟨i + 1, hi, h1, this⟩
  · obtain ⟨i, hi, h1, h2⟩ := h l0 h0
    have := db_next (v := 0) (k := 0) hi h2
    rw [if_neg hc] at this
    exact ⟨i + 1, hi, h1, this⟩
theorem ext_size (s : ByteArray) (i j : Nat) : (s.extract i j).size ≤ s.size := by
  rw [← strL_length, strL_ext, List.length_take, List.length_drop, strL_length]
  omega
def PTold (o : Option (List Lbl)) (s : ByteArray) (w : World) (e : Ending) (w' : World) : Prop :=
  ((e = .returned (.tuple #[.slice none 0 0, .int .i64 14]) ∧ o = none) ∨ ∃ v l, e = .returned (.tuple #[v, .int .i64 0]) ∧ OwnL w' w.heap.size v l ∧ lbChk l = 0 ∧ printL l = strL s) ∧ Below w.heap.size w w'
theorem ptold_no {o : Option (List Lbl)} {s : ByteArray} {w w' : World} (h : o = none) (hb : Below w.heap.size w w') : PTold o s w (.returned (.tuple #[.slice none 0 0, .int .i64 14])) w' := ⟨.inl ⟨rfl, h⟩, hb⟩
set_option maxRecDepth 100000 in
set_option maxHeartbeats 4000000 in
theorem dparse_ref (o : Option (List Lbl)) (s : ByteArray) (w : World) (ho : ∀ l0, o = some l0 → lbChk l0 = 0 ∧ printL l0 = strL s) (hs : s.size ≤ 35184372088000) :
    Calls Tryd.prog 5 #[.string s] w (PTold o s w) := by
  have HU := Lib.hid (fun (k : Nat) W => unq_ref (s.extract k s.size) W (by rw [← strL_length, strL_ext, List.length_take, List.length_drop, strL_length]; omega))
  have HO := Lib.hid ho
  have hd0 : DB o (strL s) 1 [] := fun l0 h0 => ⟨0, Nat.zero_le _, rfl, by rw [← (ho l0 h0).2, print_rest]; rfl⟩
  have HD0 := Lib.hid hd0
  clear ho hd0
  go_enter Tryd.func5, Tryd.ntmps5
  go_wp2_with fail
  go_loopw [5, 4] (fun i v wr => ∃ (a : Nat) (l : List Lbl), a ≤ s.size + 1 ∧ i = .int .i64 (a : Int) ∧ OwnL wr w.heap.size v l ∧ l.length ≤ 9 ∧ LSz s.size l ∧ DB o (strL s) a l ∧ Below w.heap.size w wr) (fun i _ _ => s.size + 1 - (intOf i).toNat)
  case atStart => exact ⟨1, [], by omega, rfl, ownl_nil _ _, by simp, (fun x hx => by cases hx), HD0.out, Below.refl _ _⟩
  case round =>
    obtain ⟨a, l, ha, rfl, ho, hl, hz, hd, hbr⟩ := hrel
    have HL := Lib.hid ho
    have HZ := Lib.hid hz
    have HD := Lib.hid hd
    have HBR := Lib.hid hbr
    clear ho hz hd hbr
    by_cases hgo : a < s.size ∧ (strL s)[a]? ≠ some 125 ∧ l.length ≤ 8
    · obtain ⟨hlt, h2, h3⟩ := hgo
      have hne : s[a] ≠ UInt8.ofNat 125 := fun e => h2 (by rw [strL_at s hlt, e]; rfl)
      have a0 : ((s[a].toNat : Int) == 125) = false := ubyte_no (n := 125) (by omega) hne
      have a1 : ((s[a].toNat : Int) != 125) = true := by rw [bne, a0]; rfl
      have p3 : decide ((l.length : Int) ≤ 8) = true := decide_eq_true (by omega)
      have HIN := Lib.hid (db_in HO.out HD.out h2)
      obtain ⟨P, c, hv, hc, hLb, _⟩ := ownl_slice HL.out
      subst hv
      clear h2 hne hLb hc
      go_wp2_with fail
      go_loop [5] (fun i => ∃ e : Nat, a ≤ e ∧ e ≤ s.size ∧ i = .int .i64 (e : Int) ∧ ∀ t, a ≤ t → t < e → (strL s)[t]? ≠ some 61) (fun i => s.size - (intOf i).toNat)
      case atStart => exact ⟨a, Nat.le_refl _, by omega, rfl, fun t h4 h5 => by omega⟩
      case round =>
        obtain ⟨e, hae, hes, rfl, hno⟩ := hrel
        have HNO := Lib.hid hno
        clear a0 a1 p3
        by_cases g1 : e < s.size
        rotate_left
        · obtain rfl : e = s.size := by omega
          have HNN := Lib.hid (show o = none from opt_none fun l0 h0 => by have := (db_mark HIN.out hae HNO.out l0 h0).1; omega)
          clear hno
          go_wp2_with fail
          go_ret2
          exact ptold_no HNN.out HBR.out
        by_cases g2 : s[e] = UInt8.ofNat 61
        rotate_left
        · have b0 : ((s[e].toNat : Int) == 61) = false := ubyte_no (n := 61) (by omega) g2
          have b1 : ((s[e].toNat : Int) != 61) = true := by rw [bne, b0]; rfl
          have HN2 := Lib.hid (show ∀ t, a ≤ t → t < e + 1 → (strL s)[t]? ≠ some 61 from fun t h4 h5 => by
            rcases Nat.lt_or_ge t e with h6 | h6
            · exact HNO.out t h4 h6
            · obtain rfl : t = e := by omega
              rw [strL_at s g1]
              intro h7
              injection h7 with h7
              exact g2 h7)
          clear hno g2
          go_wp2_with fail
          exact ⟨⟨e + 1, by omega, g1, by go_num, HN2.out⟩, by simp [intOf]; omega⟩
        have b0 : ((s[e].toNat : Int) == 61) = true := ubyte_is (n := 61) (by omega) g2
        have b1 : ((s[e].toNat : Int) != 61) = false := by rw [bne, b0]; rfl
        have HM := Lib.hid (fun l0 h0 => (db_mark HIN.out hae HNO.out l0 h0).2 (by rw [strL_at s g1, g2]; rfl))
        have zk : (0 : Int) ≤ (e : Int) + 1 := by omega
        have tk : ((e : Int) + 1).toNat = e + 1 := by omega
        have uk : (e : Int) + 1 ≤ (s.size : Int) := by omega
        have wk : IntKind.i64.wrap ((e : Int) + 1) = (e : Int) + 1 := by rw [IntKind.wrap_i64]; omega
        have lk : decide ((s.size : Int) ≤ (e : Int)) = false := decide_eq_false (by omega)
        have HUX := Lib.hid (HU.out (e + 1) wr)
        clear hno g2
        go_wp2_with fail
        refine HUX.out.mono ?_
        rintro e1 w1 ⟨hu, hb1⟩
        have HB1 := Lib.hid (below_then HBR.out hb1)
        have HL1 := Lib.hid (ownl_below HL.out hb1)
        clear hb1
        rcases hu with ⟨rfl, hno⟩ | ⟨k, x, rfl, hk, hu⟩
        · have HNN := Lib.hid (no_unq HM.out hno)
          clear hno
          go_wp2_with fail
          go_ret2
          exact ptold_no HNN.out HB1.out
        · have HS := Lib.hid (db_step HM.out (.inr ⟨k, x, rfl, hk, hu⟩))
          have hsz2 : (s.extract (e + 1) s.size).size = s.size - (e + 1) := by rw [← strL_length, strL_ext, List.length_take, List.length_drop, strL_length]; omega
          have hxk := uq_short hu.1
          have hA : e + 1 + (k + 1) ≤ s.size := by omega
          have HLZ := Lib.hid (show LSz s.size (l ++ [(s.extract a e, txt x)]) from fun y hy => by
            rcases List.mem_append.1 hy with hy | hy
            · exact HZ.out y hy
            · obtain rfl := List.mem_singleton.1 hy
              refine ⟨ext_size s a e, ?_⟩
              show (txt x).size ≤ _
              rw [← strL_length, strL_txt]
              omega)
          have n0 : ((k : Int) + 1 == 0) = false := by rw [beq_eq_false_iff_ne]; omega
          have ae : (a : Int) ≤ (e : Int) := by omega
          have es : (e : Int) ≤ (s.size : Int) := by omega
          have za : (0 : Int) ≤ (a : Int) := by omega
          have HRW := Lib.hid (show Lbls (w1.alloc (.cells #[.string (s.extract a e), .string (txt x)] 37)) (some ⟨w1.heap.size, 0, none⟩) [(s.extract a e, txt x)] from At.row (Row.new w1 _ _))
          have HLA := Lib.hid (ownl_below HL1.out (below_one w1 (.cells #[.string (s.extract a e), .string (txt x)] 37)))
          have HSZ1 := Lib.hid (show w.heap.size ≤ (w1.alloc (.cells #[.string (s.extract a e), .string (txt x)] 37)).heap.size from Nat.le_trans HB1.out.size (by simp))
          have HLN := Lib.hid (show (l.length + [(s.extract a e, txt x)].length) * 32 ≤ 140737488355328 by simp only [List.length_singleton]; omega)
          clear hu hsz2 hk
          generalize txt x = vv at *
          go_upto_region 13 with (at_builtin
                                  refine app_lbls rfl (.tmp 51) (.tmp 58) rfl w.heap.size _ l rfl HLA.out (some ⟨w1.heap.size, 0, none⟩) [(s.extract a e, vv)] 1 rfl HRW.out HLN.out HSZ1.out ?_
                                  intro v2 w2 ho2 hb2 hg2
                                  have HO2 := Lib.hid ho2
                                  have HB2 := Lib.hid (HB1.out.trans (((below_one w1 (.cells #[.string (s.extract a e), .string vv] 37)).mono HB1.out.size).trans hb2))
                                  clear ho2 hb2 hg2)
          have wA : IntKind.i64.wrap ((e : Int) + 1 + ((k : Int) + 1)) = ((e + 1 + (k + 1) : Nat) : Int) := by rw [IntKind.wrap_i64]; omega
          obtain ⟨A, hAe⟩ : ∃ A, e + 1 + (k + 1) = A := ⟨_, rfl⟩
          have HDN := Lib.hid (db_on HS.out)
          have hae2 : a < A := by omega
          rw [hAe] at wA hA HDN
          have HLL := Lib.hid (show (l ++ [(s.extract a e, vv)]).length ≤ 9 by simp; omega)
          have HA := Lib.hid hA
          have wB : IntKind.i64.wrap ((A : Int) + 1) = (A : Int) + 1 := by rw [IntKind.wrap_i64]; omega
          have wC : IntKind.i64.wrap ((A : Int) + 2) = ((A + 2 : Nat) : Int) := by rw [IntKind.wrap_i64]; omega
          clear hAe
          by_cases c1 : A + 1 < s.size
          · have hAs : A < s.size := by omega
            have y1 : decide ((A : Int) + 1 < (s.size : Int)) = true := decide_eq_true (by omega)
            by_cases c2 : s[A] = UInt8.ofNat 44
            · have y2 : ((s[A].toNat : Int) == 44) = true := ubyte_is (n := 44) (by omega) c2
              have HDX := Lib.hid (HDN.out.1 ⟨c1, by rw [strL_at s hAs, c2]; rfl⟩)
              clear c2
              go_wp2_with fail
              go_roundw
              case rel => exact ⟨A + 2, _, by omega, by go_num, HO2.out, HLL.out, HLZ.out, HDX.out, HB2.out⟩
              case measure => simp [intOf]; omega
            · have y2 : ((s[A].toNat : Int) == 44) = false := ubyte_no (n := 44) (by omega) c2
              have HDX := Lib.hid (HDN.out.2 (fun h => by
                have h2 := h.2
                rw [strL_at s hAs] at h2
                injection h2 with h2
                exact c2 h2))
              clear c2
              go_wp2_with fail
              go_roundw
              case rel => exact ⟨A, _, by omega, by go_num, HO2.out, HLL.out, HLZ.out, HDX.out, HB2.out⟩
              case measure => simp [intOf]; omega
          · have y1 : decide ((A : Int) + 1 < (s.size : Int)) = false := decide_eq_false (by omega)
            have HDX := Lib.hid (HDN.out.2 (fun h => c1 h.1))
            go_wp2_with fail
            go_roundw
            case rel => exact ⟨A, _, by omega, by go_num, HO2.out, HLL.out, HLZ.out, HDX.out, HB2.out⟩
            case measure => simp [intOf]; omega
    · have HEND := Lib.hid (db_out HO.out HD.out (by
        by_cases g1 : a < s.size
        · by_cases g2 : (strL s)[a]? = some 125
          · exact .inr (.inl g2)
          · exact .inr (.inr (by
              rcases Nat.lt_or_ge 8 l.length with g3 | g3
              · exact g3
              · exact absurd ⟨g1, g2, g3⟩ hgo))
        · exact .inl (by omega)))
      obtain ⟨P, c, hv, hc, hLb, _⟩ := ownl_slice HL.out
      subst hv
      have HCK := Lib.hid (lbchk_ref P l c wr hLb (by omega) (lsz_fits HZ.out (by omega)))
      have HPR := Lib.hid (fun (h0 : lbChk l = 0) (x : World) (hx : Below wr.heap.size wr x) => refprint_prog P l c x (hLb.below hx) (by omega) (by have := right_cost h0; omega))
      have hcs : (¬ a < s.size) ∨ (∃ hlt : a < s.size, ((s[a].toNat : Int) == 125) = true ∧ ((s[a].toNat : Int) != 125) = false) ∨ (∃ hlt : a < s.size, ((s[a].toNat : Int) == 125) = false ∧ ((s[a].toNat : Int) != 125) = true ∧ decide ((l.length : Int) ≤ 8) = false) := by
        by_cases g1 : a < s.size
        · by_cases g2 : s[a] = UInt8.ofNat 125
          · have k0 : ((s[a].toNat : Int) == 125) = true := ubyte_is (n := 125) (by omega) g2
            exact .inr (.inl ⟨g1, k0, by rw [bne, k0]; rfl⟩)
          · have k0 : ((s[a].toNat : Int) == 125) = false := ubyte_no (n := 125) (by omega) g2
            refine .inr (.inr ⟨g1, k0, by rw [bne, k0]; rfl, decide_eq_false fun g3 => hgo ⟨g1, ?_, by omega⟩⟩)
            rw [strL_at s g1]
            intro g4
            injection g4 with g4
            exact g2 g4
        · exact .inl g1
      have hres : (lbChk l ≠ 0 ∧ o = none) ∨ (lbChk l = 0 ∧ printL l ≠ strL s ∧ o = none) ∨ (lbChk l = 0 ∧ printL l = strL s) := by
        by_cases g1 : lbChk l = 0
        · by_cases g2 : printL l = strL s
          · exact .inr (.inr ⟨g1, g2⟩)
          · exact .inr (.inl ⟨g1, g2, opt_none fun l0 h0 => g2 (by rw [HEND.out l0 h0]; exact (HO.out l0 h0).2)⟩)
        · exact .inl ⟨g1, opt_none fun l0 h0 => g1 (by rw [HEND.out l0 h0]; exact (HO.out l0 h0).1)⟩
      have hstr : ∀ b, (printL l = strL s ↔ b = true) → (((txt (printL l)).toList == s.toList) = b ∧ ((txt (printL l)).toList != s.toList) = !b) := fun b hb => by
        have key : ((txt (printL l)).toList == s.toList) = b := by
          rw [Bool.eq_iff_iff, beq_iff_eq, ByteArray.toList_eq, ByteArray.toList_eq, ← hb]
          have h2 : (txt (printL l)).data.toList = printL l := strL_txt _
          rw [h2]
          exact Iff.rfl
        exact ⟨key, by rw [bne, key]⟩
      clear hgo hLb hc
      rcases hres with ⟨g1, g2⟩ | ⟨g1, g2, g3⟩ | ⟨g1, g2⟩
      · have q1 : (lbChk l != 0) = true := bne_iff_ne.2 g1
        clear hstr HPR g1
        generalize lbChk l = E at *
        rcases hcs with p1 | ⟨hlt, a0, a1⟩ | ⟨hlt, a0, a1, p3⟩
        all_goals
          go_wp2_with (go_at_call 13; refine HCK.out.mono ?_; rintro e w1 ⟨rfl, hb1⟩; have HB1 := Lib.hid (below_then HBR.out hb1); clear hb1)
          go_ret2
          exact ptold_no g2 HB1.out
      · obtain ⟨t1, t2⟩ := hstr false (by simp [g2])
        have HP := Lib.hid (HPR.out g1)
        rw [g1] at HCK
        clear hstr HPR g1 g2
        generalize txt (printL l) = pl at *
        rcases hcs with p1 | ⟨hlt, a0, a1⟩ | ⟨hlt, a0, a1, p3⟩
        all_goals
          go_wp2_with (first
            | (go_at_call 13; refine HCK.out.mono ?_; rintro e w1 ⟨rfl, hb1⟩; have HC1 := Lib.hid hb1; have HB1 := Lib.hid (below_then HBR.out hb1); clear hb1)
            | (go_at_call 7; refine (HP.out _ HC1.out).mono ?_; rintro e w2 ⟨rfl, hb2⟩; have HB2 := Lib.hid (below_then HB1.out hb2); clear hb2))
          go_ret2
          exact ptold_no g3 HB2.out
      · obtain ⟨t1, t2⟩ := hstr true (by simp [g2])
        have HP := Lib.hid (HPR.out g1)
        have HCK2 := HCK.out
        rw [g1] at HCK2
        have HCK := Lib.hid HCK2
        have HR := Lib.hid (And.intro g1 g2)
        clear hstr HPR g1 g2 HCK2
        generalize txt (printL l) = pl at *
        rcases hcs with p1 | ⟨hlt, a0, a1⟩ | ⟨hlt, a0, a1, p3⟩
        all_goals
          go_wp2_with (first
            | (go_at_call 13; refine HCK.out.mono ?_; rintro e w1 ⟨rfl, hb1⟩; have HC1 := Lib.hid hb1; have HB1 := Lib.hid (below_then HBR.out hb1); clear hb1)
            | (go_at_call 7; refine (HP.out _ HC1.out).mono ?_; rintro e w2 ⟨rfl, hb2⟩; have HB2 := Lib.hid (below_then HB1.out hb2); have HD2 := Lib.hid (below_then HC1.out hb2); clear hb2))
          go_ret2
          exact ⟨.inr ⟨_, l, rfl, ownl_below HL.out HD2.out, HR.out.1, HR.out.2⟩, HB2.out⟩
end Go.Proofs.YtnhaehjkepmbaaaDoor
