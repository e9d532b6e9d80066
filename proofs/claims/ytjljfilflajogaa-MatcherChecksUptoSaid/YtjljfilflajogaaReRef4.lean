/- The document's own answer for patterns: an atom, the alternatives, whether a text is a pattern. -/
import Derived.Test.YtjljfilflajogaaReRef3
import Derived.Test.YtjljfilflajogaaReCut2
import Derived.Test.YtjljfilflajogaaRowsG
namespace Go.Proofs.Ytjljfilflajogaa
open Go.RowKit Go.Maps
set_option linter.unusedVariables false

/-! ### rows of texts of the call's own -/
def strE (u : List UInt8) : List Value := [.string (txt u)]
theorem strE_len (u : List UInt8) : (strE u).length = 1 := rfl
def OwnT (w : World) (base : Nat) (v : Value) (us : List (List UInt8)) : Prop := w.ownsRow base 9 1 v us.length (us.flatMap strE)
section
variable {w w' : World} {base : Nat} {v : Value} {us : List (List UInt8)}
theorem ownt_nil (w : World) (base : Nat) : OwnT w base (.slice none 0 0) [] := ⟨rfl, .inl ⟨rfl, rfl⟩⟩
theorem ownt_below (h : OwnT w base v us) (hb : Below w.heap.size w w') : OwnT w' base v us := rows_below h hb
theorem ownt_lower {base' : Nat} (h : OwnT w base v us) (hb : base' ≤ base) : OwnT w base' v us := rows_lower h hb
theorem ownt_slice (h : OwnT w base v us) : ∃ P c, v = .slice P us.length c ∧ us.length ≤ c ∧ At w P (us.flatMap strE) ∧ ∀ ad, P = some ad → base ≤ ad.block := rows_slice h
end
theorem str_info : (Try.prog.info? 9).map (fun i => (i.zero, i.size, i.bytes)) = some (some (.string ⟨#[]⟩), 1, 16) := by kernel_rfl
theorem str_one (l : List (List UInt8)) : ∀ u ∈ l.flatMap strE, u.oneCell' = true := by
  intro u hu
  simp only [List.mem_flatMap, strE, List.mem_cons, List.not_mem_nil, or_false] at hu
  obtain ⟨x, _, rfl⟩ := hu
  rfl
theorem app_strs {w : World} {ops : Array Oper} {rest : List Oper} {o : Oper} {a : Act} {Q : Exit → Act → World → Prop} (hgd : o.guard = none) (s y : Operand)
    (ho : o.op = .call { callee := .builtin .append, args := #[s, y], argTypes := #[72, 72] })
    (base : Nat) (v : Value) (x : List (List UInt8)) (hs : a.eval s = v) (hown : OwnT w base v x) (A : Option Addr) (l : List (List UInt8)) (c : Nat) (hy : a.eval y = .slice A l.length c) (hA : At w A (l.flatMap strE)) (hn : (x.length + l.length) * 16 ≤ 140737488355328) (hbase : base ≤ w.heap.size)
    (h : ∀ v' w', OwnT w' base v' (x ++ l) → Below base w w' → w.grownBy w' v.ownBlock → wpList Try.prog ops Q rest (a.put o.dst v') w') : wpList Try.prog ops Q (o :: rest) a w := by
  obtain ⟨i0, hi, hz0, hz1, hz2⟩ := info_parts str_info
  refine wpList_app_at hgd s y 72 ho base 9 i0 _ 1 16 Try.underlying72 hi hz0 hz1 hz2 rfl (by omega) v x.length (x.flatMap strE) hs hown A l.length c (l.flatMap strE) hy (flat_len strE 1 strE_len l) hA (str_one l)
    (by simp only [maxLen]; omega) hn hbase ?_
  intro v' w' h1 h2 h3
  refine h v' w' ?_ h2 h3
  unfold OwnT
  rw [List.flatMap_append, List.length_append]
  exact h1
theorem str_cell {w : World} {g : Nat} {s : ByteArray} {u : List UInt8} (h : Row w g 9 #[.string s]) (hs : strL s = u) : At w (some ⟨g, 0, none⟩) ([u].flatMap strE) := by
  have := At.row h
  rw [show [u].flatMap strE = (#[Value.string s]).toList by rw [← hs]; simp [strE, txt_strL]]
  exact this
theorem ext_txt (p : ByteArray) (i j : Nat) (hj : j ≤ p.size) : strL (p.extract i j) = ((strL p).drop i).take (j - i) := by
  unfold strL
  rw [ByteArray.data_extract, Array.toList_extract, List.extract_eq_take_drop]

/-! ### the answer -/
def RightAt (p : ByteArray) : Prop := ∀ (b : Bool) (w : World), (b = true ↔ RightP (strL p)) → Calls Try.prog 36 #[.string p] w fun e w' => e = .returned (.bool b) ∧ Below w.heap.size w w'
def AtomAt (p : ByteArray) : Prop := ∀ (k : Nat) (v : Int) (w : World), k ≤ p.size → AtIs p.size ((strL p).drop k) v → Calls Try.prog 66 #[.string p, .int .i64 (k : Int)] w fun e w' => e = .returned (.int .i64 v) ∧ Below w.heap.size w w'
set_option maxRecDepth 100000 in
set_option maxHeartbeats 4000000 in
theorem atom_ref (p : ByteArray) (hp : p.size ≤ 1000) (hr : ∀ q : ByteArray, q.size < p.size → RightAt q) : AtomAt p := by
  intro k v w hk hv
  have HR := Lib.hid hr
  clear hr
  by_cases hlt : k < p.size
  · have hd := drop_byte p hlt
    rw [hd] at hv
    have HP := Lib.hid (fun (d : UInt8) W => plain_ref d W)
    cases hm : marksL.contains p[k]
    · -- a plain byte
      have hz := at_yes hv (at_plain hm)
      rw [drop_len, show (p.size : Int) - ((p.size - (k + 1) : Nat) : Int) = (k : Int) + 1 by omega] at hz
      have HZ := Lib.hid hz
      have t1 : ((p[k].toNat : Int) == 46) = false := test_no 46 (by omega) (show p[k] ≠ UInt8.ofNat 46 by rintro e; rw [e] at hm; exact absurd hm (by decide))
      have HP1 := Lib.hid (fun W => HP.out p[k] W)
      rw [hm] at HP1
      clear hv hd hz hm
      go_enter Try.func66, Try.ntmps66
      go_wp2_with (go_at_call 77; refine (HP1.out _).mono ?_; rintro e w1 ⟨rfl, rfl⟩)
      go_ret
      exact ⟨ret_i HZ.out.symm, Below.refl _ _⟩
    · by_cases h46 : p[k] = 46
      · have hz := at_yes hv (by rw [h46]; exact at_dot _)
        rw [drop_len, show (p.size : Int) - ((p.size - (k + 1) : Nat) : Int) = (k : Int) + 1 by omega] at hz
        have HZ := Lib.hid hz
        have t1 : ((p[k].toNat : Int) == 46) = true := test_yes 46 (by omega) h46
        clear hv hd hz hm h46
        go_enter Try.func66, Try.ntmps66
        go_wp2_with fail
        go_ret
        exact ⟨ret_i HZ.out.symm, Below.refl _ _⟩
      · have t1 : ((p[k].toNat : Int) == 46) = false := test_no 46 (by omega) h46
        have HP1 := Lib.hid (fun W => HP.out p[k] W)
        rw [hm] at HP1
        by_cases h92 : p[k] = 92
        · have t2 : ((p[k].toNat : Int) == 92) = true := test_yes 92 (by omega) h92
          have t3 : ((p[k].toNat : Int) == 91) = false := test_no 91 (by omega) (show p[k] ≠ UInt8.ofNat 91 by rw [h92]; decide)
          have t4 : ((p[k].toNat : Int) == 40) = false := test_no 40 (by omega) (show p[k] ≠ UInt8.ofNat 40 by rw [h92]; decide)
          rw [h92] at hv
          by_cases hk1 : k + 1 < p.size
          · have hd1 := drop_byte p hk1
            rw [hd1] at hv
            have HP2 := Lib.hid (fun W => HP.out p[k + 1] W)
            cases hm2 : marksL.contains p[k + 1]
            · rw [hm2] at HP2
              have HZ := Lib.hid (at_not hv (no_esc2 hm2))
              clear hv hd hd1 hm hm2 h46 h92
              go_enter Try.func66, Try.ntmps66
              go_wp2_with (first
                | (go_at_call 77; (with_reducible refine (HP1.out _).mono ?_); rintro e w1 ⟨rfl, rfl⟩)
                | (go_at_call 77; (with_reducible refine (HP2.out _).mono ?_); rintro e w1 ⟨rfl, rfl⟩))
              go_ret
              exact ⟨ret_i HZ.out.symm, Below.refl _ _⟩
            · rw [hm2] at HP2
              have hz := at_yes hv (at_esc hm2)
              rw [drop_len, show (p.size : Int) - ((p.size - (k + 1 + 1) : Nat) : Int) = (k : Int) + 2 by omega] at hz
              have HZ := Lib.hid hz
              clear hv hd hd1 hm hm2 h46 h92 hz
              go_enter Try.func66, Try.ntmps66
              go_wp2_with (first
                | (go_at_call 77; (with_reducible refine (HP1.out _).mono ?_); rintro e w1 ⟨rfl, rfl⟩)
                | (go_at_call 77; (with_reducible refine (HP2.out _).mono ?_); rintro e w1 ⟨rfl, rfl⟩))
              go_ret
              exact ⟨ret_i HZ.out.symm, Below.refl _ _⟩
          · rw [drop_end p (by omega)] at hv
            have HZ := Lib.hid (at_not hv no_esc1)
            clear hv hd hm h46 h92
            go_enter Try.func66, Try.ntmps66
            go_wp2_with (go_at_call 77; refine (HP1.out _).mono ?_; rintro e w1 ⟨rfl, rfl⟩)
            go_ret
            exact ⟨ret_i HZ.out.symm, Below.refl _ _⟩
        · have t2 : ((p[k].toNat : Int) == 92) = false := test_no 92 (by omega) h92
          by_cases h91 : p[k] = 91
          · have t3 : ((p[k].toNat : Int) == 91) = true := test_yes 91 (by omega) h91
            rw [h91] at hv
            have HC := Lib.hid (fun W => class_ref p k hp hlt 0 W)
            have HZ := Lib.hid (show clsE p.size ((strL p).drop (k + 1)) = v by
              cases hc : clsV ((strL p).drop (k + 1)) with
              | none => rw [(cls_none (c := 0) hc).1, at_not hv (no_cls hc)]
              | some q => rw [(cls_some (c := 0) (ss := q.1) (y := q.2) hc).1, at_yes hv (at_cls (ss := q.1) (y := q.2) hc)])
            rw [HZ.out] at HC
            generalize clsH ((strL p).drop (k + 1)) 0 = hb at HC
            clear hv hd hm h46 h92 h91
            go_enter Try.func66, Try.ntmps66
            go_wp2_with (first
              | (go_at_call 77; refine (HP1.out _).mono ?_; rintro e w1 ⟨rfl, rfl⟩)
              | (go_at_call 53; refine (HC.out _).mono ?_; rintro e w2 ⟨rfl, hb2⟩; have HB2 := Lib.hid hb2; clear hb2))
            go_ret
            exact ⟨rfl, HB2.out⟩
          · have t3 : ((p[k].toNat : Int) == 91) = false := test_no 91 (by omega) h91
            by_cases h40 : p[k] = 40
            · have t4 : ((p[k].toNat : Int) == 40) = true := test_yes 40 (by omega) h40
              rw [h40] at hv
              rcases atom_or (40 :: (strL p).drop (k + 1)) with hno | ⟨z, hz⟩
              · have HZ := Lib.hid (at_not hv hno)
                obtain ⟨q, hq⟩ := scan_all _ ((strL p).drop (k + 1)) 0 (Nat.le_refl _)
                have HC := Lib.hid (fun W => closing_ref p k hp hlt h40 q hq W)
                cases q with
                | none =>
                  have HC' := Lib.hid (fun W => (show Calls Try.prog 78 #[.string p, .int .i64 (k : Int)] W fun e w' => e = .returned (.int .i64 (-1)) ∧ Below W.heap.size W w' from HC.out W))
                  clear hv hd hm h46 h92 h91 h40 hno hq HC
                  go_enter Try.func66, Try.ntmps66
                  go_wp2_with (first
                    | (go_at_call 77; refine (HP1.out _).mono ?_; rintro e w1 ⟨rfl, rfl⟩)
                    | (go_at_call 78; refine (HC'.out _).mono ?_; rintro e w2 ⟨rfl, hb2⟩; have HB2 := Lib.hid hb2; clear hb2))
                  go_ret
                  exact ⟨ret_i HZ.out.symm, HB2.out⟩
                | some y =>
                  obtain ⟨u, z, hu, hyz⟩ := scan_head hq y rfl
                  rw [hyz] at hu
                  have hnr := group_no hno hu
                  have hyl : u.length + y.length = p.size - (k + 1) := by rw [← drop_len p (k + 1), hu, hyz, List.length_append]
                  obtain ⟨m, hm1⟩ : ∃ m : Nat, p.size - y.length = m := ⟨_, rfl⟩
                  have hml : k + 1 ≤ m ∧ m ≤ p.size := by omega
                  have hsl : strL (p.extract (k + 1) m) = u := by
                    rw [ext_txt p _ _ hml.2, hu, show m - (k + 1) = u.length by omega, List.take_left]
                  have hsz : (p.extract (k + 1) m).size < p.size := by rw [← strL_length, hsl]; omega
                  have HG := Lib.hid (fun W => HR.out _ hsz false W (by rw [hsl]; exact ⟨fun h => (by cases h), fun h => absurd h hnr⟩))
                  have hcv : closV p.size (some y) = (m : Int) := by show (p.size : Int) - _ = _; omega
                  rw [hcv] at HC
                  have i1 : (k : Int) + 1 ≤ (m : Int) := by omega
                  have i2 : (m : Int) ≤ (p.size : Int) := by omega
                  clear hv hd hm h46 h92 h91 h40 hno hq hu hyz hnr hyl hm1 hsl hsz hcv
                  go_enter Try.func66, Try.ntmps66
                  go_wp2_with (first
                    | (go_at_call 77; refine (HP1.out _).mono ?_; rintro e w1 ⟨rfl, rfl⟩)
                    | (go_at_call 78; refine (HC.out _).mono ?_; rintro e w2 ⟨rfl, hb2⟩; have HB2 := Lib.hid hb2; clear hb2)
                    | (go_at_call 36; refine (HG.out _).mono ?_; rintro e w3 ⟨rfl, hb3⟩; have HB3 := Lib.hid (HB2.out.trans (hb3.mono HB2.out.size)); clear hb3))
                  go_ret
                  exact ⟨ret_i HZ.out.symm, HB3.out⟩
              · obtain ⟨hq, u, hu, hru⟩ := group_yes hz
                have hzv := at_yes hv hz
                have HC := Lib.hid (fun W => closing_ref p k hp hlt h40 _ hq W)
                have hyl : u.length + (z.length + 1) = p.size - (k + 1) := by rw [← drop_len p (k + 1), hu, List.length_append, List.length_cons]
                obtain ⟨m, hm1⟩ : ∃ m : Nat, p.size - (z.length + 1) = m := ⟨_, rfl⟩
                have hml : k + 1 ≤ m ∧ m ≤ p.size := by omega
                have hsl : strL (p.extract (k + 1) m) = u := by
                  rw [ext_txt p _ _ hml.2, hu, show m - (k + 1) = u.length by omega, List.take_left]
                have hsz : (p.extract (k + 1) m).size < p.size := by rw [← strL_length, hsl]; omega
                have HG := Lib.hid (fun W => HR.out _ hsz true W (by rw [hsl]; exact ⟨fun _ => hru, fun _ => rfl⟩))
                have hcv : closV p.size (some (41 :: z)) = (m : Int) := by show (p.size : Int) - _ = _; rw [List.length_cons]; omega
                rw [hcv] at HC
                have HZ := Lib.hid (show (m : Int) + 1 = v by rw [hzv]; omega)
                have i1 : (k : Int) + 1 ≤ (m : Int) := by omega
                have i2 : (m : Int) ≤ (p.size : Int) := by omega
                clear hv hd hm h46 h92 h91 h40 hz hq hu hru hyl hm1 hsl hsz hcv hzv
                go_enter Try.func66, Try.ntmps66
                go_wp2_with (first
                  | (go_at_call 77; refine (HP1.out _).mono ?_; rintro e w1 ⟨rfl, rfl⟩)
                  | (go_at_call 78; refine (HC.out _).mono ?_; rintro e w2 ⟨rfl, hb2⟩; have HB2 := Lib.hid hb2; clear hb2)
                  | (go_at_call 36; refine (HG.out _).mono ?_; rintro e w3 ⟨rfl, hb3⟩; have HB3 := Lib.hid (HB2.out.trans (hb3.mono HB2.out.size)); clear hb3))
                go_ret
                exact ⟨ret_i HZ.out, HB3.out⟩
            · have t4 : ((p[k].toNat : Int) == 40) = false := test_no 40 (by omega) h40
              have HZ := Lib.hid (at_not hv (no_other hm h40 h91 h46 h92))
              clear hv hd hm h46 h92 h91 h40
              go_enter Try.func66, Try.ntmps66
              go_wp2_with (go_at_call 77; refine (HP1.out _).mono ?_; rintro e w1 ⟨rfl, rfl⟩)
              go_ret
              exact ⟨ret_i HZ.out.symm, Below.refl _ _⟩
  · rw [drop_end p (by omega)] at hv
    have HZ := Lib.hid (at_not hv no_nil)
    clear hv
    go_enter Try.func66, Try.ntmps66
    go_wp2_with fail
    go_ret
    exact ⟨ret_i HZ.out.symm, Below.refl _ _⟩
end Go.Proofs.Ytjljfilflajogaa
