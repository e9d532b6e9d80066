/- The text of labels: as the program tells it. -/
import Derived.Test.YtnhaehjkepmbaaaDoorLbEsc
import Derived.Test.YtnhaehjkepmbaaaDoorLtLotM
namespace Go.Proofs.YtnhaehjkepmbaaaDoor
open Go.RowKit
set_option linter.unusedVariables false

/-- A row of bytes of the call's own, or one that was laid for a constant text (full, with its mark behind). -/
def OwnF (w : World) (base : Nat) (v : Value) (x : List UInt8) : Prop :=
  Own w base v x ∨ ∃ g, v = .slice (some ⟨g, 0, none⟩) x.length x.length ∧ base ≤ g ∧ w.heap[g]? = some (.cells (bcells x) 5 (x.length, x.length + 1))
theorem ownf_below {w w' : World} {base : Nat} {v : Value} {x : List UInt8} (h : OwnF w base v x) (hb : Below w.heap.size w w') : OwnF w' base v x := by
  rcases h with h | ⟨g, hv, hg, hh⟩
  · exact .inl (own_below h hb)
  · refine .inr ⟨g, hv, hg, (hb.block g ?_).trans hh⟩
    rcases Nat.lt_or_ge g w.heap.size with h1 | h1
    · exact h1
    · rw [Array.getElem?_eq_none h1] at hh; cases hh
theorem ownf_ne {w : World} {base : Nat} {v : Value} {x : List UInt8} {X : Nat} {t : TypeId} {cs : Array Value} (h : OwnF w base v x) (hX : Row w X t cs) (ht : t ≠ 5) : some X ≠ v.ownBlock := by
  rcases h with h | ⟨g, rfl, _, hh⟩
  · exact own_ne h hX ht
  · simp only [Value.ownBlock]
    rintro e
    injection e with e
    subst e
    unfold Row at hX
    rw [hX] at hh
    injection hh with hh
    injection hh with h1 h2 h3
    exact ht h2
theorem run_app_strF (w : World) (base ty : Nat) (v : Value) (x : List UInt8) (hown : OwnF w base v x) (s : ByteArray) (hn : x.length + s.size ≤ 211106232532992) (hbase : base ≤ w.heap.size) :
    ∃ v' w', (Builtin.append_ #[39, 9] ty #[v, .string s]).run Tryd.prog w = .ok v' w' ∧ OwnF w' base v' (x ++ strL s) ∧ (0 < s.size → Own w' base v' (x ++ strL s)) ∧ w.grownBy w' v.ownBlock ∧ Below base w w' := by
  rcases hown with hown | ⟨g, rfl, hg, hh⟩
  · obtain ⟨v', w', hr, h2, h3⟩ := run_app_str w base ty v x hown s hn hbase
    exact ⟨v', w', hr, .inl h2, fun _ => h2, h3, Below.grown (Below.refl base w) h3 hbase (fun k hk => (World.ownsRow.lt hown _ hk).1)⟩
  · obtain ⟨i, hi, hz, hs, hby⟩ := info_parts u8_info
    have hll := strL_length s
    have e2 : (Go.Lib.strCells s).toArray = (bcells (strL s)).toList.toArray := by rw [cells_strL]
    have hc : ∀ j u, (bcells x).toList[j]? = some u → w.cell? (Addr.add ⟨g, 0, none⟩ j) = some u := by
      intro j u hj
      rw [add_at, Nat.zero_add]
      simp only [World.cell?, hh]
      simpa using hj
    by_cases hm : s.size = 0
    · have hx : strL s = [] := List.eq_nil_of_length_eq_zero (by rw [hll, hm])
      have hf := Go.Lib.run_firstCells_string (P := Tryd.prog) w 1 s
      rw [hm, cells_strL, hx] at hf
      refine ⟨_, w, ?_, .inr ⟨g, rfl, hg, by rw [hx, List.append_nil]; exact hh⟩, fun h => absurd h (by omega), World.grownBy.refl w _, Below.refl _ _⟩
      rw [hx, List.append_nil]
      simp [Builtin.append_, run_underlying Tryd.underlying39, run_underlying Tryd.underlying9, sizeOf, typeInfo, hi, hs, Builtin.lenOf, hm, hf, storeCells, bcells]
    · have hr := Go.Lib.run_append_grow_string (P := Tryd.prog) w 39 9 ty 5 i (.int .u8 0) Tryd.underlying39 Tryd.underlying9 hi hz ⟨g, 0, none⟩ x.length x.length (bcells x).toList (by simp [bcells, hs]) hc s (by omega) (by omega)
        (by rw [hby]; have := cap_quarter (need := x.length + s.size) (old := x.length) (by omega); omega)
      rw [e2] at hr
      obtain ⟨m1, m2⟩ := own_made w base x (strL s) x.length (by rw [hll]; omega) (by rw [hll]; exact hn) hbase (some g)
      rw [hll] at m1 m2
      exact ⟨_, _, hr, .inl m1, fun _ => m1, m2, Below.grown (Below.refl base w) m2 hbase (fun k hk => by injection hk with hk; omega)⟩
/-- append of a text's bytes to such a row, at a walk's built-in. -/
theorem app_strF {w : World} {ops : Array Oper} {rest : List Oper} {o : Oper} {a : Act} {Q : Exit → Act → World → Prop} (hgd : o.guard = none) (sl y : Operand)
    (ho : o.op = .call { callee := .builtin .append, args := #[sl, y], argTypes := #[39, 9] })
    (base : Nat) (v : Value) (x : List UInt8) (hs : a.eval sl = v) (hown : OwnF w base v x) (s : ByteArray) (hy : a.eval y = .string s) (hn : x.length + s.size ≤ 211106232532992) (hbase : base ≤ w.heap.size)
    (h : ∀ v' w', OwnF w' base v' (x ++ strL s) → (0 < s.size → Own w' base v' (x ++ strL s)) → Below base w w' → w.grownBy w' v.ownBlock → wpList Tryd.prog ops Q rest (a.put o.dst v') w') : wpList Tryd.prog ops Q (o :: rest) a w := by
  refine wpList_plain hgd fun K hK => ?_
  obtain ⟨v', w', hr, h2, h3, h4, h5⟩ := run_app_strF w base o.type v x hown s hn hbase
  unfold Oper.wp execOp
  simp only [ho, resolve, invoke, builtin, Sem.run_bind, Sem.run_pure, Result.andThen_ok, List.map_toArray, List.map_cons, List.map_nil, hs, hy, hr]
  exact hK _ _ (h v' w' h2 h3 h5 h4)

theorem print_prog (A : Option Addr) (l : List Lbl) (c : Nat) (w : World) (hA : Lbls w A l) (hl : l.length ≤ 100000000000000) (hc : costT l l.length ≤ 140737488355328) :
    Calls Tryd.prog 6 #[.slice A l.length c] w fun e w' => e = .returned (.string (txt (printL l))) ∧ Below w.heap.size w w' := by
  have hO0 : OwnF (w.alloc (.cells #[.int .u8 123] 5 (1, 2))) w.heap.size (.slice (some ⟨w.heap.size, 0, none⟩) 1 1) [123] := .inr ⟨w.heap.size, rfl, Nat.le_refl _, heap_alloc_new w _⟩
  have hB0 : Below w.heap.size w (w.alloc (.cells #[.int .u8 123] 5 (1, 2))) := below_one w _
  have HC := Lib.hid hc
  have HO0 := Lib.hid hO0
  have HB0 := Lib.hid hB0
  clear hc hO0 hB0
  have hcv := Go.Lib.run_convert_bytes_const (P := Tryd.prog) w 39 5 #[.int .u8 123] 1 1 Tryd.underlying39 Tryd.underlying5
  go_enter Tryd.func6, Tryd.ntmps6
  go_wp2_with fail
  clear hcv
  go_loopw [10, 3] (fun i u wr => ∃ k : Nat, k ≤ l.length ∧ i = .int .i64 (k : Int) ∧ OwnF wr w.heap.size u ([123] ++ lblsT l k) ∧ (0 < k → Own wr w.heap.size u ([123] ++ lblsT l k)) ∧ Below w.heap.size w wr) (fun i _ _ => l.length - (intOf i).toNat)
  case atStart => exact ⟨0, Nat.zero_le _, rfl, by simpa [lblsT] using HO0.out, fun h => absurd h (Nat.lt_irrefl 0), HB0.out⟩
  case round =>
    obtain ⟨k, hk, rfl, ho, ho2, hbr⟩ := hrel
    have hsz := hbr.size
    by_cases hlt : k < l.length
    · obtain ⟨b, o, rfl, hb, g0, g1⟩ := hA.at_ hlt
      have c0 := (hbr.cell (p := ⟨b, o + k * 2, none⟩) hb).trans g0
      have c1 := (hbr.cell (p := ⟨b, o + k * 2 + 1, none⟩) hb).trans g1
      have i2 : (k : Int) < (l.length : Int) := by omega
      have hm := costT_mono l (show k + 1 ≤ l.length from hlt)
      have hm2 := lblsT_len l k
      rw [costT] at hm
      have HT : Hid (lblsT l (k + 1) = lblsT l k ++ (if 0 < k then [44, 32] else []) ++ (strL (nmOf l k) ++ [61, 34] ++ escL (strL (vlOf l k)) ++ [34])) := Lib.hid rfl
      have hn0 := HC.out
      have hnm := strL_length (nmOf l k)
      have hvm := escL_len (strL (vlOf l k))
      rw [strL_length] at hvm
      have hBx := hbr.alloc hsz (.cells #[.string (nmOf l k), .string (vlOf l k)] 37)
      have R0 : Row (wr.alloc (.cells #[.string (nmOf l k), .string (vlOf l k)] 37)) wr.heap.size 37 #[.string (nmOf l k), .string (vlOf l k)] := Row.new wr _ _
      have hox := ownf_below ho (below_one wr (.cells #[.string (nmOf l k), .string (vlOf l k)] 37))
      have hox2 : 0 < k → Own (wr.alloc (.cells #[.string (nmOf l k), .string (vlOf l k)] 37)) w.heap.size u3 ([123] ++ lblsT l k) := fun h => own_alloc (ho2 h) _
      obtain ⟨z, hz⟩ : ∃ z, wr.alloc (.cells #[.string (nmOf l k), .string (vlOf l k)] 37) = z := ⟨_, rfl⟩
      have hlen : (([123] : List UInt8) ++ lblsT l k).length + 8 + (nmOf l k).size + 4 * (vlOf l k).size ≤ 211106232532992 := by rw [List.length_append, List.length_singleton]; omega
      rw [hz] at hBx R0 hox hox2
      have hzs := hBx.size
      have HBZ := Lib.hid hBx
      have HOF := Lib.hid hox
      have HO2F := Lib.hid hox2
      have HR0 := Lib.hid R0
      have HZ := Lib.hid hz
      have HLEN := Lib.hid hlen
      have HVM := Lib.hid hvm
      have HNM := Lib.hid hnm
      have HZS := Lib.hid hzs
      clear hBx hox hox2 R0 hz hlen hvm hnm ho ho2 hbr hm hm2 hn0 hzs
      by_cases hk0 : 0 < k
      · have i3 : decide ((0 : Int) < (k : Int)) = true := by simp; omega
        rw [if_pos hk0] at HT
        have HOZ := Lib.hid (HO2F.out hk0)
        go_upto_region 6 with fail
        rw [HZ.out]
        go_wp2_with (first
          | (at_builtin; refine app_str rfl (.tmp 17) (.const (.string ⟨#[44, 32]⟩)) rfl w.heap.size _ _ rfl HOZ.out ⟨#[44, 32]⟩ rfl (by have := HLEN.out; show _ + 2 ≤ _; omega) HZS.out ?_; intro v1 w1 hown1 hb1 hg1; have HR1 := Lib.hid (grown_row HR0.out hg1 (own_ne HOZ.out HR0.out (by decide))); have r10 := HR1.out.cell 0; have r11 := HR1.out.cell 1; have HO1 := Lib.hid hown1; have HB1 := Lib.hid (HBZ.out.trans hb1); clear hown1 hb1 hg1)
          | (at_builtin; refine app_str rfl (.tmp 19) (.tmp 21) rfl w.heap.size _ _ rfl HO1.out (nmOf l k) rfl (by have := HLEN.out; rw [List.length_append]; show _ + 2 + _ ≤ _; omega) HB1.out.size ?_; intro v2 w2 hown2 hb2 hg2; have HR2 := Lib.hid (grown_row HR1.out hg2 (own_ne HO1.out HR1.out (by decide))); have r20 := HR2.out.cell 0; have r21 := HR2.out.cell 1; have HO2 := Lib.hid hown2; have HB2 := Lib.hid (HB1.out.trans hb2); clear hown2 hb2 hg2)
          | (at_builtin; refine app_str rfl (.tmp 23) (.const (.string ⟨#[61, 34]⟩)) rfl w.heap.size _ _ rfl HO2.out ⟨#[61, 34]⟩ rfl (by have := HLEN.out; have := HNM.out; rw [List.length_append, List.length_append]; show _ + 2 + _ + 2 ≤ _; omega) HB2.out.size ?_; intro v3 w3 hown3 hb3 hg3; have HR3 := Lib.hid (grown_row HR2.out hg3 (own_ne HO2.out HR2.out (by decide))); have r30 := HR3.out.cell 0; have r31 := HR3.out.cell 1; have HO3 := Lib.hid hown3; have HB3 := Lib.hid (HB2.out.trans hb3); clear hown3 hb3 hg3)
          | (go_at_call 14; refine (esc_prog w.heap.size _ _ (vlOf l k) _ HO3.out HB3.out.size (by have := HLEN.out; have := HNM.out; rw [List.length_append, List.length_append, List.length_append]; show _ + 2 + _ + 2 + _ ≤ _; omega)).mono ?_; rintro e w4 ⟨v4, rfl, hown4, hb4⟩; have HO4 := Lib.hid hown4; have HB4 := Lib.hid (HB3.out.trans hb4); clear hown4 hb4)
          | (at_builtin; refine app_u8 rfl (.tmp 29) (.tmp 30) rfl w.heap.size _ _ rfl (own_alloc HO4.out _) _ [34] 1 rfl (row_bys1 (c := 34) (Row.new _ _ _)) (by have := HLEN.out; have := HNM.out; have := HVM.out; rw [List.length_append, List.length_append, List.length_append, List.length_append]; show _ + 2 + _ + 2 + _ + 1 ≤ _; omega) (Nat.le_trans HB4.out.size (by simp)) ?_; intro v5 w5 hown5 hb5 _; have HO5 := Lib.hid hown5; have HB5 := Lib.hid ((HB4.out.alloc HB4.out.size _).trans hb5); clear hown5 hb5))
        go_roundw
        case rel =>
          have hfin : Own w5 w.heap.size v5 ([123] ++ lblsT l (k + 1)) := by have := HO5.out; rw [HT.out]; simpa [strL] using this
          exact ⟨k + 1, by omega, by go_num, .inl hfin, fun _ => hfin, HB5.out⟩
        case measure => simp [intOf]; omega
      · have i3 : decide ((0 : Int) < (k : Int)) = false := by simp; omega
        rw [if_neg hk0] at HT
        go_upto_region 7 with fail
        rw [HZ.out]
        have r00 := HR0.out.cell 0
        have r01 := HR0.out.cell 1
        go_wp2_with (first
          | (at_builtin; refine app_strF rfl (.tmp 19) (.tmp 21) rfl w.heap.size _ _ rfl HOF.out (nmOf l k) rfl (by have := HLEN.out; omega) HZS.out ?_; intro v2 w2 hown2 _ hb2 hg2; have HR2 := Lib.hid (grown_row HR0.out hg2 (ownf_ne HOF.out HR0.out (by decide))); have r20 := HR2.out.cell 0; have r21 := HR2.out.cell 1; have HO2 := Lib.hid hown2; have HB2 := Lib.hid (HBZ.out.trans hb2); clear hown2 hb2 hg2)
          | (at_builtin; refine app_strF rfl (.tmp 23) (.const (.string ⟨#[61, 34]⟩)) rfl w.heap.size _ _ rfl HO2.out ⟨#[61, 34]⟩ rfl (by have := HLEN.out; have := HNM.out; rw [List.length_append]; show _ + _ + 2 ≤ _; omega) HB2.out.size ?_; intro v3 w3 _ hown3' hb3 hg3; have hown3 := hown3' (by decide); have HR3 := Lib.hid (grown_row HR2.out hg3 (ownf_ne HO2.out HR2.out (by decide))); have r30 := HR3.out.cell 0; have r31 := HR3.out.cell 1; have HO3 := Lib.hid hown3; clear hown3'; have HB3 := Lib.hid (HB2.out.trans hb3); clear hown3 hb3 hg3)
          | (go_at_call 14; refine (esc_prog w.heap.size _ _ (vlOf l k) _ HO3.out HB3.out.size (by have := HLEN.out; have := HNM.out; rw [List.length_append, List.length_append]; show _ + _ + 2 + _ ≤ _; omega)).mono ?_; rintro e w4 ⟨v4, rfl, hown4, hb4⟩; have HO4 := Lib.hid hown4; have HB4 := Lib.hid (HB3.out.trans hb4); clear hown4 hb4)
          | (at_builtin; refine app_u8 rfl (.tmp 29) (.tmp 30) rfl w.heap.size _ _ rfl (own_alloc HO4.out _) _ [34] 1 rfl (row_bys1 (c := 34) (Row.new _ _ _)) (by have := HLEN.out; have := HNM.out; have := HVM.out; rw [List.length_append, List.length_append, List.length_append]; show _ + _ + 2 + _ + 1 ≤ _; omega) (Nat.le_trans HB4.out.size (by simp)) ?_; intro v5 w5 hown5 hb5 _; have HO5 := Lib.hid hown5; have HB5 := Lib.hid ((HB4.out.alloc HB4.out.size _).trans hb5); clear hown5 hb5))
        go_roundw
        case rel =>
          have hfin : Own w5 w.heap.size v5 ([123] ++ lblsT l (k + 1)) := by have := HO5.out; rw [HT.out]; simpa [strL] using this
          exact ⟨k + 1, by omega, by go_num, .inl hfin, fun _ => hfin, HB5.out⟩
        case measure => simp [intOf]; omega
    · obtain rfl : k = l.length := by omega
      have HOF := Lib.hid ho
      have HBR := Lib.hid hbr
      have hm2 := lblsT_len l l.length
      have HLEN := Lib.hid (show (([123] : List UInt8) ++ lblsT l l.length).length + 1 ≤ 211106232532992 by rw [List.length_append, List.length_singleton]; have := HC.out; omega)
      have HQ := Lib.hid (show ([123] ++ lblsT l l.length) ++ strL ⟨#[125]⟩ = printL l from rfl)
      clear ho ho2 hbr hm2
      go_wp2_with (at_builtin; refine app_strF rfl (.tmp 33) (.const (.string ⟨#[125]⟩)) rfl w.heap.size _ _ rfl HOF.out ⟨#[125]⟩ rfl HLEN.out HBR.out.size ?_; intro v2 w2 _ hown2' hb2 _; have hown2 := hown2' (by decide); rw [HQ.out] at hown2; obtain ⟨B, d, hv, hB, _⟩ := own_slice' hown2; subst hv; have hcv := conv_bys w2 B (printL l) d hB; have HB2 := Lib.hid (HBR.out.trans hb2); clear hown2 hown2' hb2 hB)
      go_ret
      exact ⟨rfl, HB2.out⟩
end Go.Proofs.YtnhaehjkepmbaaaDoor
