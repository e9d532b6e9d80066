/- The document's own disk: List. -/
import Derived.Test.YtiepepikbophmaaRkRead
namespace Go.Proofs.Ytiepepikbophmaa
open Go.RowKit Go.Maps
set_option linter.unusedVariables false

theorem str_info : (Try.prog.info? 9).map (fun i => (i.zero, i.size, i.bytes)) = some (some (.string ByteArray.empty), 1, 16) := by kernel_rfl
/-- append of a name, at a walk's built-in. -/
theorem app_name {w0 : World} {ops : Array Oper} {rest : List Oper} {o : Oper} {a : Act} {Q : Exit → Act → World → Prop} (hgd : o.guard = none) (s y : Operand)
    (ho : o.op = .call { callee := .builtin .append, args := #[s, y], argTypes := #[85, 85] })
    (base : Nat) (v : Value) (ns : List (List UInt8)) (hs : a.eval s = v) (hF : Texts w0 base v ns) (x : List UInt8)
    (c : Nat) (hy : a.eval y = .slice (some ⟨w0.heap.size, 0, none⟩) 1 c) (hn : ns.length ≤ 4000000) (hbase : base ≤ w0.heap.size)
    (h : ∀ v' w', Texts w' base v' (ns ++ [x]) → Below base w0 w' → wpList Try.prog ops Q rest (a.put o.dst v') w') :
    wpList Try.prog ops Q (o :: rest) a (w0.alloc (.cells #[.string (txt x)] 9)) := by
  obtain ⟨i0, hi, hz0, hz1, hz2⟩ := info_parts str_info
  have hA := below_one w0 (.cells #[.string (txt x)] 9)
  have hF1 : Texts (w0.alloc (.cells #[.string (txt x)] 9)) base v ns := rows_below hF hA
  refine wpList_append_own_at _ hgd s y 85 ho base 9 i0 _ 1 16 Try.underlying85 hi hz0 hz1 hz2 rfl (by omega) v ns.length (ns.map Go.Proofs.encStr) hs hF1 _ 1 c [.string (txt x)] hy rfl (cell_one_new w0 _ _) (by intro u hu; simp at hu; subst hu; rfl)
    (by simp only [maxLen]; omega) (by omega) (Nat.le_trans hbase hA.size) ?_
  intro v' w' h1 h2 _ _
  refine h v' w' ?_ (Below.grown (hA.mono hbase) h2 (Nat.le_trans hbase hA.size) (fun k hk => (World.ownsRow.lt hF1 _ hk).1))
  unfold Texts
  rw [List.map_append, List.length_append]
  exact h1
set_option maxRecDepth 20000 in
theorem list_ref {w : World} {fv bv wv : Value} {d : Dsk} (h : RefIn w fv bv wv d) (hF : Fine d) (hM : Met d) (hwl : d.wait.length ≤ 100000) :
    Calls Try.prog 50 #[.agg (refC d fv bv wv).toArray] w fun e w' => ∃ v, e = .returned v ∧ Texts w' w.heap.size v (listD d) ∧ Below w.heap.size w w' := by
  have hB0 := below_one w (.cells (refC d fv bv wv).toArray 31)
  have HLV := Lib.hid (live_ref (h.below hB0) hF hM hwl)
  have HB0 := Lib.hid hB0
  have HR0 := Lib.hid (fun w' hb => row_cells (ref_cells (w := w) (w' := w') (d := d) (fv := fv) (bv := bv) (wv := wv) hb))
  have hfew := hF.live_few
  obtain ⟨⟨Pf, cf, hfv⟩, ⟨Pb, cb, hbv⟩, ⟨Pw, cw, hwv⟩⟩ := ref_forms h
  clear h hF hM hwl hB0
  unfold listD
  generalize hlv : live d = L at *
  clear hlv
  obtain ⟨room, files, base, wait, left, dark, count⟩ := d
  simp only at hwv hbv hfv
  simp only [refC] at *
  generalize hld : (if dark = true then [] else L.map Ent.name) = LD
  have HLD := Lib.hid hld
  clear hld
  generalize files.length = nf at hfv
  generalize base.length = nb at hbv
  generalize wait.length = nw at hwv
  subst hwv
  subst hbv
  subst hfv
  obtain ⟨x0, x1, x2, x3, x4, x5, x6⟩ := HR0.out _ (Below.refl _ _)
  go_enter Try.func50, Try.ntmps50
  go_wp2_with fail
  refine HLV.out.mono ?_
  rintro e w3 ⟨v3, rfl, hE3, hb3⟩
  clear x0 x1 x2 x3 x4 x5 x6
  obtain ⟨P3, c3, hv3, _, hP3⟩ := ents_at hE3
  have hcell := fun (wx : World) (hb : Below w3.heap.size w3 wx) => HR0.out wx (below_then hb3 hb)
  have HC := Lib.hid (fun (wx : World) (hb : Below w3.heap.size w3 wx) => (hcell wx hb).2.2.2.2.2.1)
  have HP := Lib.hid hP3
  have HB3 := Lib.hid (below_then HB0.out hb3)
  clear hE3 hb3 hP3 hcell
  subst hv3
  go_wp2_with fail
  cases dark
  · have HLE := Lib.hid (show L.map Ent.name = LD from HLD.out)
    clear HLD
    go_loopw [3, 5] (fun v i wr => ∃ k : Nat, k ≤ L.length ∧ i = .int .i64 (k : Int) ∧ Texts wr w3.heap.size v ((L.take k).map Ent.name) ∧ Below w3.heap.size w3 wr) (fun _ i _ => L.length - (intOf i).toNat)
    case atStart => exact ⟨0, Nat.zero_le _, rfl, ⟨rfl, .inl ⟨rfl, rfl⟩⟩, Below.refl _ _⟩
    case round =>
      obtain ⟨k, hk, rfl, hT, hb⟩ := hrel
      have HT := Lib.hid hT
      have HB := Lib.hid hb
      have hs := hb.size
      have x5 := HC.out _ hb
      obtain ⟨Pt, ct, hvt, _⟩ := texts_at hT
      by_cases hlt : k < L.length
      · obtain ⟨g, rfl, _, hgl, h0, h1⟩ := HP.out k hlt
        have c0 := (hb.cell (p := ⟨g, k * 2, none⟩) hgl).trans h0
        have i1 : (k : Int) < (L.length : Int) := by omega
        have HTK := Lib.hid (show (L.take (k + 1)).map Ent.name = (L.take k).map Ent.name ++ [(L.getD k ⟨[], 0⟩).name] by
          rw [List.take_succ_eq_append_getElem hlt, List.map_append]
          simp [List.getD, List.getElem?_eq_getElem hlt])
        have hn4 : ((L.take k).map Ent.name).length ≤ 4000000 := by
          rw [List.length_map, List.length_take]
          omega
        generalize (L.take k).map Ent.name = ps at *
        generalize (L.getD k ⟨[], 0⟩).name = nm at *
        clear h0 h1 hT hb hvt
        go_wp2_with (at_builtin; refine app_name rfl (.tmp 19) (.tmp 25) rfl w3.heap.size _ ps rfl HT.out nm 1 rfl hn4 hs ?_; intro v4 w4 hT4 hb4; have HT4 := Lib.hid hT4; have HB4 := Lib.hid hb4; obtain ⟨P4, c4, hv4, _⟩ := texts_at hT4; clear hT4 hb4; generalize (ps ++ [nm]).length = n4 at hv4; subst hv4)
        go_roundw
        case rel => exact ⟨k + 1, by omega, by go_num, by rw [HTK.out]; exact HT4.out, HB.out.trans HB4.out⟩
        case measure => simp [intOf]; omega
      · obtain rfl : k = L.length := by omega
        rw [List.take_length] at HT
        clear hT hb
        generalize ((L.take L.length).map Ent.name).length = n4 at hvt
        subst hvt
        go_wp2_with fail
        go_ret
        rw [← HLE.out]
        exact ⟨_, rfl, rows_lower HT.out HB3.out.size, below_then HB3.out HB.out⟩
  · have HLE := Lib.hid (show [] = LD from HLD.out)
    clear HLD
    have x5 := HC.out _ (Below.refl _ _)
    go_loop [3, 5] (fun v i => v = .slice none 0 0 ∧ i = .int .i64 0) (fun _ _ => 0)
    case atStart => exact ⟨rfl, rfl⟩
    case round =>
      obtain ⟨rfl, rfl⟩ := hrel
      by_cases hz : 0 < L.length
      · have i1 : (0 : Int) < (L.length : Int) := by omega
        go_wp2_with fail
        go_ret
        rw [← HLE.out]
        exact ⟨_, rfl, ⟨rfl, .inl ⟨rfl, rfl⟩⟩, HB3.out⟩
      · have h0 : L.length = 0 := by omega
        rw [h0]
        go_wp2_with fail
        go_ret
        rw [← HLE.out]
        exact ⟨_, rfl, ⟨rfl, .inl ⟨rfl, rfl⟩⟩, HB3.out⟩
end Go.Proofs.Ytiepepikbophmaa
