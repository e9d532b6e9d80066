/- A set out of an index's bytes, and all sets, as the program reads them. -/
import Derived.Test.YtojlcipphnegaaaGreatIxRd2
import Derived.Test.YtojlcipphnegaaaGreatIxLotM
import Derived.Test.YtojlcipphnegaaaGreatIxQry
namespace Go.Proofs.YtojlcipphnegaaaGreat
open Go.RowKit Go.Maps
set_option linter.unusedVariables false
set_option maxRecDepth 100000
theorem row_behind (w : World) (p : Addr) (u : Value) (t : TypeId) (cs : Array Value) : Row ((w.setCell p u).alloc (.cells cs t)) w.heap.size t cs := by
  have h := Row.new (w.setCell p u) t cs
  rwa [show (w.setCell p u).heap.size = w.heap.size from by simp [World.setCell]] at h
/-- What readSet tells. -/
def StTold (b : List UInt8) (w : World) (o : Option (List Lbl × Nat)) (e : Ending) (w' : World) : Prop :=
  Below w.heap.size w w' ∧ ((o = none ∧ ∃ E : Int, E ≠ 0 ∧ e = .returned (.tuple #[.slice none 0 0, .int .i64 0, .int .i64 E])) ∨
    ∃ l p v, o = some (l, p) ∧ l.length ≤ 8 ∧ p ≤ b.length ∧ e = .returned (.tuple #[v, .int .i64 ((p : Nat) : Int), .int .i64 0]) ∧ OwnL w' w.heap.size v l)
section
variable (A : Option Addr) (b : List UInt8) (c : Nat) (hbc : b.length ≤ c) (hbl : b.length ≤ 140737488355328) (V : Option Addr) (t : List ByteArray) (d : Nat) (ht : t.length ≤ 4096)
include hbc hbl ht
set_option maxHeartbeats 4000000 in
theorem rset_prog (a0 : Nat) (o : Option (List Lbl × Nat)) (w : World) (hA : Bys w A b) (hV : Tx w V t) (ha0 : a0 ≤ b.length) (h : StP (GU b) t a0 o) :
    Calls Tryz.prog 78 #[.slice A b.length c, .int .i64 (a0 : Int), .slice V t.length d] w (StTold b w o) := by
  have HA := Lib.hid (fun x (h : Below w.heap.size w x) => (show Bys x A b from hA.below h))
  have HV := Lib.hid (fun x (h : Below w.heap.size w x) => (show Tx x V t from hV.below h))
  obtain ⟨n, k, e, hg, h⟩ := h
  rcases h with ⟨hbad, rfl⟩ | ⟨rfl, hn, hts⟩
  · obtain ⟨E, hE, hc⟩ := rnum_no A b c hbc hbl a0 n k e 8 w hA ha0 hg (by omega)
    have HC := Lib.hid hc
    have j1 : (E != 0) = true := bne_iff_ne.2 hE
    have HE := Lib.hid hE
    clear hc hE hbad hg HA hA HV hV
    generalize b.length = nb at *
    generalize t.length = nt at *
    go_enter Tryz.func78, Tryz.ntmps78
    go_wp2_with (first | (go_at_call 77; refine HC.out.mono ?_; rintro e w2 ⟨rfl, hb2⟩; have HB2 := Lib.hid hb2; clear hb2))
    go_ret3
    exact ⟨HB2.out, .inl ⟨rfl, E, HE.out, rfl⟩⟩
  · have HC := Lib.hid (rnum_yes A b c hbc hbl a0 n k 8 w hA ha0 hg (by omega))
    have HPN := Lib.hid (fun a p k e x (hb : Below w.heap.size w x) ha hg hbad => placed_no A b c hbc hbl V t d ht a p k e x (HA.out x hb) (HV.out x hb) ha hg hbad)
    have HPY := Lib.hid (fun a p k x (hb : Below w.heap.size w x) ha hg hp => placed_yes A b c hbc hbl V t d ht a p k x (HA.out x hb) (HV.out x hb) ha hg hp)
    have HTS := Lib.hid hts
    have HK := Lib.hid (gu_place hg rfl).1
    clear hA HA hV HV hg hts hbc hbl ht
    obtain ⟨nt, hnt⟩ : ∃ nt, t.length = nt := ⟨_, rfl⟩
    have HNT := Lib.hid hnt
    rw [hnt] at HPN HPY ⊢
    clear hnt
    obtain ⟨nb, hnb⟩ : ∃ nb, b.length = nb := ⟨_, rfl⟩
    rw [hnb] at HPN HPY HC HK ha0 ⊢
    have HNBE := Lib.hid hnb
    clear hnb
    go_enter Tryz.func78, Tryz.ntmps78
    go_wp2_with (first | (go_at_call 77; refine HC.out.mono ?_; rintro e w2 ⟨rfl, hb2⟩; have HB2 := Lib.hid hb2; clear hb2))
    clear HC
    go_loopw [11, 1, 24] (fun u p i wr => ∃ (j : Nat) (l : List Lbl) (a : Nat) (r : Option (List Lbl × Nat)), j ≤ n ∧ i = .int .i64 (j : Int) ∧ p = .int .i64 (a : Int) ∧ a ≤ nb ∧ OwnL wr w.heap.size u l ∧ l.length = j ∧ LsO (GU b) t (n - j) a r ∧ o = glue l r ∧ Below w.heap.size w wr) (fun _ _ i _ => n - (intOf i).toNat)
    case atStart => exact ⟨0, [], k, o, Nat.zero_le _, rfl, rfl, HK.out, ownl_nil _ _, rfl, HTS.out, by cases o <;> rfl, HB2.out⟩
    case round =>
      obtain ⟨j, l, a, r, hj, rfl, rfl, ha, hO, hlj, hT, hgl, hb⟩ := hrel
      have HB := Lib.hid hb
      have HO := Lib.hid hO
      by_cases hlt : j < n
      · obtain ⟨m, hm⟩ : ∃ m, n - j = m + 1 := ⟨n - j - 1, by omega⟩
        rw [hm] at hT
        have i1 : (j : Int) < (n : Int) := by omega
        have hRB := Row.new wr 35 #[.string ⟨#[]⟩, .string ⟨#[]⟩]
        have hbA := below_one wr (.cells #[.string ⟨#[]⟩, .string ⟨#[]⟩] 35)
        have HBA := Lib.hid (below_then hb hbA)
        have HRB := Lib.hid hRB
        have HOA := Lib.hid (ownl_below hO hbA)
        have HAA := Lib.hid ha
        obtain ⟨p1, k1, e1, hg1, h⟩ := lsO_step hT
        have HHS := Lib.hid hb.size
        rw [HNT.out] at h
        rcases h with ⟨hbad, rfl⟩ | ⟨rfl, hp1, q, k2, e2, hg2, h⟩
        · obtain ⟨E, hE, hc⟩ := HPN.out a p1 k1 e1 _ HBA.out ha hg1 hbad
          have HC1 := Lib.hid hc
          have j1 : (E != 0) = true := bne_iff_ne.2 hE
          have HE := Lib.hid hE
          have HON := Lib.hid (show o = none from hgl)
          clear hO hT hgl hb hg1 hbad hE hc hRB hbA HPN HPY
          go_wp2_with (first | (go_at_call 104; refine HC1.out.mono ?_; rintro e w3 ⟨rfl, hb3⟩; have hr3 := HRB.out.below hb3 HRB.out.lt; have c3 := (hr3.cell 0); have f3 := hr3.frozen 0; have HB3 := Lib.hid (below_then HBA.out hb3); clear hb3 hr3))
          go_ret3
          exact ⟨Below.setCell HB3.out (p := ⟨wr.heap.size, 0, none⟩) HHS.out _, .inl ⟨HON.out, E, HE.out, rfl⟩⟩
        · have HC1 := Lib.hid (HPY.out a p1 k1 _ HBA.out ha hg1 hp1)
          have hk1 : k1 ≤ nb := by rw [← HNBE.out]; exact (gu_place hg1 rfl).1
          generalize t.getD p1 ⟨#[]⟩ = s1 at *
          have HPN2 := Lib.hid (fun x hb hbad => HPN.out k1 q k2 e2 x hb hk1 hg2 hbad)
          have HPY2 := Lib.hid (fun x hb (h0 : e2 = 0) hq => HPY.out k1 q k2 x hb hk1 (by rw [h0] at hg2; exact hg2) hq)
          have HK2 := Lib.hid (fun (h0 : e2 = 0) => (show k2 ≤ nb by rw [← HNBE.out]; exact (gu_place hg2 h0).1))
          rcases h with ⟨hbad, rfl⟩ | ⟨rfl, hq1, r', hT', rfl⟩
          · have HBD := Lib.hid hbad
            have HON := Lib.hid (show o = none from hgl)
            clear hO hT hgl hb hg1 hg2 hbad hRB hbA HPN HPY hk1 hp1
            go_wp2_with (first
              | (go_at_call_of 104 (Value.int IntKind.i64 (a : Int)); refine HC1.out.mono ?_; rintro e w3 ⟨rfl, hb3⟩; have hr3 := HRB.out.below hb3 HRB.out.lt; have c3 := (hr3.cell 0); have f3 := hr3.frozen 0; have HR3 := Lib.hid (hr3.setAt 0 (.string s1)); have HB3 := Lib.hid (Below.setCell (below_then HBA.out hb3) (p := ⟨wr.heap.size, 0, none⟩) HHS.out (.string s1)); clear hb3 hr3)
              | (go_at_call_of 104 (Value.int IntKind.i64 (k1 : Int)); obtain ⟨E, hE, hc⟩ := HPN2.out _ HB3.out HBD.out; refine hc.mono ?_; rintro e w5 ⟨rfl, hb5⟩; have j1 : (E != 0) = true := bne_iff_ne.2 hE; have HE := Lib.hid hE; have hr5 := HR3.out.below hb5 HR3.out.lt; have c5 := (hr5.cell 1); have f5 := hr5.frozen 1; have HB5 := Lib.hid (Below.setCell (below_then HB3.out hb5) (p := ⟨wr.heap.size, 1, none⟩) HHS.out (.string ⟨#[]⟩)); clear hb5 hr5 hc hE))
            go_ret3
            exact ⟨HB5.out, .inl ⟨HON.out, E, HE.out, rfl⟩⟩
          · have HQ1 := Lib.hid hq1
            have HPY3 := Lib.hid (fun x hb hq => HPY2.out x hb rfl hq)
            have HK3 := Lib.hid (HK2.out rfl)
            clear HPY2 HPN2 HK2
            have HT2 := Lib.hid (show LsO (GU b) t (n - (j + 1)) k2 r' by rw [show n - (j + 1) = m by omega]; exact hT')
            have HON := Lib.hid (show o = glue (l ++ [(s1, t.getD q ⟨#[]⟩)]) r' by rw [← glue_glue]; exact hgl)
            have HLJ := Lib.hid hlj
            have HN8 := Lib.hid hn
            generalize t.getD q ⟨#[]⟩ = s2 at *
            clear hO hT hT' hgl hb hg1 hg2 hRB hbA HPN HPY hk1 hp1 hlj hq1
            go_wp2_with (first
              | (go_at_call_of 104 (Value.int IntKind.i64 (a : Int)); refine HC1.out.mono ?_; rintro e w3 ⟨rfl, hb3⟩; have hr3 := HRB.out.below hb3 HRB.out.lt; have c3 := (hr3.cell 0); have f3 := hr3.frozen 0; have HR3 := Lib.hid (hr3.setAt 0 (.string s1)); have HO3 := Lib.hid (show OwnL (w3.setCell ⟨wr.heap.size, 0, none⟩ (.string s1)) w.heap.size _ l from rows_move (ownl_below HOA.out hb3) fun q' hq' => Below.heap_setCell w3 ⟨wr.heap.size, 0, none⟩ (.string s1) q' (by have := (World.ownsRow.lt HO.out q' hq').2; show q' ≠ wr.heap.size; omega)); have HB3 := Lib.hid (Below.setCell (below_then HBA.out hb3) (p := ⟨wr.heap.size, 0, none⟩) HHS.out (.string s1)); clear hb3 hr3)
              | (go_at_call_of 104 (Value.int IntKind.i64 (k1 : Int)); refine (HPY3.out _ HB3.out HQ1.out).mono ?_; rintro e w5 ⟨rfl, hb5⟩; have hr5 := HR3.out.below hb5 HR3.out.lt; have c5 := (hr5.cell 1); have f5 := hr5.frozen 1; have hr6 := hr5.setAt 1 (.string s2); have c60 := (hr6.cell 0); have c61 := (hr6.cell 1); have HO5 := Lib.hid (show OwnL (w5.setCell ⟨wr.heap.size, 1, none⟩ (.string s2)) w.heap.size _ l from rows_move (ownl_below HO3.out hb5) fun q' hq' => Below.heap_setCell w5 ⟨wr.heap.size, 1, none⟩ (.string s2) q' (by have := (World.ownsRow.lt HO.out q' hq').2; show q' ≠ wr.heap.size; omega)); have HB5 := Lib.hid (Below.setCell (below_then HB3.out hb5) (p := ⟨wr.heap.size, 1, none⟩) HHS.out (.string s2)); clear hb5 hr5 hr6)
              | (at_builtin; refine app_lbls rfl (.tmp 50) (.tmp 52) rfl w.heap.size _ l rfl (ownl_below HO5.out (below_one _ _)) _ [(s1, s2)] 1 rfl (lbls_cell (row_behind _ _ _ _ _)) (by have := HLJ.out; have := HN8.out; simp only [List.length_cons, List.length_nil]; omega) (Nat.le_trans HB5.out.size (by simp)) ?_; intro v6 w6 ho6 hb6 _; have HO6 := Lib.hid ho6; have HB6 := Lib.hid ((HB5.out.alloc HB5.out.size _).trans hb6); clear ho6 hb6))
            go_roundw
            case rel => exact ⟨j + 1, l ++ [(s1, s2)], k2, r', hlt, by go_num, rfl, HK3.out, HO6.out, by have := HLJ.out; simp; omega, HT2.out, HON.out, HB6.out⟩
            case measure => simp [intOf]; omega
      · have hz : n - j = 0 := by omega
        rw [hz] at hT
        have hr := lsO_end hT
        subst hr
        have HON := Lib.hid (show o = some (l, a) by rw [hgl]; simp [glue])
        have HLT := Lib.hid (show l.length ≤ 8 by omega)
        have HAA := Lib.hid (show a ≤ b.length by rw [HNBE.out]; exact ha)
        clear hO hT hgl hb hlj ha
        go_wp2_with fail
        go_ret3
        exact ⟨HB.out, .inr ⟨l, a, _, HON.out, HLT.out, HAA.out, rfl, HO.out⟩⟩
end
end Go.Proofs.YtojlcipphnegaaaGreat
