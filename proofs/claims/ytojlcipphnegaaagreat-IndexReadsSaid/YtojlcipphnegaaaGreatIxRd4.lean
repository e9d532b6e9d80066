/- All sets out of an index's bytes, as the program reads them; two rows of bytes held together. -/
import Derived.Test.YtojlcipphnegaaaGreatIxRd3
import Derived.Test.YtojlcipphnegaaaGreatIxBytes
namespace Go.Proofs.YtojlcipphnegaaaGreat
open Go.RowKit Go.Maps
set_option linter.unusedVariables false
set_option maxRecDepth 100000
/-- What readSets tells. -/
def SsTold (w : World) (o : Option (List (List Lbl))) (e : Ending) (w' : World) : Prop :=
  Below w.heap.size w w' ∧ ((o = none ∧ ∃ E : Int, E ≠ 0 ∧ e = .returned (.tuple #[.slice none 0 0, .int .i64 E])) ∨
    ∃ ss v, o = some ss ∧ ss.length ≤ 256 ∧ (∀ l ∈ ss, l.length ≤ 8) ∧ e = .returned (.tuple #[v, .int .i64 0]) ∧ OwnSets w' w.heap.size v ss)
theorem map_app {x : List (List Lbl)} {y : List Lbl} {r : Option (List (List Lbl))} : (r.map (y :: ·)).map (x ++ ·) = r.map ((x ++ [y]) ++ ·) := by
  cases r with
  | none => rfl
  | some z => simp
section
variable (A : Option Addr) (b : List UInt8) (c : Nat) (hbc : b.length ≤ c) (hbl : b.length ≤ 140737488355328)
include hbc hbl
set_option maxHeartbeats 4000000 in
theorem rsets_prog (o : Option (List (List Lbl))) (w : World) (hA : Bys w A b) (h : IxP (GU b) (XO b) o) :
    Calls Tryz.prog 43 #[.slice A b.length c] w (SsTold w o) := by
  have HA := Lib.hid (fun x (h : Below w.heap.size w x) => (show Bys x A b from hA.below h))
  rcases h with ⟨hT, rfl⟩ | ⟨t, a, hT, m, k, e, hg, h⟩
  · have HC := Lib.hid ((rtexts_prog A b c hbc hbl none w hA hT).mono fun e w' h => (show Below w.heap.size w w' ∧ ∃ E : Int, E ≠ 0 ∧ e = .returned (.tuple #[.slice none 0 0, .int .i64 0, .int .i64 E]) from by
      obtain ⟨hb, ⟨_, h⟩ | ⟨ts, p, v, h, _⟩⟩ := h
      · exact ⟨hb, h⟩
      · cases h))
    clear hT HA hA
    generalize b.length = nb at *
    go_enter Tryz.func43, Tryz.ntmps43
    go_wp2_with fail
    refine HC.out.mono ?_
    rintro e w2 ⟨hb2, E, hE, rfl⟩
    have j1 : (E != 0) = true := bne_iff_ne.2 hE
    have HE := Lib.hid hE
    have HB2 := Lib.hid hb2
    clear hb2 hE
    go_wp2_with fail
    go_ret2
    exact ⟨HB2.out, .inl ⟨rfl, E, HE.out, rfl⟩⟩
  · have HC := Lib.hid ((rtexts_prog A b c hbc hbl (some (t, a)) w hA hT).mono fun e w' h => (show Below w.heap.size w w' ∧ t.length ≤ 4096 ∧ a ≤ b.length ∧ ∃ v, e = .returned (.tuple #[v, .int .i64 (a : Int), .int .i64 0]) ∧ OwnTx w' w.heap.size v t from by
      obtain ⟨hb, ⟨h, _⟩ | ⟨ts, p, v, h, h1, h2, h3, h4⟩⟩ := h
      · cases h
      · cases h
        exact ⟨hb, h1, h2, v, h3, h4⟩))
    rcases h with ⟨hbad, rfl⟩ | ⟨rfl, hm, hS⟩
    · have HN := Lib.hid (fun x (hb : Below w.heap.size w x) ha => rnum_no A b c hbc hbl a m k e 256 x (HA.out x hb) ha hg (by omega))
      clear hT HA hA hg hbad
      obtain ⟨nb, hnb⟩ : ∃ nb, b.length = nb := ⟨_, rfl⟩
      rw [hnb] at HC HN ⊢
      clear hnb
      go_enter Tryz.func43, Tryz.ntmps43
      go_wp2_with fail
      refine HC.out.mono ?_
      rintro e w2 ⟨hb2, _, ha, v, rfl, ho⟩
      obtain ⟨P, d, rfl, _⟩ := rows_slice ho
      obtain ⟨E, hE, hc⟩ := HN.out _ hb2 ha
      have j1 : (E != 0) = true := bne_iff_ne.2 hE
      have HE := Lib.hid hE
      have HB2 := Lib.hid hb2
      have HCC := Lib.hid hc
      clear hb2 hE hc ho
      go_wp2_with fail
      refine HCC.out.mono ?_
      rintro e w3 ⟨rfl, hb3⟩
      have HB3 := Lib.hid (below_then HB2.out hb3)
      clear hb3
      go_wp2_with fail
      go_ret2
      exact ⟨HB3.out, .inl ⟨rfl, E, HE.out, rfl⟩⟩
    · have HN := Lib.hid (fun x (hb : Below w.heap.size w x) ha => rnum_yes A b c hbc hbl a m k 256 x (HA.out x hb) ha hg (by omega))
      have HST := Lib.hid (fun V d (ht : t.length ≤ 4096) a0 o x (hb : Below w.heap.size w x) (hV : Tx x V t) ha h => rset_prog A b c hbc hbl V t d ht a0 o x (HA.out x hb) hV ha h)
      have HK := Lib.hid (gu_place hg rfl).1
      have HS := Lib.hid hS
      clear hT HA hA hg hS
      obtain ⟨nb, hnb⟩ : ∃ nb, b.length = nb := ⟨_, rfl⟩
      have HNB := Lib.hid hnb
      rw [hnb] at HC HN HST HK ⊢
      clear hnb
      go_enter Tryz.func43, Tryz.ntmps43
      go_wp2_with fail
      refine HC.out.mono ?_
      rintro e w2 ⟨hb2, ht, ha, v, rfl, ho⟩
      obtain ⟨P, d, rfl, _⟩ := rows_slice ho
      have HV := Lib.hid (fun x (h : Below w2.heap.size w2 x) => (owntx_tx ho).below h)
      have HCC := Lib.hid (HN.out _ hb2 ha)
      have HST2 := Lib.hid (fun a0 o x (hb : Below w.heap.size w x) hV ha h => HST.out P d ht a0 o x hb hV ha h)
      have HB2 := Lib.hid hb2
      clear hb2 ho HST HN HC ht
      obtain ⟨nt, hnt⟩ : ∃ nt, t.length = nt := ⟨_, rfl⟩
      rw [hnt] at HST2 ⊢
      clear hnt
      go_wp2_with fail
      refine HCC.out.mono ?_
      rintro e w3 ⟨rfl, hb3⟩
      have HB3 := Lib.hid (below_then HB2.out hb3)
      have HB23 := Lib.hid hb3
      clear hb3
      go_wp2_with fail
      go_loopw [8, 5, 30] (fun u p i wr => ∃ (j : Nat) (ss : List (List Lbl)) (a : Nat) (r : Option (List (List Lbl))), j ≤ m ∧ i = .int .i64 (j : Int) ∧ p = .int .i64 (a : Int) ∧ a ≤ nb ∧ OwnSets wr w2.heap.size u ss ∧ ss.length = j ∧ (∀ l ∈ ss, l.length ≤ 8) ∧ SsP (GU b) t (m - j) a r ∧ o = r.map (ss ++ ·) ∧ Below w.heap.size w wr ∧ Below w2.heap.size w2 wr) (fun _ _ i _ => m - (intOf i).toNat)
      case atStart => exact ⟨0, [], k, o, Nat.zero_le _, rfl, rfl, by rw [← HNB.out]; rw [HNB.out]; exact HK.out, ownsets_nil _ _, rfl, fun l hl => by (cases hl), HS.out, by cases o <;> rfl, HB3.out, HB23.out⟩
      case round =>
        obtain ⟨j, ss, a, r, hj, rfl, rfl, ha, hO, hlj, h8, hT, hgl, hb, hbb⟩ := hrel
        have HB := Lib.hid hb
        have HBB := Lib.hid hbb
        have HO := Lib.hid hO
        by_cases hlt : j < m
        · obtain ⟨q, hq⟩ : ∃ q, m - j = q + 1 := ⟨m - j - 1, by omega⟩
          rw [hq] at hT
          have i1 : (j : Int) < (m : Int) := by omega
          rcases ssP_step hT with ⟨hst, rfl⟩ | ⟨l, k2, r', hst, hT', rfl⟩
          · have HCS := Lib.hid ((HST2.out a none wr hb (HV.out _ hbb) ha hst).mono fun e w' h => (show Below wr.heap.size wr w' ∧ ∃ E : Int, E ≠ 0 ∧ e = .returned (.tuple #[.slice none 0 0, .int .i64 0, .int .i64 E]) from by
              obtain ⟨hb, ⟨_, h⟩ | ⟨ts, p, v, h, _⟩⟩ := h
              · exact ⟨hb, h⟩
              · cases h))
            have HON := Lib.hid (show o = none from hgl)
            clear hO hT hst hgl hb hbb h8
            go_wp2_with fail
            refine HCS.out.mono ?_
            rintro e w4 ⟨hb4, E, hE, rfl⟩
            have j1 : (E != 0) = true := bne_iff_ne.2 hE
            have HE := Lib.hid hE
            have HB4 := Lib.hid (below_then HB.out hb4)
            clear hb4 hE
            go_wp2_with fail
            go_ret2
            exact ⟨HB4.out, .inl ⟨HON.out, E, HE.out, rfl⟩⟩
          · have HCS := Lib.hid ((HST2.out a (some (l, k2)) wr hb (HV.out _ hbb) ha hst).mono fun e w' h => (show Below wr.heap.size wr w' ∧ l.length ≤ 8 ∧ k2 ≤ b.length ∧ ∃ v, e = .returned (.tuple #[v, .int .i64 (k2 : Int), .int .i64 0]) ∧ OwnL w' wr.heap.size v l from by
              obtain ⟨hb, ⟨h, _⟩ | ⟨ts, p, v, h, h1, h2, h3, h4⟩⟩ := h
              · cases h
              · cases h
                exact ⟨hb, h1, h2, v, h3, h4⟩))
            have HT2 := Lib.hid (show SsP (GU b) t (m - (j + 1)) k2 r' by rw [show m - (j + 1) = q by omega]; exact hT')
            have HON := Lib.hid (show o = r'.map ((ss ++ [l]) ++ ·) by rw [hgl, map_app])
            have HLJ := Lib.hid hlj
            have H8 := Lib.hid h8
            have HM := Lib.hid hm
            clear hO hT hT' hst hgl hb hbb h8 hlj
            go_wp2_with fail
            refine HCS.out.mono ?_
            rintro e w4 ⟨hb4, hl8, hk2, v4, rfl, ho4⟩
            obtain ⟨P4, d4, hv4, hd4, hL4, _⟩ := ownl_slice ho4
            subst hv4
            have HO4 := Lib.hid (ownl_lower ho4 HBB.out.size)
            have HL4 := Lib.hid hL4
            have HD4 := Lib.hid hd4
            have HK2 := Lib.hid (show k2 ≤ nb by rw [← HNB.out]; exact hk2)
            have HL8 := Lib.hid hl8
            have HS4 := Lib.hid (ownsets_below HO.out hb4)
            have HB4 := Lib.hid (below_then HB.out hb4)
            have HBB4 := Lib.hid (below_then HBB.out hb4)
            clear hb4 hl8 hk2 ho4 hd4 hL4
            go_wp2_with (first
              | (at_builtin; refine app_set rfl (.tmp 43) (.tmp 45) rfl w2.heap.size _ ss rfl HS4.out P4 l d4 1 HO4.out HD4.out HL4.out rfl (by have := HLJ.out; have := HM.out; omega) HBB4.out.size ?_; intro v6 w6 ho6 hb6; have HO6 := Lib.hid ho6; have HBB6 := Lib.hid (HBB4.out.trans hb6); clear ho6 hb6))
            go_roundw
            case rel => exact ⟨j + 1, ss ++ [l], k2, r', hlt, by go_num, rfl, HK2.out, HO6.out, by have := HLJ.out; simp; omega, fun y hy => by rcases List.mem_append.1 hy with h | h; exact H8.out y h; rw [List.mem_singleton.1 h]; exact HL8.out, HT2.out, HON.out, below_then HB2.out HBB6.out, HBB6.out⟩
            case measure => simp [intOf]; omega
        · have hz : m - j = 0 := by omega
          rw [hz] at hT
          have hr := ssP_end hT
          subst hr
          have HON := Lib.hid (show o = some ss by rw [hgl]; simp)
          have HLT := Lib.hid (show ss.length ≤ 256 by omega)
          have H8 := Lib.hid h8
          clear hO hT hgl hb hbb hlj h8
          go_wp2_with fail
          go_ret2
          exact ⟨HB.out, .inr ⟨ss, _, HON.out, HLT.out, H8.out, rfl, ownsets_lower HO.out HB2.out.size⟩⟩
end
theorem txt_inj {a b : List UInt8} (h : txt a = txt b) : a = b := by
  have := congrArg (fun x : ByteArray => x.data.toList) h
  simpa [txt] using this
theorem equal_prog (A B : Option Addr) (l m : List UInt8) (c d : Nat) (w : World) (hA : Bys w A l) (hB : Bys w B m) :
    Calls Tryz.prog 44 #[.slice A l.length c, .slice B m.length d] w fun e w' => e = .returned (.bool (decide (l = m))) ∧ w' = w := by
  have k1 := conv_bys w A l c hA
  have k2 := conv_bys w B m d hB
  have hq : ((txt l).toList == (txt m).toList) = decide (l = m) := by
    rw [eqT]
    by_cases h : l = m
    · rw [decide_eq_true h, h]; exact decide_eq_true rfl
    · rw [decide_eq_false h]; exact decide_eq_false fun e => h (txt_inj e)
  generalize txt l = T1 at *
  generalize txt m = T2 at *
  generalize decide (l = m) = q at *
  clear hA hB
  go_enter Tryz.func44, Tryz.ntmps44
  go_wp2_with fail
  go_ret
  exact ⟨rfl, rfl⟩
end Go.Proofs.YtojlcipphnegaaaGreat
