/- Labels read out of bytes, and laid behind bytes: as the document's own answer does it. -/
import Derived.Test.YtgiclapgilppgaaDoorLbRead2
namespace Go.Proofs.YtgiclapgilppgaaDoor
open Go.RowKit Go.Maps
set_option linter.unusedVariables false

theorem read_ref_no {l : List UInt8} {a : Int} {n nx e : Nat} (h : GX l a n nx e) (he : e ≠ 0) (A : Option Addr) (c : Nat) (w : World) (hA : Bys w A l) (hlc : l.length ≤ c) (hl : l.length ≤ 140737488355328) :
    Calls Tryd.prog 33 #[.slice A l.length c, .int .i64 a] w fun e' w' => e' = .returned (.tuple #[.slice none 0 0, .int .i64 0, .int .i64 e]) ∧ Below w.heap.size w w' := by
  have HT := Lib.hid (gx_ref h A c w hA hlc hl)
  have i1 : ((e : Int) != 0) = true := bne_iff_ne.2 (by omega)
  have i2 : ((e : Int) == 0) = false := beq_eq_false_iff_ne.2 (by omega)
  clear h he hA
  go_enter Tryd.func33, Tryd.ntmps33
  go_wp2_with (first | (go_at_call 57; refine HT.out.mono ?_; rintro e w2 ⟨rfl, hb2⟩))
  go_ret3
  exact ⟨rfl, hb2⟩
theorem read_ref_big {l : List UInt8} {a : Int} {n nx : Nat} (h : GX l a n nx 0) (hn : 8 < n) (A : Option Addr) (c : Nat) (w : World) (hA : Bys w A l) (hlc : l.length ≤ c) (hl : l.length ≤ 140737488355328) :
    Calls Tryd.prog 33 #[.slice A l.length c, .int .i64 a] w fun e' w' => e' = .returned (.tuple #[.slice none 0 0, .int .i64 0, .int .i64 3]) ∧ Below w.heap.size w w' := by
  have HT := Lib.hid (gx_ref h A c w hA hlc hl)
  have i1 : decide ((8 : Int) < (n : Int)) = true := by simp; omega
  clear h hA
  go_enter Tryd.func33, Tryd.ntmps33
  go_wp2_with (first | (go_at_call 57; refine HT.out.mono ?_; rintro e w2 ⟨rfl, hb2⟩))
  go_ret3
  exact ⟨rfl, hb2⟩
set_option maxHeartbeats 1000000 in
theorem read_ref_told {l : List UInt8} {a : Int} {n nx : Nat} {LS : List Lbl} {P : Int} {E : Nat} (h : GX l a n nx 0) (hn : n ≤ 8) (hr : RL l n nx LS P E) (A : Option Addr) (c : Nat) (w : World) (hA : Bys w A l) (hlc : l.length ≤ c) (hl : l.length ≤ 140737488355328) :
    Calls Tryd.prog 33 #[.slice A l.length c, .int .i64 a] w fun e' w' => ReadTold w LS P E e' w' := by
  have HT := Lib.hid (gx_ref h A c w hA hlc hl)
  have i1 : decide ((8 : Int) < (n : Int)) = false := by simp; omega
  have HA := Lib.hid hA
  have HRL := Lib.hid hr
  have HFT := Lib.hid (rl_size hr).1
  have hlen : LS.length ≤ 8 := by have := (rl_size hr).2; omega
  clear h hA hr
  go_enter Tryd.func33, Tryd.ntmps33
  go_wp2_with (first | (go_at_call 57; refine HT.out.mono ?_; rintro e w2 ⟨rfl, hb2⟩; have HB2 := Lib.hid hb2; clear hb2))
  go_loopw [10, 1, 9] (fun i u v wr => ∃ (k : Nat) (ac rest : List Lbl) (at_ : Int), k ≤ n ∧ i = .int .i64 (k : Int) ∧ u = .int .i64 at_ ∧ OwnL wr w.heap.size v ac ∧ RL l (n - k) at_ rest P E ∧ (E = 0 → ac ++ rest = LS) ∧ ac.length ≤ k ∧ Below w.heap.size w wr) (fun i _ _ _ => n - (intOf i).toNat)
  case atStart => exact ⟨0, [], LS, _, Nat.zero_le _, rfl, rfl, ownl_nil _ _, HRL.out, fun _ => rfl, Nat.le_refl _, HB2.out⟩
  case round =>
    obtain ⟨k, ac, rest, at_, hk, rfl, rfl, ho, hrl, hcat, hacl, hbr⟩ := hrel
    have hsz := hbr.size
    by_cases hlt : k < n
    · have i2 : (k : Int) < (n : Int) := by omega
      have HO := Lib.hid ho
      have HBR := Lib.hid hbr
      have hA1 := HA.out.below hbr
      obtain ⟨m, hm⟩ : ∃ m, n - k = m + 1 := ⟨n - k - 1, by omega⟩
      rw [hm] at hrl
      clear ho hbr
      cases hrl with
      | bad1 _ _ s q e h he =>
        have HC := Lib.hid (tx_ref h A c _ hA1 hlc hl)
        have j1 : ((E : Int) != 0) = true := bne_iff_ne.2 (by omega)
        have j2 : ((E : Int) == 0) = false := beq_eq_false_iff_ne.2 (by omega)
        have HE := Lib.hid he
        clear h he hA1 hcat
        go_wp2_with (first | (go_at_call 58; refine HC.out.mono ?_; rintro e w3 ⟨rfl, hb3⟩; have HB3 := Lib.hid (HBR.out.trans (hb3.mono HBR.out.size)); clear hb3))
        go_ret3
        exact ⟨HB3.out, .inl ⟨HE.out, rfl⟩⟩
      | bad2 _ _ s q s2 k2 e h h2 he =>
        have HC := Lib.hid (tx_ref h A c _ hA1 hlc hl)
        have HC2 := Lib.hid (fun W (hW : Below w.heap.size w W) => tx_ref h2 A c W (HA.out.below hW) hlc hl)
        have j1 : ((E : Int) != 0) = true := bne_iff_ne.2 (by omega)
        have j2 : ((E : Int) == 0) = false := beq_eq_false_iff_ne.2 (by omega)
        have HE := Lib.hid he
        clear h h2 he hA1 hcat
        go_upto_region 13 with (first | (go_at_call 58; refine HC.out.mono ?_; rintro e w3 ⟨rfl, hb3⟩; have HB3 := Lib.hid (HBR.out.trans (hb3.mono HBR.out.size)); clear hb3))
        go_wp2_with (first | (go_at_call 58; refine (HC2.out _ HB3.out).mono ?_; rintro e w4 ⟨rfl, hb4⟩; have HB4 := Lib.hid (HB3.out.trans (hb4.mono HB3.out.size)); clear hb4))
        go_ret3
        exact ⟨HB4.out, .inl ⟨HE.out, rfl⟩⟩
      | ok _ _ s q s2 k2 ls _ _ h h2 r =>
        have HC := Lib.hid (tx_ref h A c _ hA1 hlc hl)
        have HC2 := Lib.hid (fun W (hW : Below w.heap.size w W) => tx_ref h2 A c W (HA.out.below hW) hlc hl)
        have HCAT := Lib.hid hcat
        have HRR := Lib.hid r
        have HAC := Lib.hid hacl
        clear h h2 hA1 hcat r
        go_upto_region 13 with (first | (go_at_call 58; refine HC.out.mono ?_; rintro e w3 ⟨rfl, hb3⟩; have HB3 := Lib.hid (HBR.out.trans (hb3.mono HBR.out.size)); have HO3 := Lib.hid (ownl_below HO.out hb3); clear hb3))
        go_wp2_with (first
          | (go_at_call 58; refine (HC2.out _ HB3.out).mono ?_; rintro e w4 ⟨rfl, hb4⟩; have HB4 := Lib.hid (HB3.out.trans (hb4.mono HB3.out.size)); have HO4 := Lib.hid (ownl_below HO3.out hb4); clear hb4)
          | (at_builtin; refine app_lbls rfl (.tmp 53) (.tmp 57) rfl w.heap.size _ ac rfl (ownl_below HO4.out (below_one _ _)) _ [(s, s2)] 1 rfl (lbls_cell (Row.new _ _ _)) (by have := HAC.out; simp only [List.length_cons, List.length_nil]; omega) (Nat.le_trans HB4.out.size (by simp)) ?_; intro v5 w5 hown5 hb5 _; have HO5 := Lib.hid hown5; have HB5 := Lib.hid ((HB4.out.alloc HB4.out.size _).trans hb5); clear hown5 hb5))
        go_roundw
        case rel => exact ⟨k + 1, ac ++ [(s, s2)], ls, k2, by omega, by go_num, rfl, HO5.out, by rw [show n - (k + 1) = m from by omega]; exact HRR.out, fun h => by rw [← HCAT.out h]; simp, by have := HAC.out; rw [List.length_append]; simp only [List.length_cons, List.length_nil]; omega, HB5.out⟩
        case measure => simp [intOf]; omega
    · obtain rfl : k = n := by omega
      rw [Nat.sub_self] at hrl
      cases hrl with
      | done _ =>
        have hLS : ac = LS := by have := hcat rfl; simpa using this
        subst hLS
        obtain ⟨P0, c0, rfl, _, hL0, _⟩ := ownl_slice ho
        have HO := Lib.hid ho
        have HBR := Lib.hid hbr
        have HC := Lib.hid (lbchk_ref P0 ac c0 wr hL0 (by omega) HFT.out)
        obtain ⟨X, hX⟩ : ∃ X, lbChk ac = X := ⟨_, rfl⟩
        have HX := Lib.hid hX
        rw [hX] at HC
        clear ho hbr hL0 hcat hX
        by_cases h0 : X = 0
        · subst h0
          go_wp2_with (first | (go_at_call 14; refine HC.out.mono ?_; rintro e w3 ⟨rfl, hb3⟩; have HB3 := Lib.hid (HBR.out.trans (hb3.mono HBR.out.size)); have HO3 := Lib.hid (ownl_below HO.out hb3); clear hb3))
          go_ret3
          exact ⟨HB3.out, .inr (.inr ⟨rfl, HX.out, _, rfl, HO3.out⟩)⟩
        · have j1 : (X != 0) = true := bne_iff_ne.2 h0
          have j2 : (X == 0) = false := beq_eq_false_iff_ne.2 h0
          have H0 := Lib.hid h0
          clear h0
          go_wp2_with (first | (go_at_call 14; refine HC.out.mono ?_; rintro e w3 ⟨rfl, hb3⟩; have HB3 := Lib.hid (HBR.out.trans (hb3.mono HBR.out.size)); clear hb3))
          go_ret3
          exact ⟨HB3.out, .inr (.inl ⟨rfl, by rw [HX.out]; exact H0.out, rfl⟩)⟩

theorem put_ref_no (A B : Option Addr) (n c : Nat) (l : List Lbl) (d : Nat) (w : World) (hB : Lbls w B l) (hl : l.length ≤ 100000000000000) (hf : LFits l) (h : lbChk l ≠ 0) :
    Calls Tryd.prog 31 #[.slice A n c, .slice B l.length d] w fun e w' => e = .returned (.tuple #[.slice none 0 0, .int .i64 (lbChk l)]) ∧ Below w.heap.size w w' := by
  have HC := Lib.hid (lbchk_ref B l d w hB hl hf)
  generalize lbChk l = C at *
  have i1 : (C != 0) = true := bne_iff_ne.2 h
  have i2 : (C == 0) = false := beq_eq_false_iff_ne.2 h
  clear h hB hf
  go_enter Tryd.func31, Tryd.ntmps31
  go_wp2_with (first | (go_at_call 14; refine HC.out.mono ?_; rintro e w1 ⟨rfl, hb1⟩))
  go_ret2
  exact ⟨rfl, hb1⟩
theorem put_ref_yes (A B : Option Addr) (b : List UInt8) (c : Nat) (l : List Lbl) (d : Nat) (w : World) (hA : Bys w A b) (hB : Lbls w B l) (hb : b.length ≤ 140737488351300) (hf : LFits l) (h : lbChk l = 0) :
    Calls Tryd.prog 31 #[.slice A b.length c, .slice B l.length d] w fun e w' => ∃ v, e = .returned (.tuple #[v, .int .i64 0]) ∧ Own w' w.heap.size v (b ++ bytesL l) ∧ Below w.heap.size w w' := by
  have h8 := (lbChk_ok.1 h).1
  have HC := Lib.hid (lbchk_ref B l d w hB (by omega) hf)
  rw [h] at HC
  have HBY := Lib.hid (fun W (hW : Below w.heap.size w W) => bytes_ref B l d W (hB.below hW) h)
  have hsm := bytesF_small h (Nat.le_refl l.length)
  have HSM := Lib.hid (show (bytesL l).length ≤ 1000 from hsm)
  have HA := Lib.hid hA
  obtain ⟨y, hy⟩ : ∃ y, bytesL l = y := ⟨_, rfl⟩
  rw [hy] at HBY HSM
  have HY := Lib.hid hy
  clear hA hB h hy hsm hf
  go_enter Tryd.func31, Tryd.ntmps31
  go_wp2_with (first
    | (go_at_call 14; refine HC.out.mono ?_; rintro e w1 ⟨rfl, hb1⟩; have HB1 := Lib.hid hb1; clear hb1)
    | (go_at_call 54; refine (HBY.out _ HB2.out).mono ?_; rintro e w3 ⟨v3, rfl, ho3, hb3⟩; obtain ⟨P3, d3, hv3, hP3, _⟩ := own_slice' ho3; subst hv3; have HP3 := Lib.hid hP3; have HO3 := Lib.hid (own_below HO2.out hb3); have HB3 := Lib.hid (HB2.out.trans (hb3.mono HB2.out.size)); clear ho3 hb3 hP3)
    | (at_builtin; refine app_u8 rfl (.tmp 12) (.tmp 13) rfl w.heap.size _ [] rfl (own_empty (Row.new _ _ _) HB1.out.size) A b c rfl ((HA.out.below HB1.out).alloc _) (by simp only [List.length_nil]; omega) (Nat.le_trans HB1.out.size (by simp)) ?_; intro v2 w2 hown2 hb2 _; rw [List.nil_append] at hown2; have HO2 := Lib.hid hown2; have HB2 := Lib.hid ((HB1.out.alloc HB1.out.size _).trans hb2); clear hown2 hb2)
    | (at_builtin; refine app_u8 rfl (.tmp 14) (.tmp 16) rfl w.heap.size _ b rfl HO3.out P3 y d3 rfl HP3.out (by have := HSM.out; omega) HB3.out.size ?_; intro v4 w4 hown4 hb4 _; have HO4 := Lib.hid hown4; have HB4 := Lib.hid (HB3.out.trans hb4); clear hown4 hb4))
  go_ret2
  exact ⟨v4, rfl, by rw [HY.out]; exact HO4.out, HB4.out⟩
end Go.Proofs.YtgiclapgilppgaaDoor
