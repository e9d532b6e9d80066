/- A posting list read out of bytes: as the document's own answer does it. -/
import Derived.Test.YtmgolnlkepiocaaWaLotI
namespace Go.Proofs.Ytmgolnlkepiocaa
open Go.RowKit Go.Maps
set_option linter.unusedVariables false

theorem gur_prog (A : Option Addr) (l : List UInt8) (c a n nx e : Nat) (w : World) (hA : Bys w A l) (hl : l.length ≤ 140737488355328) (ha : a ≤ l.length) (hg : GU l a n nx e) :
    Calls Try.prog 98 #[.slice A l.length c, .int .i64 a] w fun e' w' => e' = .returned (.tuple #[.int .i64 n, .int .i64 nx, .int .i64 e]) ∧ Below w.heap.size w w' := by
  refine (getuint_ref A l c a n nx e w hA hl ha hg).mono ?_
  rintro e' w' ⟨rfl, rfl⟩
  exact ⟨rfl, Below.refl _ _⟩
theorem rref_bad (A : Option Addr) (l : List UInt8) (c : Nat) (a : Int) (w : World) (ha : a < 0 ∨ (l.length : Int) < a) :
    Calls Try.prog 73 #[.slice A l.length c, .int .i64 a] w (PoTold w [] 0 2) := by
  have HT := Lib.hid (getuint_ref_bad A l c a w ha)
  clear ha
  go_enter Try.func73, Try.ntmps73
  go_wp2_with (first | (go_at_call 98; refine HT.out.mono ?_; rintro e w2 ⟨rfl, rfl⟩))
  go_ret3
  exact ⟨Below.refl _ _, .inl ⟨by decide, rfl⟩⟩
theorem rref_no {l : List UInt8} {a n nx e : Nat} (h : GU l a n nx e) (he : e ≠ 0) (A : Option Addr) (c : Nat) (w : World) (hA : Bys w A l) (hlc : l.length ≤ c) (hl : l.length ≤ 140737488355328) (ha : a ≤ l.length) :
    Calls Try.prog 73 #[.slice A l.length c, .int .i64 a] w (PoTold w [] 0 e) := by
  have HT := Lib.hid (gur_prog A l c a n nx e w hA hl ha h)
  have HE := Lib.hid he
  have i1 : ((e : Int) != 0) = true := bne_iff_ne.2 (by omega)
  have i2 : ((e : Int) == 0) = false := beq_eq_false_iff_ne.2 (by omega)
  clear h he hA
  go_enter Try.func73, Try.ntmps73
  go_wp2_with (first | (go_at_call 98; refine HT.out.mono ?_; rintro e w2 ⟨rfl, hb2⟩))
  go_ret3
  exact ⟨hb2, .inl ⟨HE.out, rfl⟩⟩
theorem rref_big {l : List UInt8} {a n nx : Nat} (h : GU l a n nx 0) (hn : 1024 < n) (A : Option Addr) (c : Nat) (w : World) (hA : Bys w A l) (hlc : l.length ≤ c) (hl : l.length ≤ 140737488355328) (ha : a ≤ l.length) :
    Calls Try.prog 73 #[.slice A l.length c, .int .i64 a] w (PoTold w [] 0 3) := by
  have HT := Lib.hid (gur_prog A l c a n nx 0 w hA hl ha h)
  have i1 : decide ((1024 : Int) < (n : Int)) = true := by simp; omega
  clear h hA
  go_enter Try.func73, Try.ntmps73
  go_wp2_with (first | (go_at_call 98; refine HT.out.mono ?_; rintro e w2 ⟨rfl, hb2⟩))
  go_ret3
  exact ⟨hb2, .inl ⟨by decide, rfl⟩⟩
set_option maxRecDepth 100000 in
set_option maxHeartbeats 4000000 in
theorem rref_told {l : List UInt8} {a n nx : Nat} {LS : List Int} {P E : Nat} (h : GU l a n nx 0) (hn : n ≤ 1024) (hr : PR l n true 0 nx LS P E) (A : Option Addr) (c : Nat) (w : World) (hA : Bys w A l) (hlc : l.length ≤ c) (hl : l.length ≤ 140737488355328) (ha : a ≤ l.length) :
    Calls Try.prog 73 #[.slice A l.length c, .int .i64 a] w (ReTold w LS P E) := by
  have HT := Lib.hid (gur_prog A l c a n nx 0 w hA hl ha h)
  have i1 : decide ((1024 : Int) < (n : Int)) = false := by simp; omega
  have HA := Lib.hid hA
  have HRL := Lib.hid hr
  have HNX := Lib.hid (gu_behind h).2.1
  clear h hA hr
  go_enter Try.func73, Try.ntmps73
  go_wp2_with (first | (go_at_call 98; refine HT.out.mono ?_; rintro e w2 ⟨rfl, hb2⟩; have HB2 := Lib.hid hb2; clear hb2))
  go_loopw [11, 1, 9, 10] (fun i u v y wr => ∃ (k : Nat) (ac rest : List Int) (last at_ : Nat), k ≤ n ∧ i = .int .i64 (k : Int) ∧ u = .int .i64 (at_ : Int) ∧ y = .int .i64 (last : Int) ∧ OwnZ wr w.heap.size v ac ∧ PR l (n - k) (decide (k = 0)) last at_ rest P E ∧ (E = 0 → ac ++ rest = LS) ∧ ac.length ≤ k ∧ at_ ≤ l.length ∧ last ≤ 1099511627776 ∧ Below w.heap.size w wr) (fun i _ _ _ _ => n - (intOf i).toNat)
  case atStart => exact ⟨0, [], LS, 0, nx, Nat.zero_le _, rfl, rfl, rfl, ownz_nil _ _, HRL.out, fun _ => rfl, Nat.le_refl _, HNX.out, by omega, HB2.out⟩
  case round =>
    obtain ⟨k, ac, rest, last, at_, hk, rfl, rfl, rfl, ho, hrl, hcat, hacl, hat, hla, hbr⟩ := hrel
    have hsz := hbr.size
    by_cases hlt : k < n
    · have i2 : (k : Int) < (n : Int) := by omega
      have HO := Lib.hid ho
      have HBR := Lib.hid hbr
      have hA1 := HA.out.below hbr
      obtain ⟨m, hm⟩ : ∃ m, n - k = m + 1 := ⟨n - k - 1, by omega⟩
      rw [hm] at hrl
      clear ho hbr
      generalize hf0 : decide (k = 0) = f at hrl
      cases hrl with
      | bad _ _ _ _ d nx2 e h he =>
        have HC := Lib.hid (gur_prog A l c at_ d nx2 E _ hA1 hl hat h)
        have j1 : ((E : Int) != 0) = true := bne_iff_ne.2 (by omega)
        have j2 : ((E : Int) == 0) = false := beq_eq_false_iff_ne.2 (by omega)
        have HE := Lib.hid he
        clear h he hA1 hcat hf0
        go_wp2_with (first | (go_at_call 98; refine HC.out.mono ?_; rintro e w3 ⟨rfl, hb3⟩; have HB3 := Lib.hid (HBR.out.trans (hb3.mono HBR.out.size)); clear hb3))
        go_ret3
        exact ⟨HB3.out, .inl ⟨HE.out, rfl⟩⟩
      | wrong _ _ _ _ d nx2 h hw =>
        have HC := Lib.hid (gur_prog A l c at_ d nx2 0 _ hA1 hl hat h)
        have hq : IntKind.i64.wrap (1099511627776 - (last : Int)) = ((1099511627776 - last : Nat) : Int) := by rw [IntWalk.i64_in _ (by omega)]; omega
        have hdl := (gu_behind h).2.2
        clear h hA1 hcat
        by_cases hw1 : 1099511627776 < last + d
        · have j3 : ((1099511627776 - last : Nat) : Int) < (d : Int) := by omega
          have j4 : decide (((1099511627776 - last : Nat) : Int) < (d : Int)) = true := decide_eq_true j3
          clear hw hf0
          generalize 1099511627776 - last = q at *
          go_wp2_with (first | (go_at_call 98; refine HC.out.mono ?_; rintro e w3 ⟨rfl, hb3⟩; have HB3 := Lib.hid (HBR.out.trans (hb3.mono HBR.out.size)); clear hb3))
          go_ret3
          exact ⟨HB3.out, .inl ⟨by decide, rfl⟩⟩
        · obtain ⟨hf, hd⟩ : f = false ∧ d = 0 := by rcases hw with h | h; exact absurd h hw1; exact h
          subst hd
          rw [hf] at hf0
          have hk0 : 0 < k := by have := of_decide_eq_false hf0; omega
          have j3 : ¬ ((1099511627776 - last : Nat) : Int) < ((0 : Nat) : Int) := by omega
          have j4 : decide (((1099511627776 - last : Nat) : Int) < ((0 : Nat) : Int)) = false := decide_eq_false j3
          have j5 : (0 : Int) < (k : Int) := by omega
          have j6 : decide ((0 : Int) < (k : Int)) = true := decide_eq_true j5
          clear hw hf0 hf
          generalize 1099511627776 - last = q at *
          go_wp2_with (first | (go_at_call 98; refine HC.out.mono ?_; rintro e w3 ⟨rfl, hb3⟩; have HB3 := Lib.hid (HBR.out.trans (hb3.mono HBR.out.size)); clear hb3))
          go_ret3
          exact ⟨HB3.out, .inl ⟨by decide, rfl⟩⟩
      | more _ _ _ _ d nx2 ls _ _ h hd hf r =>
        have HC := Lib.hid (gur_prog A l c at_ d nx2 0 _ hA1 hl hat h)
        have HN2 := Lib.hid (gu_behind h).2.1
        have hq : IntKind.i64.wrap (1099511627776 - (last : Int)) = ((1099511627776 - last : Nat) : Int) := by rw [IntWalk.i64_in _ (by omega)]; omega
        have hs : IntKind.i64.wrap ((last : Int) + (d : Int)) = ((last + d : Nat) : Int) := by rw [IntWalk.i64_in _ (by omega)]; omega
        have j3 : ¬ ((1099511627776 - last : Nat) : Int) < (d : Int) := by omega
        have j4 : decide (((1099511627776 - last : Nat) : Int) < (d : Int)) = false := decide_eq_false j3
        have HCAT := Lib.hid hcat
        have HRR := Lib.hid r
        have HAC := Lib.hid hacl
        have HD := Lib.hid hd
        obtain ⟨sm, hsm⟩ : ∃ sm, last + d = sm := ⟨_, rfl⟩
        rw [hsm] at hs HRR HD HCAT
        have HFK := Lib.hid (show decide (k + 1 = 0) = false by simp)
        by_cases hd0 : d = 0
        · have hk0 : k = 0 := by
            rcases hf with h | h
            · rw [h] at hf0; exact of_decide_eq_true hf0
            · exact absurd hd0 h
          have k1 : ((d : Int) == 0) = true := by rw [hd0]; rfl
          have k2 : decide ((0 : Int) < (k : Int)) = false := by rw [hk0]; rfl
          have k3 : ¬ (0 : Int) < (k : Int) := by rw [hk0]; decide
          clear h hA1 hcat r hf hf0 hsm hd0 hk0 hd
          generalize 1099511627776 - last = q at *
          go_wp2_with (first
            | (go_at_call 98; refine HC.out.mono ?_; rintro e w3 ⟨rfl, hb3⟩; have HB3 := Lib.hid (HBR.out.trans (hb3.mono HBR.out.size)); have HO3 := Lib.hid (ownz_below HO.out hb3); clear hb3)
            | (at_builtin; refine app_zs rfl (.tmp 57) (.tmp 59) rfl w.heap.size _ ac rfl (ownz_below HO3.out (below_one _ _)) _ [(sm : Int)] 1 rfl (zs_cell (Row.new _ _ _)) (by have := HAC.out; simp only [List.length_cons, List.length_nil]; omega) (Nat.le_trans HB3.out.size (by simp)) ?_; intro v5 w5 hown5 hb5 _; have HO5 := Lib.hid hown5; have HB5 := Lib.hid ((HB3.out.alloc HB3.out.size _).trans hb5); clear hown5 hb5))
          go_roundw
          case rel => exact ⟨k + 1, ac ++ [(sm : Int)], ls, sm, nx2, by omega, by go_num, rfl, rfl, HO5.out, by rw [show n - (k + 1) = m from by omega, HFK.out]; exact HRR.out, fun h => by rw [← HCAT.out h]; simp, by have := HAC.out; rw [List.length_append]; simp only [List.length_cons, List.length_nil]; omega, HN2.out, HD.out, HB5.out⟩
          case measure => simp [intOf]; omega
        · have k1 : ((d : Int) == 0) = false := beq_eq_false_iff_ne.2 (by omega)
          by_cases hz : 0 < k
          · have k3 : (0 : Int) < (k : Int) := by omega
            have k2 : decide ((0 : Int) < (k : Int)) = true := decide_eq_true k3
            clear h hA1 hcat r hf hf0 hsm hd0 hd
            generalize 1099511627776 - last = q at *
            go_wp2_with (first
              | (go_at_call 98; refine HC.out.mono ?_; rintro e w3 ⟨rfl, hb3⟩; have HB3 := Lib.hid (HBR.out.trans (hb3.mono HBR.out.size)); have HO3 := Lib.hid (ownz_below HO.out hb3); clear hb3)
              | (at_builtin; refine app_zs rfl (.tmp 57) (.tmp 59) rfl w.heap.size _ ac rfl (ownz_below HO3.out (below_one _ _)) _ [(sm : Int)] 1 rfl (zs_cell (Row.new _ _ _)) (by have := HAC.out; simp only [List.length_cons, List.length_nil]; omega) (Nat.le_trans HB3.out.size (by simp)) ?_; intro v5 w5 hown5 hb5 _; have HO5 := Lib.hid hown5; have HB5 := Lib.hid ((HB3.out.alloc HB3.out.size _).trans hb5); clear hown5 hb5))
            go_roundw
            case rel => exact ⟨k + 1, ac ++ [(sm : Int)], ls, sm, nx2, by omega, by go_num, rfl, rfl, HO5.out, by rw [show n - (k + 1) = m from by omega, HFK.out]; exact HRR.out, fun h => by rw [← HCAT.out h]; simp, by have := HAC.out; rw [List.length_append]; simp only [List.length_cons, List.length_nil]; omega, HN2.out, HD.out, HB5.out⟩
            case measure => simp [intOf]; omega
          · have k3 : ¬ (0 : Int) < (k : Int) := by omega
            have k2 : decide ((0 : Int) < (k : Int)) = false := decide_eq_false k3
            clear h hA1 hcat r hf hf0 hsm hd0 hd
            generalize 1099511627776 - last = q at *
            go_wp2_with (first
              | (go_at_call 98; refine HC.out.mono ?_; rintro e w3 ⟨rfl, hb3⟩; have HB3 := Lib.hid (HBR.out.trans (hb3.mono HBR.out.size)); have HO3 := Lib.hid (ownz_below HO.out hb3); clear hb3)
              | (at_builtin; refine app_zs rfl (.tmp 57) (.tmp 59) rfl w.heap.size _ ac rfl (ownz_below HO3.out (below_one _ _)) _ [(sm : Int)] 1 rfl (zs_cell (Row.new _ _ _)) (by have := HAC.out; simp only [List.length_cons, List.length_nil]; omega) (Nat.le_trans HB3.out.size (by simp)) ?_; intro v5 w5 hown5 hb5 _; have HO5 := Lib.hid hown5; have HB5 := Lib.hid ((HB3.out.alloc HB3.out.size _).trans hb5); clear hown5 hb5))
            go_roundw
            case rel => exact ⟨k + 1, ac ++ [(sm : Int)], ls, sm, nx2, by omega, by go_num, rfl, rfl, HO5.out, by rw [show n - (k + 1) = m from by omega, HFK.out]; exact HRR.out, fun h => by rw [← HCAT.out h]; simp, by have := HAC.out; rw [List.length_append]; simp only [List.length_cons, List.length_nil]; omega, HN2.out, HD.out, HB5.out⟩
            case measure => simp [intOf]; omega
    · obtain rfl : k = n := by omega
      rw [Nat.sub_self] at hrl
      cases hrl with
      | done _ _ _ =>
        have hLS : ac = LS := by have := hcat rfl; simpa using this
        subst hLS
        clear hcat
        go_wp2_with fail
        go_ret3
        exact ⟨hbr, .inr ⟨rfl, _, rfl, ho⟩⟩
theorem read_ref {l : List UInt8} {a : Int} {ls : List Int} {p e : Nat} (h : PY l a ls p e) (A : Option Addr) (c : Nat) (w : World) (hA : Bys w A l) (hlc : l.length ≤ c) (hl : l.length ≤ 140737488355328) :
    Calls Try.prog 73 #[.slice A l.length c, .int .i64 a] w (PoTold w ls p e) := by
  rcases h with ⟨h, rfl, rfl, rfl⟩ | ⟨k, rfl, hk, hp⟩
  · exact rref_bad A l c a w h
  · cases hp with
    | no n nx e h he => exact rref_no h he A c w hA hlc hl hk
    | big n nx h hn => exact rref_big h hn A c w hA hlc hl hk
    | bad n nx ls' p' e h hn r he =>
      refine (rref_told h hn r A c w hA hlc hl hk).mono ?_
      rintro e' w' ⟨hb, ⟨_, rfl⟩ | ⟨h0, _⟩⟩
      · exact ⟨hb, .inl ⟨he, rfl⟩⟩
      · exact absurd h0 he
    | ok n nx ls' p' h hn r =>
      refine (rref_told h hn r A c w hA hlc hl hk).mono ?_
      rintro e' w' ⟨hb, ⟨h0, _⟩ | ⟨_, v, rfl, hv⟩⟩
      · exact absurd rfl h0
      · exact ⟨hb, .inr ⟨rfl, v, rfl, hv⟩⟩
end Go.Proofs.Ytmgolnlkepiocaa
