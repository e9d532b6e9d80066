/- Labels read out of bytes: as the program does it. -/
import Derived.Test.YtgiclapgilppgaaDoorLbRead
namespace Go.Proofs.YtgiclapgilppgaaDoor
open Go.RowKit Go.Maps
set_option linter.unusedVariables false

theorem readlabel_bad2 {l : List UInt8} {a : Int} {s s2 : ByteArray} {k k2 e : Nat} (h : TX l a s k 0) (h2 : TX l k s2 k2 e) (he : e ≠ 0) (A : Option Addr) (c : Nat) (w : World) (hA : Bys w A l) (hlc : l.length ≤ c) (hl : l.length ≤ 140737488355328) :
    Calls Tryd.prog 56 #[.slice A l.length c, .int .i64 a] w fun e' w' => e' = .returned (.tuple #[.agg #[.string ⟨#[]⟩, .string ⟨#[]⟩], .int .i64 0, .int .i64 e]) ∧ Below w.heap.size w w' := by
  have HT := Lib.hid (tx_prog h A c (w.alloc (.cells #[.string ⟨#[]⟩, .string ⟨#[]⟩] 58)) (hA.alloc _) hlc hl)
  have HT2 := Lib.hid (fun W (h : Below w.heap.size w W) => tx_prog h2 A c W (hA.below h) hlc hl)
  have i1 : ((e : Int) != 0) = true := bne_iff_ne.2 (by omega)
  have i2 : ((e : Int) == 0) = false := beq_eq_false_iff_ne.2 (by omega)
  have HR : Hid (Row (w.alloc (.cells #[.string ⟨#[]⟩, .string ⟨#[]⟩] 58)) w.heap.size 58 #[.string ⟨#[]⟩, .string ⟨#[]⟩]) := Lib.hid (Row.new w _ _)
  clear h h2 he hA
  go_enter Tryd.func56, Tryd.ntmps56
  go_upto_region 4 with (first
    | (go_at_call 72; refine HT.out.mono ?_; rintro e w2 ⟨rfl, hb2⟩; have HR2 := Lib.hid (HR.out.below hb2 (by simp)); have HB2 := Lib.hid ((below_one w _).trans (hb2.mono (by simp))); clear hb2))
  go_wp2_with (first
    | (go_at_call 72; refine (HT2.out _ HB2.out).mono ?_; rintro e w3 ⟨rfl, hb3⟩; have HR3 := Lib.hid (HR2.out.below hb3 (Row.lt HR2.out)); have HB3 := Lib.hid (HB2.out.trans (hb3.mono HB2.out.size)); have r0 := HR3.out.cell 0; have r1 := HR3.out.cell 1; have f0 := HR3.out.frozen 0; have f1 := HR3.out.frozen 1; clear hb3))
  (try simp only [Exit.inBlock, Exit.then]); refine bodyPost_ret (ret_lbl3 rfl _ _ _ _ rfl ((HR3.out.setAt _ _).setAt _ _) rfl) rfl ?_
  exact ⟨rfl, (HB3.out.setCell (p := ⟨w.heap.size, 0, none⟩) (Nat.le_refl _) _).setCell (p := ⟨w.heap.size, 1, none⟩) (Nat.le_refl _) _⟩
theorem readlabel_ok {l : List UInt8} {a : Int} {s s2 : ByteArray} {k k2 : Nat} (h : TX l a s k 0) (h2 : TX l k s2 k2 0) (A : Option Addr) (c : Nat) (w : World) (hA : Bys w A l) (hlc : l.length ≤ c) (hl : l.length ≤ 140737488355328) :
    Calls Tryd.prog 56 #[.slice A l.length c, .int .i64 a] w fun e' w' => e' = .returned (.tuple #[.agg #[.string s, .string s2], .int .i64 k2, .int .i64 0]) ∧ Below w.heap.size w w' := by
  have HT := Lib.hid (tx_prog h A c (w.alloc (.cells #[.string ⟨#[]⟩, .string ⟨#[]⟩] 58)) (hA.alloc _) hlc hl)
  have HT2 := Lib.hid (fun W (h : Below w.heap.size w W) => tx_prog h2 A c W (hA.below h) hlc hl)
  have HR : Hid (Row (w.alloc (.cells #[.string ⟨#[]⟩, .string ⟨#[]⟩] 58)) w.heap.size 58 #[.string ⟨#[]⟩, .string ⟨#[]⟩]) := Lib.hid (Row.new w _ _)
  clear h h2 hA
  go_enter Tryd.func56, Tryd.ntmps56
  go_upto_region 4 with (first
    | (go_at_call 72; refine HT.out.mono ?_; rintro e w2 ⟨rfl, hb2⟩; have HR2 := Lib.hid (HR.out.below hb2 (by simp)); have HB2 := Lib.hid ((below_one w _).trans (hb2.mono (by simp))); clear hb2))
  go_wp2_with (first
    | (go_at_call 72; refine (HT2.out _ HB2.out).mono ?_; rintro e w3 ⟨rfl, hb3⟩; have HR3 := Lib.hid (HR2.out.below hb3 (Row.lt HR2.out)); have HB3 := Lib.hid (HB2.out.trans (hb3.mono HB2.out.size)); have r0 := HR3.out.cell 0; have r1 := HR3.out.cell 1; have f0 := HR3.out.frozen 0; have f1 := HR3.out.frozen 1; clear hb3))
  (try simp only [Exit.inBlock, Exit.then]); refine bodyPost_ret (ret_lbl3 rfl _ _ _ _ rfl ((HR3.out.setAt _ _).setAt _ _) rfl) rfl ?_
  exact ⟨rfl, (HB3.out.setCell (p := ⟨w.heap.size, 0, none⟩) (Nat.le_refl _) _).setCell (p := ⟨w.heap.size, 1, none⟩) (Nat.le_refl _) _⟩

theorem row_new_set (w : World) (p q : Addr) (u v : Value) (t : TypeId) (cs : Array Value) : Row (((w.setCell p u).setCell q v).alloc (.cells cs t)) w.heap.size t cs := by
  have := Row.new ((w.setCell p u).setCell q v) t cs
  rw [show ((w.setCell p u).setCell q v).heap.size = w.heap.size from by simp [World.setCell]] at this
  exact this
/-- What Read tells: by what was read as a number, and as so many labels. -/
def readV (v : Value) (p : Int) (e : Nat) : Ending := .returned (.tuple #[v, .int .i64 p, .int .i64 e])
theorem ret_3 {v : Value} {b c b' c' : Int} (h2 : b = b') (h3 : c = c') : Ending.returned (.tuple #[v, .int .i64 b, .int .i64 c]) = .returned (.tuple #[v, .int .i64 b', .int .i64 c']) := by rw [h2, h3]
theorem read_no {l : List UInt8} {a : Int} {n nx e : Nat} (h : GX l a n nx e) (he : e ≠ 0) (A : Option Addr) (c : Nat) (w : World) (hA : Bys w A l) (hlc : l.length ≤ c) (hl : l.length ≤ 140737488355328) :
    Calls Tryd.prog 32 #[.slice A l.length c, .int .i64 a] w fun e' w' => e' = .returned (.tuple #[.slice none 0 0, .int .i64 0, .int .i64 e]) ∧ Below w.heap.size w w' := by
  have HT := Lib.hid (gx_prog h A c w hA hlc hl)
  have i1 : ((e : Int) != 0) = true := bne_iff_ne.2 (by omega)
  have i2 : ((e : Int) == 0) = false := beq_eq_false_iff_ne.2 (by omega)
  clear h he hA
  go_enter Tryd.func32, Tryd.ntmps32
  go_wp2_with (first | (go_at_call 55; refine HT.out.mono ?_; rintro e w2 ⟨rfl, hb2⟩))
  go_ret3
  exact ⟨rfl, hb2⟩
theorem read_big {l : List UInt8} {a : Int} {n nx : Nat} (h : GX l a n nx 0) (hn : 8 < n) (A : Option Addr) (c : Nat) (w : World) (hA : Bys w A l) (hlc : l.length ≤ c) (hl : l.length ≤ 140737488355328) :
    Calls Tryd.prog 32 #[.slice A l.length c, .int .i64 a] w fun e' w' => e' = .returned (.tuple #[.slice none 0 0, .int .i64 0, .int .i64 3]) ∧ Below w.heap.size w w' := by
  have HT := Lib.hid (gx_prog h A c w hA hlc hl)
  have i1 : decide ((8 : Int) < (n : Int)) = true := by simp; omega
  clear h hA
  go_enter Tryd.func32, Tryd.ntmps32
  go_wp2_with (first | (go_at_call 55; refine HT.out.mono ?_; rintro e w2 ⟨rfl, hb2⟩))
  go_ret3
  exact ⟨rfl, hb2⟩
/-- What Read hands back where so many labels are read. -/
def ReadTold (w : World) (LS : List Lbl) (P : Int) (E : Nat) (e' : Ending) (w' : World) : Prop :=
  Below w.heap.size w w' ∧ ((E ≠ 0 ∧ e' = .returned (.tuple #[.slice none 0 0, .int .i64 0, .int .i64 E])) ∨ (E = 0 ∧ lbChk LS ≠ 0 ∧ e' = .returned (.tuple #[.slice none 0 0, .int .i64 0, .int .i64 5])) ∨
    (E = 0 ∧ lbChk LS = 0 ∧ ∃ v, e' = .returned (.tuple #[v, .int .i64 P, .int .i64 0]) ∧ OwnL w' w.heap.size v LS))
set_option maxHeartbeats 1000000 in
theorem read_told {l : List UInt8} {a : Int} {n nx : Nat} {LS : List Lbl} {P : Int} {E : Nat} (h : GX l a n nx 0) (hn : n ≤ 8) (hr : RL l n nx LS P E) (A : Option Addr) (c : Nat) (w : World) (hA : Bys w A l) (hlc : l.length ≤ c) (hl : l.length ≤ 140737488355328) :
    Calls Tryd.prog 32 #[.slice A l.length c, .int .i64 a] w fun e' w' => ReadTold w LS P E e' w' := by
  have HT := Lib.hid (gx_prog h A c w hA hlc hl)
  have i1 : decide ((8 : Int) < (n : Int)) = false := by simp; omega
  have HA := Lib.hid hA
  have HRL := Lib.hid hr
  have hlen : LS.length ≤ 8 := by have := (rl_size hr).2; omega
  have HK := Lib.hid (show hlc = hlc ∧ hl = hl from ⟨rfl, rfl⟩)
  clear h hA hr
  go_enter Tryd.func32, Tryd.ntmps32
  go_wp2_with (first | (go_at_call 55; refine HT.out.mono ?_; rintro e w2 ⟨rfl, hb2⟩; have HB2 := Lib.hid hb2; clear hb2))
  go_loopw [24, 1, 9] (fun i u v wr => ∃ (k : Nat) (ac rest : List Lbl) (at_ : Int), k ≤ n ∧ i = .int .i64 (k : Int) ∧ u = .int .i64 at_ ∧ OwnL wr w.heap.size v ac ∧ RL l (n - k) at_ rest P E ∧ (E = 0 → ac ++ rest = LS) ∧ ac.length ≤ k ∧ Below w.heap.size w wr) (fun i _ _ _ => n - (intOf i).toNat)
  case atStart => exact ⟨0, [], LS, _, Nat.zero_le _, rfl, rfl, ownl_nil _ _, HRL.out, fun _ => rfl, Nat.le_refl _, HB2.out⟩
  case round =>
    obtain ⟨k, ac, rest, at_, hk, rfl, rfl, ho, hrl, hcat, hacl, hbr⟩ := hrel
    have hsz := hbr.size
    by_cases hlt : k < n
    · have i2 : (k : Int) < (n : Int) := by omega
      have HO := Lib.hid ho
      have HBR := Lib.hid hbr
      have HR : Hid (Row (wr.alloc (.cells #[.string ⟨#[]⟩, .string ⟨#[]⟩] 58)) wr.heap.size 58 #[.string ⟨#[]⟩, .string ⟨#[]⟩]) := Lib.hid (Row.new wr _ _)
      have HB1 := Lib.hid (hbr.alloc hsz (.cells #[.string ⟨#[]⟩, .string ⟨#[]⟩] 58))
      have HO1 := Lib.hid (ownl_below ho (below_one wr (.cells #[.string ⟨#[]⟩, .string ⟨#[]⟩] 58)))
      have hA1 := HA.out.below HB1.out
      obtain ⟨m, hm⟩ : ∃ m, n - k = m + 1 := ⟨n - k - 1, by omega⟩
      rw [hm] at hrl
      clear ho hbr
      cases hrl with
      | bad1 _ _ s q e h he =>
        have HC := Lib.hid (readlabel_bad1 h he A c _ hA1 hlc hl)
        have j1 : ((E : Int) != 0) = true := bne_iff_ne.2 (by omega)
        have j2 : ((E : Int) == 0) = false := beq_eq_false_iff_ne.2 (by omega)
        have HE := Lib.hid he
        clear h he hA1 hcat
        go_wp2_with (first | (go_at_call 56; refine HC.out.mono ?_; rintro e w3 ⟨rfl, hb3⟩; have HR3 := Lib.hid (HR.out.below hb3 (by simp)); have r0 := HR3.out.cell 0; have r1 := HR3.out.cell 1; have f0 := HR3.out.frozen 0; have f1 := HR3.out.frozen 1; have HB3 := Lib.hid (HB1.out.trans (hb3.mono HB1.out.size)); clear hb3))
        go_ret3
        exact ⟨(HB3.out.setCell (p := ⟨wr.heap.size, 0, none⟩) hsz _).setCell (p := ⟨wr.heap.size, 1, none⟩) hsz _, .inl ⟨HE.out, rfl⟩⟩
      | bad2 _ _ s q s2 k2 e h h2 he =>
        have HC := Lib.hid (readlabel_bad2 h h2 he A c _ hA1 hlc hl)
        have j1 : ((E : Int) != 0) = true := bne_iff_ne.2 (by omega)
        have j2 : ((E : Int) == 0) = false := beq_eq_false_iff_ne.2 (by omega)
        have HE := Lib.hid he
        clear h h2 he hA1 hcat
        go_wp2_with (first | (go_at_call 56; refine HC.out.mono ?_; rintro e w3 ⟨rfl, hb3⟩; have HR3 := Lib.hid (HR.out.below hb3 (by simp)); have r0 := HR3.out.cell 0; have r1 := HR3.out.cell 1; have f0 := HR3.out.frozen 0; have f1 := HR3.out.frozen 1; have HB3 := Lib.hid (HB1.out.trans (hb3.mono HB1.out.size)); clear hb3))
        go_ret3
        exact ⟨(HB3.out.setCell (p := ⟨wr.heap.size, 0, none⟩) hsz _).setCell (p := ⟨wr.heap.size, 1, none⟩) hsz _, .inl ⟨HE.out, rfl⟩⟩
      | ok _ _ s q s2 k2 ls _ _ h h2 r =>
        have HC := Lib.hid (readlabel_ok h h2 A c _ hA1 hlc hl)
        have HCAT := Lib.hid hcat
        have HRR := Lib.hid r
        have HAC := Lib.hid hacl
        clear h h2 hA1 hcat r
        go_wp2_with (first
          | (go_at_call 56; refine HC.out.mono ?_; rintro e w3 ⟨rfl, hb3⟩; have HR3 := Lib.hid (HR.out.below hb3 (by simp)); have r0 := HR3.out.cell 0; have r1 := HR3.out.cell 1; have f0 := HR3.out.frozen 0; have f1 := HR3.out.frozen 1; have HB3 := Lib.hid ((HB1.out.trans (hb3.mono HB1.out.size)).setCell (p := ⟨wr.heap.size, 0, none⟩) hsz (.string s) |>.setCell (p := ⟨wr.heap.size, 1, none⟩) hsz (.string s2)); have HBX := Lib.hid (((below_one wr (.cells #[.string ⟨#[]⟩, .string ⟨#[]⟩] 58)).trans (hb3.mono (by simp))).setCell (p := ⟨wr.heap.size, 0, none⟩) (Nat.le_refl _) (.string s) |>.setCell (p := ⟨wr.heap.size, 1, none⟩) (Nat.le_refl _) (.string s2)); have HO4 := Lib.hid (ownl_below HO.out HBX.out); have HN4 := Lib.hid (row_new_set w3 ⟨wr.heap.size, 0, none⟩ ⟨wr.heap.size, 1, none⟩ (.string s) (.string s2) 58 #[.string s, .string s2]); clear hb3)
          | (at_builtin; refine app_lbls rfl (.tmp 36) (.tmp 38) rfl w.heap.size _ ac rfl (ownl_below HO4.out (below_one _ _)) _ [(s, s2)] 1 rfl (lbls_cell HN4.out) (by have := HAC.out; simp only [List.length_cons, List.length_nil]; omega) (Nat.le_trans HB3.out.size (by simp)) ?_; intro v5 w5 hown5 hb5 _; have HO5 := Lib.hid hown5; have HB5 := Lib.hid ((HB3.out.alloc HB3.out.size _).trans hb5); clear hown5 hb5))
        go_roundw
        case rel => exact ⟨k + 1, ac ++ [(s, s2)], ls, k2, by omega, by go_num, rfl, HO5.out, by rw [show n - (k + 1) = m from by omega]; exact HRR.out, fun h => by rw [← HCAT.out h]; simp, by have := HAC.out; rw [List.length_append]; simp only [List.length_cons, List.length_nil]; omega, HB5.out⟩
        case measure => simp [intOf]; omega
    · obtain rfl : k = n := by omega
      rw [Nat.sub_self] at hrl
      cases hrl with
      | done _ =>
        have hLS : ac = LS := by have := hcat rfl; simpa using this
        subst hLS
        obtain ⟨P0, c0, rfl, _, hL0, _⟩ := ownl_slice ho
        have HO := Lib.hid ho
        have HBR := Lib.hid hbr
        have HC := Lib.hid (lbchk_prog P0 ac c0 wr hL0 (by omega))
        obtain ⟨X, hX⟩ : ∃ X, lbChk ac = X := ⟨_, rfl⟩
        have HX := Lib.hid hX
        rw [hX] at HC
        clear ho hbr hL0 hcat hX
        by_cases h0 : X = 0
        · subst h0
          go_wp2_with (first | (go_at_call 13; refine HC.out.mono ?_; rintro e w3 ⟨rfl, hb3⟩; have HB3 := Lib.hid (HBR.out.trans (hb3.mono HBR.out.size)); have HO3 := Lib.hid (ownl_below HO.out hb3); clear hb3))
          go_ret3
          exact ⟨HB3.out, .inr (.inr ⟨rfl, HX.out, _, rfl, HO3.out⟩)⟩
        · have j1 : (X != 0) = true := bne_iff_ne.2 h0
          have j2 : (X == 0) = false := beq_eq_false_iff_ne.2 h0
          have H0 := Lib.hid h0
          clear h0
          go_wp2_with (first | (go_at_call 13; refine HC.out.mono ?_; rintro e w3 ⟨rfl, hb3⟩; have HB3 := Lib.hid (HBR.out.trans (hb3.mono HBR.out.size)); clear hb3))
          go_ret3
          exact ⟨HB3.out, .inr (.inl ⟨rfl, by rw [HX.out]; exact H0.out, rfl⟩)⟩
end Go.Proofs.YtgiclapgilppgaaDoor
