/- An index's texts, and a text by its place, as the program reads them. -/
import Derived.Test.YtojlcipphnegaaaGreatIxRd1
import Derived.Test.YtojlcipphnegaaaGreatIxRdM
namespace Go.Proofs.YtojlcipphnegaaaGreat
open Go.RowKit Go.Maps
set_option linter.unusedVariables false
set_option maxRecDepth 100000

/-- A text is read at a place. -/
def XO (b : List UInt8) (a : Nat) (s : ByteArray) (k e : Nat) : Prop := a ≤ b.length ∧ ∃ n nx e0, GU b a n nx e0 ∧ GT b n nx e0 s k e
theorem xo_place {b : List UInt8} {a : Nat} {s : ByteArray} {k : Nat} (h : XO b a s k 0) : k ≤ b.length := by
  obtain ⟨_, n, nx, e0, _, h2⟩ := h
  generalize he : (0 : Nat) = e at h2
  cases h2 with
  | no _ h => exact absurd he.symm h
  | big => cases he
  | short => cases he
  | ok h hx hs => omega
theorem gu_all (b : List UInt8) : ∀ a, a ≤ b.length → ∃ n k e, GU b a n k e ∧ (e = 0 → k ≤ b.length) := by
  intro a ha
  obtain ⟨n, k, e, h⟩ := gu_total b a ha
  exact ⟨n, k, e, h, fun he => (gu_place h he).1⟩
theorem xo_all (b : List UInt8) : ∀ a, a ≤ b.length → ∃ s k e, XO b a s k e ∧ (e = 0 → k ≤ b.length) := by
  intro a ha
  obtain ⟨n, nx, e0, h, hx⟩ := gu_all b a ha
  obtain ⟨s, k, e, h2⟩ := gt_total b n nx e0 hx
  have h3 : XO b a s k e := ⟨ha, n, nx, e0, h, h2⟩
  exact ⟨s, k, e, h3, fun he => by subst he; exact xo_place h3⟩
section
variable (A : Option Addr) (b : List UInt8) (c : Nat) (hbc : b.length ≤ c) (hbl : b.length ≤ 140737488355328)
include hbc hbl
theorem rtext_prog (a : Nat) (s : ByteArray) (k e : Nat) (w : World) (hA : Bys w A b) (h : XO b a s k e) :
    Calls Tryz.prog 102 #[.slice A b.length c, .int .i64 (a : Int)] w fun e' w' => e' = .returned (.tuple #[.string s, .int .i64 (k : Int), .int .i64 (e : Int)]) ∧ Below w.heap.size w w' := by
  obtain ⟨ha, n, nx, e0, h1, h2⟩ := h
  exact gettext_prog A b c a n nx e0 s k e w hA hbc hbl (gu_small h1) (fun he => (gu_place h1 he).2.1) (getuint_prog A b c a n nx e0 w hA hbc hbl ha h1) h2
theorem rnum_no (a n nx e : Nat) (most : Int) (w : World) (hA : Bys w A b) (ha : a ≤ b.length) (hg : GU b a n nx e) (hbad : e ≠ 0 ∨ most < (n : Int)) :
    ∃ E : Int, E ≠ 0 ∧ Calls Tryz.prog 77 #[.slice A b.length c, .int .i64 (a : Int), .int .i64 most] w fun e' w' => e' = .returned (.tuple #[.int .i64 0, .int .i64 0, .int .i64 E]) ∧ Below w.heap.size w w' := by
  have h := readnum_prog A b c a n nx e most w hA hbc hbl ha hg
  have hE : numE n e most ≠ 0 := by
    unfold numE
    by_cases he : e ≠ 0
    · rw [if_pos he]; omega
    · rw [if_neg he, if_pos (hbad.resolve_left he)]; decide
  rw [if_neg hE, if_neg hE] at h
  exact ⟨_, hE, h⟩
theorem rnum_yes (a n nx : Nat) (most : Int) (w : World) (hA : Bys w A b) (ha : a ≤ b.length) (hg : GU b a n nx 0) (hm : (n : Int) ≤ most) :
    Calls Tryz.prog 77 #[.slice A b.length c, .int .i64 (a : Int), .int .i64 most] w fun e' w' => e' = .returned (.tuple #[.int .i64 (n : Int), .int .i64 (nx : Int), .int .i64 0]) ∧ Below w.heap.size w w' := by
  have h := readnum_prog A b c a n nx 0 most w hA hbc hbl ha hg
  have hE : numE n 0 most = 0 := by
    unfold numE
    rw [if_neg (by omega), if_neg (by omega)]
  rw [hE, if_pos rfl, if_pos rfl] at h
  exact h
/-- What readTexts tells. -/
def TsTold (b : List UInt8) (w : World) (o : Option (List ByteArray × Nat)) (e : Ending) (w' : World) : Prop :=
  Below w.heap.size w w' ∧ ((o = none ∧ ∃ E : Int, E ≠ 0 ∧ e = .returned (.tuple #[.slice none 0 0, .int .i64 0, .int .i64 E])) ∨
    ∃ ts p v, o = some (ts, p) ∧ ts.length ≤ 4096 ∧ p ≤ b.length ∧ e = .returned (.tuple #[v, .int .i64 ((p : Nat) : Int), .int .i64 0]) ∧ OwnTx w' w.heap.size v ts)
set_option maxHeartbeats 2000000 in
theorem rtexts_prog (o : Option (List ByteArray × Nat)) (w : World) (hA : Bys w A b) (h : TxP (GU b) (XO b) o) :
    Calls Tryz.prog 76 #[.slice A b.length c] w (TsTold b w o) := by
  have HA := Lib.hid (fun x (h : Below w.heap.size w x) => (show Bys x A b from hA.below h))
  obtain ⟨n, k, e, hg, h⟩ := h
  rcases h with ⟨hbad, rfl⟩ | ⟨rfl, hn, hts⟩
  · obtain ⟨E, hE, hc⟩ := rnum_no A b c hbc hbl 0 n k e 4096 w hA (Nat.zero_le _) hg (by omega)
    have HC := Lib.hid hc
    have j1 : (E != 0) = true := bne_iff_ne.2 hE
    have HE := Lib.hid hE
    clear hc hE hbad hg HA hA
    generalize b.length = nb at *
    go_enter Tryz.func76, Tryz.ntmps76
    go_wp2_with (first | (go_at_call 77; refine HC.out.mono ?_; rintro e w2 ⟨rfl, hb2⟩; have HB2 := Lib.hid hb2; clear hb2))
    go_ret3
    exact ⟨HB2.out, .inl ⟨rfl, E, HE.out, rfl⟩⟩
  · have HC := Lib.hid (rnum_yes A b c hbc hbl 0 n k 4096 w hA (Nat.zero_le _) hg (by omega))
    have HX := Lib.hid (fun a s k e x (hb : Below w.heap.size w x) (h : XO b a s k e) => rtext_prog A b c hbc hbl a s k e x (HA.out x hb) h)
    have HTS := Lib.hid hts
    have HK := Lib.hid (gu_place hg rfl).1
    have HNB := Lib.hid hbl
    clear hA HA hg hts hbc hbl
    go_enter Tryz.func76, Tryz.ntmps76
    go_wp2_with (first | (go_at_call 77; refine HC.out.mono ?_; rintro e w2 ⟨rfl, hb2⟩; have HB2 := Lib.hid hb2; clear hb2))
    obtain ⟨nb, hnb⟩ : ∃ nb, b.length = nb := ⟨_, rfl⟩
    rw [hnb] at HX ⊢
    have HNBE := Lib.hid hnb
    clear hnb HC
    go_loopw [8, 6, 20] (fun u p i wr => ∃ (j : Nat) (ts : List ByteArray) (a : Nat) (r : Option (List ByteArray × Nat)), j ≤ n ∧ i = .int .i64 (j : Int) ∧ p = .int .i64 (a : Int) ∧ a ≤ b.length ∧ OwnTx wr w.heap.size u ts ∧ ts.length = j ∧ TsP (XO b) (n - j) a r ∧ o = glue ts r ∧ Below w.heap.size w wr) (fun _ _ i _ => n - (intOf i).toNat)
    case atStart => exact ⟨0, [], k, o, Nat.zero_le _, rfl, rfl, HK.out, ⟨rfl, .inl ⟨rfl, rfl⟩⟩, rfl, HTS.out, by cases o <;> rfl, HB2.out⟩
    case round =>
      obtain ⟨j, ts, a, r, hj, rfl, rfl, ha, hO, hlj, hT, hgl, hb⟩ := hrel
      have HB := Lib.hid hb
      by_cases hlt : j < n
      · obtain ⟨m, hm⟩ : ∃ m, n - j = m + 1 := ⟨n - j - 1, by omega⟩
        rw [hm] at hT
        obtain ⟨s, k2, e2, hx, h⟩ := tsP_step hT
        have HXX := Lib.hid (HX.out a s k2 e2 wr hb hx)
        have i1 : (j : Int) < (n : Int) := by omega
        have HO := Lib.hid hO
        rcases h with ⟨he2, rfl⟩ | ⟨rfl, r', hT', rfl⟩
        · have j1 : ((e2 : Int) != 0) = true := bne_iff_ne.2 (by omega)
          have HE2 := Lib.hid (show (e2 : Int) ≠ 0 by omega)
          have HON := Lib.hid (show o = none from hgl)
          clear hO hT hgl hb hx he2
          go_wp2_with (first | (go_at_call 102; refine HXX.out.mono ?_; rintro e w5 ⟨rfl, hb5⟩; have HB5 := Lib.hid (below_then HB.out hb5); clear hb5))
          go_ret3
          exact ⟨HB5.out, .inl ⟨HON.out, _, HE2.out, rfl⟩⟩
        · have HXP := Lib.hid (xo_place hx)
          have HT2 := Lib.hid (show TsP (XO b) (n - (j + 1)) k2 r' by rw [show n - (j + 1) = m by omega]; exact hT')
          have HON := Lib.hid (show o = glue (ts ++ [s]) r' by rw [← glue_glue]; exact hgl)
          have HLJ := Lib.hid hlj
          clear hO hT hT' hgl hb hx hlj
          go_wp2_with (first
            | (go_at_call 102; refine HXX.out.mono ?_; rintro e w5 ⟨rfl, hb5⟩; have HO5 : Hid (OwnTx w5 w.heap.size _ ts) := Lib.hid (rows_below HO.out hb5); have HB5 := Lib.hid (below_then HB.out hb5); clear hb5)
            | (at_builtin; refine app_t rfl (.tmp 32) (.tmp 34) rfl w.heap.size _ ts rfl HO5.out s 1 rfl (by have := HLJ.out; omega) HB5.out.size ?_; intro v6 w6 ho6 hb6; have HO6 := Lib.hid ho6; have HB6 := Lib.hid (HB5.out.trans hb6); clear ho6 hb6))
          go_roundw
          case rel => exact ⟨j + 1, ts ++ [s], k2, r', hlt, by go_num, rfl, HXP.out, HO6.out, by have := HLJ.out; simp; omega, HT2.out, HON.out, HB6.out⟩
          case measure => simp [intOf]; omega
      · have hz : n - j = 0 := by omega
        rw [hz] at hT
        have hr := tsP_end hT
        subst hr
        have HON := Lib.hid (show o = some (ts, a) by rw [hgl]; simp [glue])
        have HO := Lib.hid hO
        have HLT := Lib.hid (show ts.length ≤ 4096 by omega)
        have HAA := Lib.hid ha
        clear hO hT hgl hb hlj ha
        go_wp2_with fail
        go_ret3
        exact ⟨HB.out, .inr ⟨ts, a, _, HON.out, HLT.out, HAA.out, rfl, HO.out⟩⟩
end
/-! ### a text by its place -/
section
variable (A : Option Addr) (b : List UInt8) (c : Nat) (hbc : b.length ≤ c) (hbl : b.length ≤ 140737488355328) (V : Option Addr) (t : List ByteArray) (d : Nat) (ht : t.length ≤ 4096)
include hbc hbl ht
theorem placed_no (a p k e : Nat) (w : World) (hA : Bys w A b) (hV : Tx w V t) (ha : a ≤ b.length) (hg : GU b a p k e) (hbad : e ≠ 0 ∨ t.length ≤ p) :
    ∃ E : Int, E ≠ 0 ∧ Calls Tryz.prog 104 #[.slice A b.length c, .int .i64 (a : Int), .slice V t.length d] w fun e' w' => e' = .returned (.tuple #[.string ⟨#[]⟩, .int .i64 0, .int .i64 E]) ∧ Below w.heap.size w w' := by
  obtain ⟨E, hE, hc⟩ := rnum_no A b c hbc hbl a p k e ((t.length : Int) - 1) w hA ha hg (by omega)
  refine ⟨E, hE, ?_⟩
  have HC := Lib.hid hc
  have j1 : (E != 0) = true := bne_iff_ne.2 hE
  have hw : IntKind.i64.wrap ((t.length : Int) - 1) = (t.length : Int) - 1 := IntWalk.i64_in _ (by omega)
  clear hc hE hbad hg hA hV
  generalize b.length = nb at *
  go_enter Tryz.func104, Tryz.ntmps104
  go_wp2_with (first | (go_at_call 77; refine HC.out.mono ?_; rintro e w2 ⟨rfl, hb2⟩; have HB2 := Lib.hid hb2; clear hb2))
  go_ret3
  exact ⟨rfl, HB2.out⟩
theorem placed_yes (a p k : Nat) (w : World) (hA : Bys w A b) (hV : Tx w V t) (ha : a ≤ b.length) (hg : GU b a p k 0) (hp : p < t.length) :
    Calls Tryz.prog 104 #[.slice A b.length c, .int .i64 (a : Int), .slice V t.length d] w fun e' w' => e' = .returned (.tuple #[.string (t.getD p ⟨#[]⟩), .int .i64 (k : Int), .int .i64 0]) ∧ Below w.heap.size w w' := by
  have HC := Lib.hid (rnum_yes A b c hbc hbl a p k ((t.length : Int) - 1) w hA ha hg (by omega))
  obtain ⟨b1, o1, rfl, hb1, g0⟩ := hV.at_ hp
  have g1 : w.cell? ⟨b1, o1 + p, none⟩ = some (.string (t.getD p ⟨#[]⟩)) := g0
  have hw : IntKind.i64.wrap ((t.length : Int) - 1) = (t.length : Int) - 1 := IntWalk.i64_in _ (by omega)
  have i1 : (p : Int) < (t.length : Int) := by omega
  clear hg hA hV g0
  generalize b.length = nb at *
  generalize t.getD p ⟨#[]⟩ = s at *
  go_enter Tryz.func104, Tryz.ntmps104
  go_wp2_with (first | (go_at_call 77; refine HC.out.mono ?_; rintro e w2 ⟨rfl, hb2⟩; have c2 := (hb2.cell (p := ⟨b1, o1 + p, none⟩) hb1).trans g1; have HB2 := Lib.hid hb2; clear hb2))
  go_ret3
  exact ⟨rfl, HB2.out⟩
end
end Go.Proofs.YtojlcipphnegaaaGreat
