/- In one text, written by lotify.py: HdFind, HdId. -/
import Derived.Test.YtpcjnagdanmdpaaGreatHdLotA
import Derived.Test.YtpcjnagdanmdpaaGreatHdLotR
namespace Go.Proofs.YtpcjnagdanmdpaaGreat
open Go.RowKit Go.Maps
set_option linter.unusedVariables false
set_option linter.unusedSimpArgs false
set_option maxRecDepth 100000
def hfind (S : List Ser) (ms : List Mt) : Nat → List Int
  | 0 => []
  | j + 1 => hfind S ms j ++ (if mall ms (S.getD j ser0).1 then [(j : Int)] else [])
theorem hfind_len (S : List Ser) (ms : List Mt) (j : Nat) : (hfind S ms j).length ≤ j := by
  induction j with
  | zero => exact Nat.le_refl _
  | succ j ih =>
    unfold hfind
    rw [List.length_append]
    split <;> simp <;> omega
def HFound (w : World) (S : List Ser) (ms : List Mt) (e : Ending) (w' : World) : Prop := ∃ v, e = .returned (.tuple #[v, .int .i64 (mchkAll ms)]) ∧ OwnZ w' w.heap.size v (if mchkAll ms = 0 then hfind S ms S.length else []) ∧ Below w.heap.size w w'
set_option maxHeartbeats 4000000 in
theorem hdfind_prog {w : World} {X : Nat} {p : Plc} {h : List Ser} {c : Int} (hi : HeadIn w X p h c) (hk : HeadOk h) (A : Option Addr) (ms : List Mt) (cm : Nat) (hA : Mts w A ms) (hm : ms.length ≤ 100000000000000) :
    Calls Tryz.prog 8 #[.pointer (some ⟨X, 0, none⟩), .slice A ms.length cm] w (HFound w h ms) := by
  unfold HFound
  have HC := Lib.hid (chkall_prog A ms cm w hA hm)
  have q := hd_eqnil w X
  by_cases hz : mchkAll ms = 0
  · rw [hz] at HC ⊢
    rw [if_pos rfl]
    have HI := Lib.hid (fun w' (hb : Below w.heap.size w w') => hi.below hb)
    have HALL := Lib.hid (fun (x : World) (hx : Below w.heap.size w x) L (l : List Lbl) lc (hL : Lbls x L l) (hl : l.length ≤ 8) => all_prog A ms cm L l lc x (show Mts x A ms from hA.below hx) hm hL (by omega))
    obtain ⟨P, cc, _, hcc, x0, _, _, hall⟩ := hi.cells
    have hX := hi.row.lt
    have HLN := Lib.hid (fun k => hfind_len h ms k)
    have HLB := Lib.hid (fun i (hl : i < h.length) => (hdlens hk hl).2)
    have h256 := hk.few
    have HNX := Lib.hid (fun j => show hfind h ms (j + 1) = hfind h ms j ++ (if mall ms (h.getD j ser0).1 then [(j : Int)] else []) from rfl)
    obtain ⟨n, hn⟩ : ∃ n, h.length = n := ⟨_, rfl⟩
    have HN := Lib.hid hn
    have HCL := Lib.hid hall
    rw [hn] at x0 hcc h256 ⊢
    have HX0 := Lib.hid (fun (x : World) (hx : Below w.heap.size w x) => (hx.cell (p := ⟨X, 0, none⟩) hX).trans x0)
    clear hi hk hA hz hall hn hX x0
    go_enter Tryz.func8, Tryz.ntmps8
    go_wp2_with fail
    refine HC.out.mono ?_
    rintro e w1 ⟨rfl, hb1⟩
    have HB1 := Lib.hid hb1
    have y0 := HX0.out _ hb1
    clear hb1
    go_wp2_with fail
    go_loopw [7, 22] (fun v i wr => ∃ j : Nat, j ≤ n ∧ i = .int .i64 (j : Int) ∧ OwnZ wr w.heap.size v (hfind h ms j) ∧ Below w.heap.size w wr) (fun _ i _ => n - (intOf i).toNat)
    case atStart => exact ⟨0, Nat.zero_le _, rfl, ownz_nil _ _, HB1.out⟩
    case round =>
      obtain ⟨j, hj, rfl, ho, hb⟩ := hrel
      have HO := Lib.hid ho
      have HB := Lib.hid hb
      by_cases hlt : j < n
      · have i1 : decide ((j : Int) < (n : Int)) = true := decide_eq_true (by omega)
        have i3 : (j : Int) < (n : Int) := by omega
        have hjl : j < h.length := by rw [HN.out]; exact hlt
        obtain ⟨b, rfl, hbl, hc⟩ := HCL.out (by omega)
        have g0 := (hb.cell (p := ⟨b, j, none⟩) hbl).trans (hc j hjl)
        obtain ⟨L, lc, _, _, _, _, _, _, s0, _, hL, _⟩ := (HI.out _ hb).series hjl
        have hlb := HLB.out j hjl
        have HNJ := Lib.hid (HNX.out j)
        have HLJ := Lib.hid (HLN.out j)
        have HJ := Lib.hid (show j + 1 ≤ n from hlt)
        generalize p.fb j = g at *
        generalize (h.getD j ser0).1 = ls at *
        have HAL := Lib.hid (HALL.out wr hb L ls lc hL hlb)
        clear ho hb hL hc hlb
        generalize mall ms ls = q at *
        cases q
        · have HN2 := Lib.hid (show hfind h ms (j + 1) = hfind h ms j from by rw [HNJ.out]; simp)
          go_wp2_with (first | (go_at_call 31; refine HAL.out.mono ?_; rintro e w5 ⟨rfl, hb5⟩; have HB5 := Lib.hid (below_then HB.out hb5); have HO5 := Lib.hid (ownz_below HO.out hb5); clear hb5))
          go_roundw
          case rel => exact ⟨j + 1, HJ.out, by go_num, by rw [HN2.out]; exact HO5.out, HB5.out⟩
          case measure => simp [intOf]; omega
        · have HN2 := Lib.hid (show hfind h ms (j + 1) = hfind h ms j ++ [(j : Int)] from by rw [HNJ.out]; simp)
          go_wp2_with (first
            | (go_at_call 31; refine HAL.out.mono ?_; rintro e w5 ⟨rfl, hb5⟩; have HB5 := Lib.hid (below_then HB.out hb5); have HO5 := Lib.hid (ownz_below HO.out hb5); clear hb5)
            | (at_builtin; refine app_zs rfl (.tmp 33) (.tmp 35) rfl w.heap.size _ _ rfl (ownz_below HO5.out (below_one _ _)) _ [(j : Int)] 1 rfl (zs_cell (Row.new _ _ _)) (by have := HLJ.out; rw [List.length_singleton]; omega) (Nat.le_trans HB5.out.size (by simp)) ?_; intro v3 w3 hown3 hb3 _; rw [← HN2.out] at hown3; have HO3 := Lib.hid hown3; have HB3 := Lib.hid ((HB5.out.alloc HB5.out.size _).trans hb3); clear hown3 hb3))
          go_roundw
          case rel => exact ⟨j + 1, HJ.out, by go_num, HO3.out, HB3.out⟩
          case measure => simp [intOf]; omega
      · obtain rfl : j = n := by omega
        have i1 : decide ((j : Int) < (j : Int)) = false := decide_eq_false (by omega)
        clear ho hb
        go_wp2_with fail
        go_ret2
        exact ⟨_, rfl, HO.out, HB.out⟩
  · rw [if_neg hz]
    have i1 : (mchkAll ms != 0) = true := bne_iff_ne.2 hz
    generalize mchkAll ms = E at *
    clear hi hk hA hz
    go_enter Tryz.func8, Tryz.ntmps8
    go_wp2_with fail
    refine HC.out.mono ?_
    rintro e w1 ⟨rfl, hb1⟩
    have HB1 := Lib.hid hb1
    clear hb1
    go_wp2_with fail
    go_ret2
    exact ⟨_, rfl, ownz_nil _ _, HB1.out⟩
set_option maxHeartbeats 4000000 in
theorem hdfind_ref {w : World} (V : Option Addr) (S : List Ser) (c : Nat) (M : Option Addr) (ms : List Mt) (cm : Nat) (hV : Sers w V S) (h256 : S.length ≤ 256) (hL : ∀ s ∈ S, s.1.length ≤ 1000000) (hM : Mts w M ms) (hf : MFits ms) (hm : ms.length ≤ 100000000000000) :
    Calls Tryz.prog 9 #[.slice V S.length c, .slice M ms.length cm] w (HFound w S ms) := by
  unfold HFound
  have HC := Lib.hid (chkall_ref M ms cm w hM hm (mnames_of hf))
  by_cases hz : mchkAll ms = 0
  · rw [hz] at HC ⊢
    rw [if_pos rfl]
    have HV := Lib.hid (fun (x : World) (hx : Below w.heap.size w x) => hV.below hx)
    have HALL := Lib.hid (fun (x : World) (hx : Below w.heap.size w x) L (l : List Lbl) lc (hL : Lbls x L l) (hl : l.length ≤ 1000000) => all_ref M ms cm L l lc x (show Mts x M ms from hM.below hx) hm (mnames_of hf) hL (by omega))
    have HLN := Lib.hid (fun k => hfind_len S ms k)
    have HLB := Lib.hid (fun i (hl : i < S.length) => hL _ (ser_at hl))
    have HNX := Lib.hid (fun j => show hfind S ms (j + 1) = hfind S ms j ++ (if mall ms (S.getD j ser0).1 then [(j : Int)] else []) from rfl)
    obtain ⟨n, hn⟩ : ∃ n, S.length = n := ⟨_, rfl⟩
    have HN := Lib.hid hn
    rw [hn] at h256 ⊢
    clear hV hL hM hf hz hn
    go_enter Tryz.func9, Tryz.ntmps9
    go_wp2_with fail
    refine HC.out.mono ?_
    rintro e w1 ⟨rfl, hb1⟩
    have HB1 := Lib.hid hb1
    clear hb1
    go_wp2_with fail
    go_loopw [7, 8] (fun v i wr => ∃ j : Nat, j ≤ n ∧ i = .int .i64 (j : Int) ∧ OwnZ wr w.heap.size v (hfind S ms j) ∧ Below w.heap.size w wr) (fun _ i _ => n - (intOf i).toNat)
    case atStart => exact ⟨0, Nat.zero_le _, rfl, ownz_nil _ _, HB1.out⟩
    case round =>
      obtain ⟨j, hj, rfl, ho, hb⟩ := hrel
      have HO := Lib.hid ho
      have HB := Lib.hid hb
      by_cases hlt : j < n
      · have i1 : decide ((j : Int) < (n : Int)) = true := decide_eq_true (by omega)
        have i3 : (j : Int) < (n : Int) := by omega
        have hjl : j < S.length := by rw [HN.out]; exact hlt
        obtain ⟨b, o, rfl, hbl, hat⟩ := (HV.out _ hb).all (by omega)
        obtain ⟨m2, s0, _, hs2⟩ := hat j hjl
        have hlb := HLB.out j hjl
        have HNJ := Lib.hid (HNX.out j)
        have HLJ := Lib.hid (HLN.out j)
        have HJ := Lib.hid (show j + 1 ≤ n from hlt)
        have hL2 := hs2.labels
        generalize S.getD j ser0 = s at *
        obtain ⟨ls, ss⟩ := s
        dsimp only at s0 hL2 hlb HNJ
        have HAL := Lib.hid (HALL.out wr hb m2.la ls m2.lc hL2 hlb)
        clear ho hb hL2 hat hlb hs2
        generalize mall ms ls = q at *
        cases q
        · have HN2 := Lib.hid (show hfind S ms (j + 1) = hfind S ms j from by rw [HNJ.out]; simp)
          go_wp2_with (first | (go_at_call 33; refine HAL.out.mono ?_; rintro e w5 ⟨rfl, hb5⟩; have HB5 := Lib.hid (below_then HB.out hb5); have HO5 := Lib.hid (ownz_below HO.out hb5); clear hb5))
          go_roundw
          case rel => exact ⟨j + 1, HJ.out, by go_num, by rw [HN2.out]; exact HO5.out, HB5.out⟩
          case measure => simp [intOf]; omega
        · have HN2 := Lib.hid (show hfind S ms (j + 1) = hfind S ms j ++ [(j : Int)] from by rw [HNJ.out]; simp)
          go_wp2_with (first
            | (go_at_call 33; refine HAL.out.mono ?_; rintro e w5 ⟨rfl, hb5⟩; have HB5 := Lib.hid (below_then HB.out hb5); have HO5 := Lib.hid (ownz_below HO.out hb5); clear hb5)
            | (at_builtin; refine app_zs rfl (.tmp 27) (.tmp 29) rfl w.heap.size _ _ rfl (ownz_below HO5.out (below_one _ _)) _ [(j : Int)] 1 rfl (zs_cell (Row.new _ _ _)) (by have := HLJ.out; rw [List.length_singleton]; omega) (Nat.le_trans HB5.out.size (by simp)) ?_; intro v3 w3 hown3 hb3 _; rw [← HN2.out] at hown3; have HO3 := Lib.hid hown3; have HB3 := Lib.hid ((HB5.out.alloc HB5.out.size _).trans hb3); clear hown3 hb3))
          go_roundw
          case rel => exact ⟨j + 1, HJ.out, by go_num, HO3.out, HB3.out⟩
          case measure => simp [intOf]; omega
      · obtain rfl : j = n := by omega
        have i1 : decide ((j : Int) < (j : Int)) = false := decide_eq_false (by omega)
        clear ho hb
        go_wp2_with fail
        go_ret2
        exact ⟨_, rfl, HO.out, HB.out⟩
  · rw [if_neg hz]
    have i1 : (mchkAll ms != 0) = true := bne_iff_ne.2 hz
    generalize mchkAll ms = E at *
    clear hV hL hM hf hz
    go_enter Tryz.func9, Tryz.ntmps9
    go_wp2_with fail
    refine HC.out.mono ?_
    rintro e w1 ⟨rfl, hb1⟩
    have HB1 := Lib.hid hb1
    clear hb1
    go_wp2_with fail
    go_ret2
    exact ⟨_, rfl, ownz_nil _ _, HB1.out⟩
section
variable {w w' : World} {X : Nat} {p : Plc} {h : List Ser} {c : Int}
set_option maxHeartbeats 1000000 in
theorem hdid_yes (hi : HeadIn w X p h c) (hk : HeadOk h) {l : List Lbl} (hl : lbChk l = 0) (A : Option Addr) (ca : Nat) (hA : Lbls w A l) (h0 : 0 ≤ idH h l) :
    Calls Tryz.prog 11 #[.pointer (some ⟨X, 0, none⟩), .slice A l.length ca] w fun e w' => e = .returned (.tuple #[.int .i64 (idH h l), .int .i64 0]) ∧ Below w.heap.size w w' := by
  have hle := (lbChk_ok.1 hl).1
  have HC := Lib.hid (lbchk_prog A l ca w hA (by omega))
  rw [hl] at HC
  have HP := Lib.hid (fun (x : World) (hx : Below w.heap.size w x) => print_prog A l ca x (hA.below hx) (by omega) (by have := right_cost hl; omega))
  have HI := Lib.hid (fun w' (hb : Below w.heap.size w w') => (hi.below hb).cells)
  have HL := Lib.hid (fun w' (hb : Below w.heap.size w w') => ids_look (hi.below hb).ids hk hl)
  have h1 : decide (0 ≤ idH h l) = true := decide_eq_true h0
  rw [h1, if_pos h0] at HL
  have q := hd_eqnil w X
  generalize idH h l = I at *
  clear hi hk hl hA h1 hle
  go_enter Tryz.func11, Tryz.ntmps11
  go_wp2_with fail
  refine HC.out.mono ?_
  rintro e w2 ⟨rfl, hb2⟩
  have HB2 := Lib.hid hb2
  clear hb2
  go_upto_region 6 with fail
  obtain ⟨P, cc, _, _, x0, x1, _⟩ := HI.out _ HB2.out
  go_region_held3 (fun w' => w'.cell? ⟨X, 1, none⟩ = some (.map (some p.mb)))
    (first | with_reducible assumption | go_keep)
    (first
      | (go_at_call 35
         refine (HP.out _ HB2.out.drew).mono ?_
         rintro e w3 ⟨rfl, hb3⟩
         have hb3' := HB2.out.drew.trans (hb3.mono HB2.out.drew.size)
         obtain ⟨_, _, _, _, _, k1, _⟩ := HI.out _ hb3'
         have hlk := HL.out _ hb3'
         have HB3 := Lib.hid hb3'
         clear hb3 hb3'))
  go_wp2_with fail
  go_ret2
  exact ⟨rfl, HB3.out⟩
set_option maxHeartbeats 1000000 in
theorem hdid_no (hi : HeadIn w X p h c) (hk : HeadOk h) {l : List Lbl} (hl : lbChk l = 0) (A : Option Addr) (ca : Nat) (hA : Lbls w A l) (h0 : ¬ 0 ≤ idH h l) :
    Calls Tryz.prog 11 #[.pointer (some ⟨X, 0, none⟩), .slice A l.length ca] w fun e w' => e = .returned (.tuple #[.int .i64 0, .int .i64 9]) ∧ Below w.heap.size w w' := by
  have hle := (lbChk_ok.1 hl).1
  have HC := Lib.hid (lbchk_prog A l ca w hA (by omega))
  rw [hl] at HC
  have HP := Lib.hid (fun (x : World) (hx : Below w.heap.size w x) => print_prog A l ca x (hA.below hx) (by omega) (by have := right_cost hl; omega))
  have HI := Lib.hid (fun w' (hb : Below w.heap.size w w') => (hi.below hb).cells)
  have HL := Lib.hid (fun w' (hb : Below w.heap.size w w') => ids_look (hi.below hb).ids hk hl)
  have h1 : decide (0 ≤ idH h l) = false := decide_eq_false h0
  rw [h1, if_neg h0] at HL
  have q := hd_eqnil w X
  generalize idH h l = I at *
  clear hi hk hl hA h1 hle
  go_enter Tryz.func11, Tryz.ntmps11
  go_wp2_with fail
  refine HC.out.mono ?_
  rintro e w2 ⟨rfl, hb2⟩
  have HB2 := Lib.hid hb2
  clear hb2
  go_upto_region 6 with fail
  obtain ⟨P, cc, _, _, x0, x1, _⟩ := HI.out _ HB2.out
  go_region_held3 (fun w' => w'.cell? ⟨X, 1, none⟩ = some (.map (some p.mb)))
    (first | with_reducible assumption | go_keep)
    (first
      | (go_at_call 35
         refine (HP.out _ HB2.out.drew).mono ?_
         rintro e w3 ⟨rfl, hb3⟩
         have hb3' := HB2.out.drew.trans (hb3.mono HB2.out.drew.size)
         obtain ⟨_, _, _, _, _, k1, _⟩ := HI.out _ hb3'
         have hlk := HL.out _ hb3'
         have HB3 := Lib.hid hb3'
         clear hb3 hb3'))
  go_wp2_with fail
  go_ret2
  exact ⟨rfl, HB3.out⟩
theorem hdid_bad (X : Nat) {l : List Lbl} (hl : lbChk l ≠ 0) (hle : l.length ≤ 100000000000000) (A : Option Addr) (ca : Nat) (hA : Lbls w A l) :
    Calls Tryz.prog 11 #[.pointer (some ⟨X, 0, none⟩), .slice A l.length ca] w fun e w' => e = .returned (.tuple #[.int .i64 0, .int .i64 (lbChk l)]) ∧ Below w.heap.size w w' := by
  have HC := Lib.hid (lbchk_prog A l ca w hA hle)
  have q := hd_eqnil w X
  have j1 : (lbChk l != 0) = true := bne_iff_ne.2 hl
  generalize lbChk l = E at *
  clear hl hA
  go_enter Tryz.func11, Tryz.ntmps11
  go_wp2_with fail
  refine HC.out.mono ?_
  rintro e w2 ⟨rfl, hb2⟩
  have HB2 := Lib.hid hb2
  clear hb2
  go_wp2_with fail
  go_ret2
  exact ⟨rfl, HB2.out⟩
end
end Go.Proofs.YtpcjnagdanmdpaaGreat
