/- Rows of numbers: lent with one more behind their end, and whether they were kept; held against one another; a number looked for; those that are in another row: as the laws and the document's own answer of layer 9 do it. -/
import Derived.Test.YtiepepikbophmaaPoCheck
namespace Go.Proofs.Ytiepepikbophmaa
open Go.RowKit Go.Maps
set_option linter.unusedVariables false

theorem own_law (A : Option Addr) (l : List Int) (c : Nat) (w : World) (hA : Zs w A l) (hl : l.length ≤ 17592186043904) :
    Calls Try.prog 19 #[.slice A l.length c] w fun e w' => ∃ G cap, e = .returned (.slice (some ⟨G, 0, none⟩) l.length cap) ∧ Zs w' (some ⟨G, 0, none⟩) (l ++ [77]) ∧ l.length + 1 ≤ cap ∧ w.heap.size ≤ G ∧ Below w.heap.size w w' := by
  go_enter Try.func19, Try.ntmps19
  go_wp2_with (first
    | (at_builtin; refine app_zs rfl (.tmp 3) (.tmp 4) rfl w.heap.size _ [] rfl (ownz_empty (Row.new w _ _) (Nat.le_refl _)) A l c rfl (hA.alloc _) (by simp only [List.length_nil]; omega) (by simp) ?_; intro v1 w1 hown1 hb1' _; have hb1 : Below w.heap.size w w1 := ((Below.refl _ _).alloc (Nat.le_refl _) _).trans hb1')
    | (at_builtin; refine app_zs rfl (.tmp 5) (.tmp 6) rfl w.heap.size _ ([] ++ l) rfl (ownz_below hown1 (below_one _ _)) _ [77] 1 rfl (zs_cell (Row.new _ _ _)) (by simp; omega) (Nat.le_trans hb1.size (by simp)) ?_; intro v2 w2 hown2 hb2' _; have hb2 : Below w.heap.size w w2 := (hb1.alloc hb1.size _).trans hb2'; obtain ⟨g, cap, hv2, hgb, hglt, hcap, hfz, hcl⟩ := ownz_form hown2 (by simp); have hcap2 : l.length + 1 ≤ cap := (by simpa using hcap); obtain ⟨P2, c2, hv3, _, hP2, _⟩ := ownz_slice hown2; rw [hv2] at hv3; obtain ⟨rfl, _, rfl⟩ := Value.slice.inj hv3; have HP := Lib.hid hP2; subst hv2; clear hown2 hcl hP2 hfz hv3))
  go_ret
  exact ⟨g, cap, rfl, by simpa using HP.out, hcap2, hgb, hb2⟩

theorem ext_getD {a b : List Int} (hl : a.length = b.length) (h : ∀ j, j < a.length → a.getD j 0 = b.getD j 0) : a = b := by
  refine List.ext_getElem hl fun i h1 h2 => ?_
  have := h i h1
  rwa [getD_in a 0 h1, getD_in b 0 h2] at this
theorem ret_bool {a b : Bool} (h : a = b) : Ending.returned (.bool a) = .returned (.bool b) := by rw [h]
set_option maxHeartbeats 1000000 in
theorem same_ref (A B : Option Addr) (a b : List Int) (c d : Nat) (w : World) (hA : Zs w A a) (hB : Zs w B b) (hl : a.length ≤ 281474976710656) :
    Calls Try.prog 28 #[.slice A a.length c, .slice B b.length d] w fun e w' => e = .returned (.bool (decide (a = b))) ∧ Below w.heap.size w w' := by
  have HA := Lib.hid hA
  have HB := Lib.hid hB
  clear hA hB
  by_cases hlen : a.length = b.length
  · have i1 : ((a.length : Int) != (b.length : Int)) = false := by rw [hlen]; simp
    have i0 : ((a.length : Int) == (b.length : Int)) = true := by rw [hlen]; simp
    have HL := Lib.hid hlen
    rw [← hlen] at i1 i0 ⊢
    clear hlen
    go_enter Try.func28, Try.ntmps28
    go_wp2_with fail
    go_loopw [5] (fun i wr => ∃ k : Nat, k ≤ a.length ∧ i = .int .i64 (k : Int) ∧ (∀ j, j < k → a.getD j 0 = b.getD j 0) ∧ Below w.heap.size w wr) (fun i _ => a.length - (intOf i).toNat)
    case atStart => exact ⟨0, Nat.zero_le _, rfl, fun j hj => absurd hj (Nat.not_lt_zero j), Below.refl _ _⟩
    case round =>
      obtain ⟨k, hk, rfl, hs, hbr⟩ := hrel
      have HBR := Lib.hid hbr
      have HS := Lib.hid hs
      by_cases hlt : k < a.length
      · obtain ⟨b1, o1, rfl, hb1, g0⟩ := HA.out.at_ hlt
        obtain ⟨b2, o2, rfl, hb2, g1⟩ := HB.out.at_ (i := k) (by have := HL.out; omega)
        have c0 := (hbr.cell (p := ⟨b1, o1 + k, none⟩) hb1).trans g0
        have c1 := (hbr.cell (p := ⟨b2, o2 + k, none⟩) hb2).trans g1
        have i2 : (k : Int) < (a.length : Int) := by omega
        clear g0 g1 hs hbr
        by_cases he : a.getD k 0 = b.getD k 0
        · have HN := Lib.hid (show ∀ j, j < k + 1 → a.getD j 0 = b.getD j 0 from fun j hj => by
            rcases Nat.lt_or_ge j k with h | h
            · exact HS.out j h
            · rw [show j = k from by omega]; exact he)
          rw [← he] at c1
          clear he
          generalize a.getD k 0 = n at *
          have j1 : (n != n) = false := by simp
          go_upto_region 6 with fail
          go_quiet (fail)
          go_wp2_with fail
          go_roundw
          case rel => exact ⟨k + 1, by omega, by go_num, HN.out, below_drewN' HBR.out _⟩
          case measure => simp [intOf]; omega
        · have HR := Lib.hid (show decide (a = b) = false by
            rw [decide_eq_false_iff_not]; rintro rfl; exact he rfl)
          have j1 : (a.getD k 0 != b.getD k 0) = true := bne_iff_ne.2 he
          have j2 : (a.getD k 0 == b.getD k 0) = false := beq_eq_false_iff_ne.2 he
          clear he
          generalize a.getD k 0 = n at *
          generalize b.getD k 0 = m at *
          go_upto_region 6 with fail
          go_quiet (fail)
          go_wp2_with fail
          go_ret
          exact ⟨ret_bool HR.out.symm, below_drewN' HBR.out _⟩
      · have HR := Lib.hid (show decide (a = b) = true from decide_eq_true (ext_getD HL.out (fun j hj => hs j (by omega))))
        clear hs hbr
        go_wp2_with fail
        go_ret
        exact ⟨ret_bool HR.out.symm, HBR.out⟩
  · have i1 : ((a.length : Int) != (b.length : Int)) = true := bne_iff_ne.2 (by omega)
    have i0 : ((a.length : Int) == (b.length : Int)) = false := beq_eq_false_iff_ne.2 (by omega)
    have HR := Lib.hid (show decide (a = b) = false by rw [decide_eq_false_iff_not]; rintro rfl; exact hlen rfl)
    clear hlen
    go_enter Try.func28, Try.ntmps28
    go_wp2_with fail
    go_ret
    exact ⟨ret_bool HR.out.symm, Below.refl _ _⟩
theorem same_yes (A B : Option Addr) (a : List Int) (c d : Nat) (w : World) (hA : Zs w A a) (hB : Zs w B a) (hl : a.length ≤ 281474976710656) :
    Calls Try.prog 28 #[.slice A a.length c, .slice B a.length d] w fun e w' => e = .returned (.bool true) ∧ Below w.heap.size w w' := by
  refine (same_ref A B a a c d w hA hB hl).mono ?_
  rintro e w' ⟨rfl, h⟩
  exact ⟨ret_bool (decide_eq_true rfl), h⟩

theorem has_ref (A : Option Addr) (l : List Int) (c : Nat) (n : Int) (w : World) (hA : Zs w A l) (hl : l.length ≤ 281474976710656) :
    Calls Try.prog 34 #[.slice A l.length c, .int .i64 n] w fun e w' => e = .returned (.bool (decide (n ∈ l))) ∧ w = w' := by
  have HA := Lib.hid hA
  clear hA
  go_enter Try.func34, Try.ntmps34
  go_wp2_with fail
  go_loop [5] (fun i => ∃ k : Nat, k ≤ l.length ∧ i = .int .i64 (k : Int) ∧ ∀ j, j < k → l.getD j 0 ≠ n) (fun i => l.length - (intOf i).toNat)
  case atStart => exact ⟨0, Nat.zero_le _, rfl, fun j hj => absurd hj (Nat.not_lt_zero j)⟩
  case round =>
    obtain ⟨k, hk, rfl, hs⟩ := hrel
    have HS := Lib.hid hs
    clear hs
    by_cases hlt : k < l.length
    · obtain ⟨b1, o1, rfl, hb1, g0⟩ := HA.out.at_ hlt
      have i2 : (k : Int) < (l.length : Int) := by omega
      by_cases he : l.getD k 0 = n
      · have HR := Lib.hid (show decide (n ∈ l) = true from decide_eq_true (by rw [← he, getD_in l 0 hlt]; exact List.getElem_mem hlt))
        have j1 : (l.getD k 0 == n) = true := beq_iff_eq.2 he
        clear he
        generalize l.getD k 0 = m at *
        go_wp2_with fail
        go_ret
        exact ⟨ret_bool HR.out.symm, rfl⟩
      · have HN := Lib.hid (show ∀ j, j < k + 1 → l.getD j 0 ≠ n from fun j hj => by
          rcases Nat.lt_or_ge j k with h | h
          · exact HS.out j h
          · rw [show j = k from by omega]; exact he)
        have j1 : (l.getD k 0 == n) = false := beq_eq_false_iff_ne.2 he
        clear he
        generalize l.getD k 0 = m at *
        go_wp2_with fail
        exact ⟨⟨k + 1, by omega, by go_num, HN.out⟩, by simp [intOf]; omega⟩
    · have HR := Lib.hid (show decide (n ∈ l) = false by
        rw [decide_eq_false_iff_not]
        intro hm
        obtain ⟨j, hj, e⟩ := List.mem_iff_getElem.1 hm
        exact HS.out j (by omega) (by rw [getD_in l 0 hj]; exact e))
      go_wp2_with fail
      go_ret
      exact ⟨ret_bool HR.out.symm, rfl⟩

theorem pick_next (a b : List Int) (s : Bool) {k : Nat} (h : k < a.length) : pickL (a.take (k + 1)) b s = pickL (a.take k) b s ++ (if (decide (a.getD k 0 ∈ b) == s) = true then [a.getD k 0] else []) := by
  unfold pickL
  rw [List.take_succ_eq_append_getElem h, List.filter_append, getD_in a 0 h, List.filter_cons, List.filter_nil]
theorem pick_take_len (a b : List Int) (s : Bool) (k : Nat) : (pickL (a.take k) b s).length ≤ k := by
  have h1 := pick_len (a.take k) b s
  rw [List.length_take] at h1
  omega
theorem pick_ref (A B : Option Addr) (a b : List Int) (c d : Nat) (s : Bool) (w : World) (hA : Zs w A a) (hB : Zs w B b) (hl : a.length ≤ 1000000) (hl2 : b.length ≤ 1000000) :
    Calls Try.prog 60 #[.slice A a.length c, .slice B b.length d, .bool s] w fun e w' => ∃ v, e = .returned v ∧ OwnZ w' w.heap.size v (pickL a b s) ∧ Below w.heap.size w w' := by
  have HA := Lib.hid hA
  have HB := Lib.hid hB
  clear hA hB
  go_enter Try.func60, Try.ntmps60
  go_wp2_with fail
  go_loopw [8, 7] (fun i u wr => ∃ k : Nat, k ≤ a.length ∧ i = .int .i64 (k : Int) ∧ OwnZ wr w.heap.size u (pickL (a.take k) b s) ∧ Below w.heap.size w wr) (fun i _ _ => a.length - (intOf i).toNat)
  case atStart => exact ⟨0, Nat.zero_le _, rfl, ownz_nil _ _, Below.refl _ _⟩
  case round =>
    obtain ⟨k, hk, rfl, ho, hbr⟩ := hrel
    have hsz := hbr.size
    by_cases hlt : k < a.length
    · obtain ⟨b1, o1, rfl, hb1, g0⟩ := HA.out.at_ hlt
      have c0 := (hbr.cell (p := ⟨b1, o1 + k, none⟩) hb1).trans g0
      have i2 : (k : Int) < (a.length : Int) := by omega
      have HN := Lib.hid (pick_next a b s hlt)
      have HT := Lib.hid (pick_take_len a b s k)
      have HH := Lib.hid (has_ref B b d (a.getD k 0) wr (HB.out.below hbr) (by omega))
      have HO := Lib.hid ho
      have HBR := Lib.hid hbr
      clear ho hbr g0
      generalize a.getD k 0 = n at *
      generalize decide (n ∈ b) = q at *
      by_cases hq : q = s
      · have HN' := Lib.hid (show pickL (a.take (k + 1)) b s = pickL (a.take k) b s ++ [n] by rw [HN.out, if_pos (beq_iff_eq.2 hq)])
        subst hq
        have j1 : (q == q) = true := by simp
        go_wp2_with (first
          | (go_at_call 34; refine HH.out.mono ?_; rintro e w2 ⟨rfl, rfl⟩)
          | (at_builtin; refine app_zs rfl (.tmp 23) (.tmp 28) rfl w.heap.size _ _ rfl (ownz_below HO.out (below_one _ _)) _ [n] 1 rfl (zs_cell (Row.new _ _ _)) (by have := HT.out; rw [List.length_singleton]; omega) (Nat.le_trans HBR.out.size (by simp)) ?_; intro v3 w3 hown3 hb3 _; rw [← HN'.out] at hown3; have HO3 := Lib.hid hown3; have HB3 := Lib.hid ((HBR.out.alloc HBR.out.size _).trans hb3); clear hown3 hb3))
        go_roundw
        case rel => exact ⟨k + 1, by omega, by go_num, HO3.out, HB3.out⟩
        case measure => simp [intOf]; omega
      · have HN' := Lib.hid (show pickL (a.take (k + 1)) b s = pickL (a.take k) b s by rw [HN.out, if_neg (fun h => hq (beq_iff_eq.1 h)), List.append_nil])
        have j1 : (q == s) = false := beq_eq_false_iff_ne.2 hq
        go_wp2_with (first
          | (go_at_call 34; refine HH.out.mono ?_; rintro e w2 ⟨rfl, rfl⟩))
        go_roundw
        case rel => exact ⟨k + 1, by omega, by go_num, by rw [HN'.out]; exact HO.out, HBR.out⟩
        case measure => simp [intOf]; omega
    · obtain rfl : k = a.length := by omega
      rw [List.take_of_length_le (Nat.le_refl _)] at ho
      go_wp2_with fail
      go_ret
      exact ⟨_, rfl, ho, hbr⟩
def refE (a b : List Int) : Int := if pchk a = 0 then pchk b else pchk a
theorem refused_ref (A B : Option Addr) (a b : List Int) (c d : Nat) (w : World) (hA : Zs w A a) (hB : Zs w B b) (hl : a.length ≤ 281474976710656) (hl2 : b.length ≤ 281474976710656) :
    Calls Try.prog 59 #[.slice A a.length c, .slice B b.length d] w fun e w' => e = .returned (.int .i64 (refE a b)) ∧ Below w.heap.size w w' := by
  have HC := Lib.hid (check_ref A a c w hA hl)
  have HD := Lib.hid (fun W (h : Below w.heap.size w W) => check_ref B b d W (hB.below h) hl2)
  have HE := Lib.hid (show refE a b = if pchk a = 0 then pchk b else pchk a from rfl)
  generalize refE a b = x at *
  generalize pchk a = p at *
  generalize pchk b = q at *
  clear hA hB
  by_cases hp : p = 0
  · subst hp
    have HX := Lib.hid (show q = x by rw [HE.out, if_pos rfl])
    go_enter Try.func59, Try.ntmps59
    go_wp2_with fail
    refine HC.out.mono ?_
    rintro e w1 ⟨rfl, hb1⟩
    go_wp2_with fail
    refine (HD.out _ hb1).mono ?_
    rintro e w2 ⟨rfl, hb2⟩
    go_wp2
    go_ret
    exact ⟨ret_int HX.out, below_then hb1 hb2⟩
  · have HX := Lib.hid (show p = x by rw [HE.out, if_neg hp])
    have j1 : (p != 0) = true := bne_iff_ne.2 hp
    have j2 : (p == 0) = false := beq_eq_false_iff_ne.2 hp
    clear hp
    go_enter Try.func59, Try.ntmps59
    go_wp2_with fail
    refine HC.out.mono ?_
    rintro e w1 ⟨rfl, hb1⟩
    go_wp2_with fail
    go_ret
    exact ⟨ret_int HX.out, hb1⟩
set_option maxHeartbeats 1000000 in
theorem kept_law (A : Option Addr) (l : List Int) (c G cap : Nat) (w : World) (hA : Zs w A l) (hG : Zs w (some ⟨G, 0, none⟩) (l ++ [77])) (hcap : l.length + 1 ≤ cap) (hmax : l.length ≤ 17592186043904) :
    Calls Try.prog 29 #[.slice (some ⟨G, 0, none⟩) l.length cap, .slice A l.length c] w fun e w' => e = .returned (.bool true) ∧ Below w.heap.size w w' := by
  have HS := Lib.hid (same_yes (some ⟨G, 0, none⟩) A l cap c w hG.front hA (by omega))
  have hGb : G < w.heap.size := by
    rcases hG with h | ⟨b, o, e, hb, _⟩
    · simp [intE] at h
    · injection e with e; injection e with e1 _ _; omega
  have g0 := hG.cell (i := l.length) (by simp)
  have g1 : w.cell? ⟨G, l.length, none⟩ = some (.int .i64 77) := by
    rw [Nat.zero_add, getD_in _ 0 (by simp)] at g0
    simpa using g0
  have HC := Lib.hid (fun W (h : Below w.heap.size w W) => (h.cell (p := ⟨G, l.length, none⟩) hGb).trans g1)
  have hwr : IntKind.i64.wrap ((l.length : Int) + 1) = (l.length : Int) + 1 := IntWalk.i64_in _ (by omega)
  have hz0 : (0 : Int) ≤ (l.length : Int) + 1 := by omega
  have hz1 : ((l.length : Int) + 1).toNat = l.length + 1 := by omega
  have hz2 : (l.length : Int) + 1 ≤ (cap : Int) := by omega
  clear hA hG g0 g1
  go_enter Try.func29, Try.ntmps29
  go_wp2_with (first
    | (go_at_call 28; refine HS.out.mono ?_; rintro e w1 ⟨rfl, hb1⟩; have c1 := HC.out _ hb1; have HB1 := Lib.hid hb1; clear hb1))
  go_ret
  exact ⟨rfl, HB1.out⟩
end Go.Proofs.Ytiepepikbophmaa
