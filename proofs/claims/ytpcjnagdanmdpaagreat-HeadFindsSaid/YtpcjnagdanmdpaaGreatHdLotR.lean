/- In one text, written by lotify.py: ReEndsRef, MtRef1, MtRef2. -/
import Derived.Test.YtpcjnagdanmdpaaGreatHdLotRP
import Derived.Test.YtpcjnagdanmdpaaGreatReChecksLaw
import Derived.Test.YtpcjnagdanmdpaaGreatHdLotMJ
namespace Go.Proofs.YtpcjnagdanmdpaaGreat
open Go.RowKit Go.Maps
set_option linter.unusedVariables false
theorem alts_at : ∀ {us : List (List UInt8)} {ls : List Re}, AltsOf us ls → us.length = ls.length ∧ ∀ k, k < us.length → ∃ rs, AltT (us.getD k []) rs ∧ ls[k]? = some (.row rs) := by
  intro us ls h
  induction h with
  | one u rs h =>
    refine ⟨rfl, fun k hk => ?_⟩
    obtain rfl : k = 0 := by simp at hk; omega
    exact ⟨rs, h, rfl⟩
  | more u rs us ls h h2 ih =>
    refine ⟨by simp [ih.1], fun k hk => ?_⟩
    cases k with
    | zero => exact ⟨rs, h, rfl⟩
    | succ k =>
      obtain ⟨rs', h3, h4⟩ := ih.2 k (by simpa using hk)
      exact ⟨rs', h3, h4⟩
theorem alt_take {ls : List Re} {k : Nat} {r : Re} (h : ls[k]? = some r) (w : List UInt8) : LAlt (ls.take (k + 1)) w ↔ LAlt (ls.take k) w ∨ L r w := by
  rw [List.take_add_one, h, L_app]
  simp only [Option.toList_some, LAlt, or_false]
def EnRel (w0 : World) (s : List UInt8) (ls : List Re) (l : List Nat) (v i : Value) (wr : World) : Prop := ∃ (k : Nat) (A : Option Addr) (o : List Nat) (c : Nat), k ≤ ls.length ∧ i = .int .i64 (k : Int) ∧ v = .slice A o.length c ∧ o.length ≤ c ∧ Pls wr A o ∧ IsEnds (LAlt (ls.take k)) s l o ∧ Below w0.heap.size w0 wr
theorem strs_at {w : World} {A : Option Addr} {us : List (List UInt8)} (h : At w A (us.flatMap strE)) {i : Nat} (hi : i < us.length) :
    ∃ b o, A = some ⟨b, o, none⟩ ∧ b < w.heap.size ∧ w.cell? ⟨b, o + i, none⟩ = some (.string (txt (us.getD i []))) := by
  have hlen := flat_len strE 1 strE_len us
  rcases h with h | ⟨b, o, rfl, hb, hc⟩
  · rw [h] at hlen; simp at hlen; omega
  · refine ⟨b, o, rfl, hb, ?_⟩
    have := hc (i * 1 + 0) _ (flat_get strE 1 strE_len us i _ 0 (getD_some us [] hi) (by omega))
    rw [Nat.mul_one] at this
    exact this
theorem res_size : ∀ (m : Nat) {x : List UInt8} {us : List (List UInt8)}, x.length ≤ m → Res [] x (some us) → ∀ u ∈ us, u.length ≤ x.length := by
  intro m
  induction m with
  | zero =>
    intro x us hm h
    obtain rfl : x = [] := List.eq_nil_of_length_eq_zero (by omega)
    have := res_nil h
    simp only [Option.some.injEq] at this
    rw [this]
    intro u hu
    simp at hu
    rw [hu]
    simp
  | succ m ih =>
    intro x us hm h u hu
    obtain ⟨u1, us', rs, n, y, d, h1, h2, h3, h4⟩ := res_first h us rfl
    rw [List.nil_append] at h1
    rw [h1] at hu
    have hxl : x.length = u1.length + y.length := by rw [h2, List.length_append]
    rcases h4 with ⟨rfl, rfl⟩ | ⟨t, rfl, hr⟩
    · simp at hu; rw [hu]; omega
    · rcases List.mem_cons.1 hu with rfl | hu
      · omega
      · have := ih (x := t) (by rw [List.length_cons] at hxl; omega) hr u hu
        rw [List.length_cons] at hxl
        omega
set_option maxRecDepth 100000 in
set_option maxHeartbeats 4000000 in
theorem ends_ref (s p : ByteArray) (hs : s.size ≤ 1000) (hp : p.size ≤ 1000) (hq : ∀ q : ByteArray, q.size ≤ p.size → AltAt s q) : EndsAt s p := by
  intro ls hls A l c w hA hc hl hx
  obtain ⟨n, d, hpm⟩ := hls
  obtain ⟨r, hres⟩ := res_all _ (strL p) [] (Nat.le_refl _)
  have hsome := (res_right hres).1 ⟨n, ls, d, hpm⟩
  obtain ⟨us, rfl⟩ := Option.isSome_iff_exists.1 hsome
  obtain ⟨ls2, hP2, hAl⟩ := res_alts _ (Nat.le_refl _) hres
  obtain rfl := pat_one_of ⟨n, d, hpm⟩ hP2
  obtain ⟨hlen, hat⟩ := alts_at hAl
  have husz := res_size _ (Nat.le_refl _) hres
  have HC := Lib.hid (show Calls Tryz.prog 119 #[.string p] w (fun e w' => ∃ P cc, e = .returned (.tuple #[.slice P us.length cc, .bool true]) ∧ us.length ≤ cc ∧ At w' P (us.flatMap strE) ∧ Below w.heap.size w w') from (cut_ref p hp (atom_all _ p (Nat.le_refl _) hp) _ hres w).mono fun e w' h => by
    obtain ⟨v, h1, h2, h3⟩ := h
    obtain ⟨P, cc, h4, h5, h6, _⟩ := ownt_slice h2
    exact ⟨P, cc, by rw [h1, h4], h5, h6, h3⟩)
  have hul : us.length ≤ 1002 := by
    have h1 : ∀ (m : Nat) {x : List UInt8} {us : List (List UInt8)}, x.length ≤ m → Res [] x (some us) → us.length ≤ x.length + 1 := by
      intro m
      induction m with
      | zero =>
        intro x us hm h
        obtain rfl : x = [] := List.eq_nil_of_length_eq_zero (by omega)
        have := res_nil h
        simp only [Option.some.injEq] at this
        rw [this]
        simp
      | succ m ih =>
        intro x us hm h
        obtain ⟨u1, us', rs, n, y, d, h1, h2, h3, h4⟩ := res_first h us rfl
        have hxl : x.length = u1.length + y.length := by rw [h2, List.length_append]
        rcases h4 with ⟨rfl, rfl⟩ | ⟨t, rfl, hr⟩
        · rw [h1]; simp
        · rw [List.length_cons] at hxl
          have := ih (x := t) (by omega) hr
          rw [h1, List.length_cons]
          omega
    have := h1 _ (Nat.le_refl _) hres
    rw [strL_length] at this
    omega
  have HSL := Lib.hid (strL_length s)
  have HA := Lib.hid hA
  have HRL := Lib.hid hl
  have HXL := Lib.hid hx
  have HEA := Lib.hid (fun (k : Nat) (hk : k < us.length) => (show ∃ rs, ls[k]? = some (.row rs) ∧ ∀ W : World, Below w.heap.size w W → Calls Tryz.prog 122 #[.string (txt (us.getD k [])), .string s, .slice A l.length c] W (PlsTold W (IsEnds (LRow rs) (strL s) l)) from by
    obtain ⟨rs, h1, h2⟩ := hat k hk
    have hmem : us.getD k [] ∈ us := by rw [List.getD_eq_getElem?_getD, List.getElem?_eq_getElem hk]; exact List.getElem_mem _
    have hz := husz _ hmem
    rw [strL_length] at hz
    exact ⟨rs, h2, fun W hb => hq (txt (us.getD k [])) (by rw [← strL_length, strL_txt]; exact hz) rs (by rw [strL_txt]; exact h1) A l c W (HA.out.below hb) hc HRL.out HXL.out⟩))
  have HLE := Lib.hid hlen
  clear hpm hres hsome hP2 hAl hat husz hA hl hx hq hlen
  go_enter Tryz.func110, Tryz.ntmps110
  go_wp2_with (go_at_call 119; refine HC.out.mono ?_; rintro e w2 ⟨P, cc, rfl, hcc, hAt, hb2⟩; have HAt := Lib.hid hAt; have HB2 := Lib.hid hb2; clear hAt hb2)
  go_loopw [9, 10] (fun v i wr => EnRel w2 (strL s) ls l v i wr) (fun _ i _ => us.length - (intOf i).toNat)
  case atStart => exact ⟨0, none, [], 0, Nat.zero_le _, rfl, rfl, Nat.le_refl _, Pls.nil _ _, (ends_none (strL s) l).congr fun w => by simp [LAlt], Below.refl _ _⟩
  case round =>
    obtain ⟨k, A1, o, c1, hk, rfl, rfl, hc1, hP1, hE1, hbr⟩ := hrel
    have HBr := Lib.hid hbr
    have HBw := Lib.hid (HB2.out.trans (hbr.mono HB2.out.size))
    have HP1 := Lib.hid hP1
    have HE1 := Lib.hid hE1
    clear hP1 hE1
    rw [← HLE.out] at hk
    by_cases hlt : k < us.length
    · obtain ⟨b, o1, rfl, hb, g0⟩ := strs_at HAt.out hlt
      have e0 : wr.cell? ⟨b, o1 + k, none⟩ = some (.string (txt (us.getD k []))) := (hbr.cell (p := ⟨b, o1 + k, none⟩) hb).trans g0
      obtain ⟨rs, hrs, hcall⟩ := HEA.out k hlt
      have HCL := Lib.hid (hcall wr HBw.out)
      have HTK := Lib.hid (fun (x : List UInt8) => show (LAlt (ls.take k) x ∨ LRow rs x) ↔ LAlt (ls.take (k + 1)) x from by rw [alt_take hrs x]; simp only [L])
      generalize us.getD k [] = u at e0 HCL
      have i1 : (0 : Int) ≤ (k : Int) := by omega
      have i2 : (k : Int) < (us.length : Int) := by omega
      clear hbr g0 hrs hcall
      go_wp2_with (first
        | (go_at_call 122; refine HCL.out.mono ?_; rintro e w3 ⟨A3, l3, c3, rfl, hc3, hP3, hE3, hb3⟩
           have HB3 := Lib.hid (HBr.out.trans (hb3.mono HBr.out.size))
           have HE3 := Lib.hid hE3
           have h3l := hE3.le
           have h1l := HE1.out.le
           rw [HSL.out] at h3l h1l
           have HMG := Lib.hid (merge_ref A1 A3 o l3 c1 c3 w3 (HP1.out.below hb3) hP3 hc1 hc3 HE1.out.1 hE3.1 (by have := rise_len HE1.out.1 h1l; omega) (by have := rise_len hE3.1 h3l; omega))
           clear hP3 hE3 hb3 h3l h1l)
        | (go_at_call 121; refine HMG.out.mono ?_; rintro e w4 ⟨A4, mo, c4, rfl, hc4, hP4, hJ4, hb4⟩
           have HB4 := Lib.hid (HB3.out.trans (hb4.mono HB3.out.size))
           have HP4 := Lib.hid hP4
           have HE4 := Lib.hid ((ends_or HE1.out HE3.out hJ4).congr HTK.out)
           clear hP4 hJ4 hb4))
      go_roundw
      case rel => exact ⟨k + 1, A4, mo, c4, by rw [← HLE.out]; omega, by go_num, rfl, hc4, HP4.out, HE4.out, HB4.out⟩
      case measure => simp [intOf]; omega
    · obtain rfl : k = us.length := by omega
      have HEN := Lib.hid (show IsEnds (LAlt ls) (strL s) l o by have := HE1.out; rw [HLE.out, List.take_of_length_le (Nat.le_refl _)] at this; exact this)
      clear hbr
      go_wp2_with fail
      go_ret
      exact ⟨A1, o, c1, rfl, hc1, HP1.out, HEN.out, HBw.out⟩
theorem ends_all (s : ByteArray) (hs : s.size ≤ 1000) : ∀ (m : Nat) (p : ByteArray), p.size ≤ m → p.size ≤ 1000 → EndsAt s p := by
  intro m
  induction m with
  | zero =>
    intro p h h2
    exact ends_ref s p hs h2 fun q hq => alternative_ref s q hs (by omega) fun a ha => piece_ref s a hs (one_ref s a hs (by omega) fun e he => by omega)
  | succ m ih =>
    intro p h h2
    exact ends_ref s p hs h2 fun q hq => alternative_ref s q hs (by omega) fun a ha => piece_ref s a hs (one_ref s a hs (by omega) fun e he => ih e (by omega) (by omega))
theorem ends_whole {ls : List Re} {s : List UInt8} {out : List Nat} (h : IsEnds (LAlt ls) s [0] out) : s.length ∈ out ↔ LAlt ls s := by
  rw [h.2]
  constructor
  · rintro ⟨i, hi, hs⟩
    simp at hi
    subst hi
    have := hs.2.2
    unfold seg at this
    rw [List.take_of_length_le (Nat.le_refl _), List.drop_zero] at this
    exact this
  · intro hw
    refine ⟨0, by simp, Nat.zero_le _, Nat.le_refl _, ?_⟩
    unfold seg
    rw [List.take_of_length_le (Nat.le_refl _), List.drop_zero]
    exact hw
set_option maxHeartbeats 2000000 in
/-- The document's answer and the program's hang on the same fuel. -/
theorem rfits_ref (p s : ByteArray) : ∃ n : Nat, 260 ≤ n ∧ ∀ W : World, Calls Tryz.prog 90 #[.string p, .string s] W fun e w' => e = .returned (.tuple #[.bool (fitV n (strL p) (strL s)).1, .int .i64 (fitV n (strL p) (strL s)).2]) ∧ Below W.heap.size W w' := by
  obtain ⟨n, hn, hck⟩ := rchk_ref p
  refine ⟨n, hn, fun w => ?_⟩
  have HC := Lib.hid hck
  have hsl := strL_length s
  have hpl := strL_length p
  by_cases h0 : (parseM n (strL p)).1 = 0
  · rw [h0] at HC
    obtain ⟨ls, d, hpm, _, hp64, heq⟩ := parse_right h0
    by_cases h64 : 64 < s.size
    · have HV := Lib.hid (show fitV n (strL p) (strL s) = (false, 3) by unfold fitV; rw [heq]; simp only [if_true]; rw [if_pos (by omega)])
      rw [HV.out]
      clear hck hsl hpl h0 hpm hp64 heq
      go_enter Tryz.func90, Tryz.ntmps90
      go_wp2_with (go_at_call 88; refine (HC.out _).mono ?_; rintro e w2 ⟨rfl, hb2⟩; have HB2 := Lib.hid hb2; clear hb2)
      go_ret2
      exact ⟨rfl, HB2.out⟩
    · obtain ⟨F, hF⟩ : ∃ F, fitsM (.alt ls) (strL s) = F := ⟨_, rfl⟩
      have HV := Lib.hid (show fitV n (strL p) (strL s) = (F, 0) by unfold fitV; rw [heq]; simp only [if_true]; rw [if_neg (by omega), hF])
      have HFI := Lib.hid (show F = true ↔ LAlt ls (strL s) by rw [← hF]; exact fits_iff hpm (strL s))
      have HE := Lib.hid (fun (W : World) g (h : Row W g 3 #[.int .i64 0]) => ends_all s (by omega) _ p (Nat.le_refl _) (by omega) ls ⟨n, d, hpm⟩ (some ⟨g, 0, none⟩) [0] 1 W (pls_cell (n := 0) h) (by simp) (List.pairwise_singleton _ _) (by simp))
      have HE' := Lib.hid (fun (W : World) g (h : Row W g 3 #[.int .i64 0]) => show Calls Tryz.prog 110 #[.string p, .string s, .slice (some ⟨g, 0, none⟩) 1 1] W (PlsTold W (IsEnds (LAlt ls) (strL s) [0])) from HE.out W g h)
      have HSL := Lib.hid hsl
      rw [HV.out]
      clear hck hsl hpl h0 hpm hp64 heq HE hF
      go_enter Tryz.func90, Tryz.ntmps90
      go_upto_region 7 with (first
        | (go_at_call 88; refine (HC.out _).mono ?_; rintro e w2 ⟨rfl, hb2⟩; have HB2 := Lib.hid hb2; clear hb2)
        | (go_at_call 110; refine (HE'.out _ _ (Row.new _ _ _)).mono ?_; rintro e w3 ⟨A3, l3, c3, rfl, hc3, hP3, hE3, hb3⟩
           have HB3 := Lib.hid (below_then HB2.out (below_then (below_one _ _) hb3))
           have hle := hE3.le
           have hme := ends_whole hE3
           have hri := hE3.1
           clear hE3 hb3))
      rw [HSL.out] at hle hme
      by_cases hz : l3.length = 0
      · have HFF := Lib.hid (show F = false by
          rw [Bool.eq_false_iff, Ne, HFI.out, ← hme, List.eq_nil_of_length_eq_zero hz]; simp)
        have z0 : ¬ (0 : Int) < (l3.length : Int) := by omega
        clear hz hle hme hri hP3
        go_wp2_with fail
        go_ret2
        exact ⟨by rw [HFF.out]; rfl, HB3.out⟩
      · obtain ⟨b, o, rfl, hb, g0⟩ := hP3.at_ (i := l3.length - 1) (by omega)
        have hgd : l3.getD (l3.length - 1) 0 = l3[l3.length - 1] := by rw [List.getD_eq_getElem?_getD, List.getElem?_eq_getElem (by omega)]; rfl
        have hlast : l3.getD (l3.length - 1) 0 = s.size ↔ LAlt ls (strL s) := by rw [hgd, ← hme]; exact last_end hri hle (by omega)
        clear hgd
        generalize l3.getD (l3.length - 1) 0 = last at g0 hlast
        have i1 : (1 : Int) ≤ (l3.length : Int) := by omega
        have HFF := Lib.hid (show F = ((last : Int) == (s.size : Int)) by
          rw [Bool.eq_iff_iff, HFI.out, ← hlast, beq_iff_eq]; omega)
        have z0 : (0 : Int) < (l3.length : Int) := by omega
        have z1 : 0 < l3.length := by omega
        have z2 : l3.length ≤ 1001 := by have := rise_len hri hle; omega
        clear hz hle hme hri hP3 hlast
        go_wp2_with fail
        go_ret2
        exact ⟨by rw [HFF.out]; rfl, HB3.out⟩
  · have HV := Lib.hid (show fitV n (strL p) (strL s) = (false, (parseM n (strL p)).1) by
      unfold fitV
      generalize parseM n (strL p) = q at h0
      obtain ⟨c, r⟩ := q
      simp only at h0 ⊢
      rw [if_neg h0])
    rw [HV.out]
    generalize (parseM n (strL p)).1 = ck at HC h0
    have z0 : (ck == 0) = false := beq_eq_false_iff_ne.2 h0
    have z1 : (ck != 0) = true := by rw [bne, z0]; rfl
    clear hck hsl hpl h0
    go_enter Tryz.func90, Tryz.ntmps90
    go_wp2_with (go_at_call 88; refine (HC.out _).mono ?_; rintro e w2 ⟨rfl, hb2⟩; have HB2 := Lib.hid hb2; clear hb2)
    go_ret2
    exact ⟨rfl, HB2.out⟩
end Go.Proofs.YtpcjnagdanmdpaaGreat

namespace Go.Proofs.YtpcjnagdanmdpaaGreat
open Go.RowKit
set_option linter.unusedVariables false
theorem mget_ref (A : Option Addr) (l : List Lbl) (c : Nat) (name : ByteArray) (w : World) (hA : Lbls w A l) (hl : l.length ≤ 100000000000000) :
    Calls Tryz.prog 89 #[.slice A l.length c, .string name] w fun e w' => e = .returned (.string (valOf l name)) ∧ w = w' := by
  have HA := Lib.hid hA
  clear hA
  go_enter Tryz.func89, Tryz.ntmps89
  go_wp2_with fail
  go_loop [5] (fun i => ∃ k : Nat, k ≤ l.length ∧ i = .int .i64 (k : Int) ∧ valOf (l.drop k) name = valOf l name) (fun i => l.length - (intOf i).toNat)
  case atStart => exact ⟨0, Nat.zero_le _, rfl, rfl⟩
  case round =>
    obtain ⟨k, hk, rfl, he⟩ := hrel
    by_cases hlt : k < l.length
    · obtain ⟨b, o, rfl, hb, g0, g1⟩ := HA.out.at_ hlt
      have i2 : (k : Int) < (l.length : Int) := by omega
      have hq := eqT (nmOf l k) name
      by_cases h : nmOf l k = name
      · have HE := Lib.hid ((val_eq hlt h).symm.trans he)
        rw [decide_eq_true h] at hq
        clear he h
        go_wp2_with fail
        go_ret
        exact ⟨ret_strv HE.out, rfl⟩
      · have HE := Lib.hid ((val_ne hlt h).symm.trans he)
        rw [decide_eq_false h] at hq
        clear he h
        go_wp2_with fail
        exact ⟨⟨k + 1, by omega, by go_num, HE.out⟩, by simp [intOf]; omega⟩
    · obtain rfl : k = l.length := by omega
      rw [List.drop_length] at he
      have HE := Lib.hid (show (⟨#[]⟩ : ByteArray) = valOf l name from he)
      clear he
      go_wp2_with fail
      go_ret
      exact ⟨ret_strv HE.out, rfl⟩
theorem rchk300 (p : ByteArray) (W : World) : Calls Tryz.prog 88 #[.string p] W fun e w' => e = .returned (.int .i64 (parseM 300 (strL p)).1) ∧ Below W.heap.size W w' := by
  obtain ⟨n, hn, h⟩ := rchk_ref p
  have := h W
  rw [parse_fuel hn (show 260 ≤ 300 by omega)] at this
  exact this
theorem rfits300 (p s : ByteArray) (W : World) : Calls Tryz.prog 90 #[.string p, .string s] W fun e w' => e = .returned (.tuple #[.bool (fitV 300 (strL p) (strL s)).1, .int .i64 (fitV 300 (strL p) (strL s)).2]) ∧ Below W.heap.size W w' := by
  obtain ⟨n, hn, h⟩ := rfits_ref p s
  have := h W
  rw [fit_fuel hn (show 260 ≤ 300 by omega)] at this
  exact this
set_option maxHeartbeats 2000000 in
theorem mchk_ref (k : Int) (n v : ByteArray) (hn : n.size ≤ 140737488351232) (w : World) : Calls Tryz.prog 65 #[.agg #[.int .i64 k, .string n, .string v]] w fun e w' => e = .returned (.int .i64 (mchk (k, n, v))) ∧ Below w.heap.size w w' := by
  have HN := Lib.hid (fun W => name_ref n W hn)
  have HB0 := Lib.hid (below_one w (.cells #[.int .i64 k, .string n, .string v] 107))
  cases hk : kindB k with
  | false =>
    rw [mchk_kind hk]
    have hk2 : k < 1 ∨ (¬ k < 1 ∧ 4 < k) := by
      unfold kindB at hk
      rw [Bool.and_eq_false_iff, decide_eq_false_iff_not, decide_eq_false_iff_not] at hk
      omega
    clear hk
    rcases hk2 with h1 | ⟨h1, h2⟩
    all_goals
      go_enter Tryz.func65, Tryz.ntmps65
      go_wp2_with fail
      go_ret
      exact ⟨rfl, HB0.out⟩
  | true =>
    have h1 : ¬ k < 1 ∧ ¬ 4 < k := by rcases kind_cases hk with rfl | rfl | rfl | rfl <;> omega
    obtain ⟨k1, k2⟩ := h1
    cases hnm : nameB (strL n) with
    | false =>
      rw [mchk_name hk hnm]
      rw [hnm] at HN
      clear hk hnm
      go_enter Tryz.func65, Tryz.ntmps65
      go_wp2_with (go_at_call 36; refine (HN.out _).mono ?_; rintro e w1 ⟨rfl, rfl⟩)
      go_ret
      exact ⟨rfl, HB0.out⟩
    | true =>
      rw [hnm] at HN
      by_cases hv : 64 < v.size
      · rw [mchk_big hk hnm hv]
        clear hk hnm
        go_enter Tryz.func65, Tryz.ntmps65
        go_wp2_with (go_at_call 36; refine (HN.out _).mono ?_; rintro e w1 ⟨rfl, rfl⟩)
        go_ret
        exact ⟨rfl, HB0.out⟩
      · by_cases h2 : k ≤ 2
        · rw [mchk_eq hk hnm hv h2]
          have k3 : ¬ 2 < k := by omega
          clear hk hnm
          go_enter Tryz.func65, Tryz.ntmps65
          go_wp2_with (go_at_call 36; refine (HN.out _).mono ?_; rintro e w1 ⟨rfl, rfl⟩)
          go_ret
          exact ⟨rfl, HB0.out⟩
        · rw [mchk_re hk hnm hv h2]
          have HC := Lib.hid (fun W => rchk300 v W)
          have k3 : 2 < k := by omega
          clear hk hnm
          go_enter Tryz.func65, Tryz.ntmps65
          go_wp2_with (first
            | (go_at_call 36; refine (HN.out _).mono ?_; rintro e w1 ⟨rfl, rfl⟩)
            | (go_at_call 88; refine (HC.out _).mono ?_; rintro e w2 ⟨rfl, hb2⟩; have HB2 := Lib.hid (below_then HB0.out hb2); clear hb2))
          go_ret
          exact ⟨rfl, HB2.out⟩
theorem kind_of_ok {k : Int} {n v : ByteArray} (h : mchk (k, n, v) = 0) : k = 1 ∨ k = 2 ∨ k = 3 ∨ k = 4 := by
  cases hk : kindB k with
  | false => rw [mchk_kind hk] at h; cases h
  | true => exact kind_cases hk
set_option maxHeartbeats 2000000 in
theorem mfits_ref (k : Int) (n v : ByteArray) (hn : n.size ≤ 140737488351232) (A : Option Addr) (l : List Lbl) (c : Nat) (w : World) (hA : Lbls w A l) (hl : l.length ≤ 100000000000000) :
    Calls Tryz.prog 66 #[.agg #[.int .i64 k, .string n, .string v], .slice A l.length c] w fun e w' => e = .returned (.bool (mfits (k, n, v) l)) ∧ Below w.heap.size w w' := by
  have hb0 := below_one w (.cells #[.int .i64 k, .string n, .string v] 107)
  have HB0 := Lib.hid hb0
  have R1 := Row.new w 107 #[.int .i64 k, .string n, .string v]
  have HR := Lib.hid R1
  have HC := Lib.hid (fun W => mchk_ref k n v hn W)
  have HG := Lib.hid (fun W (h : Lbls W A l) => mget_ref A l c n W h hl)
  have HF := Lib.hid (fun W => rfits300 v (valOf l n) W)
  have HA := Lib.hid hA
  clear R1 hA hb0
  by_cases h0 : mchk (k, n, v) = 0
  · have hk := kind_of_ok h0
    have HM := Lib.hid (show mfits (k, n, v) l = mtake (k, n, v) (valOf l n) by unfold mfits; rw [decide_eq_true h0]; rfl)
    rw [HM.out]
    rw [h0] at HC
    have hq := eqT (valOf l n) v
    have hm1 : mtake (1, n, v) (valOf l n) = decide (valOf l n = v) := rfl
    have hm2 : mtake (2, n, v) (valOf l n) = !decide (valOf l n = v) := rfl
    have hm3 : mtake (3, n, v) (valOf l n) = (fitV 300 (strL v) (strL (valOf l n))).1 := rfl
    have hm4 : mtake (4, n, v) (valOf l n) = !(fitV 300 (strL v) (strL (valOf l n))).1 := rfl
    generalize fitV 300 (strL v) (strL (valOf l n)) = q at HF hm3 hm4
    obtain ⟨b, c0⟩ := q
    generalize decide (valOf l n = v) = d at hq hm1 hm2
    rcases hk with rfl | rfl | rfl | rfl
    · rw [hm1]
      generalize valOf l n = x at HG HF hq
      clear hm1 hm2 hm3 hm4 h0 HM
      cases d
      all_goals
        go_enter Tryz.func66, Tryz.ntmps66
        go_wp2_with (first
          | (go_at_call 65; refine (HC.out _).mono ?_; rintro e w1 ⟨rfl, hb1⟩; have HB1 := Lib.hid (below_then HB0.out hb1); have r1 := HR.out.below hb1 HR.out.lt; have r10 := r1.cell 0; have r11 := r1.cell 1; have r12 := r1.cell 2; clear hb1 r1)
          | (go_at_call 89; refine (HG.out _ (HA.out.below HB1.out)).mono ?_; rintro e w2 ⟨rfl, rfl⟩))
        go_ret
        exact ⟨rfl, HB1.out⟩
    · rw [hm2]
      generalize valOf l n = x at HG HF hq
      clear hm1 hm2 hm3 hm4 h0 HM
      cases d
      all_goals
        go_enter Tryz.func66, Tryz.ntmps66
        go_wp2_with (first
          | (go_at_call 65; refine (HC.out _).mono ?_; rintro e w1 ⟨rfl, hb1⟩; have HB1 := Lib.hid (below_then HB0.out hb1); have r1 := HR.out.below hb1 HR.out.lt; have r10 := r1.cell 0; have r11 := r1.cell 1; have r12 := r1.cell 2; clear hb1 r1)
          | (go_at_call 89; refine (HG.out _ (HA.out.below HB1.out)).mono ?_; rintro e w2 ⟨rfl, rfl⟩))
        go_ret
        exact ⟨rfl, HB1.out⟩
    · rw [hm3]
      generalize valOf l n = x at HG HF hq
      clear hm1 hm2 hm3 hm4 h0 HM hq
      cases b
      all_goals
        go_enter Tryz.func66, Tryz.ntmps66
        go_wp2_with (first
          | (go_at_call 65; refine (HC.out _).mono ?_; rintro e w1 ⟨rfl, hb1⟩; have HB1 := Lib.hid (below_then HB0.out hb1); have r1 := HR.out.below hb1 HR.out.lt; have HR1 := Lib.hid r1; have r10 := r1.cell 0; have r11 := r1.cell 1; have r12 := r1.cell 2; clear hb1 r1)
          | (go_at_call 89; refine (HG.out _ (HA.out.below HB1.out)).mono ?_; rintro e w2 ⟨rfl, rfl⟩)
          | (go_at_call 90; refine (HF.out _).mono ?_; rintro e w3 ⟨rfl, hb3⟩; have HB3 := Lib.hid (HB1.out.trans (hb3.mono HB1.out.size)); have r3 := HR1.out.below hb3 HR1.out.lt; have r30 := r3.cell 0; have r31 := r3.cell 1; have r32 := r3.cell 2; clear hb3 r3))
        go_ret
        exact ⟨rfl, HB3.out⟩
    · rw [hm4]
      generalize valOf l n = x at HG HF hq
      clear hm1 hm2 hm3 hm4 h0 HM hq
      cases b
      all_goals
        go_enter Tryz.func66, Tryz.ntmps66
        go_wp2_with (first
          | (go_at_call 65; refine (HC.out _).mono ?_; rintro e w1 ⟨rfl, hb1⟩; have HB1 := Lib.hid (below_then HB0.out hb1); have r1 := HR.out.below hb1 HR.out.lt; have HR1 := Lib.hid r1; have r10 := r1.cell 0; have r11 := r1.cell 1; have r12 := r1.cell 2; clear hb1 r1)
          | (go_at_call 89; refine (HG.out _ (HA.out.below HB1.out)).mono ?_; rintro e w2 ⟨rfl, rfl⟩)
          | (go_at_call 90; refine (HF.out _).mono ?_; rintro e w3 ⟨rfl, hb3⟩; have HB3 := Lib.hid (HB1.out.trans (hb3.mono HB1.out.size)); have r3 := HR1.out.below hb3 HR1.out.lt; have r30 := r3.cell 0; have r31 := r3.cell 1; have r32 := r3.cell 2; clear hb3 r3))
        go_ret
        exact ⟨rfl, HB3.out⟩
  · rw [fits_no h0]
    generalize mchk (k, n, v) = ck at HC h0
    have z0 : (ck == 0) = false := beq_eq_false_iff_ne.2 h0
    have z1 : (ck != 0) = true := by rw [bne, z0]; rfl
    clear h0
    go_enter Tryz.func66, Tryz.ntmps66
    go_wp2_with (go_at_call 65; refine (HC.out _).mono ?_; rintro e w1 ⟨rfl, hb1⟩; have HB1 := Lib.hid (below_then HB0.out hb1); clear hb1)
    go_ret
    exact ⟨rfl, HB1.out⟩
end Go.Proofs.YtpcjnagdanmdpaaGreat

namespace Go.Proofs.YtpcjnagdanmdpaaGreat
open Go.RowKit Go.Maps
set_option linter.unusedVariables false
def MNames (ms : List Mt) : Prop := ∀ i, i < ms.length → (mnOf ms i).size ≤ 140737488351232
theorem mnames_of {ms : List Mt} (h : MFits ms) : MNames ms := fun i hi => (h i hi).2.1
theorem all_ref (V : Option Addr) (ms : List Mt) (d : Nat) (A : Option Addr) (l : List Lbl) (c : Nat) (w : World) (hV : Mts w V ms) (hm : ms.length ≤ 100000000000000) (hn : MNames ms) (hA : Lbls w A l) (hl : l.length ≤ 100000000000000) :
    Calls Tryz.prog 33 #[.slice V ms.length d, .slice A l.length c] w fun e w' => e = .returned (.bool (mall ms l)) ∧ Below w.heap.size w w' := by
  have HV := Lib.hid hV
  have HA := Lib.hid hA
  have HNM := Lib.hid hn
  clear hV hA hn
  go_enter Tryz.func33, Tryz.ntmps33
  go_wp2_with fail
  go_loopw [5] (fun i wr => ∃ k : Nat, k ≤ ms.length ∧ i = .int .i64 (k : Int) ∧ mall (ms.drop k) l = mall ms l ∧ Below w.heap.size w wr) (fun i _ => ms.length - (intOf i).toNat)
  case atStart => exact ⟨0, Nat.zero_le _, rfl, rfl, Below.refl _ _⟩
  case round =>
    obtain ⟨k, hk, rfl, he, hbr⟩ := hrel
    by_cases hlt : k < ms.length
    · obtain ⟨b, o, rfl, hb, g0, g1, g2⟩ := HV.out.at_ hlt
      have c0 := (hbr.cell (p := ⟨b, o + k * 3, none⟩) hb).trans g0
      have c1 := (hbr.cell (p := ⟨b, o + k * 3 + 1, none⟩) hb).trans g1
      have c2 := (hbr.cell (p := ⟨b, o + k * 3 + 2, none⟩) hb).trans g2
      have i1 : (0 : Int) ≤ (k : Int) := by omega
      have i2 : (k : Int) < (ms.length : Int) := by omega
      have HC := Lib.hid (mfits_ref (kdOf ms k) (mnOf ms k) (mvOf ms k) (HNM.out k hlt) A l c wr (HA.out.below hbr) hl)
      rw [List.drop_eq_getElem_cons hlt, show ms[k] = (kdOf ms k, mnOf ms k, mvOf ms k) by rw [mt_of]; simp [List.getD, List.getElem?_eq_getElem hlt]] at he
      have he2 : (mfits (kdOf ms k, mnOf ms k, mvOf ms k) l && mall (ms.drop (k + 1)) l) = mall ms l := he
      have HB := Lib.hid hbr
      clear g0 g1 g2 hbr he
      generalize mfits (kdOf ms k, mnOf ms k, mvOf ms k) l = y at HC he2
      generalize kdOf ms k = kd at *
      generalize mnOf ms k = mn at *
      generalize mvOf ms k = mv at *
      cases y
      · have HE := Lib.hid (show false = mall ms l from he2)
        clear he2
        go_wp2_with (go_at_call 66; refine HC.out.mono ?_; rintro e w2 ⟨rfl, hb2⟩; have HB2 := Lib.hid (HB.out.trans (hb2.mono HB.out.size)); clear hb2)
        go_ret
        exact ⟨by rw [← HE.out]; rfl, HB2.out⟩
      · have HE := Lib.hid (show mall (ms.drop (k + 1)) l = mall ms l from he2)
        clear he2
        go_wp2_with (go_at_call 66; refine HC.out.mono ?_; rintro e w2 ⟨rfl, hb2⟩; have HB2 := Lib.hid (HB.out.trans (hb2.mono HB.out.size)); clear hb2)
        go_roundw
        case rel => exact ⟨k + 1, by omega, by go_num, HE.out, HB2.out⟩
        case measure => simp [intOf]; omega
    · obtain rfl : k = ms.length := by omega
      have HE := Lib.hid (show true = mall ms l by rw [← he, List.drop_length]; rfl)
      have HB := Lib.hid hbr
      clear he hbr
      go_wp2_with fail
      go_ret
      exact ⟨by rw [← HE.out]; rfl, HB.out⟩
set_option maxHeartbeats 1000000 in
theorem chkall_ref (V : Option Addr) (ms : List Mt) (d : Nat) (w : World) (hV : Mts w V ms) (hm : ms.length ≤ 100000000000000) (hn : MNames ms) :
    Calls Tryz.prog 32 #[.slice V ms.length d] w fun e w' => e = .returned (.int .i64 (mchkAll ms)) ∧ Below w.heap.size w w' := by
  by_cases h8 : 8 < ms.length
  · rw [show mchkAll ms = 3 by unfold mchkAll; rw [if_pos h8]]
    go_enter Tryz.func32, Tryz.ntmps32
    go_wp2_with fail
    go_ret
    exact ⟨rfl, Below.refl _ _⟩
  have HV := Lib.hid hV
  have HNM := Lib.hid hn
  have HQ := Lib.hid (show mchkAll ms = if merr ms ≠ 0 then merr ms else if mall ms [] = true then 2 else 0 by unfold mchkAll; rw [if_neg h8])
  clear hV hn
  go_enter Tryz.func32, Tryz.ntmps32
  go_wp2_with fail
  go_loopw [3] (fun i wr => ∃ k : Nat, k ≤ ms.length ∧ i = .int .i64 (k : Int) ∧ merr (ms.drop k) = merr ms ∧ Below w.heap.size w wr) (fun i _ => ms.length - (intOf i).toNat)
  case atStart => exact ⟨0, Nat.zero_le _, rfl, rfl, Below.refl _ _⟩
  case round =>
    obtain ⟨k, hk, rfl, he, hbr⟩ := hrel
    by_cases hlt : k < ms.length
    · obtain ⟨b, o, rfl, hb, g0, g1, g2⟩ := HV.out.at_ hlt
      have c0 := (hbr.cell (p := ⟨b, o + k * 3, none⟩) hb).trans g0
      have c1 := (hbr.cell (p := ⟨b, o + k * 3 + 1, none⟩) hb).trans g1
      have c2 := (hbr.cell (p := ⟨b, o + k * 3 + 2, none⟩) hb).trans g2
      have i1 : (0 : Int) ≤ (k : Int) := by omega
      have i2 : (k : Int) < (ms.length : Int) := by omega
      rw [merr_at hlt] at he
      have HC := Lib.hid (mchk_ref (kdOf ms k) (mnOf ms k) (mvOf ms k) (HNM.out k hlt) wr)
      have HB := Lib.hid hbr
      clear g0 g1 g2 hbr
      generalize mchk (kdOf ms k, mnOf ms k, mvOf ms k) = ck at he HC
      generalize kdOf ms k = kd at *
      generalize mnOf ms k = mn at *
      generalize mvOf ms k = mv at *
      by_cases h0 : ck = 0
      · subst h0
        rw [if_pos rfl] at he
        have HE := Lib.hid he
        clear he
        go_wp2_with (go_at_call 65; refine HC.out.mono ?_; rintro e w2 ⟨rfl, hb2⟩; have HB2 := Lib.hid (HB.out.trans (hb2.mono HB.out.size)); clear hb2)
        go_roundw
        case rel => exact ⟨k + 1, by omega, by go_num, HE.out, HB2.out⟩
        case measure => simp [intOf]; omega
      · rw [if_neg h0] at he
        have HE := Lib.hid (show ck = mchkAll ms by rw [HQ.out, ← he, if_pos h0])
        have z0 : (ck == 0) = false := beq_eq_false_iff_ne.2 h0
        have z1 : (ck != 0) = true := by rw [bne, z0]; rfl
        clear he h0
        go_wp2_with (go_at_call 65; refine HC.out.mono ?_; rintro e w2 ⟨rfl, hb2⟩; have HB2 := Lib.hid (HB.out.trans (hb2.mono HB.out.size)); clear hb2)
        go_ret
        exact ⟨ret_i64 HE.out, HB2.out⟩
    · obtain rfl : k = ms.length := by omega
      have hz : merr ms = 0 := by rw [← he, List.drop_length]; rfl
      have HA := Lib.hid (show Calls Tryz.prog 33 #[.slice V ms.length d, .slice none 0 0] wr fun e w' => e = .returned (.bool (mall ms [])) ∧ Below wr.heap.size wr w' from all_ref V ms d none [] 0 wr (HV.out.below hbr) hm HNM.out (Lbls.nil _ _) (by simp))
      have HE := Lib.hid (show (if mall ms [] = true then (2 : Int) else 0) = mchkAll ms by rw [HQ.out, hz, if_neg (show ¬ (0 : Int) ≠ 0 by simp)])
      have HB := Lib.hid hbr
      generalize mall ms [] = b at HA HE
      clear he hbr hz
      cases b
      all_goals
        go_wp2_with (go_at_call 33; refine HA.out.mono ?_; rintro e w2 ⟨rfl, hb2⟩; have HB2 := Lib.hid (HB.out.trans (hb2.mono HB.out.size)); clear hb2)
        go_ret
        exact ⟨ret_i64 HE.out, HB2.out⟩
end Go.Proofs.YtpcjnagdanmdpaaGreat
