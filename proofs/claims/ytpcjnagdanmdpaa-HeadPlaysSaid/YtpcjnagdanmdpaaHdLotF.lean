/- In one text, written by lotify.py: HdCmp, HdSort, HdSeries. -/
import Derived.Test.YtpcjnagdanmdpaaShelfG
import Derived.Shelf.SlSortCmp.NoneTotal
import Derived.Test.YtpcjnagdanmdpaaHdLotR
namespace Go.Proofs.Ytpcjnagdanmdpaa
open Go.RowKit
open Ch
set_option linter.unusedVariables false
/-- Nothing below B has turned, and draws go on. -/
structure Fwd (B : Nat) (w w' : World) : Prop where
  below : Below B w w'
  dr : w.drawn ≤ w'.drawn
section
variable {B B' : Nat} {a w w' : World}
theorem Fwd.refl (B : Nat) (w : World) : Fwd B w w := ⟨Below.refl _ _, Nat.le_refl _⟩
theorem Fwd.trans (h : Fwd B a w) (k : Fwd B w w') : Fwd B a w' := ⟨h.below.trans k.below, Nat.le_trans h.dr k.dr⟩
theorem Fwd.mono (h : Fwd B w w') (hB : B' ≤ B) : Fwd B' w w' := ⟨h.below.mono hB, h.dr⟩
theorem Fwd.drew (h : Fwd B a w) : Fwd B a w.drew := ⟨h.below.drew, Nat.le_succ_of_le h.dr⟩
theorem Fwd.alloc (h : Fwd B a w) (hB : B ≤ w.heap.size) (o : Obj) : Fwd B a (w.alloc o) := ⟨h.below.alloc hB o, h.dr⟩
theorem Fwd.size (h : Fwd B w w') : w.heap.size ≤ w'.heap.size := h.below.size
theorem Fwd.cell (h : Fwd B w w') {p : Addr} (hp : p.block < B) : w'.cell? p = w.cell? p := h.below.cell hp
theorem fwd_one (w : World) (o : Obj) : Fwd w.heap.size w (w.alloc o) := (Fwd.refl _ _).alloc (Nat.le_refl _) o
/-- As a sort's comparison must leave a world. -/
theorem Fwd.grown (h : Fwd w.heap.size w w') : ∃ q os, w' = Sort.grow (w.drewN q) os := by
  obtain ⟨⟨h1, h2, h3, h4, h5⟩, h6⟩ := h
  refine ⟨w'.drawn - w.drawn, w'.heap.extract w.heap.size w'.heap.size, ?_⟩
  have hh : w.heap ++ w'.heap.extract w.heap.size w'.heap.size = w'.heap := by
    apply Array.ext_getElem?
    intro i
    rw [Array.getElem?_append]
    split
    · rename_i hi
      exact (h5 i hi).symm
    · rename_i hi
      rw [Array.getElem?_extract]
      split
      · congr 1; omega
      · rename_i hn
        exact (Array.getElem?_eq_none (by omega)).symm
  have hd : w.drawn + (w'.drawn - w.drawn) = w'.drawn := by omega
  cases w'
  cases w
  unfold Sort.grow World.drewN
  dsimp only at *
  subst h1 h2 h3
  rw [hh, hd]
end
set_option maxHeartbeats 1000000 in
theorem hdcmp_lbl (x y : Lbl) (w : World) : Calls Try.prog 67 #[.agg #[.string x.1, .string x.2], .agg #[.string y.1, .string y.2]] w fun e w' => e = .returned (.int .i64 (cmpLbl x y)) ∧ Fwd w.heap.size w w' := by
  have HV := Lib.hid (show cmpLbl x y = if cmpB x.1 y.1 ≠ 0 then cmpB x.1 y.1 else cmpB x.2 y.2 from rfl)
  obtain ⟨z, hz⟩ : ∃ z, (w.alloc (.cells #[.string x.1, .string x.2] 69)).alloc (.cells #[.string y.1, .string y.2] 69) = z := ⟨_, rfl⟩
  have hx : Row z w.heap.size 69 #[.string x.1, .string x.2] := by rw [← hz]; exact (Row.new w _ _).alloc _
  have hy : Row z (w.heap.size + 1) 69 #[.string y.1, .string y.2] := by rw [← hz]; exact row_at w _ _ _
  have hb : Fwd w.heap.size w z := by rw [← hz]; exact (fwd_one w _).alloc (by simp) _
  have HR : Hid (Row ((z.alloc (.cells #[.int .i64 (cmpB x.1 y.1), .int .i64 (cmpB x.2 y.2)] 3)).drew) z.heap.size 3 #[.int .i64 (cmpB x.1 y.1), .int .i64 (cmpB x.2 y.2)]) := Lib.hid (Row.new z _ _)
  have HB : Hid (∀ o, Fwd w.heap.size w ((z.alloc o).drew)) := Lib.hid (fun o => (hb.alloc hb.size o).drew)
  have HZ := Lib.hid hz
  have x0 : z.cell? ⟨w.heap.size, 0, none⟩ = some (.string x.1) := hx.cell 0
  have x1 : z.cell? ⟨w.heap.size, 1, none⟩ = some (.string x.2) := hx.cell 1
  have y0 : z.cell? ⟨w.heap.size + 1, 0, none⟩ = some (.string y.1) := hy.cell 0
  have y1 : z.cell? ⟨w.heap.size + 1, 1, none⟩ = some (.string y.2) := hy.cell 1
  clear hz hx hy hb
  go_enter Try.func67, Try.ntmps67
  go_upto_region 1 with fail
  rw [HZ.out]
  go_region_held3 (fun w' => w'.cell? ⟨w.heap.size, 0, none⟩ = some (.string x.1) ∧ w'.cell? ⟨w.heap.size, 1, none⟩ = some (.string x.2) ∧ w'.cell? ⟨w.heap.size + 1, 0, none⟩ = some (.string y.1) ∧ w'.cell? ⟨w.heap.size + 1, 1, none⟩ = some (.string y.2))
    (first | exact ⟨x0, x1, y0, y1⟩ | exact x0 | exact x1 | exact y0 | exact y1 | go_keep)
    (first
      | (go_at_call 69; refine (str_cmp _ _ _).mono ?_; rintro e w1 ⟨rfl, hw1⟩; subst hw1)
      | (go_at_call 68; refine (or_prog _ _ _ _ HR.out _ HV.out).mono ?_; rintro e w2 ⟨rfl, hw2⟩; subst hw2))
  all_goals
    go_wp2_with fail
    go_ret
    exact ⟨rfl, HB.out _⟩
theorem hdcmpfunc_prog (A B : Option Addr) (l m : List Lbl) (c d : Nat) (w : World) (hA : Lbls w A l) (hB : Lbls w B m) (hl : l.length ≤ 100000000000000) (hm : m.length ≤ 100000000000000) :
    Calls Try.prog 66 #[.slice A l.length c, .slice B m.length d, .func (.func 67) #[] #[]] w fun e w' => e = .returned (.int .i64 (cmpLs l m)) ∧ Fwd w.heap.size w w' := by
  have HA := Lib.hid hA
  have HB := Lib.hid hB
  have HL := Lib.hid (show l.length ≤ 100000000000000 ∧ m.length ≤ 100000000000000 from ⟨hl, hm⟩)
  clear hA hB
  go_enter Try.func66, Try.ntmps66
  go_wp2_with fail
  go_loopw [13] (fun i wr => ∃ k : Nat, k ≤ l.length ∧ k ≤ m.length ∧ i = .int .i64 (k : Int) ∧ cmpLs (l.drop k) (m.drop k) = cmpLs l m ∧ Fwd w.heap.size w wr) (fun i _ => l.length - (intOf i).toNat)
  case atStart => exact ⟨0, Nat.zero_le _, Nat.zero_le _, rfl, rfl, Fwd.refl _ _⟩
  case round =>
    obtain ⟨k, hk, hk2, rfl, he, hbr⟩ := hrel
    have hsz := hbr.size
    by_cases hlt : k < l.length
    · obtain ⟨b, o, rfl, hb, g0, g1⟩ := HA.out.at_ hlt
      have c0 := (hbr.cell (p := ⟨b, o + k * 2, none⟩) hb).trans g0
      have c1 := (hbr.cell (p := ⟨b, o + k * 2 + 1, none⟩) hb).trans g1
      have i2 : (k : Int) < (l.length : Int) := by omega
      have HE := Lib.hid he
      clear he g0 g1
      have hW1 := hbr.alloc hsz (.cells #[.string (nmOf l k), .string (vlOf l k)] 69)
      by_cases hlt2 : k < m.length
      · obtain ⟨b2, o2, rfl, hb2, g0, g1⟩ := HB.out.at_ hlt2
        have i3 : decide ((m.length : Int) ≤ (k : Int)) = false := by simp; omega
        have d0 := (hW1.cell (p := ⟨b2, o2 + k * 2, none⟩) hb2).trans g0
        have d1 := (hW1.cell (p := ⟨b2, o2 + k * 2 + 1, none⟩) hb2).trans g1
        have HST := Lib.hid (ls_step l m hlt hlt2)
        have HW2 := Lib.hid (hW1.alloc hW1.size (.cells #[.string (nmOf m k), .string (vlOf m k)] 69))
        have HCM := Lib.hid (fun W => hdcmp_lbl (nmOf l k, vlOf l k) (nmOf m k, vlOf m k) W)
        clear g0 g1 hW1
        generalize cmpLbl (nmOf l k, vlOf l k) (nmOf m k, vlOf m k) = C at *
        by_cases h0 : C = 0
        · subst h0
          rw [if_neg (by simp)] at HST
          go_wp2_with (first | (go_at_call 67; refine (HCM.out _).mono ?_; rintro e w3 ⟨rfl, hb3⟩; have HB3 := Lib.hid (HW2.out.trans (hb3.mono HW2.out.size)); clear hb3))
          go_roundw
          case rel => exact ⟨k + 1, by omega, by omega, by go_num, by rw [← HST.out, HE.out], HB3.out⟩
          case measure => simp [intOf]; omega
        · have j1 : (C != 0) = true := bne_iff_ne.2 h0
          have j2 : (C == 0) = false := beq_eq_false_iff_ne.2 h0
          rw [if_pos h0] at HST
          clear h0
          go_wp2_with (first | (go_at_call 67; refine (HCM.out _).mono ?_; rintro e w3 ⟨rfl, hb3⟩; have HB3 := Lib.hid (HW2.out.trans (hb3.mono HW2.out.size)); clear hb3))
          go_ret
          exact ⟨ret_int (by rw [← HE.out, HST.out]), HB3.out⟩
      · have i3 : decide ((m.length : Int) ≤ (k : Int)) = true := by simp; omega
        have HW2 := Lib.hid hW1
        have HST := Lib.hid (ls_long l m hlt (by omega))
        clear hW1
        go_wp2_with fail
        go_ret
        exact ⟨ret_int (by rw [← HE.out, HST.out]), HW2.out⟩
    · obtain rfl : k = l.length := by omega
      have HE := Lib.hid he
      have HBR := Lib.hid hbr
      clear he hbr
      by_cases h2 : l.length < m.length
      · have i3 : decide ((l.length : Int) < (m.length : Int)) = true := by simp; omega
        have HST := Lib.hid (ls_short l m (Nat.le_refl _) h2)
        go_wp2_with fail
        go_ret
        exact ⟨ret_int (by rw [← HE.out, HST.out]), HBR.out⟩
      · have i3 : decide ((l.length : Int) < (m.length : Int)) = false := by simp; omega
        have HST := Lib.hid (ls_same l m (Nat.le_refl _) (by omega))
        go_wp2_with fail
        go_ret
        exact ⟨ret_int (by rw [← HE.out, HST.out]), HBR.out⟩
theorem hdcompare_prog (A B : Option Addr) (l m : List Lbl) (c d : Nat) (w : World) (hA : Lbls w A l) (hB : Lbls w B m) (hl : l.length ≤ 100000000000000) (hm : m.length ≤ 100000000000000) :
    Calls Try.prog 39 #[.slice A l.length c, .slice B m.length d] w fun e w' => e = .returned (.int .i64 (cmpLs l m)) ∧ Fwd w.heap.size w w' := by
  go_enter Try.func39, Try.ntmps39
  go_wp2_with (first | (go_at_call 66; refine (hdcmpfunc_prog A B l m c d _ hA hB hl hm).mono ?_; rintro e w3 ⟨rfl, hb3⟩))
  go_ret
  exact ⟨rfl, hb3⟩
theorem hdseries_cmp (x y : SPl) (w : World) (hx : Lbls w x.2.la x.1.1) (hy : Lbls w y.2.la y.1.1) (lx : x.1.1.length ≤ 100000000000000) (ly : y.1.1.length ≤ 100000000000000) :
    Calls Try.prog 38 #[.agg #[lsV x, ssV x], .agg #[lsV y, ssV y]] w fun e w' => e = .returned (.int .i64 (cmpLs x.1.1 y.1.1)) ∧ Fwd w.heap.size w w' := by
  obtain ⟨⟨xl, xs⟩, xm⟩ := x
  obtain ⟨⟨yl, ys⟩, ym⟩ := y
  unfold lsV ssV
  dsimp only at *
  obtain ⟨z, hz⟩ : ∃ z, (w.alloc (.cells #[.slice xm.la xl.length xm.lc, .slice xm.sa xs.length xm.sc] 60)).alloc (.cells #[.slice ym.la yl.length ym.lc, .slice ym.sa ys.length ym.sc] 60) = z := ⟨_, rfl⟩
  have hb : Fwd w.heap.size w z := by rw [← hz]; exact (fwd_one w _).alloc (by simp) _
  have HB := Lib.hid hb
  have HC := Lib.hid (hdcompare_prog xm.la ym.la xl yl xm.lc ym.lc z (hx.below hb.below) (hy.below hb.below) lx ly)
  have hx : Row z w.heap.size 60 #[.slice xm.la xl.length xm.lc, .slice xm.sa xs.length xm.sc] := by rw [← hz]; exact (Row.new w _ _).alloc _
  have hy : Row z (w.heap.size + 1) 60 #[.slice ym.la yl.length ym.lc, .slice ym.sa ys.length ym.sc] := by rw [← hz]; exact row_at w _ _ _
  have x0 : z.cell? ⟨w.heap.size, 0, none⟩ = some (.slice xm.la xl.length xm.lc) := hx.cell 0
  have y0 : z.cell? ⟨w.heap.size + 1, 0, none⟩ = some (.slice ym.la yl.length ym.lc) := hy.cell 0
  have HZ := Lib.hid hz
  generalize cmpLs xl yl = C at *
  clear hb hz hx hy lx ly
  go_enter Try.func38, Try.ntmps38
  go_upto_region 1 with fail
  rw [HZ.out]
  go_wp2_with (go_at_call 39; refine HC.out.mono ?_; rintro e w3 ⟨rfl, hb3⟩)
  go_ret
  exact ⟨rfl, HB.out.trans (hb3.mono HB.out.size)⟩
end Go.Proofs.Ytpcjnagdanmdpaa

namespace Go.Proofs.Ytpcjnagdanmdpaa
open Go.RowKit Go.Shelf Go.Sort
open Ch
set_option linter.unusedVariables false
set_option linter.unusedSimpArgs false
section
variable {α : Type} [Inhabited α] {enc : α → List Value} {k : Nat}
theorem flatK_list (hk : ∀ x, (enc x).length = k) (h0 : 0 < k) (d : Array α) : (flatK enc k d).toList = d.toList.flatMap enc := by
  have hl := flat_len enc k hk d.toList
  have hs := size_flatK enc k d
  apply List.ext_getElem?
  intro t
  by_cases ht : t < d.size * k
  · have h1 := get_flatK enc k d t ht
    have hq : t / k < d.size := Nat.div_lt_of_lt_mul (by rw [Nat.mul_comm]; exact ht)
    have hm : t % k < k := Nat.mod_lt _ h0
    have h2 := flat_get enc k hk d.toList (t / k) d[t / k]! (t % k) (by rw [Array.getElem?_toList, getElem!_pos d _ hq]; exact Array.getElem?_eq_getElem hq) hm
    have h3 : t / k * k + t % k = t := by rw [Nat.mul_comm]; exact Nat.div_add_mod t k
    rw [h3] at h2
    rw [h2, Array.getElem?_toList]
    have hts : t < (flatK enc k d).size := by rw [hs]; exact ht
    rw [getElem!_pos (flatK enc k d) t hts] at h1
    rw [Array.getElem?_eq_getElem hts, h1]
    have hmm : t % k < (enc d[t / k]!).length := by rw [hk]; exact hm
    rw [getElem!_pos (enc d[t / k]!) (t % k) hmm, List.getElem?_eq_getElem hmm]
  · rw [Array.getElem?_toList, Array.getElem?_eq_none (by omega), List.getElem?_eq_none (by rw [hl, Array.length_toList]; omega)]
theorem heap_sortedK {w : World} {g n : Nat} {os : Array Obj} {cur : Array Value} {e : TypeId} (d : Array α) (hb : w.heap[g]? = some (.cells cur e (0, 0))) : (sortWorldK enc k w g 0 n d os).heap[g]? = some (.cells (putCells id 0 (flatK enc k d) cur) e (0, 0)) := by
  unfold sortWorldK putRowK
  have hg : g < w.heap.size := (Array.getElem?_eq_some_iff.1 hb).1
  rw [heap_grow_old _ _ (by simpa using hg)]
  simp [putRow, mapBlock, Sort.ahead, Array.getElem?_modify, hb, onCells]
theorem grownBy_sortedK {w : World} {g n : Nat} {os : Array Obj} (d : Array α) : w.grownBy (sortWorldK enc k w g 0 n d os) (some g) := by
  unfold sortWorldK putRowK
  refine ⟨rfl, rfl, rfl, by simp, fun k hk hne => ?_⟩
  rw [heap_grow_old _ _ (by simpa using hk)]
  have : g ≠ k := fun e => hne (by rw [e])
  simp [putRow, mapBlock, Sort.ahead, Array.getElem?_modify, this]
theorem take_putK (cur F : Array Value) (h : F.size ≤ cur.size) : (putCells id 0 F cur).toList.take F.size = F.toList := by
  apply List.ext_getElem?
  intro j
  by_cases hj : j < F.size
  · rw [List.getElem?_take_of_lt hj, Array.getElem?_toList, Array.getElem?_toList]
    simp [putCells, hj, show j < cur.size by omega]
  · rw [List.getElem?_take_eq_none (by omega), List.getElem?_eq_none (by simp; omega)]
theorem holdsK_block {w : World} {g : Nat} {cur : Array Value} {e : TypeId} {d : Array α} (hb : w.heap[g]? = some (.cells cur e (0, 0))) (ht : cur.toList.take (flatK enc k d).size = (flatK enc k d).toList) : HoldsK enc k w g 0 d := by
  unfold HoldsK
  intro j hj
  refine ⟨?_, by simp [World.frozen?, hb]⟩
  have h1 : (cur.toList.take (flatK enc k d).size)[j]? = (flatK enc k d).toList[j]? := by rw [ht]
  rw [List.getElem?_take_of_lt hj, Array.getElem?_toList, Array.getElem?_toList] at h1
  simp only [World.cell?, hb, Nat.zero_add]
  simp only [Option.isSome_none, Bool.false_eq_true, if_false]
  rw [h1, getElem!_pos (flatK enc k d) j hj]
  exact Array.getElem?_eq_getElem hj
end
theorem swo_cmpLs {α : Type} (f : α → List Lbl) : SWO (ltOf fun x y : α => cmpLs (f x) (f y)) where
  irrefl x := by
    show decide (cmpLs (f x) (f x) < 0) = false
    rw [(cmpLs_cmp.zero _ _).2 rfl]
    rfl
  trans x y z h1 h2 := by
    replace h1 : cmpLs (f x) (f y) < 0 := of_decide_eq_true h1
    replace h2 : cmpLs (f y) (f z) < 0 := of_decide_eq_true h2
    exact decide_eq_true (cmpLs_cmp.strict h1 (Int.le_of_lt h2))
  ntrans x y z h1 h2 := by
    replace h1 : ¬ cmpLs (f x) (f y) < 0 := of_decide_eq_false h1
    replace h2 : ¬ cmpLs (f y) (f z) < 0 := of_decide_eq_false h2
    refine decide_eq_false (p := cmpLs (f x) (f z) < 0) fun h => ?_
    have h3 : cmpLs (f z) (f y) ≤ 0 := by rw [cmpLs_cmp.swap]; omega
    exact h1 (cmpLs_cmp.strict h h3)
theorem sort_ser {w : World} {base : Nat} {v : Value} {ps : List SPl} (h : w.ownsRow base 60 2 v ps.length (ps.flatMap spE)) (hl : ps.length ≤ 1000000)
    (hin : ∀ x ∈ ps, Lbls w x.2.la x.1.1 ∧ x.1.1.length ≤ 100000000000000 ∧ ∀ ad, x.2.la = some ad → v.ownBlock ≠ some ad.block) :
    Calls Try.prog 37 #[v, .func (.func 38) #[] #[]] w fun e w' => e = .returned (.tuple #[]) ∧ w.grownBy w' v.ownBlock ∧
      ∃ qs : List SPl, qs.Perm ps ∧ qs.Pairwise (fun a b => ¬ cmpLs b.1.1 a.1.1 < 0) ∧ w'.ownsRow base 60 2 v qs.length (qs.flatMap spE) := by
  have h0 := h
  rcases List.eq_nil_or_concat ps with rfl | ⟨r0, a, hra⟩
  · have hv : ∃ p cap, v = .slice p 0 cap := by
      rcases h.2 with ⟨rfl, _⟩ | ⟨g, cap, cur, rfl, _⟩
      · exact ⟨none, 0, rfl⟩
      · exact ⟨_, cap, rfl⟩
    obtain ⟨p, cap, rfl⟩ := hv
    refine (AnyF.slices_SortFunc_none Try.hd_sort p cap _ w).mono ?_
    rintro e w' ⟨rfl, rfl⟩
    exact ⟨rfl, World.grownBy.refl _ _, [], List.Perm.refl _, List.Pairwise.nil, h0⟩
  · have ha : a ∈ ps := by rw [hra]; simp
    clear hra r0
    rcases h.2 with ⟨rfl, hn⟩ | ⟨g, cap, cur, rfl, hbase, hb, h1, h2, h3, h4⟩
    · rw [List.length_eq_zero_iff.1 hn] at ha
      cases ha
    · letI : Inhabited {x : SPl // x ∈ ps} := ⟨⟨a, ha⟩⟩
      let enc : {x : SPl // x ∈ ps} → List Value := fun x => spE x.1
      have hk : ∀ x, (enc x).length = 2 := fun _ => rfl
      let cf : {x : SPl // x ∈ ps} → {x : SPl // x ∈ ps} → Int := fun x y => cmpLs x.1.1.1 y.1.1.1
      let d : Array {x : SPl // x ∈ ps} := ps.attach.toArray
      have hd : d.toList.flatMap enc = ps.flatMap spE := by
        show ps.attach.flatMap (fun x => spE x.1) = _
        rw [← List.flatMap_map, List.attach_map_subtype_val]
      have hds : d.size = ps.length := by simp [d]
      have hF := flatK_list hk (by omega) d
      have hFs : (flatK enc 2 d).size = ps.length * 2 := by rw [size_flatK, hds]
      have hH : HoldsK enc 2 w g 0 d := holdsK_block hb (by rw [hFs, h4, hF, hd])
      have hg : g < w.heap.size := (Array.getElem?_eq_some_iff.1 hb).1
      have hC : CmpLays Try.prog 38 #[] enc 2 cf g 0 d.size w := by
        intro m os dk hdk x y
        have hgr := grownBy_sortedK (enc := enc) (k := 2) (w := w) (g := g) (n := m) (os := os) dk
        generalize sortWorldK enc 2 w g 0 m dk os = W at *
        have mv : ∀ x : SPl, x ∈ ps → Lbls W x.2.la x.1.1 := fun x hx => by
          obtain ⟨q1, _, q3⟩ := hin x hx
          refine at_move q1 hgr.size ?_
          by_cases e0 : x.1.1.flatMap lblE = []
          · exact .inl e0
          · exact .inr fun ad e => hgr.block _ (at_block q1 e0 ad e) fun e2 => q3 ad e e2.symm
        refine (hdseries_cmp x.1 y.1 W (mv _ x.2) (mv _ y.2) (hin _ x.2).2.1 (hin _ y.2).2.1).mono ?_
        rintro e w' ⟨rfl, hf⟩
        exact ⟨rfl, hf.grown⟩
      have eg : ∀ args w, (callFunc 38 args).run Try.prog w = .ok (.enter 38 args) w := enters_of Try.func38 (by kernel_rfl) rfl
      have hcon := AnyQ.slices_SortFunc Try.hd_sort 2 Try.isAgg60 Try.sizeOf60 enc hk (fun x v hv => by
        simp only [enc, spE, lsV, ssV, List.mem_cons, List.not_mem_nil, or_false] at hv
        rcases hv with rfl | rfl <;> rfl) cf (swo_cmpLs _) 38 #[] g 0 cap d w eg hC hH hg (by rw [hds]; omega)
      rw [hds] at hcon
      refine Calls.mono hcon ?_
      rintro e w' ⟨rfl, d', n, os, ⟨p1, _, p3⟩, hso, rfl⟩
      have hd's : d'.size = ps.length := by rw [p1, hds]
      have hpm : d'.toList.Perm d.toList := by
        have e1 : d'.extract 0 ps.length = d' := by rw [← hd's]; exact Array.extract_size
        have e2 : d.extract 0 ps.length = d := by rw [← hds]; exact Array.extract_size
        rw [e1, e2] at p3
        exact p3
      have hF' := flatK_list hk (by omega) d'
      have hFs' : (flatK enc 2 d').size = ps.length * 2 := by rw [size_flatK, hd's]
      refine ⟨rfl, grownBy_sortedK d', d'.toList.map (·.1), ?_, ?_, ?_⟩
      · have := hpm.map (·.1)
        rwa [show d.toList.map (·.1) = ps from List.attach_map_subtype_val ps] at this
      · rw [List.pairwise_map, List.pairwise_iff_getElem]
        intro i j hi hj hij
        have hi' : i < d'.size := hi
        have hj' : j < d'.size := hj
        have := hso i j (Nat.zero_le _) hij (by rw [← hd's]; exact hj')
        unfold ltOf at this
        rw [decide_eq_false_iff_not, getElem!_pos d' j hj', getElem!_pos d' i hi'] at this
        exact this
      · have hq : (d'.toList.map (·.1)).flatMap spE = (flatK enc 2 d').toList := by rw [hF', List.flatMap_map]
        have hql : (d'.toList.map (·.1)).length = ps.length := by rw [List.length_map, Array.length_toList, hd's]
        refine ⟨?_, .inr ⟨g, cap, _, by rw [hql], hbase, heap_sortedK d' hb, by rw [hql]; exact h1, h2, ?_, ?_⟩⟩
        · rw [hq, Array.length_toList, hFs', hql]
        · simp [putCells, h3]
        · rw [hq, hql, ← hFs']
          exact take_putK cur _ (by rw [hFs', h3]; omega)
end Go.Proofs.Ytpcjnagdanmdpaa

namespace Go.Proofs.Ytpcjnagdanmdpaa
open Go.RowKit Go.Maps
open Ch
set_option linter.unusedVariables false
set_option linter.unusedSimpArgs false
set_option maxRecDepth 100000
/-- An own row of series, each with own rows of labels and samples. -/
def HOwn (w : World) (base : Nat) (v : Value) (S : List Ser) : Prop :=
  ∃ ps : List SPl, ps.map (·.1) = S ∧ w.ownsRow base 60 2 v ps.length (ps.flatMap spE) ∧ ∀ x ∈ ps, OwnL w base (lsV x) x.1.1 ∧ OwnS w base (ssV x) x.1.2
theorem hownsers_nil (w : World) (base : Nat) : HOwn w base (.slice none 0 0) [] := ⟨[], rfl, ⟨rfl, .inl ⟨rfl, rfl⟩⟩, fun q hq => by cases hq⟩
theorem hownsers_below {w w' : World} {base : Nat} {v : Value} {S : List Ser} (h : HOwn w base v S) (hb : Below w.heap.size w w') : HOwn w' base v S := by
  obtain ⟨ps, h1, h2, h3⟩ := h
  exact ⟨ps, h1, rows_below h2 hb, fun x hx => ⟨ownl_below (h3 x hx).1 hb, owns_below (h3 x hx).2 hb⟩⟩
theorem hownsers_slice {w : World} {base : Nat} {v : Value} {S : List Ser} (h : HOwn w base v S) : ∃ P c, v = .slice P S.length c ∧ S.length ≤ c ∧ Sers w P S := by
  obtain ⟨ps, rfl, h2, h3⟩ := h
  obtain ⟨P, c, h4, h5, h6, _⟩ := rows_slice h2
  refine ⟨P, c, by rw [List.length_map]; exact h4, by rw [List.length_map]; exact h5, ps, rfl, h6, fun x hx => ?_⟩
  obtain ⟨a1, a2⟩ := h3 x hx
  obtain ⟨B, d, e1, e2, e3, _⟩ := ownl_slice a1
  obtain ⟨B', d', e1', e2', e3', _⟩ := owns_slice a2
  unfold lsV at e1
  unfold ssV at e1'
  obtain ⟨rfl, -, rfl⟩ := Value.slice.inj e1
  obtain ⟨rfl, -, rfl⟩ := Value.slice.inj e1'
  exact ⟨e3, e3', e2, e2'⟩
theorem hser_info : (Try.prog.info? 60).map (fun i => (i.zero, i.size, i.bytes)) = some (some (.agg #[.slice none 0 0, .slice none 0 0]), 2, 48) := by kernel_rfl
theorem hrows_far {w w' : World} {base e size n base2 e2 size2 n2 : Nat} {v v2 : Value} {xs xs2 : List Value} (h : w.ownsRow base e size v n xs) (hg : w.grownBy w' v2.ownBlock) (h2 : w.ownsRow base2 e2 size2 v2 n2 xs2) (he : e ≠ e2) : w'.ownsRow base e size v n xs := by
  refine rows_move h fun k hk => ?_
  rcases h.2 with ⟨e1, _⟩ | ⟨g, cap, cur, e1, _, hh, _⟩
  · rw [e1] at hk; cases hk
  · rw [e1] at hk
    simp only [Value.ownBlock, Option.some.injEq] at hk
    subst hk
    exact hg.block g (Row.lt hh) fun e' => rows_ne (show Row _ g _ _ from hh) h2 he e'.symm
theorem hstep_app_sr {w0 : World} {ops : Array Oper} {o : Oper} {a : Act} {K : Act → World → Prop} {Q0 : Exit → Act → World → Prop} {E : Prop} (hgd : o.guard = none) (s y : Operand)
    (ho : o.op = .call { callee := .builtin .append, args := #[s, y], argTypes := #[25, 25] })
    (base : Nat) (v : Value) (S : List Ser) (hs : a.eval s = v) (hF : HOwn w0 base v S) (ls : List Lbl) (ss : List Smp) (P1 P2 : Option Addr) (d1 d2 l1 l2 : Nat) (e1 : ls.length = l1) (e2 : ss.length = l2) (c : Nat) (hx1 : OwnL w0 base (.slice P1 ls.length d1) ls) (hx2 : OwnS w0 base (.slice P2 ss.length d2) ss)
    (hy : a.eval y = .slice (some ⟨w0.heap.size, 0, none⟩) 1 c) (hn : (S.length + 1) * 48 ≤ 140737488355328) (hbase : base ≤ w0.heap.size)
    (h : ∀ v' w', HOwn w' base v' (S ++ [(ls, ss)]) → Below base w0 w' → K (a.put o.dst v') w') :
    if Region.wanted o (yielded ops a.tmps) = true then Oper.wp Try.prog o a (w0.alloc (.cells #[.slice P1 l1 d1, .slice P2 l2 d2] 60)) K Q0 else E := by
  subst e1 e2
  obtain ⟨i0, hi, hz0, hz1, hz2⟩ := info_parts hser_info
  have hA := below_one w0 (.cells (spE ((ls, ss), ⟨P1, d1, P2, d2⟩)).toArray 60)
  obtain ⟨qs, rfl, h2, h3⟩ := hownsers_below hF hA
  have hx1' := ownl_below hx1 hA
  have hx2' := owns_below hx2 hA
  rw [List.length_map] at hn
  refine step_app_at hgd s y 25 ho base 60 i0 _ 2 48 Try.underlying25 hi hz0 hz1 hz2 rfl (by omega) v qs.length (qs.flatMap spE) hs h2 (some ⟨w0.heap.size, 0, none⟩) 1 c (spE ((ls, ss), ⟨P1, d1, P2, d2⟩)) hy (by rw [spE_len]) (At.row (Row.new w0 _ _)) ?_
    (by simp only [maxLen]; omega) (by omega) (Nat.le_trans hbase hA.size) ?_
  · intro u hu
    simp only [spE, List.mem_cons, List.not_mem_nil, or_false] at hu
    rcases hu with rfl | rfl <;> rfl
  intro v' w' k1 k2 k3
  refine h v' w' ⟨qs ++ [((ls, ss), ⟨P1, d1, P2, d2⟩)], by simp, by rw [List.length_append, List.flatMap_append, List.flatMap_cons, List.flatMap_nil, List.append_nil]; exact k1, fun r hr => ?_⟩ ((hA.mono hbase).trans k2)
  rcases List.mem_append.1 hr with hr | hr
  · exact ⟨hrows_far (h3 r hr).1 k3 h2 (by decide), hrows_far (h3 r hr).2 k3 h2 (by decide)⟩
  · obtain rfl := List.mem_singleton.1 hr
    exact ⟨hrows_far hx1' k3 h2 (by decide), hrows_far hx2' k3 h2 (by decide)⟩
def hasS (s : Ser) : Bool := decide (0 < s.2.length)
theorem filt_yes {h : List Ser} {j : Nat} (hj : j < h.length) (hs : 0 < (h.getD j ser0).2.length) : (h.take (j + 1)).filter hasS = (h.take j).filter hasS ++ [((h.getD j ser0).1, (h.getD j ser0).2)] := by
  have e : h.getD j ser0 = h[j] := by simp [List.getD_eq_getElem?_getD, hj]
  rw [e] at hs ⊢
  rw [List.take_succ_eq_append_getElem hj, List.filter_append]
  simp [hasS, hs]
theorem filt_no {h : List Ser} {j : Nat} (hj : j < h.length) (hs : ¬ 0 < (h.getD j ser0).2.length) : (h.take (j + 1)).filter hasS = (h.take j).filter hasS := by
  have e : h.getD j ser0 = h[j] := by simp [List.getD_eq_getElem?_getD, hj]
  rw [e] at hs
  rw [List.take_succ_eq_append_getElem hj, List.filter_append]
  simp [hasS, hs]
theorem series_one {h : List Ser} (hk : HeadOk h) {qs : List SPl} (hp : (qs.map (·.1)).Perm (h.filter hasS)) (hu : qs.Pairwise (fun a b => ¬ cmpLs b.1.1 a.1.1 < 0)) : qs.map (·.1) = seriesH h := by
  obtain ⟨u2, m2⟩ := seriesH_facts hk
  refine ups_one ?_ u2 fun x => ?_
  · have h1 : (h.filter hasS).Pairwise (fun a b => a.1 ≠ b.1) := List.Pairwise.filter _ (List.pairwise_map.1 hk.apart)
    have h2 : (qs.map (·.1)).Pairwise (fun a b => a.1 ≠ b.1) := (hp.pairwise_iff fun {a b} h => fun e => h e.symm).2 h1
    have h3 : (qs.map (·.1)).Pairwise (fun a b => ¬ cmpLs b.1 a.1 < 0) := List.pairwise_map.2 hu
    refine (h2.and h3).imp fun {a b} hab => ?_
    have hz : cmpLs a.1 b.1 ≠ 0 := fun e => hab.1 ((cmpLs_cmp.zero _ _).1 e)
    have hs := cmpLs_cmp.swap b.1 a.1
    have := hab.2
    omega
  · rw [hp.mem_iff, m2, List.mem_filter]
    unfold hasS
    rw [decide_eq_true_eq]
    constructor
    · rintro ⟨h1, h2⟩
      exact ⟨h1, fun e => by rw [e] at h2; exact absurd h2 (by simp)⟩
    · rintro ⟨h1, h2⟩
      exact ⟨h1, List.length_pos_iff.2 h2⟩
/-- What a sort of an own row of series makes. -/
theorem hsort_prog {h : List Ser} (hk : HeadOk h) {w : World} {base : Nat} {v : Value} (ho : HOwn w base v (h.filter hasS)) :
    Calls Try.prog 37 #[v, .func (.func 38) #[] #[]] w fun e w' => e = .returned (.tuple #[]) ∧ HOwn w' base v (seriesH h) ∧ w.grownBy w' v.ownBlock ∧ (∀ k, v.ownBlock = some k → base ≤ k) := by
  obtain ⟨ps, h1, h2, h3⟩ := ho
  have hin : ∀ x ∈ ps, x.1 ∈ h := fun x hx => by
    have : x.1 ∈ h.filter hasS := by rw [← h1]; exact List.mem_map_of_mem hx
    exact (List.mem_filter.1 this).1
  have hlen : ps.length ≤ 256 := by
    have e : ps.length = (h.filter hasS).length := by rw [← h1, List.length_map]
    have := List.length_filter_le hasS h
    have := hk.few
    omega
  refine (sort_ser h2 (by omega) fun x hx => ?_).mono ?_
  · obtain ⟨B, d, e1, _, e3, _⟩ := ownl_slice (h3 x hx).1
    have e1' := e1
    unfold lsV at e1'
    obtain ⟨rfl, -, rfl⟩ := Value.slice.inj e1'
    refine ⟨e3, by have := (lbChk_ok.1 (hk.right _ (hin x hx)).1).1; omega, fun ad e hv => ?_⟩
    have hr := (h3 x hx).1
    rcases hr.2 with ⟨e4, _⟩ | ⟨g, cap, cur, e4, _, hh, _⟩
    · unfold lsV at e4
      rw [e] at e4
      cases e4
    · unfold lsV at e4
      rw [e] at e4
      injection e4 with e5
      injection e5 with e5
      subst e5
      exact rows_ne (show Row w g _ _ from hh) h2 (by decide) hv
  · rintro e w' ⟨rfl, hg, qs, hp, hu, hr⟩
    refine ⟨rfl, ⟨qs, series_one hk (by rw [← h1]; exact hp.map _) hu, hr, fun x hx => ?_⟩, hg, fun k hk => (World.ownsRow.lt h2 k hk).1⟩
    have hx' := hp.mem_iff.1 hx
    exact ⟨hrows_far (h3 x hx').1 hg h2 (by decide), hrows_far (h3 x hx').2 hg h2 (by decide)⟩
set_option maxHeartbeats 8000000 in
theorem hdseries_prog {w : World} {X : Nat} {p : Plc} {h : List Ser} {c : Int} (hi : HeadIn w X p h c) (hk : HeadOk h) :
    Calls Try.prog 18 #[.pointer (some ⟨X, 0, none⟩)] w fun e w' => ∃ v, e = .returned v ∧ HOwn w' w.heap.size v (seriesH h) ∧ Below w.heap.size w w' := by
  obtain ⟨P, cc, _, hcc, x0, _, _, hall⟩ := hi.cells
  have q := hd_eqnil w X
  have HI := Lib.hid (fun w' (hb : Below w.heap.size w w') => hi.below hb)
  have HK := Lib.hid hk
  have HST := Lib.hid (fun (W : World) (base : Nat) (v : Value) (ho : HOwn W base v (h.filter hasS)) => hsort_prog hk ho)
  have EL := Lib.hid (fun args w => (show (callFunc 31 args).run Try.prog w = .ok (.enter 31 args) w from enters_of Try.func31 (by kernel_rfl) rfl args w))
  have ES := Lib.hid (fun args w => (show (callFunc 32 args).run Try.prog w = .ok (.enter 32 args) w from enters_of Try.func32 (by kernel_rfl) rfl args w))
  obtain ⟨n, hn⟩ : ∃ n, h.length = n := ⟨_, rfl⟩
  have HN := Lib.hid hn
  have HALL := Lib.hid hall
  rw [hn] at x0 hcc
  have hn256 : n ≤ 256 := by rw [← hn]; exact hk.few
  clear hi hk hall hn
  go_enter Try.func18, Try.ntmps18
  go_wp2_with fail
  go_loopw [3, 13] (fun v i wr => ∃ j : Nat, j ≤ n ∧ i = .int .i64 (j : Int) ∧ HOwn wr w.heap.size v ((h.take j).filter hasS) ∧ Below w.heap.size w wr) (fun _ i _ => n - (intOf i).toNat)
  case atStart => exact ⟨0, Nat.zero_le _, rfl, hownsers_nil _ _, Below.refl _ _⟩
  case round =>
    obtain ⟨j, hj, rfl, hO, hbr⟩ := hrel
    by_cases hlt : j < n
    · obtain ⟨b, rfl, hb, hc⟩ := HALL.out (by rw [HN.out]; omega)
      have hjl : j < h.length := by rw [HN.out]; exact hlt
      have g0 := (hbr.cell (p := ⟨b, j, none⟩) hb).trans (hc j hjl)
      obtain ⟨L, lc, Q, sc, _, _, _, _, s0, s1, hL, hS⟩ := (HI.out _ hbr).series hjl
      have i1 : decide ((j : Int) < (n : Int)) = true := decide_eq_true (by omega)
      have i3 : (j : Int) < (n : Int) := by omega
      have hlen := hdlens HK.out hjl
      have hgl := ((HI.out _ hbr).ser j hjl).lt
      have HFY := Lib.hid (fun h0 => filt_yes hjl h0)
      have HFN := Lib.hid (fun h0 => filt_no hjl h0)
      have HJ := Lib.hid (show j + 1 ≤ n from hlt)
      have HTL := Lib.hid (show (((h.take j).filter hasS).length + 1) * 48 ≤ 140737488355328 by
        have h1 := List.length_filter_le hasS (h.take j)
        have h2 := List.length_take_le j h
        have h3 := HK.out.few
        omega)
      generalize p.fb j = g at *
      generalize (h.getD j ser0).1 = ls at *
      generalize (h.getD j ser0).2 = ss at *
      have HLN := Lib.hid hlen
      have HL := Lib.hid hL
      have HS := Lib.hid hS
      have HOR := Lib.hid hO
      have HBR := Lib.hid hbr
      clear hlen hL hS hO hbr hc
      by_cases h0 : 0 < ss.length
      · have q1 : decide ((0 : Int) < (ss.length : Int)) = true := decide_eq_true (by omega)
        have HF := Lib.hid (HFY.out h0)
        have HCL := Lib.hid (fun (x : World) (hx : Below wr.heap.size wr x) => ixclone_prog L ls lc x (HL.out.below hx) (by have := HLN.out; omega))
        have HCS := Lib.hid (fun (x : World) (hx : Below wr.heap.size wr x) => hclone_prog Q ss sc x (HS.out.below hx) (by have := HLN.out; omega))
        go_upto_region 8 with fail
        go_region_law (first
          | (refine step_call rfl 31 [.tmp 27] #[26] #[.slice L ls.length lc] rfl rfl (EL.out _ _) (HCL.out _ (Below.refl _ _).drew) ?_
             rintro e w4 ⟨v4, rfl, ho4, hb4⟩
             obtain ⟨P4, c4, hv4, _⟩ := ownl_slice ho4
             subst hv4
             refine ⟨_, rfl, ?_⟩
             have t1 := (hb4.cell (p := ⟨g, 1, none⟩) hgl).trans s1
             have HO4 := Lib.hid ho4
             have HB4 := Lib.hid (show Below wr.heap.size wr w4 from (Below.refl _ _).drew.trans hb4)
             clear ho4 hb4)
          | (refine step_call rfl 32 [.tmp 32] #[45] #[.slice Q ss.length sc] rfl rfl (ES.out _ _) (HCS.out _ HB4.out) ?_
             rintro e w5 ⟨v5, rfl, ho5, hb5⟩
             obtain ⟨P5, c5, hv5, _⟩ := owns_slice ho5
             subst hv5
             refine ⟨_, rfl, ?_⟩
             have HB5 := Lib.hid (below_then HB4.out hb5)
             have HL5 := Lib.hid (ownl_lower (ownl_below HO4.out hb5) (show w.heap.size ≤ wr.drew.heap.size from HBR.out.size))
             have HS5 := Lib.hid (owns_lower ho5 (Nat.le_trans HBR.out.size HB4.out.size))
             have HO5 := Lib.hid (hownsers_below HOR.out HB5.out)
             have HZ5 := Lib.hid (show w.heap.size ≤ w5.heap.size from Nat.le_trans HBR.out.size HB5.out.size)
             clear ho5 hb5)
          | (refine hstep_app_sr rfl (.tmp 23) (.tmp 35) rfl w.heap.size _ _ rfl HO5.out ls ss P4 P5 c4 c5 ls.length ss.length rfl rfl 1 HL5.out HS5.out rfl HTL.out HZ5.out ?_
             intro v6 w6 ho6 hb6
             rw [← HF.out] at ho6
             have HO6 := Lib.hid ho6
             have HB6 := Lib.hid (HBR.out.trans ((HB5.out.mono HBR.out.size).trans hb6))
             clear ho6 hb6))
        all_goals
          go_wp2_with fail
          go_roundw
          case rel => exact ⟨j + 1, HJ.out, by go_num, HO6.out, HB6.out⟩
          case measure => simp [intOf]; omega
      · have q1 : decide ((0 : Int) < (ss.length : Int)) = false := decide_eq_false (by omega)
        have HF := Lib.hid (HFN.out h0)
        go_wp2_with fail
        go_roundw
        case rel => exact ⟨j + 1, HJ.out, by go_num, by rw [HF.out]; exact HOR.out, HBR.out⟩
        case measure => simp [intOf]; omega
    · obtain rfl : j = n := by omega
      have i1 : decide ((j : Int) < (j : Int)) = false := decide_eq_false (by omega)
      have hto : h.take j = h := List.take_of_length_le (by rw [HN.out]; exact Nat.le_refl _)
      rw [hto] at hO
      have HO := Lib.hid hO
      have HBR := Lib.hid hbr
      have HSR := Lib.hid (HST.out _ _ _ hO)
      clear hO hbr hto
      go_wp2_with fail
      refine HSR.out.mono ?_
      rintro e w7 ⟨rfl, ho7, hg7, hr7⟩
      have HO7 := Lib.hid ho7
      have HB7 := Lib.hid (HBR.out.grown hg7 HBR.out.size hr7)
      clear ho7 hg7 hr7
      go_wp2_with fail
      go_ret
      exact ⟨_, rfl, HO7.out, HB7.out⟩
end Go.Proofs.Ytpcjnagdanmdpaa
