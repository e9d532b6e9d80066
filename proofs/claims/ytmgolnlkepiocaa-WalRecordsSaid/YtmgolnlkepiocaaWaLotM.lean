/- In one text, written by lotify.py: WaRd, WaPut, WaReadRows. -/
import Derived.Test.YtmgolnlkepiocaaWaLotL
import Derived.Test.YtmgolnlkepiocaaWaLotJ
import Derived.Test.YtmgolnlkepiocaaWaLotG
import Derived.Test.YtmgolnlkepiocaaWaLotK
import Derived.Test.YtmgolnlkepiocaaWaLotE
namespace Go.Proofs.Ytmgolnlkepiocaa
open Go.RowKit Go.Maps
set_option linter.unusedVariables false

/-- What is read as labels at a place. -/
def LX (b : List UInt8) (a : Int) (ls : List Lbl) (p : Int) (E : Nat) : Prop :=
  ∃ n nx e, GX b a n nx e ∧ ((e ≠ 0 ∧ E = e ∧ ls = [] ∧ p = 0) ∨ (e = 0 ∧ 8 < n ∧ E = 3 ∧ ls = [] ∧ p = 0) ∨ (e = 0 ∧ n ≤ 8 ∧ ∃ LS P E1, RL b n nx LS P E1 ∧ ((E1 ≠ 0 ∧ E = E1 ∧ ls = [] ∧ p = 0) ∨ (E1 = 0 ∧ lbChk LS ≠ 0 ∧ E = 5 ∧ ls = [] ∧ p = 0) ∨ (E1 = 0 ∧ lbChk LS = 0 ∧ E = 0 ∧ ls = LS ∧ p = P))))
theorem lx_total (b : List UInt8) (a : Int) : ∃ ls p E, LX b a ls p E := by
  obtain ⟨n, nx, e, h⟩ := gx_total b a
  by_cases he : e = 0
  · subst he
    by_cases hn : 8 < n
    · exact ⟨[], 0, 3, n, nx, 0, h, .inr (.inl ⟨rfl, hn, rfl, rfl, rfl⟩)⟩
    · obtain ⟨LS, P, E1, hr⟩ := rl_total b n nx
      by_cases h1 : E1 = 0
      · subst h1
        by_cases h2 : lbChk LS = 0
        · exact ⟨LS, P, 0, n, nx, 0, h, .inr (.inr ⟨rfl, by omega, LS, P, 0, hr, .inr (.inr ⟨rfl, h2, rfl, rfl, rfl⟩)⟩)⟩
        · exact ⟨[], 0, 5, n, nx, 0, h, .inr (.inr ⟨rfl, by omega, LS, P, 0, hr, .inr (.inl ⟨rfl, h2, rfl, rfl, rfl⟩)⟩)⟩
      · exact ⟨[], 0, E1, n, nx, 0, h, .inr (.inr ⟨rfl, by omega, LS, P, E1, hr, .inl ⟨h1, rfl, rfl, rfl⟩⟩)⟩
  · exact ⟨[], 0, e, n, nx, e, h, .inl ⟨he, rfl, rfl, rfl⟩⟩
theorem lx_cov {b : List UInt8} {a : Int} {ls : List Lbl} {p : Int} (h : LX b a ls p 0) : Cov b a p (bytesL ls) ∧ lbChk ls = 0 := by
  obtain ⟨n, nx, e, hg, h⟩ := h
  rcases h with ⟨h1, h2, _⟩ | ⟨_, _, h2, _⟩ | ⟨rfl, hn, LS, P, E1, hr, h⟩
  · exact absurd h2.symm h1
  · cases h2
  · rcases h with ⟨h1, h2, _⟩ | ⟨_, _, h2, _⟩ | ⟨rfl, h2, _, rfl, rfl⟩
    · exact absurd h2.symm h1
    · cases h2
    · have c1 := gx_cov hg
      obtain ⟨c2, h3⟩ := rl_cov hr rfl (by omega) c1.2.2.1
      exact ⟨by rw [lbl_bytes, h3]; exact c1.trans c2, h2⟩
theorem lx_at (ls : List Lbl) (h : lbChk ls = 0) (X Y : List UInt8) : LX (X ++ (bytesL ls ++ Y)) (X.length : Int) ls ((X.length + (bytesL ls).length : Nat) : Int) 0 := by
  have h8 := (lbChk_ok.1 h).1
  have hf : ∀ x ∈ ls, x.1.size ≤ 65535 ∧ x.2.size ≤ 65535 := by
    intro x hx
    obtain ⟨k, hk, rfl⟩ := List.mem_iff_getElem.1 hx
    have h1 := right_at h hk
    have e1 : ls[k].1 = nmOf ls k := by unfold nmOf; rw [List.getD_eq_getElem?_getD, List.getElem?_eq_getElem hk]; rfl
    have e2 : ls[k].2 = vlOf ls k := by unfold vlOf; rw [List.getD_eq_getElem?_getD, List.getElem?_eq_getElem hk]; rfl
    rw [e1, e2]
    omega
  have g1 := gx_at X (lblsB ls ++ Y) ls.length (by omega)
  have g2 := rl_at ls hf (X ++ uintL ls.length) Y
  have e1 : X ++ (uintL ls.length ++ (lblsB ls ++ Y)) = X ++ (bytesL ls ++ Y) := by rw [lbl_bytes]; simp only [List.append_assoc]
  have e2 : (X ++ uintL ls.length) ++ (lblsB ls ++ Y) = X ++ (bytesL ls ++ Y) := by rw [lbl_bytes]; simp only [List.append_assoc]
  rw [e1] at g1
  rw [e2, List.length_append] at g2
  refine ⟨_, _, 0, g1, .inr (.inr ⟨rfl, h8, ls, _, 0, g2, .inr (.inr ⟨rfl, h, rfl, rfl, ?_⟩)⟩)⟩
  rw [lbl_bytes, List.length_append]
  omega
theorem rows3_cov : ∀ (k : Nat) (xs : List Nat), xs.length = 3 * k → rowsL (rows3 xs) = xs.flatMap uintL := by
  intro k
  induction k with
  | zero => intro xs h; obtain rfl := List.eq_nil_of_length_eq_zero (by omega : xs.length = 0); rfl
  | succ k ih =>
    intro xs h
    match xs, h with
    | a :: b :: c :: r, h =>
      have := ih r (by simp at h; omega)
      show wrowL ((a : Int), (b : Int), zagV c) ++ rowsL (rows3 r) = _
      rw [this]
      unfold wrowL
      simp only [Int.toNat_natCast, zag_zig, List.flatMap_cons, List.append_assoc]
    | [], h => simp at h
    | [a], h => simp at h; omega
    | [a, b], h => simp at h; omega
theorem rx_cov {b : List UInt8} {a : Int} {rs : List Wrow} {p : Int} (h : RX b a rs p 0) : Cov b a p (uintL rs.length ++ rowsL rs) := by
  obtain ⟨n, nx, e, hg, h⟩ := h
  rcases h with ⟨h1, h2, _⟩ | ⟨_, _, h2, _⟩ | ⟨rfl, hn, xs, hs, hr, _⟩
  · exact absurd h2.symm h1
  · cases h2
  · have c1 := gx_cov hg
    obtain ⟨c2, h3, _⟩ := gs_cov hs rfl (by omega) c1.2.2.1
    rw [hr rfl, rows3_len n xs h3, rows3_cov n xs h3]
    exact c1.trans c2
/-- The numbers of rows. -/
def numsOf (rs : List Wrow) : List Nat := rs.flatMap fun x => [x.1.toNat, x.2.1.toNat, zigV x.2.2]
theorem nums_len (rs : List Wrow) : (numsOf rs).length = 3 * rs.length := by
  induction rs with
  | nil => rfl
  | cons x r ih => show ([x.1.toNat, x.2.1.toNat, zigV x.2.2] ++ numsOf r).length = _; rw [List.length_append, ih, List.length_cons]; simp; omega
theorem nums_rows (rs : List Wrow) (h : ∀ x ∈ rs, wrowErr x = 0) : rows3 (numsOf rs) = rs := by
  induction rs with
  | nil => rfl
  | cons x r ih =>
    have hx := wrowErr_zero.1 (h x (by simp))
    obtain ⟨id, t, v⟩ := x
    simp only at hx
    show ((id.toNat : Int), (t.toNat : Int), zagV (zigV v)) :: rows3 (numsOf r) = _
    rw [ih fun y hy => h y (List.mem_cons_of_mem _ hy), zig_zag]
    congr 3 <;> omega
theorem nums_bytes (rs : List Wrow) : (numsOf rs).flatMap uintL = rowsL rs := by
  induction rs with
  | nil => rfl
  | cons x r ih =>
    show ([x.1.toNat, x.2.1.toNat, zigV x.2.2] ++ numsOf r).flatMap uintL = wrowL x ++ rowsL r
    rw [List.flatMap_append, ih]
    unfold wrowL
    simp
theorem rx_at (rs : List Wrow) (h : rowsChk rs = 0) (X Y : List UInt8) : RX (X ++ ((uintL rs.length ++ rowsL rs) ++ Y)) (X.length : Int) rs ((X.length + (uintL rs.length ++ rowsL rs).length : Nat) : Int) 0 := by
  obtain ⟨h1, h2, h3⟩ := rowsChk_zero.1 h
  have hb : ∀ n ∈ numsOf rs, n < 9223372036854775808 := by
    intro n hn
    obtain ⟨x, hx, hn⟩ := List.mem_flatMap.1 hn
    have hx := wrowErr_zero.1 (h3 x hx)
    simp only [List.mem_cons, List.not_mem_nil, or_false] at hn
    have hz : zigV x.2.2 < 9223372036854775808 := by unfold zigV; split <;> omega
    rcases hn with rfl | rfl | rfl <;> omega
  have g1 := gx_at X (rowsL rs ++ Y) rs.length (by omega)
  have g2 := gs_at (numsOf rs) (X ++ uintL rs.length) Y hb
  rw [nums_bytes, nums_len] at g2
  have e1 : X ++ (uintL rs.length ++ (rowsL rs ++ Y)) = X ++ ((uintL rs.length ++ rowsL rs) ++ Y) := by simp only [List.append_assoc]
  have e2 : (X ++ uintL rs.length) ++ (rowsL rs ++ Y) = X ++ ((uintL rs.length ++ rowsL rs) ++ Y) := by simp only [List.append_assoc]
  rw [e1] at g1
  rw [e2, List.length_append] at g2
  rw [List.length_append, ← Nat.add_assoc]
  exact ⟨_, _, 0, g1, .inr (.inr ⟨rfl, h2, _, g2, fun _ => (nums_rows rs h3).symm, fun h => absurd rfl h⟩)⟩

/-- What is read as a record, the place behind it and an error; behind an error the record does not matter. -/
def RD (b : List UInt8) (R : RecV) (p : Int) (E : Nat) : Prop :=
  ∃ n nx e, GX b 0 n nx e ∧ ((e ≠ 0 ∧ p = 0 ∧ E = e) ∨
    (e = 0 ∧ n = 1 ∧ ∃ ls, LX b nx ls p E ∧ R = ⟨1, ls, [], [], 0, 0⟩) ∨
    (e = 0 ∧ n = 2 ∧ ∃ rs, RX b nx rs p E ∧ R = ⟨2, [], rs, [], 0, 0⟩) ∨
    (e = 0 ∧ n = 3 ∧ ∃ ids q E1, PY b nx ids q E1 ∧ ((E1 ≠ 0 ∧ p = 0 ∧ E = E1) ∨ (E1 = 0 ∧ ∃ xs, GS b 2 q xs p E ∧ R = ⟨3, [], [], ids, ((xs.getD 0 0 : Nat) : Int), ((xs.getD 1 0 : Nat) : Int)⟩))) ∨
    (e = 0 ∧ n ≠ 1 ∧ n ≠ 2 ∧ n ≠ 3 ∧ p = nx ∧ E = 0 ∧ R = ⟨n, [], [], [], 0, 0⟩))
theorem rd_total (b : List UInt8) : ∃ R p E, RD b R p E := by
  obtain ⟨n, nx, e, h⟩ := gx_total b 0
  by_cases he : e = 0
  · subst he
    by_cases h1 : n = 1
    · obtain ⟨ls, p, E, hl⟩ := lx_total b nx
      exact ⟨_, p, E, n, nx, 0, h, .inr (.inl ⟨rfl, h1, ls, hl, rfl⟩)⟩
    · by_cases h2 : n = 2
      · obtain ⟨rs, p, E, hl⟩ := rx_total b nx
        exact ⟨_, p, E, n, nx, 0, h, .inr (.inr (.inl ⟨rfl, h2, rs, hl, rfl⟩))⟩
      · by_cases h3 : n = 3
        · obtain ⟨ids, q, E1, hp⟩ := py_total b nx
          by_cases hE : E1 = 0
          · obtain ⟨xs, p, E, hs⟩ := gs_total b 2 q
            exact ⟨_, p, E, n, nx, 0, h, .inr (.inr (.inr (.inl ⟨rfl, h3, ids, q, E1, hp, .inr ⟨hE, xs, hs, rfl⟩⟩)))⟩
          · exact ⟨rec0, 0, E1, n, nx, 0, h, .inr (.inr (.inr (.inl ⟨rfl, h3, ids, q, E1, hp, .inl ⟨hE, rfl, rfl⟩⟩)))⟩
        · exact ⟨_, nx, 0, n, nx, 0, h, .inr (.inr (.inr (.inr ⟨rfl, h1, h2, h3, rfl, rfl, rfl⟩)))⟩
  · exact ⟨rec0, 0, e, n, nx, e, h, .inl ⟨he, rfl, rfl⟩⟩
/-- What is read to the end, and is right, is what the bytes say. -/
theorem rd_one {b : List UInt8} {R : RecV} (h : RD b R b.length 0) (hc : recChk R = 0) : recL R = b := by
  obtain ⟨n, nx, e, hg, h⟩ := h
  rcases h with ⟨h1, _, h2⟩ | ⟨rfl, rfl, ls, hl, rfl⟩ | ⟨rfl, rfl, rs, hl, rfl⟩ | ⟨rfl, rfl, ids, q, E1, hp, h⟩ | ⟨rfl, h1, h2, h3, _, _, rfl⟩
  · exact absurd h2.symm h1
  · exact ((gx_cov hg).trans (lx_cov hl).1).all
  · exact ((gx_cov hg).trans (rx_cov hl)).all
  · rcases h with ⟨h1, _, h2⟩ | ⟨rfl, xs, hs, rfl⟩
    · exact absurd h2.symm h1
    · have c1 := gx_cov hg
      have c2 := (py_cov hp).1
      obtain ⟨c3, h3, _⟩ := gs_cov hs rfl (by omega) c2.2.2.1
      have := ((c1.trans c2).trans c3).all
      match xs, h3 with
      | [x, y], _ =>
        rw [← this]
        show uintL (Int.toNat 3) ++ (postL ids ++ (uintL (Int.toNat (x : Int)) ++ uintL (Int.toNat (y : Int)))) = _
        simp
  · exfalso
    rcases recChk_zero.1 hc with h | h | h <;> have := h.1 <;> simp only at this <;> omega
theorem rd_yes {b : List UInt8} {R : RecV} (h : IsRec b R) : RD b R b.length 0 := by
  obtain ⟨hc, rfl⟩ := h
  obtain ⟨k, la, ro, ids, lo, hi⟩ := R
  rcases recChk_zero.1 hc with ⟨h1, h2, h3, h4, h5, h6⟩ | ⟨h1, h2, h3, h4, h5, h6⟩ | ⟨h1, h2, h3, h6⟩ <;> simp only at h1 h2 h3 h6 <;> subst h1 h2 h3
  · simp only at h4 h5
    subst h4 h5
    have er : recL ⟨1, la, [], [], 0, 0⟩ = uintL 1 ++ bytesL la := rfl
    rw [er]
    have g1 := gx_at [] (bytesL la) 1 (by omega)
    have g2 := lx_at la h6 (uintL 1) []
    rw [List.append_nil] at g2
    refine ⟨1, _, 0, g1, .inr (.inl ⟨rfl, rfl, la, ?_, rfl⟩)⟩
    rw [List.length_append]
    simpa using g2
  · simp only at h4 h5
    subst h4 h5
    have er : recL ⟨2, [], ro, [], 0, 0⟩ = uintL 2 ++ (uintL ro.length ++ rowsL ro) := rfl
    rw [er]
    have g1 := gx_at [] (uintL ro.length ++ rowsL ro) 2 (by omega)
    have g2 := rx_at ro h6 (uintL 2) []
    rw [List.append_nil] at g2
    refine ⟨2, _, 0, g1, .inr (.inr (.inl ⟨rfl, rfl, ro, ?_, rfl⟩))⟩
    rw [List.length_append]
    simpa using g2
  · obtain ⟨d1, d2, d3, d4, d5⟩ := delChk_zero.1 h6
    obtain ⟨x, rfl⟩ : ∃ x : Nat, lo = (x : Int) := ⟨lo.toNat, by omega⟩
    obtain ⟨y, rfl⟩ : ∃ y : Nat, hi = (y : Int) := ⟨hi.toNat, by omega⟩
    have er : recL ⟨3, [], [], ids, (x : Int), (y : Int)⟩ = uintL 3 ++ (postL ids ++ ([x, y] : List Nat).flatMap uintL) := by
      show uintL (Int.toNat 3) ++ (postL ids ++ (uintL (Int.toNat (x : Int)) ++ uintL (Int.toNat (y : Int)))) = _
      simp
    rw [er]
    have g1 := gx_at [] (postL ids ++ ([x, y] : List Nat).flatMap uintL) 3 (by omega)
    have g2 := py_at ids d1 (uintL 3) (([x, y] : List Nat).flatMap uintL)
    have g3 := gs_at [x, y] (uintL 3 ++ postL ids) [] (by intro n hn; simp at hn; omega)
    rw [List.append_nil, List.append_assoc, List.length_append] at g3
    refine ⟨3, _, 0, g1, .inr (.inr (.inr (.inl ⟨rfl, rfl, ids, (uintL 3).length + (postL ids).length, 0, ?_, .inr ⟨rfl, [x, y], ?_, rfl⟩⟩)))⟩
    · simpa using g2
    · have e : (uintL 3 ++ (postL ids ++ ([x, y] : List Nat).flatMap uintL)).length = (uintL 3).length + (postL ids).length + (([x, y] : List Nat).flatMap uintL).length := by rw [List.length_append, List.length_append]; omega
      rw [e]
      exact g3
end Go.Proofs.Ytmgolnlkepiocaa

namespace Go.Proofs.Ytmgolnlkepiocaa
open Go.RowKit Go.Maps
set_option linter.unusedVariables false

theorem below_on {B : Nat} {w w1 w2 : World} (h : Below B w w1) (hB : B ≤ w1.heap.size) (k : Below w1.heap.size w1 w2) : Below B w w2 := h.trans (k.mono hB)
theorem below_on2 {B : Nat} {w w1 w2 : World} (h : Below B w w1) (hB : B ≤ w1.heap.size) {o : Obj} (k : Below (w1.alloc o).heap.size (w1.alloc o) w2) : Below B w w2 := (h.alloc hB o).trans (k.mono (by simp; omega))
theorem alloc_le {B : Nat} {w : World} (h : B ≤ w.heap.size) (o : Obj) : B ≤ (w.alloc o).heap.size := by simp; omega
def natC (ls : List Nat) : Array Value := (ls.map fun n : Nat => Value.int .i64 (n : Int)).toArray
theorem natC_at {ls : List Nat} {k : Nat} (h : k < ls.length) : (natC ls)[k]? = some (.int .i64 ((ls.getD k 0 : Nat) : Int)) := by
  unfold natC
  rw [List.getElem?_toArray, List.getElem?_map, List.getElem?_eq_getElem h, List.getD_eq_getElem?_getD, List.getElem?_eq_getElem h]
  rfl
theorem nat_take {ls : List Nat} {k : Nat} (h : k < ls.length) : (ls.take (k + 1)).flatMap uintL = (ls.take k).flatMap uintL ++ uintL (ls.getD k 0) := by
  rw [List.take_succ_eq_append_getElem h, List.flatMap_append, List.getD_eq_getElem?_getD, List.getElem?_eq_getElem h]
  simp
theorem nat_len (ls : List Nat) (h : ∀ n ∈ ls, n < 9223372036854775808) : (ls.flatMap uintL).length ≤ 9 * ls.length := by
  induction ls with
  | nil => simp
  | cons x r ih =>
    rw [List.flatMap_cons, List.length_append, List.length_cons]
    have := uintL_9 (h x (by simp))
    have := ih fun n hn => h n (List.mem_cons_of_mem _ hn)
    omega
theorem put_nums' (v : Value) (x : List UInt8) (g : Nat) (ls : List Nat) (c : Nat) (base : Nat) (w : World) (hown : Own w base v x) (hN : Row w g 3 (natC ls)) (hl : ls.length ≤ 100) (hx : x.length ≤ 1000000) (hls : ∀ n ∈ ls, n < 9223372036854775808) (hb : base ≤ w.heap.size) :
    Calls Try.prog 25 #[v, .slice (some ⟨g, 0, none⟩) ls.length c] w fun e w' => ∃ v', e = .returned v' ∧ Own w' base v' (x ++ ls.flatMap uintL) ∧ Below base w w' ∧ ∀ G t cs, t ≠ 5 → Row w G t cs → Row w' G t cs := by
  have HO := Lib.hid hown
  have HN := Lib.hid hN
  have HL := Lib.hid (fun k => Nat.le_trans (nat_len (ls.take k) fun n hn => hls n (List.mem_of_mem_take hn)) (show 9 * (ls.take k).length ≤ 900 by rw [List.length_take]; omega))
  have HU := Lib.hid (fun k (hk : k < ls.length) => hls (ls.getD k 0) (by rw [List.getD_eq_getElem?_getD, List.getElem?_eq_getElem hk]; exact List.getElem_mem hk))
  have HB := Lib.hid hb
  obtain ⟨P0, d0, hv0, _, _⟩ := own_slice' hown
  generalize hxl : x.length = xl at hv0
  have HXL := Lib.hid hxl
  subst hv0
  clear hown hN hls hb hxl
  go_enter Try.func25, Try.ntmps25
  go_wp2_with fail
  go_loopw [0, 11] (fun u i wr => ∃ k : Nat, k ≤ ls.length ∧ i = .int .i64 (k : Int) ∧ Own wr base u (x ++ (ls.take k).flatMap uintL) ∧ Row wr g 3 (natC ls) ∧ Below base w wr ∧ ∀ G t cs, t ≠ 5 → Row w G t cs → Row wr G t cs) (fun _ i _ => ls.length - (intOf i).toNat)
  case atStart => exact ⟨0, Nat.zero_le _, rfl, by rw [List.take_zero, List.flatMap_nil, List.append_nil]; exact HO.out, HN.out, Below.refl _ _, fun _ _ _ _ h => h⟩
  case round =>
    obtain ⟨k, hk, rfl, ho, hr, hbr, hrk⟩ := hrel
    have HRK := Lib.hid hrk
    clear hrk
    have HO1 := Lib.hid ho
    have HN1 := Lib.hid hr
    have HB1 := Lib.hid hbr
    by_cases hlt : k < ls.length
    · have c0 : wr.cell? ⟨g, k, none⟩ = some (.int .i64 ((ls.getD k 0 : Nat) : Int)) := (hr.cell k).trans (natC_at hlt)
      have i1 : (k : Int) < (ls.length : Int) := by omega
      have hu := HU.out k hlt
      have HT := Lib.hid (nat_take hlt)
      have HL1 := Lib.hid (HL.out k)
      have HXS : Hid (base ≤ wr.heap.size) := Lib.hid (Nat.le_trans HB.out hbr.size)
      obtain ⟨y, hy⟩ : ∃ y, x ++ (ls.take k).flatMap uintL = y := ⟨_, rfl⟩
      have HYL := Lib.hid (show y.length ≤ 1001000 by rw [← hy, List.length_append]; have := HL.out k; have := HXL.out; omega)
      rw [hy] at HO1
      have HY := Lib.hid hy
      have hu9 := uintL_9 hu
      have HU9 := Lib.hid hu9
      have HP := Lib.hid (fun W => putuint_prog none [] 0 (ls.getD k 0) W (Bys.empty _ _) (by simp) (by omega))
      clear ho hr hbr hy hu hu9
      generalize ls.getD k 0 = n at *
      generalize uintL n = z at *
      obtain ⟨P1, d1, hv1, _, _⟩ := own_slice' HO1.out
      generalize hyl : y.length = yl at hv1
      have HYLE := Lib.hid hyl
      subst hv1
      clear hyl
      go_wp2_with (first
        | (go_at_call 56; refine (HP.out _).mono ?_; rintro e w2 ⟨v2, rfl, ho2, hb2⟩; rw [List.nil_append] at ho2; obtain ⟨P2, d2, hv2, hP2, _⟩ := own_slice' ho2; subst hv2; have HP2 := Lib.hid hP2; have HB2 := Lib.hid (HB1.out.trans (hb2.mono HXS.out)); have HN2 := Lib.hid (HN1.out.below hb2 (Row.lt HN1.out)); have HO2 := Lib.hid (own_below HO1.out hb2); have HS2 := Lib.hid (Nat.le_trans HXS.out hb2.size); have HRK2 := Lib.hid (fun G t cs (ht : t ≠ 5) (h : Row w G t cs) => (HRK.out G t cs ht h).below hb2 (HRK.out G t cs ht h).lt); clear ho2 hb2 hP2)
        | (at_builtin; refine app_u8 rfl (.tmp 20) (.tmp 21) rfl base _ y rfl HO2.out P2 z d2 rfl HP2.out (by have := HU9.out; have := HYL.out; omega) HS2.out ?_; intro v3 w3 hown3 hb3 hg3; have HN3 := Lib.hid (grown_row HN2.out hg3 (own_ne HO2.out HN2.out (by decide))); have HO3 := Lib.hid hown3; have HB3 := Lib.hid (HB2.out.trans hb3); have HRK3 := Lib.hid (fun G t cs (ht : t ≠ 5) (h : Row w G t cs) => grown_row (HRK2.out G t cs ht h) hg3 (own_ne HO2.out (HRK2.out G t cs ht h) ht)); clear hown3 hb3 hg3))
      go_roundw
      case rel => exact ⟨k + 1, hlt, by go_num, by rw [HT.out, ← List.append_assoc, HY.out]; exact HO3.out, HN3.out, HB3.out, HRK3.out⟩
      case measure => simp [intOf]; omega
    · obtain rfl : k = ls.length := by omega
      rw [List.take_length] at HO1
      clear ho hr hbr
      go_wp2_with fail
      go_ret
      exact ⟨_, rfl, HO1.out, HB1.out, HRK.out⟩
theorem put_nums (v : Value) (x : List UInt8) (g : Nat) (ls : List Nat) (c : Nat) (base : Nat) (w : World) (hown : Own w base v x) (hN : Row w g 3 (natC ls)) (hl : ls.length ≤ 100) (hx : x.length ≤ 1000000) (hls : ∀ n ∈ ls, n < 9223372036854775808) (hb : base ≤ w.heap.size) :
    Calls Try.prog 25 #[v, .slice (some ⟨g, 0, none⟩) ls.length c] w fun e w' => ∃ v', e = .returned v' ∧ Own w' base v' (x ++ ls.flatMap uintL) ∧ Below base w w' :=
  (put_nums' v x g ls c base w hown hN hl hx hls hb).mono fun e w' ⟨v', h1, h2, h3, _⟩ => ⟨v', h1, h2, h3⟩
theorem zig_prog (v : Int) (h : -1152921504606846976 ≤ v ∧ v ≤ 1152921504606846976) (w : World) :
    Calls Try.prog 27 #[.int .i64 v] w fun e w' => e = .returned (.int .i64 ((zigV v : Nat) : Int)) ∧ w = w' := by
  obtain ⟨N, hN⟩ : ∃ N, zigV v = N := ⟨_, rfl⟩
  rw [hN]
  unfold zigV at hN
  by_cases h0 : v < 0
  · rw [if_pos h0] at hN
    have i0 : decide (v < 0) = true := decide_eq_true h0
    have e1 : IntKind.i64.wrap (-2 * v) = -2 * v := IntWalk.i64_in (-2 * v) ⟨by omega, by omega⟩
    have e2 : IntKind.i64.wrap (-2 * v - 1) = (N : Int) := by rw [IntWalk.i64_in _ (by omega)]; omega
    clear hN h
    go_enter Try.func27, Try.ntmps27
    go_wp2
    go_ret
    exact ⟨rfl, rfl⟩
  · rw [if_neg h0] at hN
    have i0 : decide (v < 0) = false := decide_eq_false h0
    have e1 : IntKind.i64.wrap (2 * v) = (N : Int) := by rw [IntWalk.i64_in _ (by omega)]; omega
    clear hN h
    go_enter Try.func27, Try.ntmps27
    go_wp2
    go_ret
    exact ⟨rfl, rfl⟩
theorem zig_ref (v : Int) (h : -1152921504606846976 ≤ v ∧ v ≤ 1152921504606846976) (w : World) :
    Calls Try.prog 31 #[.int .i64 v] w fun e w' => e = .returned (.int .i64 ((zigV v : Nat) : Int)) ∧ w = w' := by
  obtain ⟨N, hN⟩ : ∃ N, zigV v = N := ⟨_, rfl⟩
  rw [hN]
  unfold zigV at hN
  by_cases h0 : v < 0
  · rw [if_pos h0] at hN
    have i0 : decide (v < 0) = true := decide_eq_true h0
    have e1 : IntKind.i64.wrap (-2 * v) = -2 * v := IntWalk.i64_in (-2 * v) ⟨by omega, by omega⟩
    have e2 : IntKind.i64.wrap (-2 * v - 1) = (N : Int) := by rw [IntWalk.i64_in _ (by omega)]; omega
    clear hN h
    go_enter Try.func31, Try.ntmps31
    go_wp2
    go_ret
    exact ⟨rfl, rfl⟩
  · rw [if_neg h0] at hN
    have i0 : decide (v < 0) = false := decide_eq_false h0
    have e1 : IntKind.i64.wrap (2 * v) = (N : Int) := by rw [IntWalk.i64_in _ (by omega)]; omega
    clear hN h
    go_enter Try.func31, Try.ntmps31
    go_wp2
    go_ret
    exact ⟨rfl, rfl⟩
end Go.Proofs.Ytmgolnlkepiocaa

namespace Go.Proofs.Ytmgolnlkepiocaa
open Go.RowKit Go.Maps
set_option linter.unusedVariables false

theorem rx_no_prog {l : List UInt8} {a : Int} {n nx e : Nat} (h : GX l a n nx e) (he : e ≠ 0 ∨ 64 < n) (A : Option Addr) (c : Nat) (w : World) (hA : Bys w A l) (hlc : l.length ≤ c) (hl : l.length ≤ 140737488355328) :
    Calls Try.prog 69 #[.slice A l.length c, .int .i64 a] w (RowsTold w [] 0 (if e = 0 then 3 else e)) := by
  have hn := (gx_place h).2
  have hgs : ∃ p, GS l 1 a (if e = 0 then [n] else []) p e := by
    by_cases h0 : e = 0
    · subst h0
      exact ⟨nx, by rw [if_pos rfl]; exact .more 0 a n nx [] nx 0 h (.done _)⟩
    · exact ⟨0, by rw [if_neg h0]; exact .bad 0 a n nx e h h0⟩
  obtain ⟨p, hgs⟩ := hgs
  have hW : Below w.heap.size w ((w.alloc (.cells #[.int .i64 0] 3)).alloc (.cells #[ptr w.heap.size 0] 121)) := (below_one _ _).alloc (by simp) _
  have HG := Lib.hid (wget_prog A l c a (w.heap.size + 1) [(w.heap.size, 0)] 1 w.heap.size ((w.alloc (.cells #[.int .i64 0] 3)).alloc (.cells #[ptr w.heap.size 0] 121)) (T1 (w.heap.size + 1) w.heap.size)
    (fun W hWW => hA.below (hW.trans hWW)) hlc hl hW.size (by simp) ⟨by simp, heap_alloc2_new w _ _, (Row.new w 3 #[.int .i64 0]).alloc _⟩ (t1_ok _ _ _ (Nat.le_refl _)) hgs)
  have HW := Lib.hid hW
  by_cases h0 : e = 0
  · subst h0
    have h64 : 64 < n := by rcases he with h | h; exact absurd rfl h; exact h
    have i1 : decide ((64 : Int) < (n : Int)) = true := by simp; omega
    rw [if_pos rfl] at HG ⊢
    clear hW h he hn hgs hA
    go_enter Try.func69, Try.ntmps69
    go_wp2_with (go_at_call 67; refine HG.out.mono ?_; rintro e w2 ⟨rfl, ⟨vs, hT, hvs⟩, hb2⟩; obtain rfl := hvs rfl; obtain ⟨_, _, hX⟩ := hT; have c0 : w2.cell? ⟨w.heap.size, 0, none⟩ = some (.int .i64 (n : Int)) := hX.cell 0; have HB2 := Lib.hid (HW.out.trans hb2); clear hX hb2)
    go_ret3
    exact ⟨_, rfl, ownw_nil _ _, HB2.out⟩
  · have i2 : ((e : Int) != 0) = true := bne_iff_ne.2 (by omega)
    have i3 : ((e : Int) == 0) = false := beq_eq_false_iff_ne.2 (by omega)
    rw [if_neg h0] at HG ⊢
    clear hW h he hn hgs hA h0
    go_enter Try.func69, Try.ntmps69
    go_wp2_with (go_at_call 67; refine HG.out.mono ?_; rintro e w2 ⟨rfl, _, hb2⟩; have HB2 := Lib.hid (HW.out.trans hb2); clear hb2)
    go_ret3
    exact ⟨_, rfl, ownw_nil _ _, HB2.out⟩
theorem step_wrows {w : World} {ops : Array Oper} {o : Oper} {a : Act} {K : Act → World → Prop} {Q : Exit → Act → World → Prop} {E : Prop} (hgd : o.guard = none) (s y : Operand)
    (ho : o.op = .call { callee := .builtin .append, args := #[s, y], argTypes := #[23, 23] })
    (base : Nat) (v : Value) (x : List Wrow) (hs : a.eval s = v) (hown : OwnW w base v x) (A : Option Addr) (l : List Wrow) (c m : Nat) (hm : l.length = m) (hy : a.eval y = .slice A m c) (hA : Wrows w A l) (hn : (x.length + l.length) * 24 ≤ 140737488355328) (hbase : base ≤ w.heap.size)
    (h : ∀ v' w', OwnW w' base v' (x ++ l) → Below base w w' → w.grownBy w' v.ownBlock → K (a.put o.dst v') w') : if Region.wanted o (yielded ops a.tmps) = true then Oper.wp Try.prog o a w K Q else E := by
  subst hm
  obtain ⟨i0, hi, hz0, hz1, hz2⟩ := info_parts wrow_info
  refine step_app_at hgd s y 23 ho base 62 i0 _ 3 24 Try.underlying23 hi hz0 hz1 hz2 rfl (by omega) v x.length (x.flatMap wrowE) hs hown A l.length c (l.flatMap wrowE) hy (flat_len wrowE 3 wrowE_len l) hA (wrow_one l)
    (by simp only [maxLen]; omega) hn hbase ?_
  intro v' w' h1 h2 h3
  refine h v' w' ?_ h2 h3
  unfold OwnW
  rw [List.flatMap_append, List.length_append]
  exact h1
set_option maxRecDepth 20000 in
set_option maxHeartbeats 1000000 in
theorem rx_yes_prog {l : List UInt8} {a : Int} {n nx : Nat} (h : GX l a n nx 0) (h64 : n ≤ 64) {xs : List Nat} {p : Int} {E : Nat} (hg : GS l (3 * n) nx xs p E) (rows : List Wrow) (hr : E = 0 → rows = rows3 xs) (hr2 : E ≠ 0 → rows = []) (A : Option Addr) (c : Nat) (w : World) (hA : Bys w A l) (hlc : l.length ≤ c) (hl : l.length ≤ 140737488355328) :
    Calls Try.prog 69 #[.slice A l.length c, .int .i64 a] w (RowsTold w rows p E) := by
  have hgs : GS l 1 a [n] nx 0 := .more 0 a n nx [] nx 0 h (.done _)
  have hW : Below w.heap.size w ((w.alloc (.cells #[.int .i64 0] 3)).alloc (.cells #[ptr w.heap.size 0] 121)) := (below_one _ _).alloc (by simp) _
  have HG := Lib.hid (wget_prog A l c a (w.heap.size + 1) [(w.heap.size, 0)] 1 w.heap.size ((w.alloc (.cells #[.int .i64 0] 3)).alloc (.cells #[ptr w.heap.size 0] 121)) (T1 (w.heap.size + 1) w.heap.size)
    (fun W hWW => hA.below (hW.trans hWW)) hlc hl hW.size (by simp) ⟨by simp, heap_alloc2_new w _ _, (Row.new w 3 #[.int .i64 0]).alloc _⟩ (t1_ok _ _ _ (Nat.le_refl _)) hgs)
  have HW := Lib.hid hW
  have i1 : decide ((64 : Int) < (n : Int)) = false := by simp; omega
  have HA := Lib.hid hA
  have HGS := Lib.hid hg
  have HR := Lib.hid hr
  have HR2 := Lib.hid hr2
  clear hW hgs hA hg hr hr2 h
  go_enter Try.func69, Try.ntmps69
  go_wp2_with (go_at_call 67; refine HG.out.mono ?_; rintro e w2 ⟨rfl, ⟨vs, hT, hvs⟩, hb2⟩; obtain rfl := hvs rfl; obtain ⟨_, _, hX⟩ := hT; have c0 : w2.cell? ⟨w.heap.size, 0, none⟩ = some (.int .i64 (n : Int)) := hX.cell 0; have HB2 := Lib.hid (HW.out.trans hb2); clear hX hb2)
  go_loopw [1, 9, 26] (fun u1 u9 i wr => ∃ (k : Nat) (a2 : Int) (xs2 : List Nat) (rs : List Wrow), k ≤ n ∧ i = .int .i64 (k : Int) ∧ u1 = .int .i64 a2 ∧ GS l (3 * (n - k)) a2 xs2 p E ∧ OwnW wr w.heap.size u9 rs ∧ rs.length = k ∧ (E = 0 → rows = rs ++ rows3 xs2) ∧ Below w.heap.size w wr) (fun _ _ i _ => n - (intOf i).toNat)
  case atStart => exact ⟨0, nx, xs, [], Nat.zero_le _, rfl, rfl, HGS.out, ownw_nil _ _, rfl, HR.out, HB2.out⟩
  case round =>
    obtain ⟨k, a2, xs2, rs, hk, rfl, rfl, hgs, ho, hrl, hrr, hbr⟩ := hrel
    have HO1 := Lib.hid ho
    have HB1 := Lib.hid hbr
    have HRR := Lib.hid hrr
    have HRL := Lib.hid hrl
    by_cases hlt : k < n
    · have i2 : (k : Int) < (n : Int) := by omega
      rw [show 3 * (n - k) = 3 + 3 * (n - (k + 1)) from by omega] at hgs
      obtain ⟨ys, q, e1, hy, hres⟩ := gs_split 3 _ hgs
      have hW3 : Below wr.heap.size wr ((((wr.alloc (.cells #[.int .i64 0] 3)).alloc (.cells #[.int .i64 0] 3)).alloc (.cells #[.int .i64 0] 3)).alloc (.cells #[ptr wr.heap.size 0, ptr (wr.heap.size + 1) 0, ptr (wr.heap.size + 2) 0] 121)) :=
        (((below_one _ _).alloc (by simp) _).alloc (by simp; omega) _).alloc (by simp; omega) _
      have HG3 := Lib.hid (wget_prog A l c a2 (wr.heap.size + 3) [(wr.heap.size, 0), (wr.heap.size + 1, 0), (wr.heap.size + 2, 0)] 3 wr.heap.size ((((wr.alloc (.cells #[.int .i64 0] 3)).alloc (.cells #[.int .i64 0] 3)).alloc (.cells #[.int .i64 0] 3)).alloc (.cells #[ptr wr.heap.size 0, ptr (wr.heap.size + 1) 0, ptr (wr.heap.size + 2) 0] 121)) (T3 (wr.heap.size + 3) wr.heap.size)
        (fun W hWW => HA.out.below (hbr.trans ((hW3.trans hWW).mono hbr.size))) hlc hl hW3.size (by simp)
        ⟨by simp, by have := Row.new (((wr.alloc (.cells #[.int .i64 0] 3)).alloc (.cells #[.int .i64 0] 3)).alloc (.cells #[.int .i64 0] 3)) 121 #[ptr wr.heap.size 0, ptr (wr.heap.size + 1) 0, ptr (wr.heap.size + 2) 0]; simpa using this,
          (((Row.new wr 3 #[.int .i64 0]).alloc _).alloc _).alloc _,
          by have := (((Row.new (wr.alloc (.cells #[.int .i64 0] 3)) 3 #[.int .i64 0]).alloc (.cells #[.int .i64 0] 3)).alloc (.cells #[ptr wr.heap.size 0, ptr (wr.heap.size + 1) 0, ptr (wr.heap.size + 2) 0] 121)); simpa using this,
          by have := ((Row.new ((wr.alloc (.cells #[.int .i64 0] 3)).alloc (.cells #[.int .i64 0] 3)) 3 #[.int .i64 0]).alloc (.cells #[ptr wr.heap.size 0, ptr (wr.heap.size + 1) 0, ptr (wr.heap.size + 2) 0] 121)); simpa using this⟩ (t3_ok _ _ _ (Nat.le_refl _)) hy)
      have HW3 := Lib.hid (hbr.trans (hW3.mono hbr.size))
      have HW3' := Lib.hid hW3
      have HYL := Lib.hid (gs_len hy)
      have HRES := Lib.hid hres
      have HLT := Lib.hid hlt
      obtain ⟨P1, d1, hv1, _, _⟩ := ownw_slice ho
      rw [hrl] at hv1
      subst hv1
      clear hgs hy hres hW3 hbr ho hrr hrl
      by_cases he1 : e1 = 0
      · subst he1
        have hyl := HYL.out.1 rfl
        obtain ⟨x, y, z, rfl⟩ : ∃ x y z, ys = [x, y, z] := by
          match ys, hyl with
          | [x, y, z], _ => exact ⟨x, y, z, rfl⟩
        have HZ := Lib.hid (zag_prog z (HYL.out.2 z (by simp)))
        rcases HRES.out with ⟨h1, _⟩ | ⟨_, zs, rfl, hgz⟩
        · exact absurd rfl h1
        have HGZ := Lib.hid hgz
        clear hyl HYL HRES hgz
        generalize hzv : zagV z = zv at *
        have HZV := Lib.hid hzv
        clear hzv
        go_upto_region 14 with (go_at_call 67; refine HG3.out.mono ?_; rintro e w3 ⟨rfl, ⟨vs, hT, hvs⟩, hb3⟩; obtain rfl := hvs rfl; obtain ⟨_, _, hX0, hX1, hX2⟩ := hT; have d0 : w3.cell? ⟨wr.heap.size, 0, none⟩ = some (.int .i64 (x : Int)) := hX0.cell 0; have d1 : w3.cell? ⟨wr.heap.size + 1, 0, none⟩ = some (.int .i64 (y : Int)) := hX1.cell 0; have d2 : w3.cell? ⟨wr.heap.size + 2, 0, none⟩ = some (.int .i64 (z : Int)) := hX2.cell 0; have HB3 := Lib.hid (HW3.out.trans (hb3.mono HB1.out.size)); have HO3 := Lib.hid (ownw_below HO1.out (HW3'.out.trans hb3)); have HS3 := Lib.hid hb3.size; have HX0 := Lib.hid (fun W (hW : Below w3.heap.size w3 W) => hX0.below hW hX0.lt); have HX1 := Lib.hid (fun W (hW : Below w3.heap.size w3 W) => hX1.below hW hX1.lt); have HX2 := Lib.hid (fun W (hW : Below w3.heap.size w3 W) => hX2.below hW hX2.lt); clear hX0 hX1 hX2 hb3)
        have HOW := Lib.hid (fun W (hW : Below w3.heap.size w3 W) => ownw_below HO3.out hW)
        have HBW := Lib.hid (fun W (hW : Below w3.heap.size w3 W) => hW.mono HB3.out.size)
        go_region_held3 (fun w' => w'.cell? ⟨wr.heap.size, 0, none⟩ = some (.int .i64 (x : Int)) ∧ w'.cell? ⟨wr.heap.size + 1, 0, none⟩ = some (.int .i64 (y : Int)) ∧ w'.cell? ⟨wr.heap.size + 2, 0, none⟩ = some (.int .i64 (z : Int)))
          (first | exact ⟨d0, d1, d2⟩ | exact ⟨y0, y1, y2⟩ | go_keep)
          (first
            | (go_at_call 97; refine (HZ.out _).mono ?_; rintro e w5 ⟨rfl, hw5⟩; subst hw5)
            | (refine step_wrows rfl (.tmp 38) (.tmp 45) rfl w.heap.size _ rs rfl (HOW.out _ (by repeat (first | exact Below.refl _ _ | refine Below.drew ?_ | refine Below.alloc ?_ (by simp) _))) _ [((x : Int), (y : Int), zv)] 1 1 rfl rfl (wrows_cell (Row.new _ _ _)) (by have := HRL.out; have := HLT.out; simp; omega) (Nat.le_trans HB3.out.size (by simp)) ?_
               intro v6 w6 ho6 hb6 hg6
               have y0 : w6.cell? ⟨wr.heap.size, 0, none⟩ = some (.int .i64 (x : Int)) := (grown_row (HX0.out _ (by repeat (first | exact Below.refl _ _ | refine Below.drew ?_ | refine Below.alloc ?_ (by simp) _))) hg6 (rows_ne (HX0.out _ (by repeat (first | exact Below.refl _ _ | refine Below.drew ?_ | refine Below.alloc ?_ (by simp) _))) (HOW.out _ (by repeat (first | exact Below.refl _ _ | refine Below.drew ?_ | refine Below.alloc ?_ (by simp) _))) (by decide)).symm).cell 0
               have y1 : w6.cell? ⟨wr.heap.size + 1, 0, none⟩ = some (.int .i64 (y : Int)) := (grown_row (HX1.out _ (by repeat (first | exact Below.refl _ _ | refine Below.drew ?_ | refine Below.alloc ?_ (by simp) _))) hg6 (rows_ne (HX1.out _ (by repeat (first | exact Below.refl _ _ | refine Below.drew ?_ | refine Below.alloc ?_ (by simp) _))) (HOW.out _ (by repeat (first | exact Below.refl _ _ | refine Below.drew ?_ | refine Below.alloc ?_ (by simp) _))) (by decide)).symm).cell 0
               have y2 : w6.cell? ⟨wr.heap.size + 2, 0, none⟩ = some (.int .i64 (z : Int)) := (grown_row (HX2.out _ (by repeat (first | exact Below.refl _ _ | refine Below.drew ?_ | refine Below.alloc ?_ (by simp) _))) hg6 (rows_ne (HX2.out _ (by repeat (first | exact Below.refl _ _ | refine Below.drew ?_ | refine Below.alloc ?_ (by simp) _))) (HOW.out _ (by repeat (first | exact Below.refl _ _ | refine Below.drew ?_ | refine Below.alloc ?_ (by simp) _))) (by decide)).symm).cell 0
               have HO6 := Lib.hid ho6
               have HB6 := Lib.hid (HB3.out.trans ((HBW.out _ (by repeat (first | exact Below.refl _ _ | refine Below.drew ?_ | refine Below.alloc ?_ (by simp) _))).trans hb6))
               clear ho6 hb6 hg6))
        all_goals
          go_wp2_with fail
          go_roundw
          case rel => exact ⟨k + 1, q, zs, rs ++ [((x : Int), (y : Int), zv)], hlt, by go_num, rfl, HGZ.out, HO6.out, by rw [List.length_append, HRL.out]; rfl, fun h => by rw [HRR.out h, List.append_assoc, ← HZV.out]; rfl, HB6.out⟩
          case measure => simp [intOf]; omega
      · have i3 : ((e1 : Int) != 0) = true := bne_iff_ne.2 (by omega)
        have i4 : ((e1 : Int) == 0) = false := beq_eq_false_iff_ne.2 (by omega)
        have HE := Lib.hid (show p = 0 ∧ E = e1 ∧ rows = [] by
          rcases HRES.out with ⟨h1, h2, h3⟩ | ⟨h1, _⟩
          · exact ⟨h2, h3, HR2.out (by rw [h3]; exact h1)⟩
          · exact absurd h1 he1)
        clear HRES he1 HYL
        go_wp2_with (go_at_call 67; refine HG3.out.mono ?_; rintro e w3 ⟨rfl, _, hb3⟩; have HB3 := Lib.hid (HW3.out.trans (hb3.mono HB1.out.size)); clear hb3)
        go_ret3
        obtain ⟨e1, e2, e3⟩ := HE.out
        rw [e1, e2, e3]
        exact ⟨_, rfl, ownw_nil _ _, HB3.out⟩
    · obtain rfl : k = n := by omega
      rw [Nat.sub_self, Nat.mul_zero] at hgs
      obtain ⟨rfl, rfl, rfl⟩ := gs_end hgs
      have HV := Lib.hid (show rows = rs by have := hrr rfl; simpa [rows3] using this)
      obtain ⟨P1, d1, hv1, _, _⟩ := ownw_slice ho
      generalize rs.length = rl at hv1
      subst hv1
      clear hgs hrr ho hbr HRR hrl
      go_wp2_with fail
      go_ret3
      exact ⟨_, rfl, by rw [HV.out]; exact HO1.out, HB1.out⟩
theorem readrows_prog {l : List UInt8} {a : Int} {rs : List Wrow} {p : Int} {E : Nat} (h : RX l a rs p E) (A : Option Addr) (c : Nat) (w : World) (hA : Bys w A l) (hlc : l.length ≤ c) (hl : l.length ≤ 140737488355328) :
    Calls Try.prog 69 #[.slice A l.length c, .int .i64 a] w (RowsTold w rs p E) := by
  obtain ⟨n, nx, e, hx, h⟩ := h
  rcases h with ⟨h1, rfl, rfl, rfl⟩ | ⟨rfl, h1, rfl, rfl, rfl⟩ | ⟨rfl, h1, xs, hg, h2, h3⟩
  · have := rx_no_prog hx (.inl h1) A c w hA hlc hl
    rwa [if_neg h1] at this
  · exact rx_no_prog hx (.inr h1) A c w hA hlc hl
  · exact rx_yes_prog hx h1 hg rs h2 h3 A c w hA hlc hl
end Go.Proofs.Ytmgolnlkepiocaa
