/- Rename, Remove, Sync, SyncDir: what is told, and the disk behind. -/
import Derived.Test.YtiepepikbophmaaDkCalls
namespace Go.Proofs.Ytiepepikbophmaa
open Go.RowKit Go.Maps
set_option linter.unusedVariables false

section
variable {S : Nat → Prop} {w : World} {X dm bm : Nat} {wv : Value} {fb : Nat → Nat} {vb : Nat → Value} {d : Dsk}
theorem enter_change (hin : DiskIn w X dm bm wv fb vb d) (hS : ∀ k, Foot X dm bm wv fb vb d.files.length k → S k) (hF : Fine d) (hq : Few d) (s : Stp) (hs : match s with | .lay n _ => n.length ≤ 24 | .move n t => n.length ≤ 24 ∧ t.length ≤ 24 | .take n => n.length ≤ 24)
    {kind : Int} {name to b : List UInt8} (hy : whyNot d kind name to b = 0) (ha : (power d).2 = 0 → applyD (power d).1 kind name to b = { (power d).1 with wait := d.wait ++ [s] }) {w2 : World} (hb : Below w.heap.size w w2) :
    Calls Try.prog 68 #[.pointer (some ⟨X, 0, none⟩), .agg #[.string (txt (entOf (live d) s).1), .string (txt (entOf (live d) s).2.1), fileV fb (entOf (live d) s).2.2]] w2 fun e w' => e = .returned (.int .i64 (change d kind name to b).2) ∧ After S w X (change d kind name to b).1 w' := by
  have hin2 := hin.below hb
  by_cases hp : (power d).2 = 0
  · rw [change_ok hy hp, ha hp]
    refine (enter_ok hin2 hF hq hp s hs).mono ?_
    rintro e w' ⟨he, wv', k1, k2, k3⟩
    refine ⟨he, after_back hb (after_entered hin2 hS k1 ?_ k2 k3)⟩
    obtain ⟨_, _, _, _, p5, _⟩ := power_ok hp
    exact p5
  · rw [change_dark hy hp]
    refine (enter_no hin2 hp (entOf (live d) s)).mono ?_
    rintro e w' ⟨he, k1, k2⟩
    exact ⟨he, after_back hb (after_dark hin2 hS hp k1 k2)⟩
end

/-! ### files -/
structure FilesIn (w : World) (fb : Nat → Nat) (vb : Nat → Value) (fs : List Fil) : Prop where
  file : ∀ i, i < fs.length → Row w (fb i) 111 #[vb i, .int .i64 ((fs.getD i fil0).sure : Int)]
  byts : ∀ i, i < fs.length → Own w 0 (vb i) (fs.getD i fil0).b
  fbs : ∀ i j, i < fs.length → j < fs.length → i ≠ j → fb i ≠ fb j
  vbs : ∀ i j, i < fs.length → j < fs.length → i ≠ j → ∀ k, (vb i).ownBlock = some k → (vb j).ownBlock ≠ some k
def updV (vb : Nat → Value) (n : Nat) (v : Value) : Nat → Value := fun i => if i = n then v else vb i
def FFoot (fb : Nat → Nat) (vb : Nat → Value) (n k : Nat) : Prop := ∃ i, i < n ∧ (k = fb i ∨ (vb i).ownBlock = some k)
theorem FilesIn.lt {w : World} {fb : Nat → Nat} {vb : Nat → Value} {fs : List Fil} (h : FilesIn w fb vb fs) : ∀ k, FFoot fb vb fs.length k → k < w.heap.size := by
  rintro k ⟨i, hi, rfl | e⟩
  · exact (h.file i hi).lt
  · exact (World.ownsRow.lt (h.byts i hi) k e).2
theorem FilesIn.move {w w' : World} {fb : Nat → Nat} {vb : Nat → Value} {fs : List Fil} (h : FilesIn w fb vb fs) (hb : ∀ k, FFoot fb vb fs.length k → w'.heap[k]? = w.heap[k]?) : FilesIn w' fb vb fs :=
  ⟨fun i hi => row_move (h.file i hi) (hb _ ⟨i, hi, .inl rfl⟩), fun i hi => own_move (h.byts i hi) fun k hk => hb k ⟨i, hi, .inr hk⟩, h.fbs, h.vbs⟩
theorem FilesIn.set {w w' : World} {fb : Nat → Nat} {vb : Nat → Value} {fs : List Fil} (h : FilesIn w fb vb fs) {n : Nat} (hn : n < fs.length) {v' : Value} {f' : Fil} (hrow : Row w' (fb n) 111 #[v', .int .i64 (f'.sure : Int)]) (hown : Own w' 0 v' f'.b)
    (hK : ∀ k, FFoot fb vb fs.length k → k ≠ fb n → (vb n).ownBlock ≠ some k → w'.heap[k]? = w.heap[k]?) (hv : ∀ k, v'.ownBlock = some k → (vb n).ownBlock = some k ∨ w.heap.size ≤ k) : FilesIn w' fb (updV vb n v') (fs.set n f') := by
  have hother : ∀ i, i ≠ n → updV vb n v' i = vb i := fun i hi => by unfold updV; rw [if_neg hi]
  have hself : updV vb n v' n = v' := by unfold updV; rw [if_pos rfl]
  have gother : ∀ i, i ≠ n → (fs.set n f').getD i fil0 = fs.getD i fil0 := fun i hi => by rw [fget_set, if_neg (fun e => hi e.1.symm)]
  have gself : (fs.set n f').getD n fil0 = f' := by rw [fget_set, if_pos ⟨rfl, hn⟩]
  have hlt := h.lt
  refine ⟨?_, ?_, ?_, ?_⟩
  · intro i hi
    rw [List.length_set] at hi
    by_cases hin : i = n
    · subst hin
      rw [hself, gself]
      exact hrow
    · rw [hother i hin, gother i hin]
      exact row_move (h.file i hi) (hK _ ⟨i, hi, .inl rfl⟩ (h.fbs i n hi hn hin) (row_ne_rows (h.file i hi) (h.byts n hn) (by decide)))
  · intro i hi
    rw [List.length_set] at hi
    by_cases hin : i = n
    · subst hin
      rw [hself, gself]
      exact hown
    · rw [hother i hin, gother i hin]
      refine own_move (h.byts i hi) fun k hk => hK k ⟨i, hi, .inr hk⟩ ?_ ?_
      · rintro rfl
        exact row_ne_rows (h.file n hn) (h.byts i hi) (by decide) hk
      · exact h.vbs i n hi hn hin k hk
  · intro i j hi hj hij
    rw [List.length_set] at hi hj
    exact h.fbs i j hi hj hij
  · intro i j hi hj hij k hk
    rw [List.length_set] at hi hj
    by_cases hin : i = n
    · subst hin
      rw [hself] at hk
      rw [hother j (Ne.symm hij)]
      rcases hv k hk with e | e
      · exact h.vbs i j hi hj hij k e
      · intro e2
        have := hlt k ⟨j, hj, .inr e2⟩
        omega
    · rw [hother i hin] at hk
      by_cases hjn : j = n
      · subst hjn
        rw [hself]
        intro e2
        rcases hv k e2 with e | e
        · exact h.vbs i j hi hj hij k hk e
        · have := hlt k ⟨i, hi, .inr hk⟩
          omega
      · rw [hother j hjn]
        exact h.vbs i j hi hj hij k hk
section
variable {S : Nat → Prop} {w : World} {X dm bm : Nat} {wv : Value} {fb : Nat → Nat} {vb : Nat → Value} {d : Dsk}
theorem DiskIn.filesIn (h : DiskIn w X dm bm wv fb vb d) : FilesIn w fb vb d.files := ⟨h.file, h.byts, h.fbs, h.vbs⟩
/-- The struct and one file have turned. -/
theorem DiskIn.filed (h : DiskIn w X dm bm wv fb vb d) {n : Nat} (hn : n < d.files.length) {w' : World} {v' : Value} {f' : Fil} {d' : Dsk} (hr : Row w' X 73 (diskC d' dm bm wv)) (hb : d'.base = d.base) (hw : d'.wait = d.wait) (hf : d'.files = d.files.set n f')
    (hrow : Row w' (fb n) 111 #[v', .int .i64 (f'.sure : Int)]) (hown : Own w' 0 v' f'.b) (hK : Kept (fun k => k = X ∨ k = fb n ∨ (vb n).ownBlock = some k) w w') (hv : ∀ k, v'.ownBlock = some k → (vb n).ownBlock = some k ∨ w.heap.size ≤ k) : DiskIn w' X dm bm wv fb (updV vb n v') d' := by
  obtain ⟨a1, a2, a3, a4, a5, a6⟩ := h.apart
  obtain ⟨b1, b2, b3, b4, b5, b6, b7, b8, b9⟩ := a6 n hn
  have hfs := h.filesIn.set hn hrow hown (w' := w') (fun k hk h1 h2 => hK.block k (h.filesIn.lt k hk) (by
    rintro (e | e | e)
    · obtain ⟨i, hi, e2⟩ := hk
      obtain ⟨c1, _, _, _, c5, _⟩ := a6 i hi
      subst e
      exact e2.elim (fun e => c1 e.symm) c5
    · exact h1 e
    · exact h2 e)) hv
  have hl : live d' = live d := by unfold live; rw [hb, hw]
  rw [← hf] at hfs
  refine ⟨hr, ?_, ?_, h.ne, ?_, hfs.file, hfs.byts, hfs.fbs, hfs.vbs⟩
  · rw [hl]
    exact h.dir.block (hK.block dm h.dir.lt (by rintro (e | e | e); exact a1 e.symm; exact b2 e.symm; exact b6 e))
  · rw [hb]
    exact h.base.block (hK.block bm h.base.lt (by rintro (e | e | e); exact a2 e.symm; exact b3 e.symm; exact b7 e))
  · rw [hb, hw]
    exact rows_move h.wait fun k hk => hK.block k (World.ownsRow.lt h.wait k hk).2 (by rintro (e | e | e); (subst e; exact a3 hk); (subst e; exact b4 hk); exact b8 k hk e)
theorem after_filed (hin : DiskIn w X dm bm wv fb vb d) (hS : ∀ k, Foot X dm bm wv fb vb d.files.length k → S k) {n : Nat} (hn : n < d.files.length) {d' : Dsk} {w' : World} {v' : Value} {f' : Fil} (h : DiskIn w' X dm bm wv fb (updV vb n v') d') (hf : d'.files = d.files.set n f') (hK : Kept (fun k => k = X ∨ k = fb n ∨ (vb n).ownBlock = some k) w w') (hv : ∀ k, v'.ownBlock = some k → (vb n).ownBlock = some k ∨ w.heap.size ≤ k) : After S w X d' w' := by
  refine ⟨⟨dm, bm, wv, fb, updV vb n v', h, ?_⟩, hK.mono ?_⟩
  · rw [hf, List.length_set]
    rintro k (e | e | e | e | ⟨i, hi, e⟩)
    · exact .inl (hS k (.inl e))
    · exact .inl (hS k (.inr (.inl e)))
    · exact .inl (hS k (.inr (.inr (.inl e))))
    · exact .inl (hS k (.inr (.inr (.inr (.inl e)))))
    · by_cases hin2 : i = n
      · subst hin2
        unfold updV at e
        rw [if_pos rfl] at e
        rcases e with e | e
        · exact .inl (hS k (.inr (.inr (.inr (.inr ⟨i, hi, .inl e⟩)))))
        · rcases hv k e with e | e
          · exact .inl (hS k (.inr (.inr (.inr (.inr ⟨i, hi, .inr e⟩)))))
          · exact .inr e
      · unfold updV at e
        rw [if_neg hin2] at e
        exact .inl (hS k (.inr (.inr (.inr (.inr ⟨i, hi, e⟩)))))
  · rintro k (e | e | e)
    · exact hS k (.inl e)
    · exact hS k (.inr (.inr (.inr (.inr ⟨n, hn, .inl e⟩))))
    · exact hS k (.inr (.inr (.inr (.inr ⟨n, hn, .inr e⟩))))

/-! ### why not -/
theorem why_bad {kind : Int} {s to b : List UInt8} (hk : kind ≠ 6) (h : namedB s = false) : whyNot d kind s to b = 8 := by unfold whyNot; rw [if_pos (.inl ⟨hk, h⟩)]
theorem why_bad_to {s to b : List UInt8} (h : namedB to = false) : whyNot d 3 s to b = 8 := by unfold whyNot; rw [if_pos (.inr ⟨rfl, h⟩)]
theorem why_none {kind : Int} {s to b : List UInt8} (hk : 1 < kind ∧ kind < 6) (h : namedB s = true) (ht : kind = 3 → namedB to = true) (hw : whose (live d) s = none) : whyNot d kind s to b = 9 := by
  unfold whyNot
  rw [if_neg (by rintro (⟨_, e⟩ | ⟨e1, e2⟩); (rw [h] at e; cases e); (rw [ht e1] at e2; cases e2)), if_neg (by omega), if_neg (by omega), if_pos ⟨hk.1, hk.2, hw⟩]
theorem why_fine {kind : Int} {s to b : List UInt8} {n : Nat} (hk : 2 < kind ∧ kind < 6) (h : namedB s = true) (ht : kind = 3 → namedB to = true) (hw : whose (live d) s = some n) : whyNot d kind s to b = 0 := by
  unfold whyNot
  rw [if_neg (by rintro (⟨_, e⟩ | ⟨e1, e2⟩); (rw [h] at e; cases e); (rw [ht e1] at e2; cases e2)), if_neg (by omega), if_neg (by omega), if_neg (by rw [hw]; rintro ⟨_, _, e⟩; cases e), if_neg (by omega)]
theorem why_sync_dir (s to b : List UInt8) : whyNot d 6 s to b = 0 := by
  unfold whyNot
  simp

theorem apply_move {name to b : List UInt8} (hp : (power d).2 = 0) : applyD (power d).1 3 name to b = { (power d).1 with wait := d.wait ++ [.move name to] } := by
  obtain ⟨_, _, _, _, _, _, p7, _⟩ := power_ok hp
  unfold applyD
  dsimp only
  rw [if_neg (by decide), if_neg (by decide), if_pos rfl, p7]
theorem apply_take {name to b : List UInt8} (hp : (power d).2 = 0) : applyD (power d).1 4 name to b = { (power d).1 with wait := d.wait ++ [.take name] } := by
  obtain ⟨_, _, _, _, _, _, p7, _⟩ := power_ok hp
  unfold applyD
  dsimp only
  rw [if_neg (by decide), if_neg (by decide), if_neg (by decide), if_pos rfl, p7]
end

section
variable {S : Nat → Prop} {w : World} {X : Nat} {d : Dsk}
set_option maxRecDepth 20000 in
theorem remove_prog (h : DiskAt S w X d) (hF : Fine d) (hq : Few d) (s : ByteArray) (to b : List UInt8) (hm : s.size ≤ 281474976710656) :
    Calls Try.prog 41 #[.pointer (some ⟨X, 0, none⟩), .string s] w fun e w' => e = .returned (.int .i64 (change d 4 (strL s) to b).2) ∧ After S w X (change d 4 (strL s) to b).1 w' := by
  have hsame := fun w' => after_same (w' := w') h
  have HS := Lib.hid hsame
  obtain ⟨dm, bm, wv, fb, vb, hin, hS⟩ := h
  cases hn : namedB (strL s)
  · have hw := why_bad (d := d) (kind := 4) (to := to) (b := b) (by decide) hn
    rw [change_no (by rw [hw]; decide), hw]
    have HC := Lib.hid (find_bad hin s hm hn)
    clear hsame hin hS hF hq
    go_enter Try.func41, Try.ntmps41
    go_wp2_with fail
    refine HC.out.mono ?_
    rintro e w1 ⟨rfl, hb⟩
    have HB := Lib.hid hb
    clear hb
    go_wp2
    go_ret
    exact ⟨rfl, HS.out _ HB.out⟩
  · cases hw : whose (live d) (strL s) with
    | none =>
      have hy := why_none (d := d) (kind := 4) (to := to) (b := b) (by decide) hn (fun e => absurd e (by decide)) hw
      rw [change_no (by rw [hy]; decide), hy]
      have HC := Lib.hid (find_none hin s hn hw)
      clear hsame hin hS hF hq hw
      go_enter Try.func41, Try.ntmps41
      go_wp2_with fail
      refine HC.out.mono ?_
      rintro e w1 ⟨rfl, hb⟩
      have HB := Lib.hid hb
      clear hb
      go_wp2
      go_ret
      exact ⟨rfl, HS.out _ HB.out⟩
    | some n =>
      have hsz := named_size hn
      have hy := why_fine (d := d) (kind := 4) (to := to) (b := b) (by decide) hn (fun e => absurd e (by decide)) hw
      have HC := Lib.hid (find_some hin s n hn hw)
      have HE := Lib.hid (fun w2 hb => enter_change (w2 := w2) hin hS hF hq (.take (strL s)) (by show (strL s).length ≤ 24; rw [strL_length]; omega) hy (fun hp => apply_take hp) hb)
      have e1 : entOf (live d) (.take (strL s)) = (strL s, [], none) := rfl
      rw [e1] at HE
      simp only [fileV, txt_strL, txt_nil] at HE
      clear hsame hin hS hF hq hw hsz hy e1
      go_enter Try.func41, Try.ntmps41
      go_wp2_with fail
      refine HC.out.mono ?_
      rintro e w1 ⟨rfl, hb⟩
      have HB := Lib.hid hb
      clear hb
      go_wp2_with fail
      refine (HE.out _ HB.out).mono ?_
      rintro e w2 ⟨rfl, h2⟩
      have H2 := Lib.hid h2
      clear h2
      go_wp2
      go_ret
      exact ⟨rfl, H2.out⟩

set_option maxRecDepth 20000 in
theorem rename_prog (h : DiskAt S w X d) (hF : Fine d) (hq : Few d) (s t : ByteArray) (b : List UInt8) (hm : s.size ≤ 281474976710656) (hm2 : t.size ≤ 281474976710656) :
    Calls Try.prog 40 #[.pointer (some ⟨X, 0, none⟩), .string s, .string t] w fun e w' => e = .returned (.int .i64 (change d 3 (strL s) (strL t) b).2) ∧ After S w X (change d 3 (strL s) (strL t) b).1 w' := by
  have hb0 := below_one w (.cells #[.string s, .string t] 9)
  have HS := Lib.hid (fun w' => after_same (w' := w') h)
  obtain ⟨dm, bm, wv, fb, vb, hin, hS⟩ := h
  have HC0 := Lib.hid (check_prog X w.heap.size [s, t] _ (by simp) (cells_2 w s t hm hm2))
  have hk1 : okNames [s, t] = (namedB (strL s) && namedB (strL t)) := by simp [okNames]
  rw [hk1] at HC0
  have HB0 := Lib.hid hb0
  cases hnn : (namedB (strL s) && namedB (strL t))
  · have hw : whyNot d 3 (strL s) (strL t) b = 8 := by
      rw [Bool.and_eq_false_iff] at hnn
      rcases hnn with e | e
      · exact why_bad (by decide) e
      · exact why_bad_to e
    rw [change_no (by rw [hw]; decide), hw]
    rw [hnn] at HC0
    simp only [nameE] at HC0
    clear hin hS hF hq hb0
    go_enter Try.func40, Try.ntmps40
    go_wp2_with fail
    refine HC0.out.mono ?_
    rintro e w1 ⟨rfl, rfl⟩
    go_wp2
    go_ret
    exact ⟨rfl, HS.out _ HB0.out⟩
  · rw [hnn] at HC0
    simp only [nameE, if_true] at HC0
    rw [Bool.and_eq_true] at hnn
    obtain ⟨hn, hn2⟩ := hnn
    cases hw : whose (live d) (strL s) with
    | none =>
      have hy := why_none (d := d) (kind := 3) (to := strL t) (b := b) (by decide) hn (fun _ => hn2) hw
      rw [change_no (by rw [hy]; decide), hy]
      have HC := Lib.hid (find_none (hin.below hb0) s hn hw)
      clear hin hS hF hq hw hb0
      go_enter Try.func40, Try.ntmps40
      go_wp2_with fail
      refine HC0.out.mono ?_
      rintro e w1 ⟨rfl, rfl⟩
      go_wp2_with fail
      refine HC.out.mono ?_
      rintro e w2 ⟨rfl, hb⟩
      have HB := Lib.hid hb
      clear hb
      go_wp2
      go_ret
      exact ⟨rfl, HS.out _ (below_then HB0.out HB.out)⟩
    | some n =>
      have hsz := named_size hn
      have hsz2 := named_size hn2
      have hy := why_fine (d := d) (kind := 3) (to := strL t) (b := b) (by decide) hn (fun _ => hn2) hw
      have HC := Lib.hid (find_some (hin.below hb0) s n hn hw)
      have HE := Lib.hid (fun w2 hb => enter_change (w2 := w2) hin hS hF hq (.move (strL s) (strL t)) (by show (strL s).length ≤ 24 ∧ (strL t).length ≤ 24; rw [strL_length, strL_length]; omega) hy (fun hp => apply_move hp) hb)
      have e1 : entOf (live d) (.move (strL s) (strL t)) = (strL s, strL t, some n) := by simp [entOf, hw]
      rw [e1] at HE
      simp only [fileV, ptrV, txt_strL] at HE
      clear hin hS hF hq hw hsz hsz2 hy e1 hb0
      go_enter Try.func40, Try.ntmps40
      go_wp2_with fail
      refine HC0.out.mono ?_
      rintro e w1 ⟨rfl, rfl⟩
      go_wp2_with fail
      refine HC.out.mono ?_
      rintro e w2 ⟨rfl, hb⟩
      have HB := Lib.hid hb
      clear hb
      go_wp2_with fail
      refine (HE.out _ (below_then HB0.out HB.out)).mono ?_
      rintro e w3 ⟨rfl, h2⟩
      have H2 := Lib.hid h2
      clear h2
      go_wp2
      go_ret
      exact ⟨rfl, H2.out⟩
end
end Go.Proofs.Ytiepepikbophmaa
