/- In one text, written by lotify.py: DkRead, DkCrash, DkCrash2. -/
import Derived.Test.YtmgolnlkepiocaaWaLotR
import Derived.StillTailTactics
import Derived.Test.YtmgolnlkepiocaaWaLotD
import Derived.Deep.QuietTactic
import Derived.BigQuiet
namespace Go.Proofs.Ytmgolnlkepiocaa.Dk
open Go.RowKit Go.Maps
set_option linter.unusedVariables false

theorem eql_slice_nil {P : Program} (w : World) (t e : TypeId) (a : Option Addr) (l c : Nat) (h : P.underlying t = some (.slice e)) : (binOp .eql t (.slice a l c) (.slice none 0 0)).run P w = .ok (.bool a.isNone) w := by
  simp only [binOp]
  simp [run_equal_slice_nil w t e a l c h]
set_option maxRecDepth 20000 in
theorem clone_bytes {w : World} {v : Value} {x : List UInt8} (h : Own w 0 v x) (hx : x.length ≤ 140737488355328) :
    Calls Try.prog 54 #[v] w fun e w' => ∃ v', e = .returned v' ∧ Own w' w.heap.size v' x ∧ Below w.heap.size w w' := by
  have hq := fun (w : World) a l c => eql_slice_nil (P := Try.prog) w 27 5 a l c Try.underlying27
  rcases h.2 with ⟨rfl, h0⟩ | ⟨g, cap, cur, rfl, hg, hh, r⟩
  · obtain rfl := List.eq_nil_of_length_eq_zero h0
    clear h
    go_enter Try.func54, Try.ntmps54
    go_wp2
    go_ret
    exact ⟨_, rfl, own_nil _ _, Below.refl _ _⟩
  · have HA := Lib.hid (own_bys h)
    clear h hh r
    go_enter Try.func54, Try.ntmps54
    go_wp2_with (at_builtin; refine app_u8 rfl (.tmp 5) (.tmp 6) rfl w.heap.size _ [] rfl (own_empty (Row.new w _ _) (Nat.le_refl _)) (some ⟨g, 0, none⟩) x cap rfl (HA.out.alloc _) (by simp only [List.length_nil]; omega) (by simp) ?_; intro v1 w1 hown1 hb1 hg1; have HO := Lib.hid hown1; have HB := Lib.hid (((Below.refl _ _).alloc (Nat.le_refl _) _).trans hb1); clear hown1 hb1 hg1)
    go_ret
    exact ⟨v1, rfl, HO.out, HB.out⟩

section
variable {S : Nat → Prop} {w : World} {X : Nat} {d : Dsk}
set_option maxRecDepth 20000 in
theorem read_prog (h : DiskAt S w X d) (hF : Fine d) (s : ByteArray) (hm : s.size ≤ 281474976710656) :
    Calls Try.prog 22 #[.pointer (some ⟨X, 0, none⟩), .string s] w fun e w' => ∃ v, e = .returned (.tuple #[v, .int .i64 (readD d (strL s)).2]) ∧ Own w' w.heap.size v (readD d (strL s)).1 ∧ Below w.heap.size w w' := by
  obtain ⟨dm, bm, wv, fb, vb, hin, hS⟩ := h
  unfold readD
  cases hn : namedB (strL s)
  · rw [if_pos rfl]
    have HC := Lib.hid (find_bad hin s hm hn)
    clear hin hS hF
    go_enter Try.func22, Try.ntmps22
    go_wp2_with fail
    refine HC.out.mono ?_
    rintro e w1 ⟨rfl, hb⟩
    have HB := Lib.hid hb
    clear hb
    go_wp2
    go_ret2
    exact ⟨_, rfl, own_nil _ _, HB.out⟩
  · rw [if_neg (by decide)]
    cases hw : whose (live d) (strL s) with
    | none =>
      have HC := Lib.hid (find_none hin s hn hw)
      clear hin hS hF hw
      go_enter Try.func22, Try.ntmps22
      go_wp2_with fail
      refine HC.out.mono ?_
      rintro e w1 ⟨rfl, hb⟩
      have HB := Lib.hid hb
      clear hb
      go_wp2
      go_ret2
      exact ⟨_, rfl, own_nil _ _, HB.out⟩
    | some n =>
      have hnl := (hF.live_in _ ((whose_some hF.live_rises).1 hw)).1
      have HC := Lib.hid (find_some hin s n hn hw)
      have HIN := Lib.hid (fun (x : World) (hb : Below w.heap.size w x) => hin.below hb)
      cases hdk : d.dark
      · simp only [Bool.false_eq_true, if_false]
        have hsm := hF.small n
        have hrm := hF.room
        have HCL := Lib.hid (fun (x : World) (hb : Below w.heap.size w x) => clone_bytes ((hin.below hb).byts n hnl) (by omega))
        have HFL := Lib.hid (fun (x : World) (hb : Below w.heap.size w x) => (hin.below hb).file n hnl)
        obtain ⟨B, c, hv, _, _⟩ := own_slice' (hin.byts n hnl)
        rw [hv] at HCL HFL
        clear hin hS hF hw hv hnl
        generalize d.files.getD n fil0 = f at *
        generalize f.b = fbs at *
        go_enter Try.func22, Try.ntmps22
        go_wp2_with fail
        refine HC.out.mono ?_
        rintro e w1 ⟨rfl, hb⟩
        have x5 : w1.cell? ⟨X, 5, none⟩ = some (.bool d.dark) := ((HIN.out _ hb).row.cell 5).trans rfl
        rw [hdk] at x5
        have f0 : w1.cell? ⟨fb n, 0, none⟩ = some (.slice B fbs.length c) := ((HFL.out _ hb).cell 0).trans rfl
        have HB := Lib.hid hb
        clear hb
        go_wp2_with fail
        refine (HCL.out _ HB.out).mono ?_
        rintro e w2 ⟨v, rfl, ho, hb2⟩
        have HO := Lib.hid ho
        have HB2 := Lib.hid hb2
        clear ho hb2
        go_wp2
        go_ret2
        exact ⟨v, rfl, own_lower HO.out HB.out.size, below_then HB.out HB2.out⟩
      · simp only [if_true]
        clear hS hF hw hin
        go_enter Try.func22, Try.ntmps22
        go_wp2_with fail
        refine HC.out.mono ?_
        rintro e w1 ⟨rfl, hb⟩
        have x5 : w1.cell? ⟨X, 5, none⟩ = some (.bool d.dark) := ((HIN.out _ hb).row.cell 5).trans rfl
        rw [hdk] at x5
        have HB := Lib.hid hb
        clear hb
        go_wp2
        go_ret2
        exact ⟨_, rfl, own_nil _ _, HB.out⟩
/-- Names as a slice of texts. -/
def Texts (w : World) (base : Nat) (v : Value) (ns : List (List UInt8)) : Prop := w.ownsRow base 9 1 v ns.length (ns.map Go.Proofs.encStr)
end
end Go.Proofs.Ytmgolnlkepiocaa.Dk

namespace Go.Proofs.Ytmgolnlkepiocaa.Dk
open Go.RowKit Go.Maps
set_option linter.unusedVariables false

theorem own_len (B : Option Addr) (n c m c' : Nat) : (Value.slice B n c).ownBlock = (Value.slice B m c').ownBlock := by cases B <;> rfl
/-- A row of the call's own, cut short. -/
theorem own_cut {w : World} {base : Nat} {B : Option Addr} {n c : Nat} {x : List UInt8} (h : Own w base (.slice B n c) x) {k : Nat} (hk : k ≤ x.length) : Own w base (.slice B k c) (x.take k) := by
  rcases h.2 with ⟨e, h0⟩ | ⟨g, cap, cur, e, hg, hh, hnc, hcm, hcs, htk⟩
  · injection e with e1 e2 e3
    subst e1
    subst e3
    have hx : x = [] := List.eq_nil_of_length_eq_zero h0
    subst hx
    obtain rfl : k = 0 := by simpa using hk
    exact own_nil _ _
  · injection e with e1 e2 e3
    subst e1
    subst e3
    have hl : (x.take k).length = k := by rw [List.length_take]; omega
    refine ⟨by simp [bcells], .inr ⟨g, c, cur, by rw [hl], hg, hh, by rw [hl]; omega, hcm, hcs, ?_⟩⟩
    rw [hl]
    have e2 : (bcells (x.take k)).toList = (bcells x).toList.take k := by simp [bcells, List.map_take]
    rw [e2, ← htk, List.take_take]
    congr 1
    omega
end Go.Proofs.Ytmgolnlkepiocaa.Dk

namespace Go.Proofs.Ytmgolnlkepiocaa.Dk
open Go.RowKit Go.Maps
set_option linter.unusedVariables false

theorem prog_step_part {d : Dsk} (h : Fine d) {k : Nat} (hk : k ≤ d.wait.length) (s : Stp) : progStep (dirOf d.base (d.wait.take k)) (entOf (dirOf d.base (d.wait.take k)) s) = stepDir (dirOf d.base (d.wait.take k)) s := by
  cases s with
  | lay n f =>
    show put (lacking (dirOf d.base (d.wait.take k)) []) ⟨n, f⟩ = put (dirOf d.base (d.wait.take k)) ⟨n, f⟩
    have : lacking (dirOf d.base (d.wait.take k)) [] = dirOf d.base (d.wait.take k) := by
      unfold lacking
      rw [List.filter_eq_self]
      intro x hx
      have := (h.inside k hk x hx).2
      cases hn : x.name with
      | nil => rw [hn] at this; cases this
      | cons a r => simp
    rw [this]
  | move n t => rfl
  | take n => rfl
theorem keptOf_none {ks : List Int} {j : Nat} {f : Fil} (h : ks.length ≤ j) : keptOf (ks.drop j) f = modU 0 (f.b.length - f.sure + 1) := by
  rw [List.drop_eq_nil_of_le h]
  show 0 = modU 0 _
  unfold modU
  simp
theorem keptOf_some {ks : List Int} {j : Nat} {f : Fil} (h : j < ks.length) : keptOf (ks.drop j) f = modU (ks.getD j 0) (f.b.length - f.sure + 1) := by
  rw [List.drop_eq_getElem_cons h]
  show modU ks[j] _ = _
  congr 1
  simp [List.getD, List.getElem?_eq_getElem h]
/-- Names of entries are short. -/
def Short (d : Dsk) : Prop := ∀ s ∈ d.wait, match s with | .lay n _ => n.length ≤ 24 | .move n t => n.length ≤ 24 ∧ t.length ≤ 24 | .take n => n.length ≤ 24
theorem texts_at {w : World} {base : Nat} {v : Value} {ns : List (List UInt8)} (h : Texts w base v ns) : ∃ B c, v = .slice B ns.length c ∧ ∀ i, i < ns.length → ∃ g, B = some ⟨g, 0, none⟩ ∧ base ≤ g ∧ g < w.heap.size ∧ w.cell? ⟨g, i, none⟩ = some (.string (txt (ns.getD i []))) := by
  rcases h.2 with ⟨rfl, h0⟩ | ⟨g, cap, cur, rfl, hg, hh, hnc, hcm, hcs, htk⟩
  · exact ⟨none, 0, by rw [h0], fun i hi => by omega⟩
  · refine ⟨some ⟨g, 0, none⟩, cap, rfl, fun i hi => ⟨g, rfl, hg, (Row.lt (show Row w g _ cur from hh)), ?_⟩⟩
    rw [(show Row w g _ cur from hh).cell i]
    have e : cur.toList[i]? = (ns.map Go.Proofs.encStr)[i]? := by
      rw [← htk, List.getElem?_take, if_pos (by omega)]
    rw [Array.getElem?_toList] at e
    rw [e, List.getElem?_map, List.getElem?_eq_getElem hi]
    simp [Go.Proofs.encStr, txt, List.getD, List.getElem?_eq_getElem hi]

end Go.Proofs.Ytmgolnlkepiocaa.Dk
