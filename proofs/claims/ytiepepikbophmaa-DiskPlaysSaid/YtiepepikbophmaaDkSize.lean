/- How many bytes the files of a directory have in all: a range over the map, in whatever order. -/
import Derived.Test.YtiepepikbophmaaDkSync
import Derived.Maps.RangeWalk
import Derived.Sort.KeysCollected
namespace Go.Proofs.Ytiepepikbophmaa
open Go.RowKit Go.Maps
set_option linter.unusedVariables false

/-! ### the step of a range over a directory -/
def ptrM : Option Nat → Value
  | none => .pointer none
  | some g => .pointer (some ⟨g, 0, none⟩)
section
variable (w : World) {ops : Array Oper} {rest : List Oper} {o : Oper} {a : Act} {Q : Exit → Act → World → Prop}
theorem wp_next_dir (hg : o.guard = none) (it : Operand) (hop : o.op = Op.next it false) (fb : Nat → Nat) (b r n : Nat) (l : List Ent) (hr : Rises l) (left : Lit → Bool) (cnt : Nat) (hit : a.eval it = .pointer (some ⟨r, 0, none⟩)) (h : w.ranges Try.prog 9 ptrR b r n (dirD fb l) left cnt)
    (hDone : (∀ kl, left kl = false) → wpList Try.prog ops Q rest (a.put o.dst (.tuple #[.bool false])) w)
    (hMore : ∀ (x : Ent) (w' : World) (cnt' : Nat), x ∈ l → left (.string x.name) = true → w'.ranges Try.prog 9 ptrR b r n (dirD fb l) (fun z => left z && !z.sameKey (.string x.name)) cnt' → cnt' < cnt → w.grownBy w' (some r) → w'.heap.size = w.heap.size →
      (Instr.entry (.pointer (some ⟨r, 0, none⟩))).run Try.prog w' = .ok (.tuple #[.string (txt x.name), .pointer (some ⟨fb x.file, 0, none⟩)]) w' → wpList Try.prog ops Q rest (a.put o.dst (.tuple #[.bool true, .string (txt x.name), .pointer (some ⟨fb x.file, 0, none⟩)])) w') :
    wpList Try.prog ops Q (o :: rest) a w := by
  refine wpList_next_ranges w hg it hop 9 keyed ptrR Go.Proofs.encStr ptrM (fun key kl hk => by obtain ⟨x, hx, _⟩ := Maps.keyOf_str Try.underlying9 hk; exact ⟨x, hx⟩)
    (fun v y hv => by
      unfold ptrR at hv
      split at hv
      · exact ⟨none, rfl⟩
      · rename_i g
        exact ⟨some g, rfl⟩
      · cases hv) b r n (dirD fb l) left cnt hit h (fun _ hl => hDone hl) ?_
  intro x c kl y w' cnt' hkey hlk hv hat hrg hlt hgr hsz hen
  obtain ⟨x', ex, rfl, _⟩ := Maps.keyOf_str Try.underlying9 hkey
  obtain rfl : x = x' := encStr_inj ex
  have h1 := hat .nil
  have h2 := hat (.lit (.bool true))
  rw [dirD_at] at h1 h2
  cases hw : whose l x with
  | none =>
    rw [hw] at h1 h2
    simp only at h1 h2
    rw [← h1] at h2
    cases h2
  | some f =>
    rw [hw] at h1
    simp only at h1
    have hc : c = some (fb f) := by
      have hy : y = (ptrD (fb f), y.2) := Prod.ext h1.symm rfl
      rw [hy] at hv
      have hp := ptrR_inv hv
      cases c with
      | none => simp [ptrM, ptrV] at hp
      | some g =>
        simp only [ptrM, ptrV, Value.pointer.injEq, Option.some.injEq, Addr.mk.injEq] at hp
        rw [hp.1]
    subst hc
    exact hMore ⟨x, f⟩ w' cnt' ((whose_some hr).1 hw) hlk hrg hlt hgr hsz hen
end

/-! ### the sum of what is still to come -/
def restOf (len : Ent → Nat) (l : List Ent) (left : Lit → Bool) : Nat := ((l.filter fun x => left (.string x.name)).map len).sum
theorem rest_start (len : Ent → Nat) (fb : Nat → Nat) (l : List Ent) : restOf len l (Maps.has (dirD fb l)) = (l.map len).sum := by
  unfold restOf
  rw [List.filter_eq_self.2]
  intro x hx
  show (l.map (entD fb)).any (fun p => p.1.sameKey (.string x.name)) = true
  rw [List.any_map, List.any_eq_true]
  exact ⟨x, hx, by show (Lit.string x.name).sameKey (.string x.name) = true; rw [same_name]; simp⟩
theorem rest_end (len : Ent → Nat) (l : List Ent) {left : Lit → Bool} (h : ∀ kl, left kl = false) : restOf len l left = 0 := by
  unfold restOf
  rw [List.filter_eq_nil_iff.2]
  · rfl
  · intro x _
    rw [h]
    decide
theorem rest_step (len : Ent → Nat) : ∀ (l : List Ent) (left : Lit → Bool) (x : Ent), Rises l → x ∈ l → left (.string x.name) = true → restOf len l left = len x + restOf len l (fun z => left z && !z.sameKey (.string x.name)) := by
  intro l
  induction l with
  | nil => intro left x _ hx; cases hx
  | cons y r ih =>
    intro left x hr hx hl
    obtain ⟨h1, h2⟩ := rises_cons hr
    unfold restOf at ih ⊢
    rcases List.mem_cons.1 hx with rfl | hx
    · have e : r.filter (fun z => (left (.string z.name) && !(Lit.string z.name).sameKey (.string x.name))) = r.filter (fun z => left (.string z.name)) := by
        apply List.filter_congr
        intro z hz
        rw [same_name, decide_eq_false (Ne.symm (less_ne (h1 z hz)))]
        simp
      rw [List.filter_cons_of_pos (by simpa using hl), List.filter_cons_of_neg (by show ¬ (left (.string x.name) && !(Lit.string x.name).sameKey (.string x.name)) = true; rw [same_name]; simp), e, List.map_cons, List.sum_cons]
    · have hi := ih left x h2 hx hl
      have hne : y.name ≠ x.name := less_ne (h1 x hx)
      by_cases hy : left (.string y.name) = true
      · rw [List.filter_cons_of_pos (by simpa using hy), List.filter_cons_of_pos (by show (left (.string y.name) && !(Lit.string y.name).sameKey (.string x.name)) = true; rw [same_name, decide_eq_false hne, hy]; rfl), List.map_cons, List.sum_cons, List.map_cons, List.sum_cons, hi]
        omega
      · rw [List.filter_cons_of_neg (by simpa using hy), List.filter_cons_of_neg (by simp [hy]), hi]

theorem size_prog {w : World} {fb : Nat → Nat} {vb : Nat → Value} {b : Nat} {l : List Ent} {fs : List Fil} (h : DirAt w fb b l) (hr : Rises l) (hf : FilesIn w fb vb fs) (hin : ∀ x ∈ l, x.file < fs.length) (hsum : (l.map fun x => (fs.getD x.file fil0).b.length).sum ≤ 1099511627776) :
    Calls Try.prog 70 #[.map (some b)] w fun e w' => e = .returned (.int .i64 ((l.map fun x => (fs.getD x.file fil0).b.length).sum : Nat)) ∧ Below w.heap.size w w' := by
  generalize hlen : (fun x : Ent => (fs.getD x.file fil0).b.length) = len at *
  have HR := Lib.hid hr
  have HF := Lib.hid (show ∀ (wr : World), Below w.heap.size w wr → ∀ x ∈ l, ∃ B c s, Row wr (fb x.file) 111 #[.slice B (len x) c, .int .i64 s] by
    intro wr hb x hx
    have hi := hin x hx
    obtain ⟨B, c, hv, _, _⟩ := own_slice' (hf.byts x.file hi)
    have hrow := row_move (hf.file x.file hi) (hb.block _ (hf.file x.file hi).lt)
    rw [hv] at hrow
    rw [← hlen]
    exact ⟨B, c, _, hrow⟩)
  have HS := Lib.hid (rest_start len fb l)
  have HO : Hid (w.ownsMap Try.prog 9 ptrR b l.length (dirD fb l)) := Lib.hid h
  have HT := Lib.hid hsum
  clear h hr hf hin hlen hsum
  go_enter Try.func70, Try.ntmps70
  go_wp2_with (at_range; refine wpList_range_own _ rfl _ 70 rfl 9 94 keyed Try.underlying70 ptrR b l.length (dirD fb l) rfl HO.out ?_; intro w0 hrg0 hg0 hs0; have HB0 := Lib.hid (Below.grown (Below.refl w.heap.size w) hg0 (Nat.le_refl _) (fun k e => by cases e)); have HRG0 := Lib.hid hrg0; clear hrg0 hg0 hs0)
  go_frame
  go_loopw [3] (fun s wr => ∃ left cnt acc, s = .int .i64 (acc : Nat) ∧ wr.ranges Try.prog 9 ptrR b w.heap.size l.length (dirD fb l) left cnt ∧ acc + restOf len l left = (l.map len).sum ∧ Below w.heap.size w wr) (fun _ wr => wr.rangeLeft b w.heap.size)
  case atStart => exact ⟨_, _, 0, rfl, HRG0.out, by rw [HS.out]; omega, HB0.out⟩
  case round =>
    obtain ⟨left, cnt, acc, rfl, hrg, hacc, hb⟩ := hrel
    have HRG := Lib.hid hrg
    have HA := Lib.hid hacc
    have HB := Lib.hid hb
    clear hrg hacc hb
    go_wp2_with (at_next; refine wp_next_dir _ rfl _ rfl fb b w.heap.size l.length l HR.out _ _ rfl HRG.out ?_ ?_)
    · intro hl
      have HE := Lib.hid (rest_end len l hl)
      clear hl
      go_wp2
      go_ret
      exact ⟨ret_i (by have h1 := HA.out; have h2 := HE.out; omega), HB.out⟩
    · intro x w1 cnt1 hx hlx hrg1 hlt hg1 hs1 hen
      have hB1 := Below.grown HB.out hg1 HB.out.size (fun k e => by cases e; exact Nat.le_refl _)
      obtain ⟨B, c, s0, hrow⟩ := HF.out w1 hB1 x hx
      have c0 : w1.cell? ⟨fb x.file, 0, none⟩ = some (.slice B (len x) c) := (hrow.cell 0).trans rfl
      have HST := Lib.hid (rest_step len l left x HR.out hx hlx)
      have hacc2 : acc + len x ≤ 1099511627776 := by
        have h1 := HA.out
        have h2 := HST.out
        have h3 := HT.out
        omega
      have hlx0 : len x ≤ 1099511627776 := by omega
      have HRG1 := Lib.hid hrg1
      have HB1 := Lib.hid hB1
      clear hrg1 hB1 hx hlx hg1 hs1 hrow
      go_wp2
      go_roundw
      case rel => exact ⟨_, _, acc + len x, by go_num, HRG1.out, by have h1 := HA.out; have h2 := HST.out; omega, HB1.out⟩
      case measure => rw [HRG1.out.left_eq, HRG.out.left_eq]; exact hlt
end Go.Proofs.Ytiepepikbophmaa
