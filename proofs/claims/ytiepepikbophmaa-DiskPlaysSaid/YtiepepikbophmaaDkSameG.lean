/- Are two rows of names the same? Rows of rows that stand still while a disk turns. -/
import Derived.Test.YtiepepikbophmaaDkBeginsG
namespace Go.Proofs.Ytiepepikbophmaa
open Go.RowKit Go.Maps
set_option linter.unusedVariables false

theorem txt_list (l : List UInt8) : (txt l).toList = l := by simp [txt, ByteArray.toList_eq]
theorem drawn (B : Nat) (w : World) (q : Nat) : Below B w (w.drewN q) := ⟨rfl, rfl, rfl, Nat.le_refl _, fun _ _ => rfl⟩
set_option maxRecDepth 20000 in
theorem same_prog {w : World} {b1 b2 : Nat} {v v' : Value} {ns ms : List (List UInt8)} (h1 : Texts w b1 v ns) (h2 : Texts w b2 v' ms) (hn : ns.length ≤ 1000) (hm : ms.length ≤ 1000) :
    Calls Try.prog 49 #[v, v'] w fun e w' => e = .returned (.bool (decide (ns = ms))) ∧ Below w.heap.size w w' := by
  obtain ⟨P, c, rfl, hP⟩ := texts_at h1
  obtain ⟨Q, d, rfl, hQ⟩ := texts_at h2
  by_cases hl : ns.length = ms.length
  · have HP := Lib.hid hP
    have HQ := Lib.hid hQ
    have HL := Lib.hid hl
    clear h1 h2 hP hQ
    rw [hl]
    rw [hl] at hn
    go_enter Try.func49, Try.ntmps49
    go_wp2_with fail
    go_loopw [5] (fun i wr => ∃ k : Nat, k ≤ ms.length ∧ i = .int .i64 (k : Int) ∧ ns.take k = ms.take k ∧ ∃ q, wr = w.drewN q) (fun i _ => ms.length - (intOf i).toNat)
    case atStart => exact ⟨0, Nat.zero_le _, rfl, rfl, 0, rfl⟩
    case round =>
      obtain ⟨k, hk, rfl, hpre, q, hq⟩ := hrel
      have HW := Lib.hid (show Below w.heap.size w wr by rw [hq]; exact ⟨rfl, rfl, rfl, Nat.le_refl _, fun _ _ => rfl⟩)
      have HD := Lib.hid (show ∃ q, wr = w.drewN q from ⟨q, hq⟩)
      have HPRE := Lib.hid hpre
      clear hpre
      by_cases hlt : k < ms.length
      · obtain ⟨g, rfl, _, _, hc1⟩ := HP.out k (by omega)
        obtain ⟨g', rfl, _, _, hc2⟩ := HQ.out k hlt
        have hc1' : wr.cell? ⟨g, k, none⟩ = some (.string (txt (ns.getD k []))) := by rw [hq]; exact hc1
        have hc2' : wr.cell? ⟨g', k, none⟩ = some (.string (txt (ms.getD k []))) := by rw [hq]; exact hc2
        have hnk : ns[k]? = some (ns.getD k []) := by simp [List.getD, List.getElem?_eq_getElem (show k < ns.length by omega)]
        have hmk : ms[k]? = some (ms.getD k []) := by simp [List.getD, List.getElem?_eq_getElem hlt]
        have HNK := Lib.hid hnk
        have HMK := Lib.hid hmk
        generalize ns.getD k [] = a at *
        generalize ms.getD k [] = b at *
        clear hq
        have i1 : (k : Int) < (ms.length : Int) := by omega
        clear hnk hmk hc1 hc2
        by_cases hab : a = b
        · have q1 : ((txt a).toList == (txt b).toList) = true := by rw [hab]; simp
          have HAB := Lib.hid hab
          clear hab
          go_wp2_with fail
          go_quiet (fail)
          go_wp2
          go_roundw
          case rel =>
            obtain ⟨q, rfl⟩ := HD.out
            exact ⟨k + 1, by omega, by go_num, by rw [List.take_add_one, List.take_add_one, HPRE.out, HNK.out, HMK.out, HAB.out], _, World.drewN_drewN _ _ _⟩
          case measure => simp [intOf]; omega
        · have q1 : ((txt a).toList == (txt b).toList) = false := by rw [beq_eq_false_iff_ne, txt_list, txt_list]; exact hab
          have HR := Lib.hid (show decide (ns = ms) = false by
            rw [decide_eq_false_iff_not]
            rintro rfl
            have := HNK.out.symm.trans HMK.out
            injection this with this
            exact hab this)
          clear hab
          go_wp2_with fail
          go_quiet (fail)
          go_wp2
          go_ret
          exact ⟨ret_bool HR.out.symm, HW.out.trans (drawn _ _ _)⟩
      · obtain rfl : k = ms.length := by omega
        have HR := Lib.hid (show decide (ns = ms) = true by
          rw [decide_eq_true_iff]
          have := HPRE.out
          rw [List.take_length, ← HL.out, List.take_length] at this
          exact this)
        go_wp2
        go_ret
        exact ⟨ret_bool HR.out.symm, drawn _ _ _⟩
  · have q1 : ((ns.length : Int) != (ms.length : Int)) = true := by rw [bne_iff_ne]; omega
    have HR := Lib.hid (show decide (ns = ms) = false by
      rw [decide_eq_false_iff_not]
      rintro rfl
      exact hl rfl)
    clear h1 h2 hP hQ hl
    go_enter Try.func49, Try.ntmps49
    go_wp2
    go_ret
    exact ⟨ret_bool HR.out.symm, Below.refl _ _⟩

/-! ### what stands apart from a disk -/
def Far (S : Nat → Prop) (v : Value) : Prop := ∀ k, v.ownBlock = some k → ¬ S k
theorem rows_kept {S : Nat → Prop} {w w' : World} {base e size n : Nat} {v : Value} {xs : List Value} (h : w.ownsRow base e size v n xs) (hK : Kept S w w') (hf : Far S v) : w'.ownsRow base e size v n xs :=
  rows_move h fun k hk => hK.block k (World.ownsRow.lt h k hk).2 (hf k hk)
/-- A disk that lies in blocks of S, all of them among the call's own. -/
structure DiskOf (B : Nat) (S : Nat → Prop) (w : World) (X : Nat) (d : Dsk) : Prop where
  at_ : DiskAt S w X d
  own : ∀ k, S k → B ≤ k ∧ k < w.heap.size
theorem diskOf_mk {B : Nat} {w : World} {X : Nat} {d : Dsk} (h : DiskAt (From B) w X d) : DiskOf B (fun k => From B k ∧ k < w.heap.size) w X d := ⟨h.within, fun k hk => hk⟩
/-- What a call adds to a disk's blocks. -/
def more (S : Nat → Prop) (w w' : World) (k : Nat) : Prop := (S k ∨ w.heap.size ≤ k) ∧ k < w'.heap.size
theorem DiskOf.after {B : Nat} {S : Nat → Prop} {w w' : World} {X : Nat} {d d' : Dsk} (h : DiskOf B S w X d) (ha : After S w X d' w') (hB : B ≤ w.heap.size) : DiskOf B (more S w w') w' X d' ∧ Below B w w' :=
  ⟨⟨ha.1.within, fun k hk => ⟨hk.1.elim (fun h2 => (h.own k h2).1) (fun h2 => by omega), hk.2⟩⟩, ha.2.to_below (fun k hk => (h.own k hk).1) hB⟩
theorem DiskOf.below {B : Nat} {S : Nat → Prop} {w w' : World} {X : Nat} {d : Dsk} (h : DiskOf B S w X d) (hb : Below w.heap.size w w') : DiskOf B S w' X d :=
  ⟨h.at_.below hb, fun k hk => ⟨(h.own k hk).1, Nat.lt_of_lt_of_le (h.own k hk).2 hb.size⟩⟩
theorem DiskOf.from_ {B : Nat} {S : Nat → Prop} {w : World} {X : Nat} {d : Dsk} (h : DiskOf B S w X d) : DiskAt (From B) w X d := h.at_.mono fun k hk => (h.own k hk).1
theorem DiskOf.acts_far {B : Nat} {S : Nat → Prop} {w W : World} {X : Nat} {d : Dsk} (h : DiskOf B S w X d) {a : ActV} (ha : ActOk W a) (hW : W.heap.size = B) : a.ks = [] ∨ ∀ ad, a.V = some ad → ¬ S ad.block :=
  (From_far ha).imp id fun hh ad e hk => hh ad e (by rw [hW]; exact (h.own _ hk).1)
/-- What is far stays far. -/
theorem far_more {S : Nat → Prop} {w w' : World} {v : Value} {base e size n : Nat} {xs : List Value} (h : w.ownsRow base e size v n xs) (hf : Far S v) : Far (more S w w') v := by
  intro k hk hm
  have := (World.ownsRow.lt h k hk).2
  rcases hm.1 with h2 | h2
  · exact hf k hk h2
  · omega
/-- What is new is far. -/
theorem far_new {B : Nat} {S : Nat → Prop} {w w' : World} {X : Nat} {d : Dsk} (hd : DiskOf B S w X d) {v : Value} {e size n : Nat} {xs : List Value} (h : w'.ownsRow w.heap.size e size v n xs) : Far S v := by
  intro k hk hs
  have h1 := (World.ownsRow.lt h k hk).1
  have h2 := (hd.own k hs).2
  omega
end Go.Proofs.Ytiepepikbophmaa
