/- Whether an atom has a byte; what a byte that goes through a tree may turn. -/
import Derived.Test.YtjljfilflajogaaReDone2
import Derived.Deep.RegionHeld3
namespace Go.Proofs.Ytjljfilflajogaa
open Go.RowKit
set_option linter.unusedVariables false

theorem spanCells_len (s : UInt8 × UInt8) : (spanCells s).length = 2 := rfl
theorem has_prog {w : World} {b : Nat} {A : Option Addr} {cc : Nat} {K : List Nat} {sp : List (UInt8 × UInt8)} {neg tk : Bool} (hr : Row w b 89 #[.slice A sp.length cc, .bool neg, .bool tk]) (hB : Blk w A 97 (sp.flatMap spanCells) K) (hs : sp.length ≤ 1000) (c : UInt8) :
    Calls Try.prog 68 #[.pointer (some ⟨b, 0, none⟩), .int .u8 (c.toNat : Int)] w fun e w' => e = .returned (.bool (hasB sp neg c)) ∧ Below w.heap.size w w' := by
  have hnot : ∀ (x : Bool) (w : World), (Op.unary .not (.bool x)).run Try.prog w = .ok (.bool (!x)) w := fun _ _ => rfl
  have c0 : w.cell? ⟨b, 0, none⟩ = some (.slice A sp.length cc) := hr.cell 0
  have HB := Lib.hid hB
  have HR := Lib.hid hr
  have hbl := hr.lt
  clear hB hr
  go_enter Try.func68, Try.ntmps68
  go_wp2_with fail
  go_loopw [12] (fun i wr => ∃ k : Nat, k ≤ sp.length ∧ i = .int .i64 (k : Int) ∧ (sp.take k).any (spanHas c) = false ∧ Below w.heap.size w wr) (fun i _ => sp.length - (intOf i).toNat)
  case atStart => exact ⟨0, Nat.zero_le _, rfl, rfl, Below.refl _ _⟩
  case round =>
    obtain ⟨k, hk, rfl, hd, hbr⟩ := hrel
    have hsz := hbr.size
    have hbw : b < wr.heap.size := by omega
    have k1 : wr.cell? ⟨b, 1, none⟩ = some (.bool neg) := (hbr.cell (p := ⟨b, 1, none⟩) hbl).trans (HR.out.cell 1)
    by_cases hlt : k < sp.length
    · obtain ⟨s, hsk, _⟩ := part_at sp hlt
      have f0 : (sp.flatMap spanCells)[k * 2]? = some (.int .u8 (s.1.toNat : Int)) := by rw [show k * 2 = k * 2 + 0 from rfl, flat_get spanCells 2 spanCells_len sp k s 0 hsk (by omega)]; rfl
      have f1 : (sp.flatMap spanCells)[k * 2 + 1]? = some (.int .u8 (s.2.toNat : Int)) := by rw [flat_get spanCells 2 spanCells_len sp k s 1 hsk (by omega)]; rfl
      obtain ⟨g, rfl, rfl, hg, hcell⟩ := HB.out.cell f0
      have e0 := (hbr.cell (p := ⟨g, k * 2, none⟩) hg).trans (hcell _ _ f0)
      have e1 := (hbr.cell (p := ⟨g, k * 2 + 1, none⟩) hg).trans (hcell _ _ f1)
      have HA := Lib.hid (show (sp.take (k + 1)).any (spanHas c) = (decide (s.1 ≤ c) && decide (c ≤ s.2)) by rw [List.take_add_one, hsk, List.any_append, hd]; simp [spanHas])
      have HY := Lib.hid (fun (h : (decide (s.1 ≤ c) && decide (c ≤ s.2)) = true) => show hasB sp neg c = !neg by
        have : sp.any (spanHas c) = true := List.any_eq_true.2 ⟨s, List.mem_of_getElem? hsk, h⟩
        unfold hasB; rw [this]; rfl)
      have q1 : decide ((s.1.toNat : Int) ≤ (c.toNat : Int)) = decide (s.1 ≤ c) := by rw [decide_eq_decide, UInt8.le_iff_toNat_le]; omega
      have q2 : decide ((c.toNat : Int) ≤ (s.2.toNat : Int)) = decide (c ≤ s.2) := by rw [decide_eq_decide, UInt8.le_iff_toNat_le]; omega
      have q3 : decide (s.1.toNat ≤ c.toNat) = decide (s.1 ≤ c) := by rw [decide_eq_decide, UInt8.le_iff_toNat_le]
      have q4 : decide (c.toNat ≤ s.2.toNat) = decide (c ≤ s.2) := by rw [decide_eq_decide, UInt8.le_iff_toNat_le]
      clear hsk f0 f1 hcell hd
      generalize s.1.toNat = n1 at *
      generalize s.2.toNat = n2 at *
      cases h1 : decide (s.1 ≤ c)
      · rw [h1] at HA HY q1 q3
        go_wp2_with fail
        exact ⟨⟨k + 1, by omega, by go_num, by rw [HA.out]; rfl, hbr.alloc hsz _⟩, by simp [intOf]; omega⟩
      · cases h2 : decide (c ≤ s.2)
        · rw [h1, h2] at HA HY
          rw [h1] at q1 q3
          rw [h2] at q2 q4
          go_wp2_with fail
          exact ⟨⟨k + 1, by omega, by go_num, by rw [HA.out]; rfl, hbr.alloc hsz _⟩, by simp [intOf]; omega⟩
        · rw [h1, h2] at HA HY
          rw [h1] at q1 q3
          rw [h2] at q2 q4
          go_wp2_with fail
          go_ret
          exact ⟨by rw [HY.out rfl]; rfl, hbr.alloc hsz _⟩
    · obtain rfl : k = sp.length := by omega
      rw [List.take_length] at hd
      have HD := Lib.hid (show hasB sp neg c = neg by unfold hasB; rw [hd]; rfl)
      clear hd
      go_wp2_with fail
      go_ret
      exact ⟨by rw [HD.out]; rfl, hbr⟩

/-- But for the blocks of M, and for what is new, nothing has turned. -/
structure Touch (w w' : World) (M : List Nat) : Prop where
  os : w'.os = w.os
  tape : w'.tape = w.tape
  output : w'.output = w.output
  size : w.heap.size ≤ w'.heap.size
  block : ∀ k, k < w.heap.size → k ∉ M → w'.heap[k]? = w.heap[k]?
theorem Touch.refl (w : World) (M : List Nat) : Touch w w M := ⟨rfl, rfl, rfl, Nat.le_refl _, fun _ _ _ => rfl⟩
theorem Touch.trans {a b c : World} {M : List Nat} (h : Touch a b M) (k : Touch b c M) : Touch a c M := ⟨k.os.trans h.os, k.tape.trans h.tape, k.output.trans h.output, Nat.le_trans h.size k.size, fun i hi hn => (k.block i (Nat.lt_of_lt_of_le hi h.size) hn).trans (h.block i hi hn)⟩
theorem Touch.mono {a b : World} {M M' : List Nat} (h : Touch a b M) (hm : ∀ k ∈ M, k ∈ M') : Touch a b M' := ⟨h.os, h.tape, h.output, h.size, fun i hi hn => h.block i hi fun hh => hn (hm i hh)⟩
theorem Touch.below {a b c : World} {M : List Nat} (h : Touch a b M) (k : Below b.heap.size b c) : Touch a c M := ⟨k.os.trans h.os, k.tape.trans h.tape, k.output.trans h.output, Nat.le_trans h.size k.size, fun i hi hn => (k.block i (Nat.lt_of_lt_of_le hi h.size)).trans (h.block i hi hn)⟩
theorem Touch.of_below {a b : World} {M : List Nat} (k : Below a.heap.size a b) : Touch a b M := (Touch.refl a M).below k
theorem Touch.set {a b : World} {M : List Nat} (h : Touch a b M) {p : Addr} (hp : p.block ∈ M) (u : Value) : Touch a (b.setCell p u) M :=
  ⟨h.os, h.tape, h.output, by simpa [World.setCell] using h.size, fun i hi hn => (Below.heap_setCell b p u i (fun e => hn (e ▸ hp))).trans (h.block i hi hn)⟩
theorem Touch.node {w w' : World} {M N : List Nat} {r : Re} {v : Value} (h : Touch w w' M) (hN : NodeAt w r v N) (hd : ∀ x ∈ N, x ∉ M) : NodeAt w' r v N := hN.keep fun k hk => h.block k (hN.lt k hk) (hd k hk)
theorem Touch.blk {w w' : World} {M N : List Nat} {A : Option Addr} {t : TypeId} {vs : List Value} (h : Touch w w' M) (hN : Blk w A t vs N) (hd : ∀ x ∈ N, x ∉ M) : Blk w' A t vs N := hN.keep fun k hk => h.block k (hN.lt k hk) (hd k hk)
theorem Sep.tail {K : List Nat} {Ms : List (List Nat)} (h : Sep (K :: Ms)) : Sep Ms := fun j k Lj Lk hj hk hne => h (j + 1) (k + 1) Lj Lk (by simpa using hj) (by simpa using hk) (by omega)
theorem Sep.head {K : List Nat} {Ms : List (List Nat)} (h : Sep (K :: Ms)) : ∀ x ∈ K, x ∉ Ms.flatten := by
  intro x hx hf
  obtain ⟨M, hM, hxM⟩ := List.mem_flatten.1 hf
  obtain ⟨k, hk⟩ := List.getElem?_of_mem hM
  exact h 0 (k + 1) K M rfl (by simpa using hk) (by omega) x hx hxM
theorem nodes_turn {w w' : World} {pre rest : List Re} {r r' : Re} {vs : List Value} {Ms : List (List Nat)} {v : Value} {M : List Nat} (h : NodesAt w (pre ++ r :: rest) vs Ms) (hS : Sep Ms) (hv : vs[pre.length]? = some v) (hM : Ms[pre.length]? = some M) (hN : NodeAt w' r' v M) (ht : Touch w w' M) :
    NodesAt w' (pre ++ r' :: rest) vs Ms := by
  have hl := h.len
  refine NodesAt.of (by rw [hl.1]; simp) (by rw [hl.2]; simp) ?_
  intro k r2 v2 M2 hr2 hv2 hM2
  by_cases hk : k = pre.length
  · subst hk
    rw [hv] at hv2
    rw [hM] at hM2
    cases hv2
    cases hM2
    simp at hr2
    subst hr2
    exact hN
  · have e : (pre ++ r' :: rest)[k]? = (pre ++ r :: rest)[k]? := by
      rcases Nat.lt_or_ge k pre.length with hlt | hge
      · rw [List.getElem?_append_left hlt, List.getElem?_append_left hlt]
      · rw [List.getElem?_append_right hge, List.getElem?_append_right hge]
        obtain ⟨j, hj⟩ : ∃ j, k - pre.length = j + 1 := ⟨k - pre.length - 1, by omega⟩
        rw [hj]
        simp
    rw [e] at hr2
    obtain ⟨v3, M3, hv3, hM3, hN3⟩ := h.at_ k r2 hr2
    rw [hv2] at hv3
    rw [hM2] at hM3
    cases hv3
    cases hM3
    exact ht.node hN3 (fun x hx => hS k pre.length M2 M hM2 hM hk x hx)
theorem empty_feed (c : UInt8) (b : Bool) (r : Re) : emptyM (feedM c b r) = emptyM r := by
  rw [Bool.eq_iff_iff, empty_L, empty_L, feed_L]
end Go.Proofs.Ytjljfilflajogaa
