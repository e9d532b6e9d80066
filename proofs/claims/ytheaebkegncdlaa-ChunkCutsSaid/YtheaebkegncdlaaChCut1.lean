/- slices.Chunk over samples: what its function value does when a loop ranges over it. -/
import Derived.RangeFuncBox
import Derived.RangeFuncLeaves
import Derived.RangeFuncCalls
import Derived.Shelf.Abstract
import Derived.Shelf.RegionOpen
import Derived.WalkKit
import Derived.OwnWalkIn
import Derived.TacticsInMore
import Derived.LoopNIn
import Derived.LoopIn
import Derived.Maps.AppendAt
import Derived.Lib.SliceRun
import Derived.Test.YtheaebkegncdlaaChRef1
namespace Go.Proofs.Ytheaebkegncdlaa
open Go.RowKit Go.Shelf
set_option linter.unusedVariables false
attribute [local go_sem] Oper.semAt_some

/-- The k-th piece. -/
def pieceL (l : List Smp) (k : Nat) : List Smp := (l.drop (k * 120)).take 120
theorem piece_len (l : List Smp) (k : Nat) : (pieceL l k).length = min 120 (l.length - k * 120) := by
  unfold pieceL
  rw [List.length_take, List.length_drop]
/-- The piece's value: a slice of the row at b, o. -/
def pieceV (b o len k : Nat) : Value := .slice (some ⟨b, o + k * 120 * 2, none⟩) (min 120 (len - k * 120)) (min 120 (len - k * 120))
theorem piece_smps {w : World} {b o : Nat} {l : List Smp} (h : Smps w (some ⟨b, o, none⟩) l) (k : Nat) : Smps w (some ⟨b, o + k * 120 * 2, none⟩) (pieceL l k) := by
  unfold pieceL
  by_cases hk : k * 120 ≤ l.length
  · exact (h.from _ hk).front 120
  · rw [List.drop_eq_nil_of_le (by omega), List.take_nil]
    exact Smps.nil _ _

/-- What the function value reads between two rounds: its two boxes. -/
def Boxes (Bs Bn : Nat) (W W' : World) : Prop := ∀ k, k = Bs ∨ k = Bn → W'.heap[k]? = W.heap[k]?
theorem Boxes.refl (Bs Bn : Nat) (W : World) : Boxes Bs Bn W W := fun _ _ => rfl
theorem Boxes.trans {Bs Bn : Nat} {A B C : World} (h : Boxes Bs Bn A B) (k : Boxes Bs Bn B C) : Boxes Bs Bn A C := fun i hi => (k i hi).trans (h i hi)
theorem cell_heap {W W' : World} {k : Nat} (h : W'.heap[k]? = W.heap[k]?) (i : Nat) : W'.cell? ⟨k, i, none⟩ = W.cell? ⟨k, i, none⟩ := by simp [World.cell?, h]
theorem Boxes.put {Bs Bn : Nat} {w : World} (h1 : Bs < w.heap.size) (h2 : Bn < w.heap.size) (W : World) (l : Nat) (o o' : Obj) (hl : w.heap.size ≤ l) (h : W.heap[l]? = some o) (_ : o.isCells = false) (_ : o.isWalk = false) : Boxes Bs Bn W (W.putObj l o') :=
  fun k hk => (grownBy_putObj' W l o').block k (by have := (Array.getElem?_eq_some_iff.1 h).1; rcases hk with rfl | rfl <;> omega) (fun e => by cases e; rcases hk with rfl | rfl <;> omega)

set_option maxRecDepth 100000 in
set_option maxHeartbeats 4000000 in
theorem chunk1_in (n : Nat) (hn : 1 ≤ n) (l Bs Bn b off len cap : Nat) (hreach : len * 16 ≤ 140737488351232) (hlc : len ≤ cap) (J Jx : List Nat → World → Prop) (hJd : ∀ s W, J s W → J s W.drew)
    (hY : ∀ pre x W, J pre W → pre.length < (len + 119) / 120 → YieldAt Fence.wide (n - 1) Try.prog l #[pieceV b off len x] W fun e W' =>
      (e = .returned (.bool true) ∧ J (pre ++ [x]) W' ∧ Boxes Bs Bn W W') ∨ (e = .returned (.bool false) ∧ Jx (pre ++ [x]) W'))
    (W : World) (hS : W.cell? ⟨Bs, 0, none⟩ = some (.slice (some ⟨b, off, none⟩) len cap)) (hN : W.cell? ⟨Bn, 0, none⟩ = some (.int .i64 120)) (h0 : J [] W) :
    CallsIn Fence.wide n Try.prog 53 #[.func (.yield l) #[] #[], .pointer (some ⟨Bs, 0, none⟩), .pointer (some ⟨Bn, 0, none⟩)] W fun e W' => (∃ v, e = .returned v) ∧
      ((∃ ys, ys = List.range ((len + 119) / 120) ∧ J ys W') ∨ (∃ pre, (∃ k, k ≤ (len + 119) / 120 ∧ pre = List.range k) ∧ Jx pre W')) := by
  refine callsIn_of_wp Try.func53 rfl trivial ?_ rfl
  simp only [Try.ntmps53, List.size_toArray, List.length_cons, List.length_nil, Nat.reduceAdd, Nat.reduceSub, Array.replicate_succ, Array.replicate_zero, List.push_toArray, List.append_toArray, List.nil_append, List.cons_append]
  gi_wp2
  gi_loopw [4, 5] (fun i e wr => ∃ k : Nat, k ≤ (len + 119) / 120 ∧ i = .int .i64 ((k * 120 : Nat) : Int) ∧ J (List.range k) wr ∧ Boxes Bs Bn W wr)
    (fun i _ _ => len + 120 - (intOf i).toNat)
  case atStart => exact ⟨0, Nat.zero_le _, rfl, h0, Boxes.refl _ _ _⟩
  case round =>
    obtain ⟨k, hk, rfl, hJs, hnx⟩ := hrel
    have c1 : wr.cell? ⟨Bs, 0, none⟩ = some (.slice (some ⟨b, off, none⟩) len cap) := (cell_heap (hnx Bs (.inl rfl)) 0).trans hS
    have c2 : wr.cell? ⟨Bn, 0, none⟩ = some (.int .i64 120) := (cell_heap (hnx Bn (.inr rfl)) 0).trans hN
    by_cases hlt : k * 120 < len
    · obtain ⟨fn, tmps, assign, body, hy, hR⟩ := hY _ k wr.drew (hJd _ _ hJs) (by rw [List.length_range]; omega)
      unfold pieceV at hy
      have c3 : wr.drew.cell? ⟨Bs, 0, none⟩ = some (.slice (some ⟨b, off, none⟩) len cap) := c1
      have hq : min (120 : Int) ((len - k * 120 : Nat) : Int) = ((min 120 (len - k * 120) : Nat) : Int) := by omega
      gi_wp2
      gi_region
      clear hq
      have hzq : k * 120 + min 120 (len - k * 120) ≤ len := by omega
      have hs1 : k * 120 + min 120 (len - k * 120) - k * 120 = min 120 (len - k * 120) := by omega
      gi_wp2
      refine hR.mono ?_
      rintro e W3 (⟨rfl, hJ3, hk3⟩ | ⟨rfl, hJx3⟩)
      · have c4 : W3.cell? ⟨Bn, 0, none⟩ = some (.int .i64 120) := (cell_heap (hk3 Bn (.inr rfl)) 0).trans c2
        gi_wp2
        go_roundw
        case rel => exact ⟨k + 1, by omega, by congr 1; push_cast; omega, by rw [List.range_succ]; exact hJ3, hnx.trans hk3⟩
        case measure => simp [intOf]; omega
      · gi_wp2
        refine bodyPost_ret (results_none rfl _ _ _) rfl ?_
        exact ⟨⟨_, rfl⟩, .inr ⟨_, ⟨k + 1, by omega, (List.range_succ).symm⟩, hJx3⟩⟩
    · obtain rfl : k = (len + 119) / 120 := by omega
      gi_wp2
      go_end0
      exact ⟨⟨_, rfl⟩, .inl ⟨_, rfl, hJs⟩⟩

set_option maxRecDepth 100000 in
set_option maxHeartbeats 1000000 in
/-- .. where there is nothing: no round. -/
theorem chunk1_none (n : Nat) (l Bs Bn : Nat) (A : Option Addr) (cap : Nat) (J : List Nat → World → Prop) (W : World) (hS : W.cell? ⟨Bs, 0, none⟩ = some (.slice A 0 cap)) (h0 : J [] W) :
    CallsIn Fence.wide n Try.prog 53 #[.func (.yield l) #[] #[], .pointer (some ⟨Bs, 0, none⟩), .pointer (some ⟨Bn, 0, none⟩)] W fun e W' => (∃ v, e = .returned v) ∧ J [] W' := by
  refine callsIn_of_wp Try.func53 rfl trivial ?_ rfl
  simp only [Try.ntmps53, List.size_toArray, List.length_cons, List.length_nil, Nat.reduceAdd, Nat.reduceSub, Array.replicate_succ, Array.replicate_zero, List.push_toArray, List.append_toArray, List.nil_append, List.cons_append]
  gi_wp2
  gi_loopw [4, 5] (fun i e wr => i = .int .i64 0 ∧ wr = W) (fun _ _ _ => 0)
  case atStart => exact ⟨rfl, rfl⟩
  case round =>
    obtain ⟨rfl, rfl⟩ := hrel
    gi_wp2
    go_end0
    exact ⟨⟨_, rfl⟩, h0⟩

set_option maxRecDepth 100000 in
set_option maxHeartbeats 1000000 in
theorem chunk_in (n : Nat) (A : Option Addr) (len cap : Nat) (w : World) :
    CallsIn Fence.wide n Try.prog 40 #[.slice A len cap, .int .i64 120] w fun e w' =>
      e = .returned (.func (.func 53) #[] #[.pointer (some ⟨w.heap.size, 0, none⟩), .pointer (some ⟨w.heap.size + 1, 0, none⟩)]) ∧ w' = (w.alloc (.cells #[.slice A len cap] 22)).alloc (.cells #[.int .i64 120] 3) := by
  refine callsIn_of_wp Try.func40 rfl trivial ?_ rfl
  simp only [Try.ntmps40, List.size_toArray, List.length_cons, List.length_nil, Nat.reduceAdd, Nat.reduceSub, Array.replicate_succ, Array.replicate_zero, List.push_toArray, List.append_toArray, List.nil_append, List.cons_append]
  gi_wp2
  go_ret
  exact ⟨rfl, rfl⟩

/-- What slices.Chunk(l, 120) hands back, for a loop. -/
theorem chunk_stops (n : Nat) (hn : 1 ≤ n) (Bs Bn : Nat) (A : Option Addr) (b off len cap : Nat) (hA : len = 0 ∨ A = some ⟨b, off, none⟩) (hreach : len * 16 ≤ 140737488351232) (hlc : len ≤ cap) (w : World) (hBs : Bs < w.heap.size) (hBn : Bn < w.heap.size)
    (hS : w.cell? ⟨Bs, 0, none⟩ = some (.slice A len cap)) (hN : w.cell? ⟨Bn, 0, none⟩ = some (.int .i64 120)) :
    SeqStopsK Fence.wide n Try.prog 53 #[.pointer (some ⟨Bs, 0, none⟩), .pointer (some ⟨Bn, 0, none⟩)] (fun x : Nat => #[pieceV b off len x]) (Boxes Bs Bn)
      (fun ys => ys = List.range ((len + 119) / 120)) (fun pre => ∃ k, k ≤ (len + 119) / 120 ∧ pre = List.range k) ((len + 119) / 120) w := fun l J Jx W hW hJ _ hY h0 => by
  have hS' := (hW.cell (p := ⟨Bs, 0, none⟩) hBs).trans hS
  have hN' := (hW.cell (p := ⟨Bn, 0, none⟩) hBn).trans hN
  by_cases hl : len = 0
  · subst hl
    exact (chunk1_none n l Bs Bn A cap J W hS' h0).mono fun e W' ⟨he, hj⟩ => ⟨he, .inl ⟨_, rfl, hj⟩⟩
  · obtain rfl : A = some ⟨b, off, none⟩ := hA.resolve_left hl
    exact chunk1_in n hn l Bs Bn b off len cap hreach hlc J Jx (fun s V hs => hJ s V V.drew none hs ⟨rfl, rfl, rfl, Nat.le_refl _, fun _ _ _ => rfl⟩ (fun r e => by cases e)) hY W hS' hN' h0

/-! ### Clone -/
set_option maxRecDepth 100000 in
set_option maxHeartbeats 1000000 in
theorem clone_prog (b o : Nat) (l : List Smp) (c : Nat) (w : World) (hA : Smps w (some ⟨b, o, none⟩) l) (hl : l.length * 16 ≤ 140737488355328) :
    Calls Try.prog 41 #[.slice (some ⟨b, o, none⟩) l.length c] w fun e w' => ∃ v, e = .returned v ∧ OwnS w' w.heap.size v l ∧ Below w.heap.size w w' := by
  have hR : Row (w.alloc (.cells #[] 44)) w.heap.size 44 #[] := Row.new w _ _
  have hO : OwnS (w.alloc (.cells #[] 44)) w.heap.size (.slice (some ⟨w.heap.size, 0, none⟩) 0 0) [] := owns_empty hR (Nat.le_refl _)
  have hA1 := hA.alloc (.cells #[] 44)
  have hW1 := below_one w (.cells #[] 44)
  have hs1 := hW1.size
  have q : (binOp .eql 22 (.slice (some ⟨b, o, none⟩) l.length c) (.slice none 0 0)).run Try.prog w = .ok (.bool false) w := Lib.run_eql_slice_nil w _ _ _ _ _ _ _ Try.underlying22
  have HO := Lib.hid hO
  clear hO hR
  go_enter Try.func41, Try.ntmps41
  go_wp2_with (at_builtin; refine app_smps rfl (.tmp 5) (.tmp 6) rfl w.heap.size _ [] rfl HO.out (some ⟨b, o, none⟩) l c rfl hA1 (by simpa using hl) hs1 ?_; intro v3 w3 hF3 hb3 _; have HF3 := Lib.hid hF3; obtain ⟨P3, c3, hv3, _, _, _⟩ := owns_slice hF3; clear hF3; generalize ([] ++ l).length = n3 at hv3; subst hv3)
  go_ret
  exact ⟨_, rfl, HF3.out, hW1.trans hb3⟩
end Go.Proofs.Ytheaebkegncdlaa
