/- A byte goes through a tree: feed, as the trees' own feedM. -/
import Derived.Test.YtjljfilflajogaaReHas
namespace Go.Proofs.Ytjljfilflajogaa
open Go.RowKit
set_option linter.unusedVariables false

def FeedP (r : Re) : Prop := ∀ (w : World) (v : Value) (M : List Nat) (c : UInt8) (b : Bool), NodeAt w r v M →
  Calls Try.prog 54 #[v, .int .u8 (c.toNat : Int), .bool b] w fun e w' => e = .returned (.tuple #[]) ∧ NodeAt w' (feedM c b r) v M ∧ Touch w w' M

theorem feed_atom (sp : List (UInt8 × UInt8)) (neg tk : Bool) : FeedP (.atom sp neg tk) := by
  intro w v M c b0 h
  simp only [NodeAt, feedM] at h ⊢
  obtain ⟨b, A, cc, K, rfl, hs, hr, hB, hn, rfl⟩ := h
  have HR := Lib.hid hr
  have HB := Lib.hid hB
  have HP := Lib.hid (fun (w1 : World) (hb1 : Below w.heap.size w w1) (x : Bool) => show (∃ b_1 A_1 c_1 K_1, Value.iface 86 (.pointer (some ⟨b, 0, none⟩)) = .iface 86 (.pointer (some ⟨b_1, 0, none⟩)) ∧ sp.length ≤ 1000 ∧ Row (w1.setCell ⟨b, 2, none⟩ (.bool x)) b_1 89 #[.slice A_1 sp.length c_1, .bool neg, .bool x] ∧ Blk (w1.setCell ⟨b, 2, none⟩ (.bool x)) A_1 97 (sp.flatMap spanCells) K_1 ∧ b_1 ∉ K_1 ∧ b :: K = b_1 :: K_1) ∧ Touch w (w1.setCell ⟨b, 2, none⟩ (.bool x)) (b :: K) from by
    have hr1 : Row w1 b _ _ := hr.below hb1 hr.lt
    have ht : Touch w (w1.setCell ⟨b, 2, none⟩ (.bool x)) (b :: K) := (Touch.of_below hb1).set (p := ⟨b, 2, none⟩) (by simp) _
    exact ⟨⟨b, A, cc, K, rfl, hs, hr1.setAt 2 _, (hB.below hb1).keep fun k hk => Below.heap_setCell w1 ⟨b, 2, none⟩ _ k (fun e => hn (by have e' : k = b := e; rw [← e']; exact hk)), hn, rfl⟩, ht⟩)
  have f2 := hr.frozen 2
  have c2 := hr.cell 2
  have hlt := hr.lt
  have hH := has_prog hr hB hs c
  have HH := Lib.hid hH
  clear hr hB hH
  cases b0
  · go_enter Try.func54, Try.ntmps54
    go_wp2_with fail
    go_end0
    exact ⟨rfl, HP.out w (Below.refl _ _) false⟩
  · go_enter Try.func54, Try.ntmps54
    go_wp2_with (go_at_call 68; refine HH.out.mono ?_; rintro e w1 ⟨rfl, hb1⟩; have f2' := (hb1.frozen (p := ⟨b, 2, none⟩) hlt).trans f2; have c2' := (hb1.cell (p := ⟨b, 2, none⟩) hlt).trans c2; have HB1 := Lib.hid hb1)
    go_end0
    exact ⟨rfl, HP.out _ HB1.out _⟩
theorem feed_alt_ (l : List Re) (ih : ∀ r ∈ l, FeedP r) : FeedP (.alt l) := by
  intro w v M c b0 h
  simp only [NodeAt, feedM] at h ⊢
  obtain ⟨A, cc, vs, K, Ms, rfl, hs, hB, hN, hS, rfl⟩ := h
  have HB := Lib.hid hB
  have HN := Lib.hid hN
  have HI := Lib.hid ih
  have HS := Lib.hid hS
  clear hB hN ih hS
  go_enter Try.func54, Try.ntmps54
  go_wp2_with fail
  go_loopw [57] (fun i wr => ∃ (k : Nat) (pre : List Re), pre.length = k ∧ k ≤ l.length ∧ i = .int .i64 (k : Int) ∧ NodesAt wr (pre ++ l.drop k) vs Ms ∧ pre ++ feedAll c b0 (l.drop k) = feedAll c b0 l ∧ Touch w wr Ms.flatten) (fun i _ => l.length - (intOf i).toNat)
  case atStart => exact ⟨0, [], rfl, Nat.zero_le _, rfl, by simpa using HN.out, rfl, Touch.refl _ _⟩
  case round =>
    obtain ⟨k, pre, hpl, hk, rfl, hNr, hd, ht⟩ := hrel
    by_cases hlt : k < l.length
    · obtain ⟨r, hr, hmem⟩ := part_at l hlt
      rw [drop_at hr] at hNr hd
      obtain ⟨v, M, hv, hM, hNk⟩ := hNr.at_ k r (by rw [← hpl]; simp)
      obtain ⟨b, rfl, rfl, hb, hcell⟩ := HB.out.cell hv
      have hbn : b ∉ Ms.flatten := HS.out.head b (by simp)
      have c0 : wr.cell? ⟨b, k, none⟩ = some v := (World.cell?_of_block (w := w) (a := ⟨b, k, none⟩) (ht.block b hb hbn)).trans (hcell k v hv)
      rw [feedAll] at hd
      have HD := Lib.hid hd
      have HNr := Lib.hid hNr
      have HNk := Lib.hid hNk
      have HV := Lib.hid hv
      have HM := Lib.hid hM
      have HT := Lib.hid ht
      have HP := Lib.hid hpl
      have HIr := Lib.hid (HI.out r hmem)
      clear hd hNr hNk hcell hv hM hr hmem ht hpl
      go_wp2_with (go_at_call 54; refine (HIr.out _ _ M c b0 HNk.out).mono ?_; rintro e w1 ⟨rfl, hn1, ht1⟩)
      have hl := HP.out
      refine ⟨⟨k + 1, pre ++ [feedM c b0 r], by rw [List.length_append, hl]; rfl, by omega, by go_num, ?_, by rw [List.append_assoc]; exact HD.out, HT.out.trans (ht1.mono fun x hx => List.mem_flatten.2 ⟨M, List.mem_of_getElem? HM.out, hx⟩)⟩, by simp [intOf]; omega⟩
      rw [List.append_assoc]
      exact nodes_turn HNr.out HS.out.tail (by rw [hl]; exact HV.out) (by rw [hl]; exact HM.out) hn1 ht1
    · obtain rfl : k = l.length := by omega
      rw [List.drop_length] at hNr hd
      rw [List.append_nil] at hNr
      simp only [feedAll, List.append_nil] at hd
      have HD := Lib.hid hd
      have HNr := Lib.hid hNr
      have HT := Lib.hid ht
      have HP := Lib.hid hpl
      clear hd hNr ht hpl
      go_wp2_with fail
      go_end0
      refine ⟨rfl, ⟨A, cc, vs, K, Ms, ?_, ?_, HT.out.blk HB.out HS.out.head, by rw [← HD.out]; exact HNr.out, HS.out, rfl⟩, HT.out.mono fun x hx => List.mem_append_right _ hx⟩
      · rw [← HD.out, HP.out]
      · rw [← HD.out, HP.out]; exact hs
theorem feed_row_ (l : List Re) (ih : ∀ r ∈ l, FeedP r) : FeedP (.row l) := by
  intro w v M c b0 h
  simp only [NodeAt, feedM] at h ⊢
  obtain ⟨A, cc, vs, K, Ms, rfl, hs, hB, hN, hS, rfl⟩ := h
  have HB := Lib.hid hB
  have HN := Lib.hid hN
  have HI := Lib.hid ih
  have HS := Lib.hid hS
  clear hB hN ih hS
  go_enter Try.func54, Try.ntmps54
  go_wp2_with fail
  go_loopw [2, 33] (fun bb i wr => ∃ (k : Nat) (b1 : Bool) (pre : List Re), pre.length = k ∧ k ≤ l.length ∧ bb = .bool b1 ∧ i = .int .i64 (k : Int) ∧ NodesAt wr (pre ++ l.drop k) vs Ms ∧ pre ++ feedRow c b1 (l.drop k) = feedRow c b0 l ∧ Touch w wr Ms.flatten) (fun _ i _ => l.length - (intOf i).toNat)
  case atStart => exact ⟨0, b0, [], rfl, Nat.zero_le _, rfl, rfl, by simpa using HN.out, rfl, Touch.refl _ _⟩
  case round =>
    obtain ⟨k, b1, pre, hpl, hk, rfl, rfl, hNr, hd, ht⟩ := hrel
    by_cases hlt : k < l.length
    · obtain ⟨r, hr, hmem⟩ := part_at l hlt
      rw [drop_at hr] at hNr hd
      obtain ⟨v, M, hv, hM, hNk⟩ := hNr.at_ k r (by rw [← hpl]; simp)
      obtain ⟨b, rfl, rfl, hb, hcell⟩ := HB.out.cell hv
      have hbn : b ∉ Ms.flatten := HS.out.head b (by simp)
      have c0 : wr.cell? ⟨b, k, none⟩ = some v := (World.cell?_of_block (w := w) (a := ⟨b, k, none⟩) (ht.block b hb hbn)).trans (hcell k v hv)
      obtain ⟨T, y, f, rfl, hm, he, hc⟩ := done_all r wr v M hNk
      rw [feedRow] at hd
      have HD := Lib.hid hd
      have HNr := Lib.hid hNr
      have HNk := Lib.hid hNk
      have HV := Lib.hid hv
      have HM := Lib.hid hM
      have HT := Lib.hid ht
      have HP := Lib.hid hpl
      have HC := Lib.hid hc
      have HIr := Lib.hid (HI.out r hmem)
      clear hd hNr hNk hcell hv hM hr hmem ht hpl hc
      have HQ := Lib.hid (fun (w1 w2 w3 : World) (b2 : Bool) (hb1 : Below wr.heap.size wr w1) (hn1 : NodeAt w2 (feedM c b1 r) (.iface T y) M) (ht1 : Touch w1 w2 M) (hb3 : Below w2.heap.size w2 w3) (e2 : b2 = (doneM r || b1 && emptyM r)) =>
        show (∃ (k' : Nat) (b1' : Bool) (pre' : List Re), pre'.length = k' ∧ k' ≤ l.length ∧ Value.bool b2 = .bool b1' ∧ Value.int .i64 ((k : Int) + 1) = .int .i64 (k' : Int) ∧ NodesAt w3 (pre' ++ l.drop k') vs Ms ∧ pre' ++ feedRow c b1' (l.drop k') = feedRow c b0 l ∧ Touch w w3 Ms.flatten) from by
          have ht3 : Touch wr w3 M := ((Touch.of_below hb1).trans ht1).below hb3
          refine ⟨k + 1, b2, pre ++ [feedM c b1 r], by rw [List.length_append, HP.out]; rfl, by omega, rfl, by simp, ?_, by rw [List.append_assoc, e2]; exact HD.out, HT.out.trans (ht3.mono fun x hx => List.mem_flatten.2 ⟨M, List.mem_of_getElem? HM.out, hx⟩)⟩
          rw [List.append_assoc]
          exact nodes_turn HNr.out HS.out.tail (by rw [HP.out]; exact HV.out) (by rw [HP.out]; exact HM.out) (hn1.below hb3) ht3)
      cases hdr : doneM r
      · cases b1
        · rw [hdr] at HC HQ
          go_wp2_with (first
            | (go_at_fn f; refine HC.out.mono ?_; rintro e w1 ⟨rfl, hb1⟩; have HB1 := Lib.hid hb1; clear hb1)
            | (go_at_call 54; refine (HIr.out _ _ M c false (HNk.out.below HB1.out)).mono ?_; rintro e w2 ⟨rfl, hn1, ht1⟩; have HN1 := Lib.hid hn1; have HT1 := Lib.hid ht1; clear hn1 ht1))
          exact ⟨HQ.out _ _ _ _ HB1.out HN1.out HT1.out (Below.refl _ _) rfl, by simp [intOf]; omega⟩
        · rw [hdr] at HC HQ
          go_wp2_with (first
            | (go_at_fn f; refine HC.out.mono ?_; rintro e w1 ⟨rfl, hb1⟩; have HB1 := Lib.hid hb1; clear hb1)
            | (go_at_call 54; refine (HIr.out _ _ M c true (HNk.out.below HB1.out)).mono ?_; rintro e w2 ⟨rfl, hn1, ht1⟩; have HN1 := Lib.hid hn1; have HT1 := Lib.hid ht1; clear hn1 ht1
               obtain ⟨T2, y2, f2, e2, hm2, he2, hc2⟩ := empty_all _ w2 _ M HN1.out
               rw [empty_feed] at hc2
               injection e2 with e2 e3
               subst e2
               subst e3
               have HC2 := Lib.hid hc2
               clear hc2)
            | (go_at_fn f2; refine HC2.out.mono ?_; rintro e w3 ⟨rfl, hb3⟩; have HB3 := Lib.hid hb3; clear hb3))
          exact ⟨HQ.out _ _ _ _ HB1.out HN1.out HT1.out HB3.out (by simp), by simp [intOf]; omega⟩
      · rw [hdr] at HC HQ
        go_wp2_with (first
          | (go_at_fn f; refine HC.out.mono ?_; rintro e w1 ⟨rfl, hb1⟩; have HB1 := Lib.hid hb1; clear hb1)
          | (go_at_call 54; refine (HIr.out _ _ M c b1 (HNk.out.below HB1.out)).mono ?_; rintro e w2 ⟨rfl, hn1, ht1⟩; have HN1 := Lib.hid hn1; have HT1 := Lib.hid ht1; clear hn1 ht1))
        exact ⟨HQ.out _ _ _ _ HB1.out HN1.out HT1.out (Below.refl _ _) rfl, by simp [intOf]; omega⟩
    · obtain rfl : k = l.length := by omega
      rw [List.drop_length] at hNr hd
      rw [List.append_nil] at hNr
      simp only [feedRow, List.append_nil] at hd
      have HD := Lib.hid hd
      have HNr := Lib.hid hNr
      have HT := Lib.hid ht
      have HP := Lib.hid hpl
      clear hd hNr ht hpl
      go_wp2_with fail
      go_end0
      refine ⟨rfl, ⟨A, cc, vs, K, Ms, ?_, ?_, HT.out.blk HB.out HS.out.head, by rw [← HD.out]; exact HNr.out, HS.out, rfl⟩, HT.out.mono fun x hx => List.mem_append_right _ hx⟩
      · rw [← HD.out, HP.out]
      · rw [← HD.out, HP.out]; exact hs
end Go.Proofs.Ytjljfilflajogaa
