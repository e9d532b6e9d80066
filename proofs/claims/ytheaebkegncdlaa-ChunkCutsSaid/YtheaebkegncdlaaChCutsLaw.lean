/- The walk of a law of layer 5: Cut's pieces. -/
import Derived.Test.YtheaebkegncdlaaChCut3
import Derived.Test.YtheaebkegncdlaaChLives
namespace Go.Proofs.Ytheaebkegncdlaa
open Go.RowKit Go.Maps
set_option linter.unusedVariables false

theorem pcs_open {W : World} {n₀ N : Nat} {l : List Smp} {v : Value} {vs : List Value} (h : PcsAt W n₀ l v vs (List.range N)) : ∃ P c, v = .slice P N c ∧ N ≤ c ∧ ∀ k, k < N → ∃ b o A d, P = some ⟨b, o, none⟩ ∧ b < W.heap.size ∧
    W.cell? ⟨b, o + k, none⟩ = some (.slice A (pieceL l k).length d) ∧ Smps W A (pieceL l k) := by
  obtain ⟨hr, he⟩ := h
  rw [List.length_range] at hr he
  have hlen : vs.length = N := by have := hr.1; omega
  obtain ⟨P, c, hv, hc, hA, _⟩ := rows_slice hr
  refine ⟨P, c, hv, hc, fun k hk => ?_⟩
  have hkk : (List.range N).getD k 0 = k := by simp [List.getD_eq_getElem?_getD, hk]
  have h1 := he k hk
  rw [hkk] at h1
  obtain ⟨A, d, hvk, _, hS, _⟩ := owns_slice h1
  rcases hA with h0 | ⟨b, o, hP, hb, hcell⟩
  · rw [h0] at hlen; simp at hlen; omega
  · refine ⟨b, o, A, d, hP, hb, ?_, hS⟩
    rw [← hvk]
    exact hcell k _ (by rw [List.getD_eq_getElem?_getD, List.getElem?_eq_getElem (by omega)]; rfl)
theorem piece_next (l : List Smp) (k : Nat) : l.take (k * 120) ++ pieceL l k = l.take ((k + 1) * 120) := by
  unfold pieceL
  rw [Nat.succ_mul, List.take_add]

set_option maxHeartbeats 2000000 in
set_option maxRecDepth 100000 in
theorem chunkCuts_walk (w : World) (A : Option Addr) (l : List Smp) (c : Nat) (hA : Smps w A l) (hfit : Fits l) (hl : l.length * 16 ≤ 140737488351232) (hlc : l.length ≤ c) :
    Calls Try.prog 10 #[.slice A l.length c] w fun e w' => e = .returned (.bool true) ∧ Below w.heap.size w w' := by
  obtain ⟨N, hN⟩ : ∃ N, N = (l.length + 119) / 120 := ⟨_, rfl⟩
  have HA := Lib.hid (fun W (hW : Below w.heap.size w W) => hA.below hW)
  have HOW := Lib.hid (own_law A l c w hA (by omega))
  have HCU := Lib.hid (fun P cc W (hP : Smps W P l) (hcc : l.length ≤ cc) => by
    have := cut_prog P l cc W hP hl hcc
    rw [← hN] at this
    exact this)
  have HSA := Lib.hid (fun V U cc dd W hV hU => same_smps V U l cc dd W hV hU (by omega))
  have HPL := Lib.hid (piece_len l)
  have HNX := Lib.hid (piece_next l)
  have hNl : l.length ≤ N * 120 := by omega
  have HN := Lib.hid hN
  have hNs : N ≤ 1000000000000 := by omega
  have hls : l.length ≤ 8796093022000 := by omega
  have HLE := Lib.hid (show ∀ k, k < N → k * 120 < l.length by intro k hk; omega)
  have HL8 := Lib.hid (show ∀ k, k + 1 < N → (k + 1) * 120 ≤ l.length by intro k hk; omega)
  clear hA hfit hN
  go_enter Try.func10, Try.ntmps10
  go_wp2_with fail
  refine HOW.out.mono ?_
  rintro e w1 ⟨v1, rfl, hO1, hb1⟩
  obtain ⟨P1, c1, hv1, hc1, hS1, _⟩ := owns_slice hO1
  subst hv1
  clear hO1
  go_wp2_with fail
  refine (HCU.out P1 c1 _ hS1 hc1).mono ?_
  rintro e w2 ⟨v2, vs, rfl, hP2, hb2⟩
  obtain ⟨P2, c2, hv2, hc2, hX⟩ := pcs_open hP2
  have HX := Lib.hid hX
  have k2 := hb1.trans (hb2.mono hb1.size)
  subst hv2
  clear hP2 hX hS1 hb2
  go_wp2_with fail
  go_loopw [4, 5] (fun all i wr => ∃ k : Nat, k ≤ N ∧ i = .int .i64 (k : Int) ∧ OwnS wr w2.heap.size all (l.take (k * 120)) ∧ Below w2.heap.size w2 wr) (fun _ i _ => N - (intOf i).toNat)
  case atStart => exact ⟨0, Nat.zero_le _, rfl, by rw [Nat.zero_mul, List.take_zero]; exact owns_nil _ _, Below.refl _ _⟩
  case round =>
    obtain ⟨k, hk, rfl, hO, hbr⟩ := hrel
    by_cases hlt : k < N
    · obtain ⟨b, o, B, d, hP, hb, hcell, hS⟩ := HX.out k hlt
      subst hP
      have q1 := HLE.out k hlt
      have q2 := HL8.out k
      have q3 := HPL.out k
      have HNk := Lib.hid (HNX.out k)
      have cr : wr.cell? ⟨b, o + k, none⟩ = some (.slice B (pieceL l k).length d) := (hbr.cell (p := ⟨b, o + k, none⟩) hb).trans hcell
      have hsr := hbr.size
      have hSr : Smps wr B (pieceL l k) := hS.below hbr
      have hbd : ((l.take (k * 120)).length + (pieceL l k).length) * 16 ≤ 140737488355328 := by
        have := congrArg List.length HNk.out
        rw [List.length_append, List.length_take (l := l) (i := (k + 1) * 120)] at this
        omega
      obtain ⟨q, hq⟩ : ∃ q, q = (pieceL l k).length := ⟨_, rfl⟩
      rw [← hq] at cr q3
      have q4 : 1 ≤ q := by omega
      have q5 : q ≤ 120 := by omega
      have Hq := Lib.hid hq
      have HBD := Lib.hid hbd
      have HO4 := Lib.hid hO
      have HS4 := Lib.hid hSr
      have HBR := Lib.hid hbr
      obtain ⟨M, hM⟩ : ∃ M, M + 1 = N := ⟨N - 1, by omega⟩
      have wa : IntKind.i64.wrap ((N : Int) - 1) = (M : Int) := by rw [IntKind.wrap_i64]; omega
      have wb : IntKind.i64.wrap (M : Int) = (M : Int) := by rw [IntKind.wrap_i64]; omega
      have n1 : ¬ q = 0 := by omega
      have n2 : ¬ 120 < q := by omega
      by_cases hlast : k < M
      · have q6 : q = 120 := by have := q2 (by omega); omega
        clear q1 q2 q3 hq hbd hO hSr hS hcell hbr hM q4 q5 n1 n2
        subst q6
        go_wp2_with (at_builtin; refine app_smps rfl (.tmp 44) (.tmp 48) rfl w2.heap.size _ (l.take (k * 120)) rfl HO4.out B (pieceL l k) d (by rw [← Hq.out]; rfl) HS4.out HBD.out hsr ?_; intro v3 w3 hF3 hb3 _; rw [HNk.out] at hF3; have HF3 := Lib.hid hF3; have HB3 := Lib.hid hb3; clear hF3 hb3)
        go_roundw
        case rel => exact ⟨k + 1, by omega, by go_num, HF3.out, HBR.out.trans HB3.out⟩
        case measure => simp [intOf]; omega
      · have hkM : M = k := by omega
        subst hkM
        clear q1 q2 q3 hq hbd hO hSr hS hcell hbr hM hlast
        have b1 : ((q : Int) == 0) = false := by rw [beq_eq_false_iff_ne]; omega
        have b2 : ¬ (120 : Int) < (q : Int) := by omega
        have i1 : ¬ (M : Int) < (M : Int) := by omega
        go_wp2_with (at_builtin; refine app_smps rfl (.tmp 44) (.tmp 48) rfl w2.heap.size _ (l.take (M * 120)) rfl HO4.out B (pieceL l M) d (by rw [← Hq.out]; rfl) HS4.out HBD.out hsr ?_; intro v3 w3 hF3 hb3 _; rw [HNk.out] at hF3; have HF3 := Lib.hid hF3; have HB3 := Lib.hid hb3; clear hF3 hb3)
        go_roundw
        case rel => exact ⟨M + 1, by omega, by go_num, HF3.out, HBR.out.trans HB3.out⟩
        case measure => simp [intOf]; omega
    · obtain rfl : k = N := by omega
      have hT : l.take (k * 120) = l := List.take_of_length_le hNl
      rw [hT] at hO
      obtain ⟨P4, c4, hv4, _, hS4, _⟩ := owns_slice hO
      subst hv4
      have k3 := k2.trans (hbr.mono k2.size)
      clear hO hT
      go_wp2_with fail
      refine (HSA.out P4 A c4 c _ hS4 (HA.out _ k3)).mono ?_
      rintro e w6 ⟨rfl, hb6⟩
      go_wp2_with fail
      refine (lives_true _).mono ?_
      rintro e w7 ⟨rfl, hb7⟩
      go_wp2_with fail
      go_ret
      exact ⟨rfl, (k3.trans (hb6.mono k3.size)).trans (hb7.mono (Nat.le_trans k3.size hb6.size))⟩
end Go.Proofs.Ytheaebkegncdlaa
