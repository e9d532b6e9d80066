/- Cut: the contract of the whole. -/
import Derived.Test.YtheaebkegncdlaaChCut2
namespace Go.Proofs.Ytheaebkegncdlaa
open Go.RowKit Go.Shelf
set_option linter.unusedVariables false
attribute [local go_sem] Oper.semAt_some

theorem row_info : (Try.prog.info? 22).map (fun i => (i.zero, i.size, i.bytes)) = some (some (.slice none 0 0), 1, 24) := by kernel_rfl
theorem app_pcs {w1 : World} {n₀ k : Nat} {v cv : Value} {vs : List Value} (h : w1.ownsRow n₀ 22 1 v k vs) (hc : cv.oneCell' = true) (hk : k ≤ 1000000000000) (hn : n₀ ≤ w1.heap.size) :
    ∃ v' w2, (Builtin.append_ #[52, 52] 52 #[v, .slice (some ⟨w1.heap.size, 0, none⟩) 1 1]).run Try.prog (w1.alloc (.cells #[cv] 22)) = .ok v' w2 ∧
      w2.ownsRow n₀ 22 1 v' (k + 1) (vs ++ [cv]) ∧ (w1.alloc (.cells #[cv] 22)).grownBy w2 v.ownBlock := by
  obtain ⟨i0, hi, hz0, hz1, hz2⟩ := info_parts row_info
  have hA := below_one w1 (.cells #[cv] 22)
  obtain ⟨v', w2, a1, a2, _, a4⟩ := run_app_at (P := Try.prog) (w := w1.alloc (.cells #[cv] 22)) 52 52 n₀ 22 i0 _ 1 24 Try.underlying52 hi hz0 hz1 hz2 rfl (by omega) v k vs (rows_below h hA)
    (some ⟨w1.heap.size, 0, none⟩) 1 1 [cv] rfl (At.row (Row.new w1 _ _)) (by intro u hu; simp at hu; subst hu; exact hc) (by simp only [maxLen]; omega) (by omega) (Nat.le_trans hn hA.size)
  exact ⟨v', w2, a1, a2, a4⟩

attribute [-go_sem] Builtin.append_
set_option maxRecDepth 100000 in
set_option maxHeartbeats 4000000 in
theorem cut_prog (A : Option Addr) (l : List Smp) (c : Nat) (w : World) (hA : Smps w A l) (hl : l.length * 16 ≤ 140737488351232) (hlc : l.length ≤ c) :
    Calls Try.prog 26 #[.slice A l.length c] w fun e w' => ∃ v vs, e = .returned v ∧ PcsAt w' w.heap.size l v vs (List.range ((l.length + 119) / 120)) ∧ Below w.heap.size w w' := by
  obtain ⟨b, o, hAo⟩ : ∃ b o, l.length = 0 ∨ (A = some ⟨b, o, none⟩ ∧ b < w.heap.size) := by
    by_cases h : l.length = 0
    · exact ⟨0, 0, .inl h⟩
    · obtain ⟨b, o, h1, h2, _⟩ := hA.at_ (i := 0) (by omega)
      exact ⟨b, o, .inr ⟨h1, h2⟩⟩
  refine (callsIn_wide (n := 3)).1 ?_
  refine callsIn_of_wp_marks Try.func26 rfl trivial ?_ rfl
  simp only [Try.ntmps26, List.size_toArray, List.length_cons, List.length_nil, Nat.reduceAdd, Nat.reduceSub, Array.replicate_succ, Array.replicate_zero, List.push_toArray, List.append_toArray, List.nil_append, List.cons_append]
  gi_wp2_with (refine ⟨trivial, ?_⟩; gi_at_call 40; refine (chunk_in _ _ _ _ _).mono ?_; rintro e w' ⟨rfl, rfl⟩)
  obtain ⟨N, hNd⟩ : ∃ N, N = (l.length + 119) / 120 := ⟨_, rfl⟩
  have bP := Boxed.new w 52 (.slice none 0 0)
  have bS := Boxed.new (w.alloc (.cells #[.slice none 0 0] 52)) 22 (.slice A l.length c)
  have bN := Boxed.new ((w.alloc (.cells #[.slice none 0 0] 52)).alloc (.cells #[.slice A l.length c] 22)) 3 (.int .i64 120)
  have bP' := (bP.alloc (.cells #[.slice A l.length c] 22)).alloc (.cells #[.int .i64 120] 3)
  have bS' := bS.alloc (.cells #[.int .i64 120] 3)
  have hB0 : Below w.heap.size w (((w.alloc (.cells #[.slice none 0 0] 52)).alloc (.cells #[.slice A l.length c] 22)).alloc (.cells #[.int .i64 120] 3)) :=
    (((Below.refl _ w).alloc (Nat.le_refl _) _).alloc (by simp) _).alloc (by simp; omega) _
  simp only [World.size_alloc] at bP' bS' bN
  obtain ⟨W0, hW0⟩ : ∃ W0, (((w.alloc (.cells #[.slice none 0 0] 52)).alloc (.cells #[.slice A l.length c] 22)).alloc (.cells #[.int .i64 120] 3)) = W0 := ⟨_, rfl⟩
  have hsz : W0.heap.size = w.heap.size + 3 := by rw [← hW0]; simp
  rw [hW0] at bP' bS' bN hB0 ⊢
  try simp only [World.size_alloc]
  refine wpIn_rangeFunc_ownG rfl (by omega) (gf := 53) (lb := #[.pointer (some ⟨w.heap.size + 1, 0, none⟩), .pointer (some ⟨w.heap.size + 1 + 1, 0, none⟩)]) rfl trivial (enters_of Try.func53 (by kernel_rfl) rfl)
    (chunk_stops 2 (by omega) (w.heap.size + 1) (w.heap.size + 1 + 1) A b o l.length c (hAo.imp id (fun h => h.1)) hl hlc W0 (by omega) (by omega) bS'.cell bN.cell) Boxes.trans (Boxes.put (by omega) (by omega)) (Below.refl _ _) (fun _ => rfl)
    (fun pre W => Held w.heap.size (w.heap.size + 3) l pre W ∧ Below w.heap.size w W ∧ w.heap.size + 3 ≤ W.heap.size)
    (fun _ _ _ => False)
    (OwnFrom.and (Go.Own.from (held_own _ _ _) _) (OwnFrom.and (ownFrom_below (Nat.le_refl _) (by omega)) (fun _ _ _ _ hs hg _ => Nat.le_trans hs hg.size)))
    (fun _ _ _ _ _ hs _ _ => hs)
    ⟨⟨_, _, bP', PcsAt.none_ _ _ _⟩, hB0, by omega⟩
    (fun x => { tmps := #[.slice A l.length c, undef, .slice none 0 0, .pointer (some ⟨w.heap.size, 0, none⟩), pieceV b o l.length x, .slice A l.length c, .func (.func 53) #[] #[.pointer (some ⟨w.heap.size + 1, 0, none⟩), .pointer (some ⟨w.heap.size + 1 + 1, 0, none⟩)], pieceV b o l.length x, undef, undef, undef, undef, undef, undef], defers := [] }) ?assign ?body ?done ?stop
  case assign =>
    intro l' x W K hK
    gi_wp2
    exact hK
  case body =>
    rintro l' pre x W ⟨⟨v, vs, hv, hp⟩, hB, hW3⟩ hlt
    have hd : 1 ≤ 3 - 1 - 1 := by omega
    have hmx : Try.prog.follows .mixedOrders = true := by kernel_rfl
    obtain ⟨rfl, hbw⟩ : A = some ⟨b, o, none⟩ ∧ b < w.heap.size := hAo.resolve_left (by intro h; rw [h] at hlt; simp at hlt)
    have hWs := hB.size
    have hps : PcsAt W.drew (w.heap.size + 3) l v vs pre := hp
    have hvs : Boxed W.drew w.heap.size 52 v := hv
    have hBd : Below w.heap.size w W.drew := hB.drew
    have hSm : Smps W.drew (some ⟨b, o, none⟩) l := hA.below hBd
    have HCL : Calls Try.prog 41 #[pieceV b o l.length x] W.drew fun e w' => ∃ v, e = .returned v ∧ OwnS w' W.drew.heap.size v (pieceL l x) ∧ Below W.drew.heap.size W.drew w' := by
      have := clone_prog b (o + x * 120 * 2) (pieceL l x) (pieceL l x).length W.drew (piece_smps hSm x) (by rw [piece_len]; omega)
      rw [piece_len] at this
      exact this
    have c0 := hv.cell
    gi_wp2
    gi_region_with_o (refine ⟨trivial, ?_⟩; gi_at_call 41; refine (CallsIn.inRound l' (callsIn_wide.2 HCL)).mono ?_; rintro e w1 ⟨cv, rfl, hcv, hcb⟩; obtain ⟨Pc, cc, rfl, _, _, _⟩ := owns_slice hcv; have hv1 : Boxed w1 w.heap.size 52 v := (hcb.block _ hvs.lt).trans hvs; have k1 := hv1.cell; have k4 := (hv1.alloc (.cells #[.slice Pc (pieceL l x).length cc] 22)).cell; obtain ⟨v', w2, hrun, hr2, hg2⟩ := app_pcs (hps.below hcb).1 (show (Value.slice Pc (pieceL l x).length cc).oneCell' = true from rfl) (by omega) (Nat.le_trans hW3 hcb.size); obtain ⟨hb2, hh, hko, hbe⟩ := held_step (n₀ := w.heap.size + 3) hvs hps (by omega) hW3 hcb hcv hg2 hr2; have k2 := hb2.cell; have k3 := hb2.frozen; obtain ⟨g', cap', rfl⟩ := ownsRow_succ hr2)
    all_goals gi_wp2
    all_goals exact ⟨((KeepsOthers.drew W).trans hko).from _, fun k hk => (hbe _ (Nat.le_refl _)).2 k (by omega) (by omega), hh, hBd.trans (hbe _ (Nat.le_refl _)).1, Nat.le_trans hW3 hko.size⟩
  case done =>
    rintro D ys W hD rfl ⟨⟨v, vs, hv, hp⟩, hB, hW3⟩ hK
    have hc := hv.cell
    gi_wp2
    refine ⟨by simp, .inl ⟨_, _, rfl, run_takeDeferred hK, ?_⟩⟩
    refine ⟨_, results_tmp rfl _ _ _, v, vs, rfl, (hp.move fun g t cs _ hr _ => (grownBy_putObj' W D _).block g hr.lt (fun e => ?_)).lower (by omega), hB.trans (belowK_b (w := w) (Nat.le_refl _) W D _ _ (by omega) hK rfl rfl)⟩
    injection e with e
    subst e
    rw [show W.heap[g]? = _ from hr] at hK
    cases hK
  case stop =>
    rintro D cc pre W _ _ h _
    exact h.elim
end Go.Proofs.Ytheaebkegncdlaa
