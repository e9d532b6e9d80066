/- The document's own disk: a directory in which a file stands under a name. -/
import Derived.Test.YtiepepikbophmaaRkRows
namespace Go.Proofs.Ytiepepikbophmaa
open Go.RowKit Go.Maps
set_option linter.unusedVariables false

theorem putGo_cons (x y : Ent) (dn : Bool) (r : List Ent) : putGo x dn (y :: r) = (if !dn && Op.bytesLess x.name y.name then [x] else []) ++ (if y.name ≠ x.name then [y] else []) ++ putGo x (dn || Op.bytesLess x.name y.name) r := rfl
theorem less_txt (a b : List UInt8) : Op.bytesLess (txt a).toList (txt b).toList = Op.bytesLess a b := by rw [txt_list, txt_list]
theorem box_at {w w' : World} {x : Ent} (hb : Below (w.alloc (.cells #[.string (txt x.name), .int .i64 (x.file : Int)] 124)).heap.size (w.alloc (.cells #[.string (txt x.name), .int .i64 (x.file : Int)] 124)) w') :
    w'.cell? ⟨w.heap.size, 0, none⟩ = some (.string (txt x.name)) ∧ w'.cell? ⟨w.heap.size, 1, none⟩ = some (.int .i64 (x.file : Int)) := by
  have hr := Row.new w 124 #[.string (txt x.name), .int .i64 (x.file : Int)]
  have hr2 := row_move hr (hb.block _ hr.lt)
  exact ⟨(hr2.cell 0).trans rfl, (hr2.cell 1).trans rfl⟩
set_option maxRecDepth 20000 in
set_option maxHeartbeats 1000000 in
theorem with_ref {w : World} {v : Value} {l : List Ent} (h : EntsR w 0 v l) (hl : l.length ≤ 1000) (x : Ent) :
    Calls Try.prog 96 #[v, .agg #[.string (txt x.name), .int .i64 (x.file : Int)]] w fun e w' => ∃ v', e = .returned v' ∧ EntsR w' w.heap.size v' (put l x) ∧ Below w.heap.size w w' := by
  obtain ⟨P, c, rfl, hc, hP⟩ := ents_at h
  have HB0 := Lib.hid (below_one w (.cells #[.string (txt x.name), .int .i64 (x.file : Int)] 124))
  have HP := Lib.hid (show ∀ w', Below (w.alloc (.cells #[.string (txt x.name), .int .i64 (x.file : Int)] 124)).heap.size (w.alloc (.cells #[.string (txt x.name), .int .i64 (x.file : Int)] 124)) w' → ∀ i, i < l.length → ∃ g, P = some ⟨g, 0, none⟩ ∧ w'.cell? ⟨g, i * 2, none⟩ = some (.string (txt (l.getD i ⟨[], 0⟩).name)) ∧ w'.cell? ⟨g, i * 2 + 1, none⟩ = some (.int .i64 ((l.getD i ⟨[], 0⟩).file : Int)) from fun w' hb i hi => by
    obtain ⟨g, hg, _, hlt, h0, h1⟩ := hP i hi
    have hb' := below_then HB0.out hb
    exact ⟨g, hg, (hb'.cell (p := ⟨g, i * 2, none⟩) hlt).trans h0, (hb'.cell (p := ⟨g, i * 2 + 1, none⟩) hlt).trans h1⟩)
  have HX := Lib.hid (fun w' hb => box_at (w := w) (w' := w') (x := x) hb)
  clear h hP
  go_enter Try.func96, Try.ntmps96
  go_wp2_with fail
  have HW0 := Lib.hid (show ∃ W0, W0 = w.alloc (.cells #[.string (txt x.name), .int .i64 (x.file : Int)] 124) from ⟨_, rfl⟩)
  obtain ⟨W0, hW0⟩ := HW0.out
  rw [← hW0] at HB0 HP HX ⊢
  have HW0' := Lib.hid hW0
  clear hW0 HW0
  go_loopw [5, 6, 7] (fun v dv i wr => ∃ (k : Nat) (dn : Bool) (ps : List Ent), k ≤ l.length ∧ i = .int .i64 (k : Int) ∧ dv = .bool dn ∧ put l x = ps ++ putGo x dn (l.drop k) ∧ ps.length ≤ 2 * k ∧ EntsR wr W0.heap.size v ps ∧ Below W0.heap.size W0 wr) (fun _ _ i _ => l.length - (intOf i).toNat)
  case atStart => exact ⟨0, false, [], Nat.zero_le _, rfl, rfl, rfl, by simp, ents_nil _ _, Below.refl _ _⟩
  case round =>
    obtain ⟨k, dn, ps, hk, rfl, rfl, hput, hpl, hF, hb⟩ := hrel
    have HF := Lib.hid hF
    have HFQ := Lib.hid (fun q => show EntsR (wr.drewN q) _ _ _ from rows_below hF (drawn wr.heap.size wr q))
    have HB := Lib.hid hb
    have HPL := Lib.hid hpl
    have hs := hb.size
    obtain ⟨Po, co, hvo, _, _⟩ := ents_at hF
    obtain ⟨b0, b1⟩ := HX.out _ hb
    by_cases hlt : k < l.length
    · obtain ⟨g, rfl, c0, c1⟩ := HP.out _ hb k hlt
      rw [drop_cons hlt, putGo_cons] at hput
      have HC := Lib.hid (show ∀ w', Below W0.heap.size W0 w' → w'.cell? ⟨g, k * 2, none⟩ = some (.string (txt (l.getD k ⟨[], 0⟩).name)) ∧ w'.cell? ⟨g, k * 2 + 1, none⟩ = some (.int .i64 ((l.getD k ⟨[], 0⟩).file : Int)) from fun w' hb' => by
        obtain ⟨g', e, k0, k1⟩ := HP.out w' hb' k hlt
        injection e with e
        injection e with e _ _
        subst e
        exact ⟨k0, k1⟩)
      generalize l.getD k ⟨[], 0⟩ = y at *
      have i1 : (k : Int) < (l.length : Int) := by omega
      have hn4 : ps.length ≤ 4000000 := by omega
      clear hb hF
      cases dn
      · cases hL : Op.bytesLess x.name y.name
        · have q0 := (less_txt x.name y.name).trans hL
          by_cases he : y.name = x.name
          · have hpl' := Lib.hid hpl
            have q1 : ((txt y.name).toList == (txt x.name).toList) = true := by rw [he]; simp
            have HPUT := Lib.hid (show put l x = ps ++ putGo x false (l.drop (k + 1)) by rw [hput, hL, he]; simp)
            clear hput he hL
            generalize ps.length = np at hvo
            subst hvo
            generalize txt y.name = yn at *
            generalize txt x.name = xn at *
            go_wp2_with fail
            go_quiet (fail)
            go_wp2_with fail
            go_quiet (fail)
            go_wp2
            go_roundw
            case rel => exact ⟨k + 1, false, ps, by omega, by go_num, rfl, HPUT.out, by have := HPL.out; omega, rows_below HF.out (drawn _ _ _), HB.out.trans (drawn _ _ _)⟩
            case measure => simp [intOf]; omega
          · have q1 : ((txt y.name).toList == (txt x.name).toList) = false := by rw [beq_eq_false_iff_ne, txt_list, txt_list]; exact he
            have HPUT := Lib.hid (show put l x = (ps ++ [y]) ++ putGo x false (l.drop (k + 1)) by rw [hput, hL]; simp [he])
            have HLN := Lib.hid (show (ps ++ [y]).length ≤ 2 * (k + 1) by rw [List.length_append, List.length_singleton]; omega)
            clear hput he hL
            clear hvo
            go_wp2_with fail
            go_quiet (fail)
            go_wp2_with fail
            go_quiet (fail)
            go_wp2_with (at_builtin; refine app_ents rfl (.tmp 38) (.tmp 43) rfl W0.heap.size _ ps rfl (HFQ.out _) y 1 rfl hn4 hs ?_; intro v3 w3 hF3 hb3; have HF3 := Lib.hid hF3; have HB3 := Lib.hid hb3; obtain ⟨P3, c3, hv3, _, _⟩ := ents_at hF3; clear hF3 hb3; generalize (ps ++ [y]).length = n3 at hv3; subst hv3)
            go_roundw
            case rel => exact ⟨k + 1, false, _, by omega, by go_num, rfl, HPUT.out, HLN.out, HF3.out, (HB.out.trans (drawn _ _ _)).trans HB3.out⟩
            case measure => simp [intOf]; omega
        · have q0 := (less_txt x.name y.name).trans hL
          have he : ¬ y.name = x.name := fun e => less_ne hL e.symm
          have q1 : ((txt y.name).toList == (txt x.name).toList) = false := by rw [beq_eq_false_iff_ne, txt_list, txt_list]; exact he
          have HPUT := Lib.hid (show put l x = ((ps ++ [x]) ++ [y]) ++ putGo x true (l.drop (k + 1)) by rw [hput, hL]; simp [he])
          have HLN := Lib.hid (show ((ps ++ [x]) ++ [y]).length ≤ 2 * (k + 1) by rw [List.length_append, List.length_append, List.length_singleton, List.length_singleton]; omega)
          have hn5 : (ps ++ [x]).length ≤ 4000000 := by rw [List.length_append, List.length_singleton]; omega
          clear hput he hL
          clear hvo
          go_wp2_with fail
          go_quiet (fail)
          go_wp2_with (at_builtin; refine app_ents rfl (.tmp 26) (.tmp 28) rfl W0.heap.size _ ps rfl (HFQ.out _) x 1 rfl hn4 hs ?_; intro v3 w3 hF3 hb3; have hbw := (HB.out.trans (drawn _ _ _)).trans hb3; obtain ⟨b0', b1'⟩ := HX.out _ hbw; obtain ⟨c0', c1'⟩ := HC.out _ hbw; have HBW := Lib.hid hbw; have HF3 := Lib.hid hF3; have HFQ3 := Lib.hid (fun q => show EntsR (w3.drewN q) _ _ _ from rows_below hF3 (drawn w3.heap.size w3 q)); have hs3 := hbw.size; obtain ⟨P3, c3, hv3, _, _⟩ := ents_at hF3; clear hF3 hb3 hbw b0 b1 c0 c1; generalize hn3 : (ps ++ [x]).length = n3 at hv3; clear hn3; subst hv3)
          go_quiet (fail)
          go_wp2_with (at_builtin; refine app_ents rfl (.tmp 38) (.tmp 43) rfl W0.heap.size _ (ps ++ [x]) rfl (HFQ3.out _) y 1 rfl hn5 hs3 ?_; intro v4 w4 hF4 hb4; have HF4 := Lib.hid hF4; have HB4 := Lib.hid hb4; obtain ⟨P4, c4, hv4, _, _⟩ := ents_at hF4; clear hF4 hb4; generalize ((ps ++ [x]) ++ [y]).length = n4 at hv4; subst hv4)
          go_roundw
          case rel => exact ⟨k + 1, true, _, by omega, by go_num, rfl, HPUT.out, HLN.out, HF4.out, (HBW.out.trans (drawn _ _ _)).trans HB4.out⟩
          case measure => simp [intOf]; omega
      · by_cases he : y.name = x.name
        · have q1 : ((txt y.name).toList == (txt x.name).toList) = true := by rw [he]; simp
          have HPUT := Lib.hid (show put l x = ps ++ putGo x true (l.drop (k + 1)) by rw [hput, he]; simp)
          clear hput he
          generalize ps.length = np at hvo
          subst hvo
          go_wp2_with fail
          go_quiet (fail)
          go_wp2_with fail
          go_quiet (fail)
          go_wp2
          go_roundw
          case rel => exact ⟨k + 1, true, ps, by omega, by go_num, rfl, HPUT.out, by have := HPL.out; omega, rows_below HF.out (drawn _ _ _), HB.out.trans (drawn _ _ _)⟩
          case measure => simp [intOf]; omega
        · have q1 : ((txt y.name).toList == (txt x.name).toList) = false := by rw [beq_eq_false_iff_ne, txt_list, txt_list]; exact he
          have HPUT := Lib.hid (show put l x = (ps ++ [y]) ++ putGo x true (l.drop (k + 1)) by rw [hput]; simp [he])
          have HLN := Lib.hid (show (ps ++ [y]).length ≤ 2 * (k + 1) by rw [List.length_append, List.length_singleton]; omega)
          clear hput he
          clear hvo
          go_wp2_with fail
          go_quiet (fail)
          go_wp2_with fail
          go_quiet (fail)
          go_wp2_with (at_builtin; refine app_ents rfl (.tmp 38) (.tmp 43) rfl W0.heap.size _ ps rfl (HFQ.out _) y 1 rfl hn4 hs ?_; intro v3 w3 hF3 hb3; have HF3 := Lib.hid hF3; have HB3 := Lib.hid hb3; obtain ⟨P3, c3, hv3, _, _⟩ := ents_at hF3; clear hF3 hb3; generalize (ps ++ [y]).length = n3 at hv3; subst hv3)
          go_roundw
          case rel => exact ⟨k + 1, true, _, by omega, by go_num, rfl, HPUT.out, HLN.out, HF3.out, (HB.out.trans (drawn _ _ _)).trans HB3.out⟩
          case measure => simp [intOf]; omega
    · obtain rfl : k = l.length := by omega
      rw [List.drop_length] at hput
      have hn4 : ps.length ≤ 4000000 := by omega
      have HBT := Lib.hid (show ∀ w', Below W0.heap.size wr w' → Below w.heap.size w w' from fun w' h => below_then HB0.out (hb.trans h))
      have HWS := Lib.hid HB0.out.size
      clear hb hF
      cases dn
      · have HPUT := Lib.hid (show put l x = ps ++ [x] from hput)
        clear hput hvo
        go_wp2_with (at_builtin; refine app_ents rfl (.tmp 47) (.tmp 49) rfl W0.heap.size _ ps rfl HF.out x 1 rfl hn4 hs ?_; intro v3 w3 hF3 hb3; have HF3 := Lib.hid hF3; have HB3 := Lib.hid hb3; obtain ⟨P3, c3, hv3, _, _⟩ := ents_at hF3; clear hF3 hb3; generalize (ps ++ [x]).length = n3 at hv3; subst hv3)
        go_ret
        exact ⟨_, rfl, by rw [HPUT.out]; exact rows_lower HF3.out HWS.out, HBT.out _ HB3.out⟩
      · have HPUT := Lib.hid (show put l x = ps by rw [hput]; simp [putGo])
        clear hput
        generalize ps.length = np at hvo
        subst hvo
        go_wp2_with fail
        go_ret
        exact ⟨_, rfl, by rw [HPUT.out]; exact rows_lower HF.out HWS.out, HBT.out _ (Below.refl _ _)⟩
end Go.Proofs.Ytiepepikbophmaa
