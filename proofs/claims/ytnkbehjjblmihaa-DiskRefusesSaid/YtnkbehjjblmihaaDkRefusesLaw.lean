/- The law DiskRefuses: its walk. -/
import Derived.Test.YtnkbehjjblmihaaDkSame
import Derived.Test.YtnkbehjjblmihaaFrRows
import Derived.Deep.QuietTactic
import Derived.BigQuiet
namespace Go.Proofs.Ytnkbehjjblmihaa
open Go.RowKit Go.Maps
set_option linter.unusedVariables false

theorem read_few {d : Dsk} (h : Fine d) (name : List UInt8) : (readD d name).1.length ≤ 4194304 := by
  have hr := h.room.2
  unfold readD
  split
  · simp
  · split
    · simp
    · rename_i n _
      split
      · simp
      · have := h.small n
        show (d.files.getD n fil0).b.length ≤ _
        omega
theorem fresh_rows {w w2 : World} {base : Nat} {v : Value} {vs : List Value} {xs : List (List UInt8)} {a : Value} {l : List UInt8} (hF : Fs w base v vs xs) (hx : Own w2 w.heap.size a l) :
    ∀ k, a.ownBlock = some k → ∀ i, i < xs.length → (vs.getD i undef).ownBlock ≠ some k := by
  intro k hk i hi e
  have h1 := (World.ownsRow.lt hx _ hk).1
  have h2 := (World.ownsRow.lt (hF.each i hi) _ e).2
  omega
theorem texts_below {w w' : World} {base : Nat} {v : Value} {ns : List (List UInt8)} (h : Texts w base v ns) (hb : Below w.heap.size w w') : Texts w' base v ns := rows_move h fun k hk => hb.block k (World.ownsRow.lt h k hk).2
theorem conv_drawn {w : World} {A : Option Addr} {l : List UInt8} (c : Nat) (h : Bys w A l) : (∀ n, (convert 35 9 (.slice A l.length c)).run Try.prog (w.drewN n) = .ok (.string (txt l)) (w.drewN n)) ∧ (convert 35 9 (.slice A l.length c)).run Try.prog w.drew = .ok (.string (txt l)) w.drew := by
  have c1 : ∀ n, (convert 35 9 (.slice A l.length c)).run Try.prog (w.drewN n) = .ok (.string (txt l)) (w.drewN n) := fun n => conv_bys (w.drewN n) A l c h
  exact ⟨c1, c1 1⟩
theorem agg_at {w w' : World} {a : ActV} (hb : Below (w.alloc (.cells (actC a).toArray 40)).heap.size (w.alloc (.cells (actC a).toArray 40)) w') :
    w'.cell? ⟨w.heap.size, 0, none⟩ = some (.int .i64 a.kind) ∧ w'.cell? ⟨w.heap.size, 1, none⟩ = some (.string a.name) ∧ w'.cell? ⟨w.heap.size, 2, none⟩ = some (.string a.to) ∧ w'.cell? ⟨w.heap.size, 3, none⟩ = some (.slice a.A a.b.length a.bc) ∧ w'.cell? ⟨w.heap.size, 4, none⟩ = some (.int .i64 a.n) ∧ w'.cell? ⟨w.heap.size, 5, none⟩ = some (.slice a.V a.ks.length a.kc) := by
  have hr := Row.new w 40 (actC a).toArray
  exact cells_agg (row_move hr (hb.block _ hr.lt))
theorem fs_kept {S : Nat → Prop} {w w' : World} {base : Nat} {v : Value} {vs : List Value} {xs : List (List UInt8)} (h : Fs w base v vs xs) (hK : Kept S w w') (hS : ∀ k, S k → k < base) : Fs w' base v vs xs := by
  have hne : ∀ k, base ≤ k → ¬ S k := fun k h1 h2 => Nat.not_lt.2 h1 (hS k h2)
  exact ⟨rows_kept h.row hK fun k hk => hne k (World.ownsRow.lt h.row k hk).1, h.len, fun i hi => rows_kept (h.each i hi) hK fun k hk => hne k (World.ownsRow.lt (h.each i hi) k hk).1, h.apart⟩
theorem ownV_at {w : World} {base : Nat} {v : Value} {vs : List Value} (h : OwnV w base v vs) : ∃ P c, v = .slice P vs.length c ∧ ∀ i, i < vs.length → ∃ g, P = some ⟨g, 0, none⟩ ∧ base ≤ g ∧ g < w.heap.size ∧ w.cell? ⟨g, i, none⟩ = some (vs.getD i undef) := by
  obtain ⟨P, c, rfl, _⟩ := ownV_slice h
  refine ⟨P, c, rfl, fun i hi => ?_⟩
  obtain ⟨g, cap, hv, h1, h2, _, h4⟩ := ownV_form h (by omega)
  injection hv with hv _ _
  exact ⟨g, hv, h1, h2, h4 i hi⟩
theorem acts_below {W w : World} {V : Option Addr} {l : List ActV} (h : Acts W V l) (hb : Below W.heap.size W w) : Acts w V l := by
  rcases h with h0 | ⟨b, o, hV, hlt, hc⟩
  · exact .inl h0
  · exact .inr ⟨b, o, hV, Nat.lt_of_lt_of_le hlt hb.size, fun i hi => ⟨(hc i hi).1.below hb, fun j v hj => (hb.cell (p := ⟨b, o + i * 6 + j, none⟩) hlt).trans ((hc i hi).2 j v hj)⟩⟩
theorem list_named {d : Dsk} (h : Fine d) : (listD d).length ≤ 64 ∧ ∀ n ∈ listD d, (txt n).size ≤ 281474976710656 := by
  unfold listD
  split
  · exact ⟨by simp, fun n hn => by simp at hn⟩
  · refine ⟨by rw [List.length_map]; exact h.live_few, fun n hn => ?_⟩
    obtain ⟨x, hx, rfl⟩ := List.mem_map.1 hn
    have := named_len (h.live_in x hx).2
    rw [txt_len]
    omega
/-- What comes of a change that is asked for. -/
theorem act_done {d : Dsk} {a : ActV} (hk : 1 ≤ a.kind ∧ a.kind ≤ 6) (h : actE d a = 0) : (actD d a).count = d.count + 1 := by
  unfold actE at h
  rw [if_pos hk] at h
  unfold actD
  rw [if_pos hk]
  exact (done_one h).2.2.2.1
theorem act_refused {d : Dsk} {a : ActV} (hk : 1 ≤ a.kind ∧ a.kind ≤ 6) (h : actE d a ≠ 0) : (actE d a = 6 ∧ actD d a = { d with dark := true }) ∨ (actE d a ≠ 6 ∧ actD d a = d) := by
  unfold actE at h ⊢
  rw [if_pos hk] at h ⊢
  unfold actD
  rw [if_pos hk]
  exact refused h

set_option maxRecDepth 40000 in
set_option maxHeartbeats 1000000 in
theorem diskRefuses_walk (w : World) (room : Int) (hroom : -9223372036854775808 ≤ room ∧ room ≤ 9223372036854775807) (V1 : Option Addr) (l : List ActV) (c1 : Nat) (hV1 : Acts w V1 l) (hl : l.length ≤ 140737488351232) (hlc : l.length ≤ c1)
    (a : ActV) (ha : ActOk w a) :
    Calls Try.prog 8 #[.int .i64 room, .slice V1 l.length c1, .agg (actC a).toArray] w fun e w' => e = .returned (.bool true) ∧ Below w.heap.size w w' := by
  have hB0 := below_one w (.cells (actC a).toArray 40)
  have HAG := Lib.hid (fun w' h => agg_at (w := w) (w' := w') (a := a) h)
  by_cases hr : room < 1 ∨ 4194304 < room
  · have HN := Lib.hid (begun_no room hr V1 l c1 (w.alloc (.cells (actC a).toArray 40)) hl)
    have HB0 := Lib.hid hB0
    clear hr hV1 ha hB0 HAG
    obtain ⟨kind, name, to, A, b, bc, n, V2, ks, kc⟩ := a
    simp only [actC] at *
    go_enter Try.func8, Try.ntmps8
    go_wp2_with fail
    refine HN.out.mono ?_
    rintro e w1 ⟨rfl, hb⟩
    have HB := Lib.hid hb
    have HL := Lib.hid (lives_true w1)
    clear hb
    go_wp2_with fail
    refine HL.out.mono ?_
    rintro e w2 ⟨rfl, hb2⟩
    have HB2 := Lib.hid hb2
    clear hb2
    go_wp2
    go_ret
    exact ⟨rfl, below_then HB0.out (below_then HB.out HB2.out)⟩
  · obtain ⟨rm, rfl⟩ : ∃ rm : Nat, room = (rm : Int) := ⟨room.toNat, by omega⟩
    have hN := begun_ok rm (by omega) V1 l c1 (w.alloc (.cells (actC a).toArray 40)) (acts_below hV1 hB0) hl hlc
    have HN := Lib.hid hN
    have HA0 := Lib.hid (ha.below hB0)
    have HB0 := Lib.hid hB0
    have HK := Lib.hid (show a.kind = a.kind from rfl)
    clear hr hV1 hroom ha hB0 hN
    by_cases hkd : 1 ≤ a.kind ∧ a.kind ≤ 6
    · have HKD := Lib.hid hkd
      have q1 : decide (a.kind < (1 : Int)) = false := decide_eq_false (by omega)
      have q2 : decide ((6 : Int) < a.kind) = false := decide_eq_false (by omega)
      have HDN := Lib.hid (fun (d : Dsk) h => act_done (d := d) hkd h)
      have HRF := Lib.hid (fun (d : Dsk) h => act_refused (d := d) hkd h)
      clear hkd
      obtain ⟨kind, name, to, A, b, bc, n, V2, ks, kc⟩ := a
      simp only [actC] at *
      go_enter Try.func8, Try.ntmps8
      go_wp2_with fail
      refine HN.out.mono ?_
      rintro e w1 ⟨X, d, rfl, hD, hO, hb⟩
      obtain ⟨e0, e1, e2, e3, e4, e5⟩ := HAG.out _ hb
      try simp only at e0 q1 q2
      obtain ⟨S, hS⟩ : ∃ S, DiskOf (w.alloc (.cells #[.int .i64 kind, .string name, .string to, .slice A b.length bc, .int .i64 n, .slice V2 ks.length kc] 40)).heap.size S w1 X d := ⟨_, diskOf_mk hD⟩
      have HB1 := Lib.hid hb
      have HO := Lib.hid hO
      have HDS := Lib.hid hS
      have HLI := Lib.hid (list_prog hS.at_ hO.fine)
      obtain ⟨hfew, hnam⟩ := list_named hO.fine
      have HNAM := Lib.hid hnam
      have HA1 := Lib.hid (HA0.out.below hb)
      have HAG1 := Lib.hid (fun w' (h : Below w1.heap.size w1 w') => HAG.out w' (below_then hb h))
      clear hD hO hb hS hnam e1 e2 e3 e4 e5
      go_wp2_with fail
      refine HLI.out.mono ?_
      rintro e w2 ⟨v, rfl, ht, hb2⟩
      have HT := Lib.hid ht
      obtain ⟨P, c, hv, hP⟩ := texts_at ht
      have HP := Lib.hid hP
      have HFAR := Lib.hid (far_new HDS.out ht)
      subst hv
      have HB2 := Lib.hid hb2
      have HDS2 := Lib.hid (HDS.out.below hb2)
      have HDO := Lib.hid (done_prog HDS2.out.at_)
      clear ht hP hb2
      generalize hns : listD d = ns at *
      have HNS := Lib.hid hns
      clear hns
      go_wp2_with fail
      refine HDO.out.mono ?_
      rintro e w3 ⟨rfl, rfl⟩
      go_wp2_with fail
      go_loopw [10, 11] (fun v i wr => ∃ (k : Nat) (vs : List Value), k ≤ ns.length ∧ i = .int .i64 (k : Int) ∧ Fs wr w2.heap.size v vs ((ns.take k).map fun n => (readD d n).1) ∧ Below w2.heap.size w2 wr) (fun _ i _ => ns.length - (intOf i).toNat)
      case atStart => exact ⟨0, [], Nat.zero_le _, rfl, Fs.none_ _ _, Below.refl _ _⟩
      case round =>
        obtain ⟨k, vs, hk, rfl, hF, hb⟩ := hrel
        have HF := Lib.hid hF
        have HB3 := Lib.hid hb
        have hDr := HDS2.out.below hb
        have HDR := Lib.hid hDr
        by_cases hlt : k < ns.length
        · obtain ⟨g, rfl, _, hgl, hc⟩ := HP.out k hlt
          have hc' : wr.cell? ⟨g, k, none⟩ = some (.string (txt (ns.getD k []))) := (hb.cell (p := ⟨g, k, none⟩) hgl).trans hc
          have hmem : ns.getD k [] ∈ ns := by
            rw [List.getD_eq_getElem?_getD, List.getElem?_eq_getElem hlt]
            exact List.getElem_mem hlt
          have HRD := Lib.hid (read_prog hDr.at_ HO.out.fine (txt (ns.getD k [])) (HNAM.out _ hmem))
          have hsm := read_few HO.out.fine (ns.getD k [])
          rw [strL_txt] at HRD
          have HTK := Lib.hid (show (ns.take (k + 1)).map (fun n => (readD d n).1) = (ns.take k).map (fun n => (readD d n).1) ++ [(readD d (ns.getD k [])).1] by
            rw [List.take_succ_eq_append_getElem hlt, List.map_append]
            simp [List.getD, List.getElem?_eq_getElem hlt])
          generalize readD d (ns.getD k []) = r at *
          generalize ns.getD k [] = nm at *
          obtain ⟨x, er⟩ := r
          try simp only at HRD HTK hsm
          have i1 : (k : Int) < (ns.length : Int) := by omega
          have hs := hb.size
          have hvl : ((ns.take k).map fun n => (readD d n).1).length = k := by simp; omega
          clear hc hmem hF hDr hb
          go_wp2_with fail
          refine HRD.out.mono ?_
          rintro e w4 ⟨v2, rfl, hown2, hb2⟩
          obtain ⟨B2, d2, rfl, _⟩ := own_slice' hown2
          have HO2 := Lib.hid hown2
          have hF2 := HF.out.below hb2
          have hfr := fresh_rows HF.out hown2
          have hs2 := hb2.size
          have HB4 := Lib.hid (HB3.out.trans (hb2.mono hs))
          have hn4 : ((ns.take k).map fun n => (readD d n).1).length ≤ 4000000 := by rw [hvl]; omega
          generalize ((ns.take k).map fun n => (readD d n).1) = ps at *
          clear hown2 hb2
          go_wp2_with (at_builtin; refine app_fs rfl (.tmp 54) (.tmp 56) rfl w2.heap.size _ vs ps rfl hF2 B2 x d2 1 (own_lower HO2.out hs) rfl hfr hn4 (Nat.le_trans hs hs2) ?_; intro v3 w5 hF3 hb3; obtain ⟨Bv, dv, hv, _⟩ := ownV_slice hF3.row; have HF3 := Lib.hid hF3; clear hF3; generalize (vs ++ [Value.slice B2 x.length d2]).length = nv at hv; subst hv)
          go_roundw
          case rel => exact ⟨k + 1, _, by omega, by go_num, by rw [HTK.out]; exact HF3.out, HB4.out.trans hb3⟩
          case measure => simp [intOf]; omega
        · obtain rfl : k = ns.length := by omega
          rw [List.take_length] at HF
          have hb1r : Below w1.heap.size w1 wr := HB2.out.trans (HB3.out.mono HB2.out.size)
          obtain ⟨e0, e1, e2, e3, e4, e5⟩ := HAG1.out wr hb1r
          try simp only at e0 e1 e2 e3 e4 e5
          have HACT := Lib.hid (HA1.out.below hb1r)
          have HDOA := Lib.hid (do_prog hDr.at_ HO.out (by decide) _ HACT.out (hDr.acts_far HA0.out rfl))
          have HBR := Lib.hid (show Below w.heap.size w wr from below_then HB0.out (below_then HB1.out hb1r))
          have HTR := Lib.hid (show Texts wr w1.heap.size (.slice P ns.length c) ns from texts_below HT.out HB3.out)
          simp only [actC] at HDOA
          clear hF hDr hlt hk hb hb1r
          go_wp2_with fail
          refine HDOA.out.mono ?_
          rintro e w5 ⟨v5, rfl, ho5, ha5⟩
          obtain ⟨B5, d5, rfl, _⟩ := own_slice' ho5
          obtain ⟨hD5, hb5⟩ := HDR.out.after ha5 (Nat.le_trans HB1.out.size (HB2.out.trans (HB3.out.mono HB2.out.size)).size)
          have HD5 := Lib.hid hD5
          have HB5 := Lib.hid (show Below w.heap.size w w5 from HBR.out.trans (hb5.mono (by have := HB0.out.size; omega)))
          have HT5 := Lib.hid (show Texts w5 w1.heap.size (.slice P ns.length c) ns from rows_kept HTR.out ha5.2 HFAR.out)
          have HF5 := Lib.hid (fs_kept HF.out ha5.2 fun k hk => Nat.lt_of_lt_of_le (HDS.out.own k hk).2 HB2.out.size)
          have HDN5 := Lib.hid (done_prog hD5.at_)
          have HNO := Lib.hid (HRF.out d)
          have HYES := Lib.hid (HDN.out d)
          have HOK := Lib.hid HO.out.fine
          clear ho5 ha5 hD5 hb5 HRF HDN HDOA HACT HTR HF
          generalize actE d ⟨kind, name, to, A, b, bc, n, V2, ks, kc⟩ = ee at *
          generalize actB d ⟨kind, name, to, A, b, bc, n, V2, ks, kc⟩ = eb at *
          generalize actD d ⟨kind, name, to, A, b, bc, n, V2, ks, kc⟩ = d' at *
          generalize eb.length = nb at *
          have hcnt := HO.out.count
          by_cases he : ee = 0
          · subst he
            have hc := HYES.out rfl
            have HL5 := Lib.hid (lives_true w5)
            have q9 : ((d'.count : Int) == (d.count : Int) + 1) = true := by rw [hc]; simp
            clear hc
            go_wp2_with fail
            refine HDN5.out.mono ?_
            rintro e w6 ⟨rfl, rfl⟩
            go_wp2_with fail
            refine HL5.out.mono ?_
            rintro e w7 ⟨rfl, hb7⟩
            have HB7 := Lib.hid (below_then HB5.out (by exact hb7)) 
            clear hb7
            go_wp2
            go_ret
            exact ⟨rfl, HB7.out⟩
          · have q3 : (ee == 0) = false := by rw [beq_eq_false_iff_ne]; exact he
            rcases HNO.out he with ⟨h6, hd'⟩ | ⟨h6, hd'⟩
            · have hc : d'.count = d.count := by rw [hd']
              have HL5 := list_prog HD5.out.at_ (hd' ▸ fine_dark HOK.out)
              rw [dark_list (by rw [hd'])] at HL5
              have HL5' := Lib.hid HL5
              rw [hc] at HDN5
              clear hd' he hc HNO HYES HL5
              subst h6
              go_wp2_with fail
              refine HDN5.out.mono ?_
              rintro e w6 ⟨rfl, rfl⟩
              go_wp2_with fail
              refine HL5'.out.mono ?_
              rintro e w6 ⟨v6, rfl, ho6, hb6⟩
              obtain ⟨Bv, cv, hv, _⟩ := texts_at ho6
              simp only [List.length_nil] at hv
              subst hv
              have HB6 := Lib.hid (below_then HB5.out hb6)
              have HL6 := Lib.hid (lives_true w6)
              clear ho6 hb6
              go_wp2_with fail
              refine HL6.out.mono ?_
              rintro e w7 ⟨rfl, hb7⟩
              have HB7 := Lib.hid (below_then HB6.out hb7)
              clear hb7
              go_wp2
              go_ret
              exact ⟨rfl, HB7.out⟩
            · have q4 : (ee == 6) = false := by rw [beq_eq_false_iff_ne]; exact h6
              have HL5 := list_prog HD5.out.at_ (hd' ▸ HOK.out)
              subst hd'
              rw [HNS.out] at HL5
              have HL5' := Lib.hid HL5
              clear he h6 HNO HYES HL5
              go_wp2_with fail
              refine HDN5.out.mono ?_
              rintro e w6 ⟨rfl, rfl⟩
              go_wp2_with fail
              refine HL5'.out.mono ?_
              rintro e w6 ⟨v6, rfl, ho6, hb6⟩
              have HSA := Lib.hid (same_prog ho6 (texts_below HT5.out hb6) (by omega) (by omega))
              obtain ⟨Bv, cv, hv, _⟩ := texts_at ho6
              subst hv
              have HB6 := Lib.hid (show Below w5.heap.size w5 w6 from hb6)
              clear ho6 hb6
              go_wp2_with fail
              refine HSA.out.mono ?_
              rintro e w7 ⟨rfl, hb7⟩
              have hdc : decide (ns = ns) = true := decide_eq_true rfl
              have HB7 := Lib.hid (below_then HB6.out hb7)
              have HP7 := Lib.hid (show ∀ i, i < ns.length → ∃ g, P = some ⟨g, 0, none⟩ ∧ g < w7.heap.size ∧ w7.cell? ⟨g, i, none⟩ = some (.string (txt (ns.getD i []))) from fun i hi => by
                obtain ⟨g, h1, _, h3, h4⟩ := HP.out i hi
                have hbb := HB2.out
                obtain ⟨P', c', hv', hc'⟩ := texts_at (texts_below HT5.out HB7.out)
                injection hv' with hv' _ _
                obtain ⟨g', k1, _, k3, k4⟩ := hc' i hi
                exact ⟨g', hv'.trans k1, k3, k4⟩)
              have HF7 := HF5.out.below HB7.out
              have hvl : vs.length = ns.length := by rw [HF7.len]; simp
              obtain ⟨PF, cF, hv, hPF⟩ := ownV_at HF7.row
              rw [hvl] at hv hPF
              subst hv
              have HPF := Lib.hid hPF
              have HFE := Lib.hid (show ∀ i, i < ns.length → Own w7 w2.heap.size (vs.getD i undef) (readD d' (ns.getD i [])).1 from fun i hi => by
                have := HF7.each i (by simpa using hi)
                have e : (ns.map fun n => (readD d' n).1).getD i [] = (readD d' (ns.getD i [])).1 := by
                  simp [List.getD, List.getElem?_eq_getElem hi]
                rwa [e] at this)
              have HD7 := Lib.hid (HD5.out.below HB7.out)
              have HVL := Lib.hid hvl
              clear hb7 HF7 hPF hvl HF5 HT5
              go_wp2_with fail
              go_loopw [16] (fun i wr => ∃ k : Nat, k ≤ ns.length ∧ i = .int .i64 (k : Int) ∧ Below w7.heap.size w7 wr) (fun i _ => ns.length - (intOf i).toNat)
              case atStart => exact ⟨0, Nat.zero_le _, rfl, Below.refl _ _⟩
              case round =>
                obtain ⟨k, hk, rfl, hb⟩ := hrel
                have HBK := Lib.hid hb
                by_cases hlt : k < ns.length
                · obtain ⟨g, rfl, hgl, hc⟩ := HP7.out k hlt
                  obtain ⟨gf, rfl, _, hgf, hcf⟩ := HPF.out k hlt
                  have hc' : wr.cell? ⟨g, k, none⟩ = some (.string (txt (ns.getD k []))) := (hb.cell (p := ⟨g, k, none⟩) hgl).trans hc
                  have HCF := Lib.hid hcf
                  have hmem : ns.getD k [] ∈ ns := by
                    rw [List.getD_eq_getElem?_getD, List.getElem?_eq_getElem hlt]
                    exact List.getElem_mem hlt
                  have HRD := Lib.hid (read_prog (HD7.out.below hb).at_ HOK.out (txt (ns.getD k [])) (HNAM.out _ hmem))
                  rw [strL_txt] at HRD
                  have HFK := Lib.hid (HFE.out k hlt)
                  have i1 : (k : Int) < (ns.length : Int) := by omega
                  have HGF := Lib.hid hgf
                  clear hc hmem hb hcf hgl hgf
                  generalize readD d' (ns.getD k []) = r at *
                  generalize ns.getD k [] = nm at *
                  obtain ⟨x, er⟩ := r
                  try simp only at HRD HFK
                  go_wp2_with fail
                  refine HRD.out.mono ?_
                  rintro e w8 ⟨v8, rfl, ho8, hb8⟩
                  have HB8 := Lib.hid (HBK.out.trans (hb8.mono HBK.out.size))
                  have ho9 := own_below HFK.out HB8.out
                  obtain ⟨B8, c8, rfl, hy8, _⟩ := own_slice' ho8
                  obtain ⟨B9, c9, hv9, hy9, _⟩ := own_slice' ho9
                  have hcf' : w8.cell? ⟨gf, k, none⟩ = some (vs.getD k undef) := (HB8.out.cell (p := ⟨gf, k, none⟩) HGF.out).trans HCF.out
                  rw [hv9] at hcf'
                  obtain ⟨c1, d1⟩ := conv_drawn c8 hy8
                  obtain ⟨c2, d2⟩ := conv_drawn c9 hy9
                  clear ho8 hb8 ho9 hv9 hy8 hy9
                  have q7 : ((txt x).toList == (txt x).toList) = true := by simp
                  generalize hxl : x.length = xl at *
                  clear hxl
                  go_wp2_with fail
                  go_quiet (fail)
                  go_wp2
                  go_roundw
                  case rel => exact ⟨k + 1, by omega, by go_num, HB8.out.trans (drawn _ _ _)⟩
                  case measure => simp [intOf]; omega
                · have HL9 := Lib.hid (lives_true wr)
                  have HB9 := Lib.hid (below_then HB5.out (HB7.out.trans (hb.mono HB7.out.size)))
                  obtain rfl : k = ns.length := by omega
                  clear hb hlt hk
                  go_wp2_with fail
                  refine HL9.out.mono ?_
                  rintro e w9 ⟨rfl, hb9⟩
                  have HB10 := Lib.hid (below_then HB9.out hb9)
                  clear hb9
                  go_wp2
                  go_ret
                  exact ⟨rfl, HB10.out⟩
    · have hkd' := Lib.hid hkd
      clear hkd
      obtain ⟨kind, name, to, A, b, bc, n, V2, ks, kc⟩ := a
      simp only [actC] at *
      go_enter Try.func8, Try.ntmps8
      go_wp2_with fail
      refine HN.out.mono ?_
      rintro e w1 ⟨X, d, rfl, hD, hO, hb⟩
      obtain ⟨e0, e1, e2, e3, e4, e5⟩ := HAG.out _ hb
      have HB := Lib.hid hb
      have HL := Lib.hid (lives_true w1)
      clear hb hD hO e1 e2 e3 e4 e5
      by_cases h1 : kind < 1
      · have q1 : decide (kind < (1 : Int)) = true := decide_eq_true h1
        clear h1
        go_wp2_with fail
        refine HL.out.mono ?_
        rintro e w2 ⟨rfl, hb2⟩
        have HB2 := Lib.hid hb2
        clear hb2
        go_wp2
        go_ret
        exact ⟨rfl, below_then HB0.out (below_then HB.out HB2.out)⟩
      · have q1 : decide (kind < (1 : Int)) = false := decide_eq_false h1
        have q2 : decide ((6 : Int) < kind) = true := decide_eq_true (by have := hkd'.out; omega)
        clear h1
        go_wp2_with fail
        refine HL.out.mono ?_
        rintro e w2 ⟨rfl, hb2⟩
        have HB2 := Lib.hid hb2
        clear hb2
        go_wp2
        go_ret
        exact ⟨rfl, below_then HB0.out (below_then HB.out HB2.out)⟩
end Go.Proofs.Ytnkbehjjblmihaa
