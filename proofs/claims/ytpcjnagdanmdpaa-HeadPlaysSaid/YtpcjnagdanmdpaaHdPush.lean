/- A head's push: one sample laid behind a series'. -/
import Derived.Test.YtpcjnagdanmdpaaHdBegin
import Derived.Test.YtpcjnagdanmdpaaWaRows
namespace Go.Proofs.Ytpcjnagdanmdpaa
open Go.RowKit Go.Maps
open Ch
set_option linter.unusedVariables false
set_option linter.unusedSimpArgs false
set_option maxRecDepth 100000
section
variable {S : Nat → Prop} {w w' w1 w2 : World} {X : Nat} {p : Plc} {h h' : List Ser} {c c' : Int}
def rowV (x : Wrow) : Value := .agg #[.int .i64 x.1, .int .i64 x.2.1, .int .i64 x.2.2]
theorem row_far {w : World} {g b : Nat} {t t' : TypeId} {cs cs' : Array Value} (h : Row w g t cs) (h' : Row w b t' cs') (ht : t ≠ t') : g ≠ b := (ty_row h).ne (ty_row h') ht
theorem push_none (hi : HeadIn w X p h c) (x : Wrow) (h0 : x.1 < 0 ∨ (h.length : Int) ≤ x.1) :
    Calls Try.prog 52 #[.pointer (some ⟨X, 0, none⟩), rowV x] w fun e w' => e = .returned (.int .i64 9) ∧ Below w.heap.size w w' := by
  have hb := below_one w (.cells #[.int .i64 x.1, .int .i64 x.2.1, .int .i64 x.2.2] 65)
  have hr := Row.new w 65 #[.int .i64 x.1, .int .i64 x.2.1, .int .i64 x.2.2]
  have b0 := hr.cell 0
  have HA := Lib.hid (hdat_no (hi.below hb) x.1 h0)
  have HB := Lib.hid hb
  unfold rowV
  obtain ⟨id, t, v⟩ := x
  simp only at *
  clear hi hb hr h0
  go_enter Try.func52, Try.ntmps52
  go_wp2_with (go_at_call 40; refine HA.out.mono ?_; rintro e w2 ⟨rfl, rfl⟩)
  go_ret
  exact ⟨rfl, HB.out⟩
theorem push_big (hi : HeadIn w X p h c) (x : Wrow) (i : Nat) (hx : x.1 = (i : Int)) (hl : i < h.length) (hc : 65536 ≤ c) :
    Calls Try.prog 52 #[.pointer (some ⟨X, 0, none⟩), rowV x] w fun e w' => e = .returned (.int .i64 3) ∧ Below w.heap.size w w' := by
  have hb := below_one w (.cells #[.int .i64 x.1, .int .i64 x.2.1, .int .i64 x.2.2] 65)
  have hr := Row.new w 65 #[.int .i64 x.1, .int .i64 x.2.1, .int .i64 x.2.2]
  have b0 := hr.cell 0
  obtain ⟨P, cc, _, _, _, _, x2, _⟩ := (hi.below hb).cells
  have HA := Lib.hid (hdat_yes (hi.below hb) i hl)
  have HB := Lib.hid hb
  have q := hd_eqnil w X
  have q1 : decide ((65536 : Int) ≤ c) = true := decide_eq_true hc
  unfold rowV
  obtain ⟨id, t, v⟩ := x
  simp only at *
  subst hx
  generalize p.fb i = g at *
  clear hi hb hr hc
  go_enter Try.func52, Try.ntmps52
  go_wp2_with (go_at_call 40; refine HA.out.mono ?_; rintro e w2 ⟨rfl, rfl⟩)
  go_ret
  exact ⟨rfl, HB.out⟩
theorem push_late (hi : HeadIn w X p h c) (hk : HeadOk h) (x : Wrow) (i : Nat) (hx : x.1 = (i : Int)) (hl : i < h.length) (hc : ¬ 65536 ≤ c) (ht : x.2.1 ≤ lastT (h.getD i ser0)) :
    Calls Try.prog 52 #[.pointer (some ⟨X, 0, none⟩), rowV x] w fun e w' => e = .returned (.int .i64 13) ∧ Below w.heap.size w w' := by
  have hb := below_one w (.cells #[.int .i64 x.1, .int .i64 x.2.1, .int .i64 x.2.2] 65)
  have hr := Row.new w 65 #[.int .i64 x.1, .int .i64 x.2.1, .int .i64 x.2.2]
  have b0 := hr.cell 0
  have b1 := hr.cell 1
  obtain ⟨P, cc, _, _, _, _, x2, _⟩ := (hi.below hb).cells
  have HA := Lib.hid (hdat_yes (hi.below hb) i hl)
  have HLS := Lib.hid (slast_prog ((hi.below hb).below ((Below.refl _ _).drew)) hl (by have := (hdlens hk hl).1; omega))
  have HB := Lib.hid hb
  have HR := Lib.hid hr
  have q1 : decide ((65536 : Int) ≤ c) = false := decide_eq_false hc
  have q2 : decide (x.2.1 ≤ lastT (h.getD i ser0)) = true := decide_eq_true ht
  unfold rowV
  obtain ⟨id, t, v⟩ := x
  simp only at *
  subst hx
  generalize lastT (h.getD i ser0) = T at *
  generalize p.fb i = g at *
  have c1 : (w.alloc (.cells #[.int .i64 (i : Int), .int .i64 t, .int .i64 v] 65)).cell? ⟨w.heap.size, 1, none⟩ = some (.int .i64 t) := b1
  clear hi hb hr hc ht b1
  go_enter Try.func52, Try.ntmps52
  go_wp2_with (go_at_call 40; refine HA.out.mono ?_; rintro e w2 ⟨rfl, rfl⟩)
  go_region_held3 (fun w' => w'.cell? ⟨w.heap.size, 1, none⟩ = some (.int .i64 t))
    (first | exact c1 | exact y1 | go_keep)
    (first | (go_at_call 63; refine HLS.out.mono ?_; rintro e w3 ⟨rfl, hb3⟩; have y1 : w3.cell? ⟨w.heap.size, 1, none⟩ = some (.int .i64 t) := (HR.out.drew.below hb3 HR.out.lt).cell 1; have HB3 := Lib.hid (HB.out.drew.trans (hb3.mono HB.out.drew.size)); clear hb3))
  all_goals
    go_wp2_with fail
    go_ret
    exact ⟨rfl, HB3.out⟩
/-- What a further sample makes of a head, and of memory. -/
theorem push_fin {W w5 : World} {t v : Int} {i n : Nat} {g sc sc6 : Nat} {Q Q6 : Option Addr} (hi : HeadIn w X p h c) (hS : ∀ k, Foot X p h.length k → S k) (hb : Below w.heap.size w W) (hl : i < h.length) (hg : p.fb i = g) (hsv : p.sm i = .slice Q (h.getD i ser0).2.length sc)
    (happ : AppS W (p.sm i) (h.getD i ser0).2 (t, v) (.slice Q6 n sc6) w5) :
    HeadIn ((w5.setCell ⟨g, 1, none⟩ (.slice Q6 n sc6)).setCell ⟨X, 2, none⟩ (.int .i64 c')) X (plcSm p i (.slice Q6 n sc6)) (h.set i ((h.getD i ser0).1, (h.getD i ser0).2 ++ [(t, v)])) c' ∧
      (∀ k, Foot X (plcSm p i (.slice Q6 n sc6)) h.length k → S k ∨ w.heap.size ≤ k) ∧ Kept S w ((w5.setCell ⟨g, 1, none⟩ (.slice Q6 n sc6)).setCell ⟨X, 2, none⟩ (.int .i64 c')) := by
  subst hg
  obtain ⟨h2, h3, h4⟩ := happ
  have hiW := hi.below hb
  have hx5 := grown_row hiW.row h3 (fun e => (hiW.ts hl e.symm).ne hiW.tx (by decide) rfl)
  have hs5 := grown_row (hiW.ser i hl) h3 (fun e => (hiW.ts hl e.symm).ne (hiW.tf hl) (by decide) rfl)
  have hne : X ≠ p.fb i := hi.tx.ne (hi.tf hl) (by decide)
  have K : Kept (fun k => k = X ∨ k = p.fb i ∨ (p.sm i).ownBlock = some k) w ((w5.setCell ⟨p.fb i, 1, none⟩ (.slice Q6 n sc6)).setCell ⟨X, 2, none⟩ (.int .i64 c')) :=
    (((Kept.below (S := fun k => k = X ∨ k = p.fb i ∨ (p.sm i).ownBlock = some k) hb).trans (Kept.grown (S := fun k => k = X ∨ k = p.fb i ∨ (p.sm i).ownBlock = some k) h3 (fun k hk => .inr (.inr hk))) fun i hi => .inl hi).set (p := ⟨p.fb i, 1, none⟩) (.inl (.inr (.inl rfl))) _).set (p := ⟨X, 2, none⟩) (.inl (.inl rfl)) _
  have hblk : (Value.slice Q6 n sc6).ownBlock = (p.sm i).ownBlock ∨ ∃ q, (Value.slice Q6 n sc6).ownBlock = some q ∧ w.heap.size ≤ q := h4.imp id fun e => ⟨_, e, hb.size⟩
  refine ⟨hi.with_smp hl K ?_ ?_ ?_ hblk, fun k hk => (foot_smp hl hblk hk).imp (hS k) id, K.mono ?_⟩
  · exact (hx5.setFar (p := ⟨p.fb i, 1, none⟩) hne _).setAt 2 _
  · exact (hs5.setAt 1 _).setFar (p := ⟨X, 2, none⟩) (Ne.symm hne) _
  · have h6 := rows_setFar h2 hs5 (by decide) 1 (.slice Q6 n sc6)
    exact rows_setFar h6 (hx5.setFar (p := ⟨p.fb i, 1, none⟩) hne _) (by decide) 2 _
  · rintro k (e | e | e)
    · exact hS k (.inl e)
    · exact hS k (.inr (.inr (.inr ⟨i, hl, .inl e⟩)))
    · exact hS k (.inr (.inr (.inr ⟨i, hl, .inr (.inr e)⟩)))
set_option maxHeartbeats 1000000 in
theorem push_ok (hi : HeadIn w X p h (cntS h : Int)) (hS : ∀ k, Foot X p h.length k → S k) (hk : HeadOk h) (x : Wrow) (i : Nat) (hx : x.1 = (i : Int)) (hl : i < h.length) (hc : cntS h < 65536) (ht : ¬ x.2.1 ≤ lastT (h.getD i ser0)) :
    Calls Try.prog 52 #[.pointer (some ⟨X, 0, none⟩), rowV x] w fun e w' => e = .returned (.int .i64 0) ∧ After S w X (putH h x) w' := by
  have hb := below_one w (.cells #[.int .i64 x.1, .int .i64 x.2.1, .int .i64 x.2.2] 65)
  have hr := Row.new w 65 #[.int .i64 x.1, .int .i64 x.2.1, .int .i64 x.2.2]
  have b0 := hr.cell 0
  have b1 := hr.cell 1
  obtain ⟨P, cc, _, _, _, _, x2, _⟩ := (hi.below hb).cells
  have HA := Lib.hid (hdat_yes (hi.below hb) i hl)
  have HLS := Lib.hid (slast_prog ((hi.below hb).below ((Below.refl _ _).drew)) hl (by have := (hdlens hk hl).1; omega))
  have HB := Lib.hid hb
  have HR := Lib.hid hr
  have q1 : decide ((65536 : Int) ≤ (cntS h : Int)) = false := decide_eq_false (by omega)
  have q2 : decide (x.2.1 ≤ lastT (h.getD i ser0)) = false := decide_eq_false ht
  have HSL := Lib.hid (hdlens hk hl).1
  have HH := Lib.hid hi
  have HS := Lib.hid hS
  have HL := Lib.hid hl
  have HPUT := Lib.hid (show ∀ (w' : World) (p' : Plc), HeadIn w' X p' (h.set i ((h.getD i ser0).1, (h.getD i ser0).2 ++ [(x.2.1, x.2.2)])) ((cntS h : Int) + 1) → (∀ k, Foot X p' h.length k → S k ∨ w.heap.size ≤ k) → Kept S w w' → After S w X (putH h x) w' from fun w' p' a1 a2 a3 => by
    have e1 : putH h x = h.set i ((h.getD i ser0).1, (h.getD i ser0).2 ++ [(x.2.1, x.2.2)]) := by unfold putH; rw [hx]; rfl
    have e2 := cntS_set (h := h) (i := i) ((h.getD i ser0).1, (h.getD i ser0).2 ++ [(x.2.1, x.2.2)]) hl
    rw [List.length_append] at e2
    have e3 : ((cntS (putH h x) : Nat) : Int) = (cntS h : Int) + 1 := by
      rw [e1]
      have e4 : (h.getD i ([], [])).2.length = (h.getD i ser0).2.length := rfl
      simp only [List.length_singleton] at e2
      omega
    refine ⟨⟨p', by rw [e3, e1]; exact a1, fun k hk => a2 k ?_⟩, a3⟩
    rw [e1, List.length_set] at hk
    exact hk)
  unfold rowV
  obtain ⟨id, t, v⟩ := x
  simp only at *
  subst hx
  generalize lastT (h.getD i ser0) = T at *
  obtain ⟨g, hg⟩ : ∃ g, p.fb i = g := ⟨_, rfl⟩
  rw [hg] at HA HLS
  have HG := Lib.hid hg
  have hw1 : IntKind.i64.wrap ((cntS h : Int) + 1) = (cntS h : Int) + 1 := by
    rw [show (cntS h : Int) + 1 = ((cntS h + 1 : Nat) : Int) by omega]
    exact IntWalk.i64_in _ (by omega)
  generalize hcs : (cntS h : Int) = C at *
  have c1 : (w.alloc (.cells #[.int .i64 (i : Int), .int .i64 t, .int .i64 v] 65)).cell? ⟨w.heap.size, 1, none⟩ = some (.int .i64 t) := b1
  clear hi hS hb hr hc ht b1 hl hg hcs
  go_enter Try.func52, Try.ntmps52
  go_wp2_with (go_at_call 40; refine HA.out.mono ?_; rintro e w2 ⟨rfl, rfl⟩)
  go_region_held3 (fun w' => w'.cell? ⟨w.heap.size, 1, none⟩ = some (.int .i64 t))
    (first | exact c1 | exact y1 | go_keep)
    (first | (go_at_call 63; refine HLS.out.mono ?_; rintro e w3 ⟨rfl, hb3⟩; have HR3 := Lib.hid (HR.out.drew.below hb3 HR.out.lt); have y1 : w3.cell? ⟨w.heap.size, 1, none⟩ = some (.int .i64 t) := HR3.out.cell 1; have HB3 := Lib.hid (HB.out.drew.trans (hb3.mono HB.out.drew.size)); clear hb3))
  all_goals
    clear x2
    have hi3 := HH.out.below HB3.out
    obtain ⟨L, lc, Q, sc, _, hsv, _, _, _, s1, _, _⟩ := hi3.series HL.out
    obtain ⟨_, _, _, _, _, _, x2, _⟩ := hi3.cells
    have HSV := Lib.hid hsv
    have HOS := Lib.hid (hi3.smps i HL.out)
    have HHX := Lib.hid hi3
    rw [HG.out] at s1
    have y2 : w3.cell? ⟨w.heap.size, 2, none⟩ = some (.int .i64 v) := HR3.out.cell 2
    have hb4 := below_one w3 (.cells #[.int .i64 t, .int .i64 v] 63)
    have hgl : g < w3.heap.size := by
      have := (hi3.ser i HL.out).lt
      rwa [HG.out] at this
    have z1 : (w3.alloc (.cells #[.int .i64 t, .int .i64 v] 63)).cell? ⟨g, 1, none⟩ = some (.slice Q (h.getD i ser0).2.length sc) := (hb4.cell hgl).trans s1
    have HO4 := Lib.hid (show OwnS (w3.alloc (.cells #[.int .i64 t, .int .i64 v] 63)) 0 (.slice Q (h.getD i ser0).2.length sc) (h.getD i ser0).2 by rw [← hsv]; exact owns_below (hi3.smps i HL.out) hb4)
    have HR4 := Lib.hid (Row.new w3 63 #[.int .i64 t, .int .i64 v])
    have HB4 := Lib.hid (HB3.out.trans (hb4.mono HB3.out.size))
    have HSN := Lib.hid (show (h.getD i ser0).2.length ≤ 1000000 by have := HSL.out; omega)
    have HG4 := Lib.hid (show Row (w3.alloc (.cells #[.int .i64 t, .int .i64 v] 63)) g 74 #[p.lv i, .slice Q (h.getD i ser0).2.length sc] by
      have := (hi3.below hb4).ser i HL.out
      rw [HG.out, hsv] at this
      exact this)
    have HX4 := Lib.hid ((hi3.below hb4).row)
    generalize hsm : (h.getD i ser0).2 = sm at *
    have HSM := Lib.hid hsm
    generalize hsn : sm.length = sn at *
    have HSN2 := Lib.hid hsn
    clear hi3 hsv hb4 hsm hsn
    go_upto_region 8 with fail
    go_region_law (first
      | (refine step_app_smp rfl (.tmp 35) (.tmp 38) rfl (.slice Q sn sc) sm rfl HO4.out t v w3.heap.size 1 rfl HR4.out (by rw [HSN2.out]; exact HSN.out) ?_
         rintro v5 w5 ⟨p1, p2, p3⟩
         have happ : AppS (w3.alloc (.cells #[.int .i64 t, .int .i64 v] 63)) (.slice Q sn sc) sm (t, v) v5 w5 := ⟨p1, ⟨p2.os, p2.tape, p2.output, p2.size, p2.block⟩, p3⟩
         clear p1 p2 p3
         obtain ⟨Q6, sc6, hv6, _⟩ := owns_slice happ.1
         generalize hn6 : (sm ++ [(t, v)]).length = n6 at hv6
         subst hv6
         have hG5 := grown_row HG4.out happ.2.1 (fun e => rows_ne HG4.out HO4.out (by decide) e.symm)
         have u1 : w5.cell? ⟨g, 1, none⟩ = some (.slice Q sn sc) := hG5.cell 1
         have f1 := hG5.frozen 1
         have hX5 := grown_row HX4.out happ.2.1 (fun e => rows_ne HX4.out HO4.out (by decide) e.symm)
         have hX6 := hX5.setFar (p := ⟨g, 1, none⟩) (row_far hX5 hG5 (by decide)) (.slice Q6 n6 sc6)
         have u2 : (w5.setCell ⟨g, 1, none⟩ (.slice Q6 n6 sc6)).cell? ⟨X, 2, none⟩ = some (.int .i64 C) := hX6.cell 2
         have f2 := hX6.frozen 2
         have HAP := Lib.hid happ
         clear happ hG5 hX5 hX6 hn6))
    all_goals
      go_wp2_with fail
      go_ret
      refine ⟨rfl, ?_⟩
      have hfin := push_fin (c' := C + 1) HH.out HS.out HB4.out HL.out HG.out (by rw [HSM.out, HSN2.out]; exact HSV.out) (by rw [HSM.out, HSV.out]; exact HAP.out)
      rw [HSM.out] at hfin
      exact HPUT.out _ _ hfin.1 hfin.2.1 hfin.2.2
end
end Go.Proofs.Ytpcjnagdanmdpaa
