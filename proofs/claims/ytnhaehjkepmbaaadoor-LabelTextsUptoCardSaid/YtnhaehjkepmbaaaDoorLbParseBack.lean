/- Parse of Print is the set; Read of Put is the set. -/
import Derived.Test.YtnhaehjkepmbaaaDoorLbGuess
import Derived.Test.YtnhaehjkepmbaaaDoorLbReadRef
import Derived.Test.YtnhaehjkepmbaaaDoorFrameMath3
namespace Go.Proofs.YtnhaehjkepmbaaaDoor
open Go.RowKit Go.Maps
set_option linter.unusedVariables false

theorem cost_right {l : List Lbl} (h : lbChk l = 0) : costT l l.length ≤ 3000 := by
  have h8 := (lbChk_ok.1 h).1
  have key : ∀ k, k ≤ l.length → costT l k ≤ 1 + k * 294 := by
    intro k
    induction k with
    | zero => intro _; exact Nat.le_refl _
    | succ k ih =>
      intro hk
      have h1 := ih (by omega)
      have h2 := right_at h (show k < l.length by omega)
      rw [costT]
      omega
  have := key l.length (Nat.le_refl _)
  omega
theorem parse_back (l : List Lbl) (h : lbChk l = 0) (m : Int) (w : World) (hw : 0 < w.heap.size) (hm : w.cell? ⟨0, 0, none⟩ = some (.int .i64 m)) :
    Calls Tryd.prog 4 #[.string (txt (printL l))] w fun e w' => ∃ v, e = .returned (.tuple #[v, .int .i64 0]) ∧ OwnL w' w.heap.size v l ∧ Below w.heap.size w w' := by
  have h8 := (lbChk_ok.1 h).1
  have hc := cost_right h
  have hlen : (restL l).length ≤ 10000 := by
    have h1 := lblsT_len l l.length
    have h2 := congrArg List.length (print_rest l)
    have h3 : (printL l).length = (lblsT l l.length).length + 2 := by unfold printL; simp
    rw [List.length_cons] at h2
    omega
  have HG := Lib.hid (guess_prog l (fun k hk => (lbErrAt_zero.1 ((lbChk_ok.1 h).2 k hk)).1) (by omega) (by omega) m w hw hm)
  have HC := Lib.hid (fun P c W (hP : Lbls W P l) => lbchk_prog P l c W hP (by omega))
  have HP := Lib.hid (fun P c W (hP : Lbls W P l) => print_prog P l c W hP (by omega) (by omega))
  rw [h] at HC
  have hq : ((txt (printL l)).toList == (txt (printL l)).toList) = true := beq_self_eq_true _
  generalize txt (printL l) = t at *
  clear h hm hc hlen
  go_enter Tryd.func4, Tryd.ntmps4
  go_wp2_with (first
    | (go_at_call 10; refine HG.out.mono ?_; rintro e w1 ⟨v1, rfl, ho1, hb1⟩; obtain ⟨P1, c1, hv1, _, hL1, _⟩ := ownl_slice ho1; subst hv1; have HL1 := Lib.hid hL1; have HO1 := Lib.hid ho1; have HB1 := Lib.hid hb1; clear ho1 hb1 hL1)
    | (go_at_call 11; refine (HC.out _ _ _ HL1.out).mono ?_; rintro e w2 ⟨rfl, hb2⟩; have HL2 := Lib.hid (HL1.out.below hb2); have HO2 := Lib.hid (ownl_below HO1.out hb2); have HB2 := Lib.hid (HB1.out.trans (hb2.mono HB1.out.size)); clear hb2)
    | (go_at_call 6; refine (HP.out _ _ _ HL2.out).mono ?_; rintro e w3 ⟨rfl, hb3⟩; have HO3 := Lib.hid (ownl_below HO2.out hb3); have HB3 := Lib.hid (HB2.out.trans (hb3.mono HB2.out.size)); clear hb3))
  go_ret2
  exact ⟨_, rfl, HO3.out, HB3.out⟩

/-- A number that was laid down is read where it stands. -/
theorem gx_of (X Y : List UInt8) (n : Nat) (hn : n < 9223372036854775808) : GX (X ++ (uintL n ++ Y)) (X.length : Int) n (X.length + (uintL n).length) 0 := by
  refine .inr ⟨X.length, rfl, by rw [List.length_append]; omega, ?_⟩
  have := gu_of X Y n hn
  rwa [List.append_assoc] at this
theorem tx_of (X Y : List UInt8) (s : ByteArray) (hs : s.size ≤ 65535) : TX (X ++ (textL s ++ Y)) (X.length : Int) s (X.length + (textL s).length) 0 := by
  have e : X ++ (textL s ++ Y) = X ++ (uintL s.size ++ (strL s ++ Y)) := by unfold textL; simp only [List.append_assoc]
  have hl := strL_length s
  have hg := gx_of X (strL s ++ Y) s.size (by omega)
  rw [← e] at hg
  refine ⟨s.size, X.length + (uintL s.size).length, 0, hg, ?_⟩
  have hlen : (X ++ (textL s ++ Y)).length = X.length + (uintL s.size).length + s.size + Y.length := by
    rw [e]; simp only [List.length_append]; omega
  have ht := GT.ok (l := X ++ (textL s ++ Y)) s.size (X.length + (uintL s.size).length) hs (by omega) (by omega)
  have hd : ((X ++ (textL s ++ Y)).drop (X.length + (uintL s.size).length)).take s.size = strL s := by
    rw [e, ← List.append_assoc, ← List.append_assoc]
    rw [show X.length + (uintL s.size).length = (X ++ uintL s.size).length from by simp, List.append_assoc, List.drop_left, ← hl, List.take_left]
  rw [hd, txt_strL] at ht
  have hk : X.length + (textL s).length = X.length + (uintL s.size).length + s.size := by
    unfold textL
    rw [List.length_append, hl]
    omega
  rw [hk]
  exact ht
/-- The bytes of labels, from one on. -/
def lblB (r : List Lbl) : List UInt8 := r.flatMap fun x => textL x.1 ++ textL x.2
theorem rl_of (r : List Lbl) (hr : ∀ x ∈ r, x.1.size ≤ 65535 ∧ x.2.size ≤ 65535) : ∀ X Y : List UInt8, RL (X ++ (lblB r ++ Y)) r.length (X.length : Int) r ((X.length + (lblB r).length : Nat) : Int) 0 := by
  induction r with
  | nil => intro X Y; exact .done _
  | cons x r ih =>
    intro X Y
    have hx := hr x (by simp)
    have e1 : X ++ (lblB (x :: r) ++ Y) = X ++ (textL x.1 ++ (textL x.2 ++ (lblB r ++ Y))) := by
      show X ++ (((textL x.1 ++ textL x.2) ++ lblB r) ++ Y) = _
      simp only [List.append_assoc]
    have e2 : X ++ (lblB (x :: r) ++ Y) = (X ++ textL x.1) ++ (textL x.2 ++ (lblB r ++ Y)) := by rw [e1]; simp only [List.append_assoc]
    have e3 : X ++ (lblB (x :: r) ++ Y) = (X ++ textL x.1 ++ textL x.2) ++ (lblB r ++ Y) := by rw [e1]; simp only [List.append_assoc]
    have t1 := tx_of X (textL x.2 ++ (lblB r ++ Y)) x.1 hx.1
    rw [← e1] at t1
    have t2 := tx_of (X ++ textL x.1) (lblB r ++ Y) x.2 hx.2
    rw [← e2, List.length_append] at t2
    have t3 := ih (fun y hy => hr y (List.mem_cons_of_mem _ hy)) (X ++ textL x.1 ++ textL x.2) Y
    rw [← e3, List.length_append, List.length_append] at t3
    have hl : (lblB (x :: r)).length = (textL x.1).length + (textL x.2).length + (lblB r).length := by
      show ((textL x.1 ++ textL x.2) ++ lblB r).length = _
      simp only [List.length_append]
    have := RL.ok r.length (X.length : Int) x.1 (X.length + (textL x.1).length) x.2 (X.length + (textL x.1).length + (textL x.2).length) r _ 0 t1 (by exact_mod_cast t2) (by exact_mod_cast t3)
    rw [hl]
    rw [show X.length + ((textL x.1).length + (textL x.2).length + (lblB r).length) = X.length + (textL x.1).length + (textL x.2).length + (lblB r).length from by omega]
    exact this
theorem bytes_all (l : List Lbl) : bytesL l = uintL l.length ++ lblB l := by
  have key : ∀ k, k ≤ l.length → bytesF l k = uintL l.length ++ lblB (l.take k) := by
    intro k
    induction k with
    | zero => intro _; simp [bytesF, lblB]
    | succ k ih =>
      intro hk
      rw [bytesF, ih (by omega), take_one' l (by omega)]
      unfold lblB
      rw [List.flatMap_append]
      simp [List.append_assoc]
  have := key l.length (Nat.le_refl _)
  rwa [List.take_of_length_le (Nat.le_refl _)] at this
end Go.Proofs.YtnhaehjkepmbaaaDoor
