/- A disk behind calls. -/
import Derived.Test.YtnkbehjjblmihaaDkActs
namespace Go.Proofs.Ytnkbehjjblmihaa
open Go.RowKit Go.Maps
set_option linter.unusedVariables false

theorem From_far {W : World} {a : ActV} (h : ActOk W a) : a.ks = [] ∨ ∀ ad, a.V = some ad → ¬ From W.heap.size ad.block := by
  rcases h.ks with h0 | ⟨b, o, hV, hlt, _⟩
  · exact .inl h0
  · refine .inr fun ad e => ?_
    rw [hV] at e
    injection e with e
    subst e
    exact Nat.not_le.2 hlt
theorem Told.flat {B : Nat} {w : World} {X : Nat} {d : Dsk} {a : ActV} {e : Ending} {w' : World} (h : Told (From B) w X d a e w') (hB : B ≤ w.heap.size) : ∃ v, e = .returned (.tuple #[.int .i64 (actE d a), v]) ∧ Own w' w.heap.size v (actB d a) ∧ DiskAt (From B) w' X (actD d a) ∧ Below B w w' := by
  obtain ⟨v, h1, h2, h3⟩ := h
  obtain ⟨h4, h5⟩ := h3.flat hB
  exact ⟨v, h1, h2, h4, h5⟩
/-- The i-th of calls in memory, later. -/
theorem acts_at {W w : World} {V : Option Addr} {acs : List ActV} (h : Acts W V acs) (hb : Below W.heap.size W w) {i : Nat} (hi : i < acs.length) :
    ∃ b o, V = some ⟨b, o, none⟩ ∧ ActOk W (acs.getD i default) ∧ ActOk w (acs.getD i default) ∧ ∀ j v, (actC (acs.getD i default))[j]? = some v → w.cell? ⟨b, o + i * 6 + j, none⟩ = some v := by
  rcases h with rfl | ⟨b, o, rfl, hlt, hc⟩
  · simp at hi
  · obtain ⟨hok, hcell⟩ := hc i hi
    exact ⟨b, o, rfl, hok, hok.below hb, fun j v hj => (hb.cell (p := ⟨b, o + i * 6 + j, none⟩) hlt).trans (hcell j v hj)⟩
def runD (d : Dsk) (acs : List ActV) (k : Nat) : Dsk := (acs.take k).foldl actD d
theorem runD_zero (d : Dsk) (acs : List ActV) : runD d acs 0 = d := rfl
theorem runD_succ (d : Dsk) (acs : List ActV) {k : Nat} (hk : k < acs.length) : runD d acs (k + 1) = actD (runD d acs k) (acs.getD k default) := by
  unfold runD
  rw [List.take_succ_eq_append_getElem hk, List.foldl_append]
  simp [List.getD, List.getElem?_eq_getElem hk]
theorem ok_run {N : Nat} {d : Dsk} (h : Ok N d) (acs : List ActV) (hn : ∀ i, i < acs.length → (acs.getD i default).n ≤ 9223372036854775807) : ∀ k, k ≤ acs.length → Ok (N + k) (runD d acs k) := by
  intro k
  induction k with
  | zero => intro _; exact h
  | succ k ih =>
    intro hk
    rw [runD_succ d acs (by omega)]
    exact ok_act (ih (by omega)) _ (hn k (by omega))
theorem acts_n {W : World} {V : Option Addr} {acs : List ActV} (h : Acts W V acs) : ∀ i, i < acs.length → (acs.getD i default).n ≤ 9223372036854775807 := by
  intro i hi
  rcases h with rfl | ⟨b, o, rfl, hlt, hc⟩
  · simp at hi
  · exact (hc i hi).1.n.2

/-- There is a disk behind the calls. -/
def Behind (w : World) (e : Ending) (w' : World) : Prop := ∃ X d, e = .returned (.pointer (some ⟨X, 0, none⟩)) ∧ DiskAt (From w.heap.size) w' X d ∧ Ok 40 d ∧ Below w.heap.size w w'
set_option maxRecDepth 20000 in
theorem begun_no (room : Int) (hr : room < 1 ∨ 4194304 < room) (V : Option Addr) (acs : List ActV) (c : Nat) (w : World) (hl : acs.length ≤ 140737488351232) :
    Calls Try.prog 18 #[.int .i64 room, .slice V acs.length c] w fun e w' => e = .returned (.pointer none) ∧ Below w.heap.size w w' := by
  have HN := Lib.hid (new_no room hr w)
  clear hr
  go_enter Try.func18, Try.ntmps18
  go_wp2_with fail
  refine HN.out.mono ?_
  rintro e w1 ⟨rfl, rfl⟩
  go_wp2_with fail
  go_loop [7] (fun i => i = .int .i64 0) (fun _ => 0)
  case atStart => rfl
  case round =>
    subst hrel
    by_cases hz : 0 < acs.length
    · go_wp2_with fail
      go_ret
      exact ⟨rfl, Below.refl _ _⟩
    · have h0 : acs.length = 0 := by omega
      rw [h0]
      go_wp2_with fail
      go_ret
      exact ⟨rfl, Below.refl _ _⟩
set_option maxRecDepth 20000 in
theorem begun_ok (room : Nat) (hr : 1 ≤ room ∧ room ≤ 4194304) (V : Option Addr) (acs : List ActV) (c : Nat) (w : World) (hV : Acts w V acs) (hl : acs.length ≤ 140737488351232) (hlc : acs.length ≤ c) :
    Calls Try.prog 18 #[.int .i64 (room : Int), .slice V acs.length c] w (Behind w) := by
  have HN := Lib.hid (new_ok room hr w)
  have HO := Lib.hid (ok_run (ok_new room hr) acs (acts_n hV))
  have HV := Lib.hid hV
  clear hV
  go_enter Try.func18, Try.ntmps18
  go_wp2_with fail
  refine HN.out.mono ?_
  rintro e w1 ⟨rfl, hD1, hb1⟩
  have HD1 : Hid (DiskAt (From w.heap.size) w1 (w.heap.size + 2) (newD room)) := Lib.hid hD1
  have HB1 := Lib.hid hb1
  clear hD1 hb1
  generalize hX : w.heap.size + 2 = X at *
  go_wp2_with fail
  go_loopw [7] (fun i wr => ∃ k : Nat, k ≤ acs.length ∧ k ≤ 40 ∧ i = .int .i64 (k : Int) ∧ DiskAt (From w.heap.size) wr X (runD (newD room) acs k) ∧ Below w.heap.size w wr) (fun i _ => 40 - (intOf i).toNat)
  case atStart => exact ⟨0, Nat.zero_le _, by omega, rfl, HD1.out, HB1.out⟩
  case round =>
    obtain ⟨k, hk, hk40, rfl, hD, hb⟩ := hrel
    have hok := HO.out k hk
    rw [Nat.zero_add] at hok
    have HB := Lib.hid hb
    by_cases hlt : k < acs.length
    · by_cases h40 : k < 40
      · obtain ⟨b, o, rfl, ha0, ha, hcell⟩ := acts_at HV.out hb hlt
        have hDO := do_prog hD hok (by omega) _ ha (From_far ha0)
        have hsz := hb.size
        have HT := Lib.hid (fun e w' (h : Told (From w.heap.size) wr X (runD (newD room) acs k) (acs.getD k default) e w') => h.flat hsz)
        have HS := Lib.hid (runD_succ (newD room) acs hlt)
        generalize acs.getD k default = aa at *
        obtain ⟨kind, name, to, A, bb, bc, n, V2, ks, kc⟩ := aa
        simp only [actC] at hcell hDO
        have e0 := hcell 0 _ rfl
        have e1 := hcell 1 _ rfl
        have e2 := hcell 2 _ rfl
        have e3 := hcell 3 _ rfl
        have e4 := hcell 4 _ rfl
        have e5 := hcell 5 _ rfl
        have HDO := Lib.hid hDO
        rw [Nat.add_zero] at e0
        clear hcell hDO ha ha0 hD hok hb
        go_wp2_with fail
        refine HDO.out.mono ?_
        intro e w2 ht
        obtain ⟨v, rfl, _, hD2, hb2⟩ := HT.out e w2 ht
        have HD2 := Lib.hid hD2
        have HB2 := Lib.hid (HB.out.trans hb2)
        clear ht hD2 hb2
        go_wp2
        go_roundw
        case rel => exact ⟨k + 1, by omega, by omega, by go_num, by rw [HS.out]; exact HD2.out, HB2.out⟩
        case measure => simp [intOf]; omega
      · have HD := Lib.hid hD
        have HK := Lib.hid hok
        clear hD hok hb
        go_wp2
        go_ret
        exact ⟨X, _, rfl, HD.out, HK.out.mono (by omega), HB.out⟩
    · obtain rfl : k = acs.length := by omega
      have HD := Lib.hid hD
      have HK := Lib.hid hok
      clear hD hok hb
      go_wp2
      go_ret
      exact ⟨X, _, rfl, HD.out, HK.out.mono (by omega), HB.out⟩
end Go.Proofs.Ytnkbehjjblmihaa
