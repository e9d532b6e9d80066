/- New; what holds of every disk that calls made; calls of no disk. -/
import Derived.Test.YtmgolnlkepiocaaGreatWaLotS
namespace Go.Proofs.YtmgolnlkepiocaaGreat.Dk
open Go.RowKit Go.Maps
set_option linter.unusedVariables false

/-! ### what holds of every disk -/
structure Ok (N : Nat) (d : Dsk) : Prop where
  fine : Fine d
  short : Short d
  count : d.count ≤ N
  wait : d.wait.length ≤ N
  files : d.files.length ≤ N
  left : d.left ≤ 9223372036854775807
theorem Ok.few {N : Nat} {d : Dsk} (h : Ok N d) (hN : N ≤ 1000) : Few d := ⟨by have := h.count; omega, by have := h.wait; omega, h.left⟩
theorem Ok.mono {N M : Nat} {d : Dsk} (h : Ok N d) (hN : N ≤ M) : Ok M d := ⟨h.fine, h.short, by have := h.count; omega, by have := h.wait; omega, by have := h.files; omega, h.left⟩
theorem ok_new (room : Nat) (h : 1 ≤ room ∧ room ≤ 4194304) : Ok 0 (newD room) :=
  ⟨fine_new room h, fun s hs => (by cases hs), Nat.le_refl _, Nat.le_refl _, Nat.le_refl _, by show (-1 : Int) ≤ _; omega⟩
theorem ok_fuse {N : Nat} {d : Dsk} (h : Ok N d) (n : Int) (hn : n ≤ 9223372036854775807) : Ok N (fuseD d n) :=
  ⟨fine_fuse h.fine n, h.short, h.count, h.wait, h.files, by show max n (-1) ≤ _; omega⟩
theorem ok_crash {N : Nat} {d : Dsk} (h : Ok N d) (dirs : Int) (ks : List Int) : Ok N (crashD d dirs ks) := by
  refine ⟨fine_crash h.fine dirs ks, fun s hs => (by cases hs), h.count, Nat.zero_le _, ?_, by show (-1 : Int) ≤ _; omega⟩
  obtain ⟨_, _, _, _, _, hl⟩ := crash_file (crashDir d dirs) d.files ks 0 h.fine.sure
  show (crashFiles d.files (crashDir d dirs) ks).length ≤ N
  rw [hl]
  exact h.files
theorem named_len {s : List UInt8} (h : namedB s = true) : s.length ≤ 24 := by
  have := named_size (s := txt s) (by rw [strL_txt]; exact h)
  rw [txt_len] at this
  omega
theorem ok_change {N : Nat} {d : Dsk} (h : Ok N d) (kind : Int) (name to b : List UInt8) (hk : 1 ≤ kind ∧ kind ≤ 6) : Ok (N + 1) (change d kind name to b).1 := by
  have hf := fine_change h.fine kind name to b hk
  by_cases h0 : (change d kind name to b).2 = 0
  · obtain ⟨w, hp, e, hc, _⟩ := done_one h0
    obtain ⟨_, _, _, p4, p5, p6, p7, _⟩ := power_ok hp
    have hl : (power d).1.left ≤ 9223372036854775807 := by
      have := h.left
      unfold power
      split
      · exact this
      · show (if 0 < d.left then d.left - 1 else d.left) ≤ _
        split <;> omega
    have hkl := applyD_keeps (power d).1 kind name to b
    have hws : d.wait.length ≤ N := h.wait
    have hfl : d.files.length ≤ N := h.files
    have hnm : ∀ {x : List UInt8}, namedB x = true → x.length ≤ 24 := named_len
    have key : Short (applyD (power d).1 kind name to b) ∧ (applyD (power d).1 kind name to b).wait.length ≤ N + 1 ∧ (applyD (power d).1 kind name to b).files.length ≤ N + 1 := by
      have hsnoc : ∀ s : Stp, (match s with | .lay n _ => n.length ≤ 24 | .move n t => n.length ≤ 24 ∧ t.length ≤ 24 | .take n => n.length ≤ 24) → ∀ x ∈ d.wait ++ [s], (match x with | .lay n _ => n.length ≤ 24 | .move n t => n.length ≤ 24 ∧ t.length ≤ 24 | .take n => n.length ≤ 24) := by
        intro s hs x hx
        rcases List.mem_append.1 hx with hx | hx
        · exact h.short x hx
        · rw [List.mem_singleton.1 hx]
          exact hs
      unfold applyD
      dsimp only
      by_cases k1 : kind = 1
      · rw [if_pos k1, p5, p7]
        refine ⟨hsnoc _ (hnm (named_of w (by omega))), by show (d.wait ++ [_]).length ≤ _; simp; omega, by show (d.files ++ [_]).length ≤ _; simp; omega⟩
      · rw [if_neg k1]
        by_cases k2 : kind = 2
        · rw [if_pos k2]
          exact ⟨by show ∀ s ∈ (power d).1.wait, _; rw [p7]; exact h.short, by show (power d).1.wait.length ≤ _; rw [p7]; omega, by show (List.set _ _ _).length ≤ _; rw [List.length_set, p5]; omega⟩
        · rw [if_neg k2]
          by_cases k3 : kind = 3
          · rw [if_pos k3, p7]
            have hto : namedB to = true := by
              cases ht : namedB to
              · exfalso
                unfold whyNot at w
                rw [if_pos (.inr ⟨k3, ht⟩)] at w
                cases w
              · rfl
            exact ⟨hsnoc (.move name to) ⟨hnm (named_of w (by omega)), hnm hto⟩, by show (d.wait ++ [_]).length ≤ _; simp; omega, by show (power d).1.files.length ≤ _; rw [p5]; omega⟩
          · rw [if_neg k3]
            by_cases k4 : kind = 4
            · rw [if_pos k4, p7]
              exact ⟨hsnoc (.take name) (hnm (named_of w (by omega))), by show (d.wait ++ [_]).length ≤ _; simp; omega, by show (power d).1.files.length ≤ _; rw [p5]; omega⟩
            · rw [if_neg k4]
              by_cases k5 : kind = 5
              · rw [if_pos k5]
                exact ⟨by show ∀ s ∈ (power d).1.wait, _; rw [p7]; exact h.short, by show (power d).1.wait.length ≤ _; rw [p7]; omega, by show (List.set _ _ _).length ≤ _; rw [List.length_set, p5]; omega⟩
              · rw [if_neg k5]
                exact ⟨fun s hs => (by cases hs), Nat.zero_le _, by show (power d).1.files.length ≤ _; rw [p5]; omega⟩
    rw [e] at hf ⊢
    exact ⟨hf, key.1, by rw [hkl.2.1, p4]; have := h.count; omega, key.2.1, key.2.2, by rw [hkl.2.2.1]; exact hl⟩
  · rcases refused h0 with ⟨_, e⟩ | ⟨_, e⟩
    · rw [e] at hf ⊢
      exact ⟨hf, h.short, by have := h.count; show d.count ≤ _; omega, by have := h.wait; show d.wait.length ≤ _; omega, by have := h.files; show d.files.length ≤ _; omega, h.left⟩
    · rw [e]
      exact h.mono (by omega)

/-! ### New -/
theorem new_no (room : Int) (h : room < 1 ∨ 4194304 < room) (w : World) :
    Calls Tryz.prog 5 #[.int .i64 room] w fun e w' => e = .returned (.tuple #[.pointer none, .int .i64 2]) ∧ w = w' := by
  by_cases h1 : room < 1
  · have q1 : decide (room < 1) = true := decide_eq_true h1
    go_enter Tryz.func5, Tryz.ntmps5
    go_wp2
    go_ret2
    exact ⟨rfl, rfl⟩
  · have q1 : decide (room < 1) = false := decide_eq_false h1
    have q2 : decide (4194304 < room) = true := decide_eq_true (by omega)
    go_enter Tryz.func5, Tryz.ntmps5
    go_wp2
    go_ret2
    exact ⟨rfl, rfl⟩
theorem new_ok (room : Nat) (h : 1 ≤ room ∧ room ≤ 4194304) (w : World) :
    Calls Tryz.prog 5 #[.int .i64 (room : Int)] w fun e w' => e = .returned (.tuple #[.pointer (some ⟨w.heap.size + 2, 0, none⟩), .int .i64 0]) ∧ DiskAt (fun k => w.heap.size ≤ k) w' (w.heap.size + 2) (newD room) ∧ Below w.heap.size w w' := by
  have q1 : decide ((room : Int) < 1) = false := decide_eq_false (by omega)
  have q2 : decide ((4194304 : Int) < (room : Int)) = false := decide_eq_false (by omega)
  have hmm := @run_makeMap Tryz.prog
  have HB := Lib.hid ((((Below.refl w.heap.size w).alloc (Nat.le_refl _) (.map #[] 0)).alloc (by simp) (.map #[] 0)).alloc (by simp; omega) (.cells #[.int .i64 (room : Int), .map (some w.heap.size), .map (some (w.heap.size + 1)), .slice none 0 0, .int .i64 (-1), .bool false, .int .i64 0] 70))
  have hd0 : DirAt (w.alloc (.map #[] 0)) (fun _ => 0) w.heap.size [] := dir_made w _
  have hd1 : DirAt ((w.alloc (.map #[] 0)).alloc (.map #[] 0)) (fun _ => 0) (w.heap.size + 1) [] := by
    have := dir_made (w.alloc (.map #[] 0)) (fun _ => 0)
    rwa [show (w.alloc (.map #[] 0)).heap.size = w.heap.size + 1 from by simp] at this
  have hr : Row (((w.alloc (.map #[] 0)).alloc (.map #[] 0)).alloc (.cells #[.int .i64 (room : Int), .map (some w.heap.size), .map (some (w.heap.size + 1)), .slice none 0 0, .int .i64 (-1), .bool false, .int .i64 0] 70)) (w.heap.size + 2) 70 (diskC (newD room) w.heap.size (w.heap.size + 1) (.slice none 0 0)) := by
    have := Row.new ((w.alloc (.map #[] 0)).alloc (.map #[] 0)) 70 #[.int .i64 (room : Int), .map (some w.heap.size), .map (some (w.heap.size + 1)), .slice none 0 0, .int .i64 (-1), .bool false, .int .i64 0]
    rwa [show ((w.alloc (.map #[] 0)).alloc (.map #[] 0)).heap.size = w.heap.size + 2 from by simp] at this
  have HD := Lib.hid (show DiskAt (fun k => w.heap.size ≤ k) (((w.alloc (.map #[] 0)).alloc (.map #[] 0)).alloc (.cells #[.int .i64 (room : Int), .map (some w.heap.size), .map (some (w.heap.size + 1)), .slice none 0 0, .int .i64 (-1), .bool false, .int .i64 0] 70)) (w.heap.size + 2) (newD room) by
    refine ⟨w.heap.size, w.heap.size + 1, .slice none 0 0, fun _ => 0, fun _ => .slice none 0 0, ⟨hr, ?_, ?_, by omega, ⟨rfl, .inl ⟨rfl, rfl⟩⟩, fun i hi => (by cases hi), fun i hi => (by cases hi), fun i j hi => (by cases hi), fun i j hi => (by cases hi)⟩, ?_⟩
    · exact (hd0.block (Below.heap_alloc _ _ _ hd0.lt)).block (Below.heap_alloc _ _ _ (by simp; omega))
    · exact hd1.block (Below.heap_alloc _ _ _ hd1.lt)
    · rintro k (e | e | e | e | ⟨i, hi, _⟩)
      · omega
      · omega
      · omega
      · simp [Value.ownBlock] at e
      · cases hi)
  clear hd0 hd1 hr
  go_enter Tryz.func5, Tryz.ntmps5
  go_wp2
  go_ret2
  exact ⟨rfl, HD.out, HB.out⟩
end Go.Proofs.YtmgolnlkepiocaaGreat.Dk
