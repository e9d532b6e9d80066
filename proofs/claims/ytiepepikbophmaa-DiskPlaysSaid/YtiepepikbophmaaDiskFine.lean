/- A disk as the document says it: what holds of each disk that calls made: how many names, how many bytes, that each name has its file. No program in this text. -/
import Derived.Test.YtiepepikbophmaaDiskOps
namespace Go.Proofs.Ytiepepikbophmaa
set_option linter.unusedVariables false

structure Fine (d : Dsk) : Prop where
  room : 1 ≤ d.room ∧ d.room ≤ 4194304
  rises : Rises d.base
  inside : ∀ k, k ≤ d.wait.length → ∀ x ∈ dirOf d.base (d.wait.take k), x.file < d.files.length ∧ namedB x.name = true
  few : ∀ k, k ≤ d.wait.length → (dirOf d.base (d.wait.take k)).length ≤ 64
  small : ∀ n, (d.files.getD n fil0).b.length ≤ d.room
  sure : SureOk d.files
  left : -1 ≤ d.left

theorem fine_new (room : Nat) (h : 1 ≤ room ∧ room ≤ 4194304) : Fine (newD room) := by
  refine ⟨h, List.Pairwise.nil, ?_, ?_, ?_, ?_, ?_⟩
  · intro k hk x hx
    simp [newD, dirOf] at hx
  · intro k hk
    simp [newD, dirOf]
  · intro n
    simp [newD, fil0]
  · intro n
    simp [newD, fil0]
  · show (-1 : Int) ≤ -1
    omega
theorem Fine.live_in {d : Dsk} (h : Fine d) : ∀ x ∈ live d, x.file < d.files.length ∧ namedB x.name = true := by
  have := h.inside d.wait.length (Nat.le_refl _)
  rw [List.take_length] at this
  exact this
theorem Fine.live_few {d : Dsk} (h : Fine d) : (live d).length ≤ 64 := by
  have := h.few d.wait.length (Nat.le_refl _)
  rw [List.take_length] at this
  exact this
theorem Fine.live_rises {d : Dsk} (h : Fine d) : Rises (live d) := dirOf_rises _ _ h.rises
theorem sum_le : ∀ (l : List Nat) (m : Nat), (∀ x ∈ l, x ≤ m) → l.sum ≤ l.length * m := by
  intro l m
  induction l with
  | nil => intro _; simp
  | cons x r ih =>
    intro h
    have h1 := h x (by simp)
    have h2 := ih fun y hy => h y (by simp [hy])
    rw [List.sum_cons, List.length_cons, Nat.add_mul]
    omega
theorem Fine.total_le {d : Dsk} (h : Fine d) : total d ≤ 268435456 := by
  unfold total
  have h1 := sum_le ((live d).map (bytesAt d)) d.room (by
    intro x hx
    obtain ⟨y, _, rfl⟩ := List.mem_map.1 hx
    exact h.small y.file)
  rw [List.length_map] at h1
  have h2 := Nat.mul_le_mul h.live_few h.room.2
  omega
theorem mem_le_sum : ∀ (l : List Nat) (x : Nat), x ∈ l → x ≤ l.sum := by
  intro l x
  induction l with
  | nil => intro h; cases h
  | cons y r ih =>
    intro h
    rw [List.sum_cons]
    rcases List.mem_cons.1 h with rfl | h
    · omega
    · have := ih h
      omega
theorem lacking_less {l : List Ent} {n : List UInt8} {f : Nat} (h : Rises l) (hw : whose l n = some f) : (lacking l n).length + 1 ≤ l.length := by
  have hm := (whose_some h).1 hw
  clear hw h
  induction l with
  | nil => cases hm
  | cons x r ih =>
    unfold lacking at ih ⊢
    rcases List.mem_cons.1 hm with rfl | hm
    · rw [List.filter_cons_of_neg (by simp)]
      have := List.length_filter_le (fun x : Ent => decide (x.name ≠ n)) r
      rw [List.length_cons]
      omega
    · have := ih hm
      by_cases hx : x.name = n
      · rw [List.filter_cons_of_neg (by simpa using hx), List.length_cons]
        omega
      · rw [List.filter_cons_of_pos (by simpa using hx), List.length_cons, List.length_cons]
        omega
theorem fine_fuse {d : Dsk} (h : Fine d) (n : Int) : Fine (fuseD d n) := ⟨h.room, h.rises, h.inside, h.few, h.small, h.sure, by show -1 ≤ max n (-1); omega⟩
theorem fine_dark {d : Dsk} (h : Fine d) : Fine { d with dark := true } := ⟨h.room, h.rises, h.inside, h.few, h.small, h.sure, h.left⟩
theorem fine_power {d : Dsk} (h : Fine d) : Fine (power d).1 := by
  unfold power
  split
  · exact fine_dark h
  · refine ⟨h.room, h.rises, h.inside, h.few, h.small, h.sure, ?_⟩
    have := h.left
    show -1 ≤ if 0 < d.left then d.left - 1 else d.left
    split <;> omega
/-- A change of the files alone. -/
theorem fine_files {d : Dsk} (h : Fine d) (fs : List Fil) (hl : fs.length = d.files.length) (hs : SureOk fs) (hb : ∀ n, (fs.getD n fil0).b.length ≤ d.room) : Fine { d with files := fs } :=
  ⟨h.room, h.rises, fun k hk x hx => by
    have := h.inside k hk x hx
    exact ⟨by show x.file < fs.length; rw [hl]; exact this.1, this.2⟩, h.few, hb, hs, h.left⟩
/-- One entry more waits. -/
theorem fine_step {d : Dsk} (h : Fine d) (s : Stp) (fs : List Fil) (hl : d.files.length ≤ fs.length) (hs : SureOk fs) (hb : ∀ n, (fs.getD n fil0).b.length ≤ d.room)
    (hi : ∀ x ∈ stepDir (live d) s, x.file < fs.length ∧ namedB x.name = true) (hf : (stepDir (live d) s).length ≤ 64) : Fine { d with wait := d.wait ++ [s], files := fs } := by
  refine ⟨h.room, h.rises, ?_, ?_, hb, hs, h.left⟩
  · intro k hk x hx
    rw [List.length_append, List.length_singleton] at hk
    by_cases hk2 : k ≤ d.wait.length
    · have hx' : x ∈ dirOf d.base (d.wait.take k) := by
        rw [← List.take_append_of_le_length (l₂ := [s]) hk2]
        exact hx
      have := h.inside k hk2 x hx'
      exact ⟨Nat.lt_of_lt_of_le this.1 hl, this.2⟩
    · have hk3 : k = (d.wait ++ [s]).length := by rw [List.length_append, List.length_singleton]; omega
      have hx' : x ∈ dirOf d.base ((d.wait ++ [s]).take k) := hx
      rw [hk3, List.take_length, dirOf_snoc] at hx'
      exact hi x hx'
  · intro k hk
    rw [List.length_append, List.length_singleton] at hk
    show (dirOf d.base ((d.wait ++ [s]).take k)).length ≤ 64
    by_cases hk2 : k ≤ d.wait.length
    · rw [List.take_append_of_le_length hk2]
      exact h.few k hk2
    · have hk3 : k = (d.wait ++ [s]).length := by rw [List.length_append, List.length_singleton]; omega
      rw [hk3, List.take_length, dirOf_snoc]
      exact hf
theorem fine_sync {d : Dsk} (h : Fine d) : Fine { d with base := live d, wait := [] } := by
  refine ⟨h.room, h.live_rises, ?_, ?_, h.small, h.sure, h.left⟩
  · intro k hk x hx
    have hx' : x ∈ live d := by simpa [dirOf] using hx
    exact h.live_in x hx'
  · intro k hk
    show (dirOf (live d) (([] : List Stp).take k)).length ≤ 64
    rw [List.take_nil]
    exact h.live_few
theorem fine_change {d : Dsk} (h : Fine d) (kind : Int) (name to b : List UInt8) (hk : 1 ≤ kind ∧ kind ≤ 6) : Fine (change d kind name to b).1 := by
  by_cases h0 : (change d kind name to b).2 = 0
  · obtain ⟨w, hp, e, _, _⟩ := done_one h0
    have hF := fine_power h
    have hlv := live_power d
    obtain ⟨_, _, _, _, p5, p6, p7, p8⟩ := power_ok hp
    rw [e]
    have hw := w
    unfold whyNot at w
    generalize (power d).1 = D at *
    have hD : whose (live D) name = whose (live d) name := by rw [hlv]
    unfold applyD
    dsimp only
    by_cases k1 : kind = 1
    · rw [if_pos k1]
      have hn := named_of hw (by omega)
      have hlen : (live d).length < 64 := by
        by_cases hl : 64 ≤ (live d).length
        · exfalso
          split at w
          · cases w
          · split at w
            · cases w
            · rw [if_pos ⟨k1, hl⟩] at w
              cases w
        · omega
      refine fine_step hF (.lay name D.files.length) (D.files ++ [fil0]) (by simp) (sureOk_new hF.sure) ?_ ?_ ?_
      · intro n
        by_cases hn : n < D.files.length
        · have e : (D.files ++ [fil0]).getD n fil0 = D.files.getD n fil0 := by simp [List.getD, List.getElem?_append_left hn]
          rw [e]
          exact hF.small n
        · have e : ((D.files ++ [fil0]).getD n fil0).b = [] := by
            by_cases hn2 : n = D.files.length
            · subst hn2
              simp [List.getD, fil0]
            · have : (D.files ++ [fil0])[n]? = none := List.getElem?_eq_none (by simp; omega)
              unfold List.getD
              rw [this]
              rfl
          rw [e]
          simp
      · intro x hx
        rcases (mem_put _ _ hF.live_rises).1 hx with rfl | ⟨hx, _⟩
        · exact ⟨by simp, hn⟩
        · have := hF.live_in x hx
          exact ⟨by rw [List.length_append]; omega, this.2⟩
      · have := put_length ⟨name, D.files.length⟩ hF.live_rises
        rw [hlv] at this
        show (put (live D) ⟨name, D.files.length⟩).length ≤ 64
        rw [hlv]
        omega
    · rw [if_neg k1]
      by_cases k6 : kind = 6
      · rw [if_neg (by omega), if_neg (by omega), if_neg (by omega), if_neg (by omega)]
        exact fine_sync hF
      · have hn := named_of hw k6
        obtain ⟨n, hwn⟩ := there_of hw (by omega) (by omega)
        have hm := (whose_some h.live_rises).1 hwn
        have hmD : (⟨name, n⟩ : Ent) ∈ live D := by rw [hlv]; exact hm
        have hin := (hF.live_in _ hmD).1
        rw [hD, hwn]
        by_cases k2 : kind = 2
        · rw [if_pos k2]
          have hroom : total d + b.length ≤ d.room := by
            by_cases hr : d.room < total d + b.length
            · exfalso
              split at w
              · cases w
              · split at w
                · cases w
                · split at w
                  · cases w
                  · split at w
                    · cases w
                    · rw [if_pos ⟨k2, hr⟩] at w
                      cases w
            · omega
          have hle : (d.files.getD n fil0).b.length ≤ total d := mem_le_sum _ _ (List.mem_map.2 ⟨_, hm, rfl⟩)
          refine fine_files hF _ (by simp) (sureOk_more hF.sure _ _) fun j => ?_
          rw [fget_set]
          split
          · show ((D.files.getD n fil0).b ++ b).length ≤ D.room
            rw [List.length_append, p5, p8]
            omega
          · exact hF.small j
        · rw [if_neg k2]
          by_cases k3 : kind = 3
          · rw [if_pos k3]
            have hto : namedB to = true := by
              cases ht : namedB to
              · exfalso
                rw [if_pos (.inr ⟨k3, ht⟩)] at w
                cases w
              · rfl
            have hwD : whose (live D) name = some n := by rw [hD]; exact hwn
            refine fine_step hF (.move name to) D.files (Nat.le_refl _) hF.sure hF.small ?_ ?_
            · intro x hx
              have hx' : x ∈ put (lacking (live D) name) ⟨to, (whose (live D) name).getD 0⟩ := hx
              rw [hwD] at hx'
              rcases (mem_put _ _ (lacking_rises hF.live_rises name)).1 hx' with rfl | ⟨hx, _⟩
              · exact ⟨hin, hto⟩
              · exact hF.live_in x ((mem_lacking _ _).1 hx).1
            · have h1 := lacking_less hF.live_rises hwD
              have h2 := put_length (l := lacking (live D) name) ⟨to, (whose (live D) name).getD 0⟩ (lacking_rises hF.live_rises name)
              have h3 := hF.live_few
              show (put (lacking (live D) name) ⟨to, (whose (live D) name).getD 0⟩).length ≤ 64
              omega
          · rw [if_neg k3]
            by_cases k4 : kind = 4
            · rw [if_pos k4]
              refine fine_step hF (.take name) D.files (Nat.le_refl _) hF.sure hF.small ?_ ?_
              · intro x hx
                exact hF.live_in x ((mem_lacking _ _).1 hx).1
              · have h1 := List.length_filter_le (fun x : Ent => decide (x.name ≠ name)) (live D)
                have h3 := hF.live_few
                show (lacking (live D) name).length ≤ 64
                unfold lacking
                omega
            · rw [if_neg k4, if_pos (by omega)]
              refine fine_files hF _ (by simp) (sureOk_sync hF.sure _) fun j => ?_
              rw [fget_set]
              split
              · exact hF.small _
              · exact hF.small j
  · rcases refused h0 with ⟨_, e⟩ | ⟨_, e⟩
    · rw [e]
      exact fine_dark h
    · rw [e]
      exact h
theorem fine_crash {d : Dsk} (h : Fine d) (dirs : Int) (kept : List Int) : Fine (crashD d dirs kept) := by
  have hm : modU dirs (d.wait.length + 1) ≤ d.wait.length := Nat.le_of_lt_succ (Nat.mod_lt _ (Nat.succ_pos _))
  obtain ⟨_, _, _, _, hs, hl⟩ := crash_file (crashDir d dirs) d.files kept 0 h.sure
  refine ⟨h.room, dirOf_rises _ _ h.rises, ?_, ?_, ?_, hs, by show (-1 : Int) ≤ -1; omega⟩
  · intro k hk x hx
    have hx' : x ∈ crashDir d dirs := by simpa [crashD, dirOf] using hx
    have := h.inside _ hm x hx'
    exact ⟨by show x.file < (crashFiles d.files (crashDir d dirs) kept).length; rw [hl]; exact this.1, this.2⟩
  · intro k hk
    show (dirOf (crashDir d dirs) (([] : List Stp).take k)).length ≤ 64
    rw [List.take_nil]
    exact h.few _ hm
  · intro n
    obtain ⟨m, _, m2, m3, _, _⟩ := crash_file (crashDir d dirs) d.files kept n h.sure
    show ((crashFiles d.files (crashDir d dirs) kept).getD n fil0).b.length ≤ d.room
    rw [m3, List.length_take]
    have := h.small n
    omega
end Go.Proofs.Ytiepepikbophmaa
