/- Of no disk each call tells ErrNil, or nothing; the law DiskNil: its walk. -/
import Derived.Test.YtnkbehjjblmihaaDkActs
namespace Go.Proofs.Ytnkbehjjblmihaa
open Go.RowKit Go.Maps
set_option linter.unusedVariables false

theorem create_nil (s : ByteArray) (w : World) : Calls Try.prog 28 #[.pointer none, .string s] w fun e w' => e = .returned (.int .i64 1) ∧ Below w.heap.size w w' := by
  have HB := Lib.hid (below_one w (.cells #[.string s] 9))
  go_enter Try.func28, Try.ntmps28
  go_wp2_with fail
  refine (check_nil _ _).mono ?_
  rintro e w1 ⟨rfl, rfl⟩
  go_wp2
  go_ret
  exact ⟨rfl, HB.out⟩
theorem append_nil (s : ByteArray) (A : Option Addr) (n c : Nat) (w : World) : Calls Try.prog 23 #[.pointer none, .string s, .slice A n c] w fun e w' => e = .returned (.int .i64 1) ∧ Below w.heap.size w w' := by
  have HB := Lib.hid (below_one w (.cells #[.slice A n c] 35))
  go_enter Try.func23, Try.ntmps23
  go_wp2_with fail
  refine (find_nil _ _).mono ?_
  rintro e w1 ⟨rfl, hb1⟩
  have HB1 := Lib.hid hb1
  have HB2 := Lib.hid (below_one w1 (.cells #[.pointer none] 83))
  clear hb1
  go_wp2
  go_ret
  exact ⟨rfl, below_then (below_then HB.out HB1.out) HB2.out⟩
theorem rename_nil (s t : ByteArray) (w : World) : Calls Try.prog 29 #[.pointer none, .string s, .string t] w fun e w' => e = .returned (.int .i64 1) ∧ Below w.heap.size w w' := by
  have HB := Lib.hid (below_one w (.cells #[.string s, .string t] 9))
  go_enter Try.func29, Try.ntmps29
  go_wp2_with fail
  refine (check_nil _ _).mono ?_
  rintro e w1 ⟨rfl, rfl⟩
  go_wp2
  go_ret
  exact ⟨rfl, HB.out⟩
theorem remove_nil (s : ByteArray) (w : World) : Calls Try.prog 31 #[.pointer none, .string s] w fun e w' => e = .returned (.int .i64 1) ∧ Below w.heap.size w w' := by
  go_enter Try.func31, Try.ntmps31
  go_wp2_with fail
  refine (find_nil _ _).mono ?_
  rintro e w1 ⟨rfl, hb1⟩
  have HB1 := Lib.hid hb1
  clear hb1
  go_wp2
  go_ret
  exact ⟨rfl, HB1.out⟩
theorem sync_nil (s : ByteArray) (w : World) : Calls Try.prog 20 #[.pointer none, .string s] w fun e w' => e = .returned (.int .i64 1) ∧ Below w.heap.size w w' := by
  go_enter Try.func20, Try.ntmps20
  go_wp2_with fail
  refine (find_nil _ _).mono ?_
  rintro e w1 ⟨rfl, hb1⟩
  have HB1 := Lib.hid hb1
  clear hb1
  go_wp2
  go_ret
  exact ⟨rfl, HB1.out⟩
theorem read_nil (s : ByteArray) (w : World) : Calls Try.prog 22 #[.pointer none, .string s] w fun e w' => e = .returned (.tuple #[.slice none 0 0, .int .i64 1]) ∧ Below w.heap.size w w' := by
  go_enter Try.func22, Try.ntmps22
  go_wp2_with fail
  refine (find_nil _ _).mono ?_
  rintro e w1 ⟨rfl, hb1⟩
  have HB1 := Lib.hid hb1
  clear hb1
  go_wp2
  go_ret2
  exact ⟨rfl, HB1.out⟩
theorem syncdir_nil (w : World) : Calls Try.prog 21 #[.pointer none] w fun e w' => e = .returned (.int .i64 1) ∧ w = w' := by
  go_enter Try.func21, Try.ntmps21
  go_wp2
  go_ret
  exact ⟨rfl, rfl⟩
theorem crash_nil (n : Int) (V : Option Addr) (l c : Nat) (w : World) : Calls Try.prog 24 #[.pointer none, .int .i64 n, .slice V l c] w fun e w' => e = .returned (.int .i64 1) ∧ w = w' := by
  go_enter Try.func24, Try.ntmps24
  go_wp2
  go_ret
  exact ⟨rfl, rfl⟩
theorem list_nil (w : World) : Calls Try.prog 26 #[.pointer none] w fun e w' => e = .returned (.slice none 0 0) ∧ w = w' := by
  go_enter Try.func26, Try.ntmps26
  go_wp2
  go_ret
  exact ⟨rfl, rfl⟩
theorem done_nil (w : World) : Calls Try.prog 30 #[.pointer none] w fun e w' => e = .returned (.int .i64 0) ∧ w = w' := by
  go_enter Try.func30, Try.ntmps30
  go_wp2
  go_ret
  exact ⟨rfl, rfl⟩
theorem copy_nil (w : World) : Calls Try.prog 17 #[.pointer none] w fun e w' => e = .returned (.pointer none) ∧ w = w' := by
  go_enter Try.func17, Try.ntmps17
  go_wp2
  go_ret
  exact ⟨rfl, rfl⟩
theorem fuse_nil (n : Int) (w : World) : Calls Try.prog 19 #[.pointer none, .int .i64 n] w fun e w' => e = .returned (.tuple #[]) ∧ w = w' := by
  go_enter Try.func19, Try.ntmps19
  go_wp2
  first | go_end0 | refine bodyPost_ret (results_none rfl _ _ _) rfl ?_
  exact ⟨rfl, rfl⟩
/-- Which calls tell ErrNil. -/
def askedN (kind : Int) : Bool := decide (1 ≤ kind ∧ kind ≤ 7 ∨ kind = 9)
def nilE (kind : Int) : Int := if askedN kind then 1 else 0
set_option maxRecDepth 20000 in
theorem do_nil_1 (name to : ByteArray) (A : Option Addr) (b : List UInt8) (bc : Nat) (n : Int) (V : Option Addr) (ks : List Int) (kc : Nat) (w : World) : Calls Try.prog 14 #[.pointer none, .agg #[.int .i64 1, .string name, .string to, .slice A b.length bc, .int .i64 n, .slice V ks.length kc]] w fun e w' => e = .returned (.tuple #[.int .i64 1, .slice none 0 0]) ∧ Below w.heap.size w w' := by
  have HB := Lib.hid (below_one w (.cells #[.int .i64 1, .string name, .string to, .slice A b.length bc, .int .i64 n, .slice V ks.length kc] 40))
  have hr : Row (w.alloc (.cells #[.int .i64 1, .string name, .string to, .slice A b.length bc, .int .i64 n, .slice V ks.length kc] 40)) w.heap.size 40 (actC ⟨1, name, to, A, b, bc, n, V, ks, kc⟩).toArray := Row.new w _ _
  obtain ⟨c0, c1, c2, c3, c4, c5⟩ := cells_agg hr
  simp only at c0 c1 c2 c3 c4 c5
  clear hr
  go_enter Try.func14, Try.ntmps14
  go_wp2_with fail
  refine (create_nil name _).mono ?_
  rintro e w1 ⟨rfl, hb1⟩
  have HB1 := Lib.hid hb1
  clear hb1
  go_wp2
  go_ret2
  exact ⟨rfl, below_then HB.out HB1.out⟩
set_option maxRecDepth 20000 in
theorem do_nil_2 (name to : ByteArray) (A : Option Addr) (b : List UInt8) (bc : Nat) (n : Int) (V : Option Addr) (ks : List Int) (kc : Nat) (w : World) : Calls Try.prog 14 #[.pointer none, .agg #[.int .i64 2, .string name, .string to, .slice A b.length bc, .int .i64 n, .slice V ks.length kc]] w fun e w' => e = .returned (.tuple #[.int .i64 1, .slice none 0 0]) ∧ Below w.heap.size w w' := by
  have HB := Lib.hid (below_one w (.cells #[.int .i64 2, .string name, .string to, .slice A b.length bc, .int .i64 n, .slice V ks.length kc] 40))
  have hr : Row (w.alloc (.cells #[.int .i64 2, .string name, .string to, .slice A b.length bc, .int .i64 n, .slice V ks.length kc] 40)) w.heap.size 40 (actC ⟨2, name, to, A, b, bc, n, V, ks, kc⟩).toArray := Row.new w _ _
  obtain ⟨c0, c1, c2, c3, c4, c5⟩ := cells_agg hr
  simp only at c0 c1 c2 c3 c4 c5
  clear hr
  go_enter Try.func14, Try.ntmps14
  go_wp2_with fail
  refine (append_nil name A b.length bc _).mono ?_
  rintro e w1 ⟨rfl, hb1⟩
  have HB1 := Lib.hid hb1
  clear hb1
  go_wp2
  go_ret2
  exact ⟨rfl, below_then HB.out HB1.out⟩
set_option maxRecDepth 20000 in
theorem do_nil_3 (name to : ByteArray) (A : Option Addr) (b : List UInt8) (bc : Nat) (n : Int) (V : Option Addr) (ks : List Int) (kc : Nat) (w : World) : Calls Try.prog 14 #[.pointer none, .agg #[.int .i64 3, .string name, .string to, .slice A b.length bc, .int .i64 n, .slice V ks.length kc]] w fun e w' => e = .returned (.tuple #[.int .i64 1, .slice none 0 0]) ∧ Below w.heap.size w w' := by
  have HB := Lib.hid (below_one w (.cells #[.int .i64 3, .string name, .string to, .slice A b.length bc, .int .i64 n, .slice V ks.length kc] 40))
  have hr : Row (w.alloc (.cells #[.int .i64 3, .string name, .string to, .slice A b.length bc, .int .i64 n, .slice V ks.length kc] 40)) w.heap.size 40 (actC ⟨3, name, to, A, b, bc, n, V, ks, kc⟩).toArray := Row.new w _ _
  obtain ⟨c0, c1, c2, c3, c4, c5⟩ := cells_agg hr
  simp only at c0 c1 c2 c3 c4 c5
  clear hr
  go_enter Try.func14, Try.ntmps14
  go_wp2_with fail
  refine (rename_nil name to _).mono ?_
  rintro e w1 ⟨rfl, hb1⟩
  have HB1 := Lib.hid hb1
  clear hb1
  go_wp2
  go_ret2
  exact ⟨rfl, below_then HB.out HB1.out⟩
set_option maxRecDepth 20000 in
theorem do_nil_4 (name to : ByteArray) (A : Option Addr) (b : List UInt8) (bc : Nat) (n : Int) (V : Option Addr) (ks : List Int) (kc : Nat) (w : World) : Calls Try.prog 14 #[.pointer none, .agg #[.int .i64 4, .string name, .string to, .slice A b.length bc, .int .i64 n, .slice V ks.length kc]] w fun e w' => e = .returned (.tuple #[.int .i64 1, .slice none 0 0]) ∧ Below w.heap.size w w' := by
  have HB := Lib.hid (below_one w (.cells #[.int .i64 4, .string name, .string to, .slice A b.length bc, .int .i64 n, .slice V ks.length kc] 40))
  have hr : Row (w.alloc (.cells #[.int .i64 4, .string name, .string to, .slice A b.length bc, .int .i64 n, .slice V ks.length kc] 40)) w.heap.size 40 (actC ⟨4, name, to, A, b, bc, n, V, ks, kc⟩).toArray := Row.new w _ _
  obtain ⟨c0, c1, c2, c3, c4, c5⟩ := cells_agg hr
  simp only at c0 c1 c2 c3 c4 c5
  clear hr
  go_enter Try.func14, Try.ntmps14
  go_wp2_with fail
  refine (remove_nil name _).mono ?_
  rintro e w1 ⟨rfl, hb1⟩
  have HB1 := Lib.hid hb1
  clear hb1
  go_wp2
  go_ret2
  exact ⟨rfl, below_then HB.out HB1.out⟩
set_option maxRecDepth 20000 in
theorem do_nil_5 (name to : ByteArray) (A : Option Addr) (b : List UInt8) (bc : Nat) (n : Int) (V : Option Addr) (ks : List Int) (kc : Nat) (w : World) : Calls Try.prog 14 #[.pointer none, .agg #[.int .i64 5, .string name, .string to, .slice A b.length bc, .int .i64 n, .slice V ks.length kc]] w fun e w' => e = .returned (.tuple #[.int .i64 1, .slice none 0 0]) ∧ Below w.heap.size w w' := by
  have HB := Lib.hid (below_one w (.cells #[.int .i64 5, .string name, .string to, .slice A b.length bc, .int .i64 n, .slice V ks.length kc] 40))
  have hr : Row (w.alloc (.cells #[.int .i64 5, .string name, .string to, .slice A b.length bc, .int .i64 n, .slice V ks.length kc] 40)) w.heap.size 40 (actC ⟨5, name, to, A, b, bc, n, V, ks, kc⟩).toArray := Row.new w _ _
  obtain ⟨c0, c1, c2, c3, c4, c5⟩ := cells_agg hr
  simp only at c0 c1 c2 c3 c4 c5
  clear hr
  go_enter Try.func14, Try.ntmps14
  go_wp2_with fail
  refine (sync_nil name _).mono ?_
  rintro e w1 ⟨rfl, hb1⟩
  have HB1 := Lib.hid hb1
  clear hb1
  go_wp2
  go_ret2
  exact ⟨rfl, below_then HB.out HB1.out⟩
set_option maxRecDepth 20000 in
theorem do_nil_7 (name to : ByteArray) (A : Option Addr) (b : List UInt8) (bc : Nat) (n : Int) (V : Option Addr) (ks : List Int) (kc : Nat) (w : World) : Calls Try.prog 14 #[.pointer none, .agg #[.int .i64 7, .string name, .string to, .slice A b.length bc, .int .i64 n, .slice V ks.length kc]] w fun e w' => e = .returned (.tuple #[.int .i64 1, .slice none 0 0]) ∧ Below w.heap.size w w' := by
  have HB := Lib.hid (below_one w (.cells #[.int .i64 7, .string name, .string to, .slice A b.length bc, .int .i64 n, .slice V ks.length kc] 40))
  have hr : Row (w.alloc (.cells #[.int .i64 7, .string name, .string to, .slice A b.length bc, .int .i64 n, .slice V ks.length kc] 40)) w.heap.size 40 (actC ⟨7, name, to, A, b, bc, n, V, ks, kc⟩).toArray := Row.new w _ _
  obtain ⟨c0, c1, c2, c3, c4, c5⟩ := cells_agg hr
  simp only at c0 c1 c2 c3 c4 c5
  clear hr
  go_enter Try.func14, Try.ntmps14
  go_wp2_with fail
  refine (read_nil name _).mono ?_
  rintro e w1 ⟨rfl, hb1⟩
  have HB1 := Lib.hid hb1
  clear hb1
  go_wp2
  go_ret2
  exact ⟨rfl, below_then HB.out HB1.out⟩
set_option maxRecDepth 20000 in
theorem do_nil_6 (name to : ByteArray) (A : Option Addr) (b : List UInt8) (bc : Nat) (n : Int) (V : Option Addr) (ks : List Int) (kc : Nat) (w : World) : Calls Try.prog 14 #[.pointer none, .agg #[.int .i64 6, .string name, .string to, .slice A b.length bc, .int .i64 n, .slice V ks.length kc]] w fun e w' => e = .returned (.tuple #[.int .i64 1, .slice none 0 0]) ∧ Below w.heap.size w w' := by
  have HB := Lib.hid (below_one w (.cells #[.int .i64 6, .string name, .string to, .slice A b.length bc, .int .i64 n, .slice V ks.length kc] 40))
  have hr : Row (w.alloc (.cells #[.int .i64 6, .string name, .string to, .slice A b.length bc, .int .i64 n, .slice V ks.length kc] 40)) w.heap.size 40 (actC ⟨6, name, to, A, b, bc, n, V, ks, kc⟩).toArray := Row.new w _ _
  obtain ⟨c0, c1, c2, c3, c4, c5⟩ := cells_agg hr
  simp only at c0 c1 c2 c3 c4 c5
  clear hr
  go_enter Try.func14, Try.ntmps14
  go_wp2_with fail
  refine (syncdir_nil _).mono ?_
  rintro e w1 ⟨rfl, rfl⟩
  go_wp2
  go_ret2
  exact ⟨rfl, HB.out⟩
set_option maxRecDepth 20000 in
theorem do_nil_9 (name to : ByteArray) (A : Option Addr) (b : List UInt8) (bc : Nat) (n : Int) (V : Option Addr) (ks : List Int) (kc : Nat) (w : World) : Calls Try.prog 14 #[.pointer none, .agg #[.int .i64 9, .string name, .string to, .slice A b.length bc, .int .i64 n, .slice V ks.length kc]] w fun e w' => e = .returned (.tuple #[.int .i64 1, .slice none 0 0]) ∧ Below w.heap.size w w' := by
  have HB := Lib.hid (below_one w (.cells #[.int .i64 9, .string name, .string to, .slice A b.length bc, .int .i64 n, .slice V ks.length kc] 40))
  have hr : Row (w.alloc (.cells #[.int .i64 9, .string name, .string to, .slice A b.length bc, .int .i64 n, .slice V ks.length kc] 40)) w.heap.size 40 (actC ⟨9, name, to, A, b, bc, n, V, ks, kc⟩).toArray := Row.new w _ _
  obtain ⟨c0, c1, c2, c3, c4, c5⟩ := cells_agg hr
  simp only at c0 c1 c2 c3 c4 c5
  clear hr
  go_enter Try.func14, Try.ntmps14
  go_wp2_with fail
  refine (crash_nil n V ks.length kc _).mono ?_
  rintro e w1 ⟨rfl, rfl⟩
  go_wp2
  go_ret2
  exact ⟨rfl, HB.out⟩
set_option maxRecDepth 20000 in
theorem do_nil_8 (name to : ByteArray) (A : Option Addr) (b : List UInt8) (bc : Nat) (n : Int) (V : Option Addr) (ks : List Int) (kc : Nat) (w : World) : Calls Try.prog 14 #[.pointer none, .agg #[.int .i64 8, .string name, .string to, .slice A b.length bc, .int .i64 n, .slice V ks.length kc]] w fun e w' => e = .returned (.tuple #[.int .i64 0, .slice none 0 0]) ∧ Below w.heap.size w w' := by
  have HB := Lib.hid (below_one w (.cells #[.int .i64 8, .string name, .string to, .slice A b.length bc, .int .i64 n, .slice V ks.length kc] 40))
  have hr : Row (w.alloc (.cells #[.int .i64 8, .string name, .string to, .slice A b.length bc, .int .i64 n, .slice V ks.length kc] 40)) w.heap.size 40 (actC ⟨8, name, to, A, b, bc, n, V, ks, kc⟩).toArray := Row.new w _ _
  obtain ⟨c0, c1, c2, c3, c4, c5⟩ := cells_agg hr
  simp only at c0 c1 c2 c3 c4 c5
  clear hr
  go_enter Try.func14, Try.ntmps14
  go_wp2_with fail
  refine (fuse_nil n _).mono ?_
  rintro e w1 ⟨rfl, rfl⟩
  go_wp2
  go_ret2
  exact ⟨rfl, HB.out⟩
set_option maxRecDepth 20000 in
theorem do_nil_none (kind : Int) (hkd : kind < 1 ∨ 9 < kind) (name to : ByteArray) (A : Option Addr) (b : List UInt8) (bc : Nat) (n : Int) (V : Option Addr) (ks : List Int) (kc : Nat) (w : World) : Calls Try.prog 14 #[.pointer none, .agg #[.int .i64 kind, .string name, .string to, .slice A b.length bc, .int .i64 n, .slice V ks.length kc]] w fun e w' => e = .returned (.tuple #[.int .i64 0, .slice none 0 0]) ∧ Below w.heap.size w w' := by
  have HB := Lib.hid (below_one w (.cells #[.int .i64 kind, .string name, .string to, .slice A b.length bc, .int .i64 n, .slice V ks.length kc] 40))
  have hr : Row (w.alloc (.cells #[.int .i64 kind, .string name, .string to, .slice A b.length bc, .int .i64 n, .slice V ks.length kc] 40)) w.heap.size 40 (actC ⟨kind, name, to, A, b, bc, n, V, ks, kc⟩).toArray := Row.new w _ _
  obtain ⟨c0, c1, c2, c3, c4, c5⟩ := cells_agg hr
  simp only at c0 c1 c2 c3 c4 c5
  have q1 : (kind == 1) = false := by rw [beq_eq_false_iff_ne]; omega
  have q2 : (kind == 2) = false := by rw [beq_eq_false_iff_ne]; omega
  have q3 : (kind == 3) = false := by rw [beq_eq_false_iff_ne]; omega
  have q4 : (kind == 4) = false := by rw [beq_eq_false_iff_ne]; omega
  have q5 : (kind == 5) = false := by rw [beq_eq_false_iff_ne]; omega
  have q6 : (kind == 6) = false := by rw [beq_eq_false_iff_ne]; omega
  have q7 : (kind == 7) = false := by rw [beq_eq_false_iff_ne]; omega
  have q8 : (kind == 8) = false := by rw [beq_eq_false_iff_ne]; omega
  have q9 : (kind == 9) = false := by rw [beq_eq_false_iff_ne]; omega
  clear hr hkd
  go_enter Try.func14, Try.ntmps14
  go_wp2_with fail
  go_ret2
  exact ⟨rfl, HB.out⟩
theorem do_nil (kind : Int) (name to : ByteArray) (A : Option Addr) (b : List UInt8) (bc : Nat) (n : Int) (V : Option Addr) (ks : List Int) (kc : Nat) (w : World) : Calls Try.prog 14 #[.pointer none, .agg #[.int .i64 kind, .string name, .string to, .slice A b.length bc, .int .i64 n, .slice V ks.length kc]] w fun e w' => e = .returned (.tuple #[.int .i64 (nilE kind), .slice none 0 0]) ∧ Below w.heap.size w w' := by
  by_cases k0 : kind < 1 ∨ 9 < kind
  · rw [show nilE kind = 0 from by unfold nilE askedN; rw [decide_eq_false (by omega)]; rfl]
    exact do_nil_none kind k0 name to A b bc n V ks kc w
  by_cases k1 : kind = 1
  · subst k1
    exact do_nil_1 name to A b bc n V ks kc w
  by_cases k2 : kind = 2
  · subst k2
    exact do_nil_2 name to A b bc n V ks kc w
  by_cases k3 : kind = 3
  · subst k3
    exact do_nil_3 name to A b bc n V ks kc w
  by_cases k4 : kind = 4
  · subst k4
    exact do_nil_4 name to A b bc n V ks kc w
  by_cases k5 : kind = 5
  · subst k5
    exact do_nil_5 name to A b bc n V ks kc w
  by_cases k6 : kind = 6
  · subst k6
    exact do_nil_6 name to A b bc n V ks kc w
  by_cases k7 : kind = 7
  · subst k7
    exact do_nil_7 name to A b bc n V ks kc w
  by_cases k8 : kind = 8
  · subst k8
    exact do_nil_8 name to A b bc n V ks kc w
  by_cases k9 : kind = 9
  · subst k9
    exact do_nil_9 name to A b bc n V ks kc w
  omega

set_option maxRecDepth 40000 in
theorem diskNil_walk (w : World) (a : ActV) (ha : ActOk w a) : Calls Try.prog 10 #[.agg (actC a).toArray] w fun e w' => e = .returned (.bool true) ∧ Below w.heap.size w w' := by
  obtain ⟨kind, name, to, A, b, bc, n, V, ks, kc⟩ := a
  simp only [actC]
  have hB := below_one w (.cells #[.int .i64 kind, .string name, .string to, .slice A b.length bc, .int .i64 n, .slice V ks.length kc] 40)
  have hr : Row (w.alloc (.cells #[.int .i64 kind, .string name, .string to, .slice A b.length bc, .int .i64 n, .slice V ks.length kc] 40)) w.heap.size 40 (actC ⟨kind, name, to, A, b, bc, n, V, ks, kc⟩).toArray := Row.new w _ _
  obtain ⟨c0, c1, c2, c3, c4, c5⟩ := cells_agg hr
  simp only at c0 c1 c2 c3 c4 c5
  have HB := Lib.hid hB
  have HR := Lib.hid hr
  have HD := Lib.hid (do_nil kind name to A b bc n V ks kc (w.alloc (.cells #[.int .i64 kind, .string name, .string to, .slice A b.length bc, .int .i64 n, .slice V ks.length kc] 40)))
  clear hr hB
  go_enter Try.func10, Try.ntmps10
  go_wp2_with fail
  refine HD.out.mono ?_
  rintro e w1 ⟨rfl, hb1⟩
  obtain ⟨d0, d1, d2, d3, d4, d5⟩ := cells_agg (HR.out.below hb1 HR.out.lt)
  simp only at d0 d1 d2 d3 d4 d5
  have HB1 := Lib.hid (below_then HB.out hb1)
  have HF := Lib.hid (fuse_nil n w1)
  have HL := Lib.hid (lives_true w1)
  have HLi := Lib.hid (list_nil w1)
  have HDo := Lib.hid (done_nil w1)
  have HCo := Lib.hid (copy_nil w1)
  clear hb1 ha
  by_cases h1 : 1 ≤ kind ∧ kind ≤ 7
  · have q1 : decide ((1 : Int) ≤ kind) = true := decide_eq_true h1.1
    have q2 : decide (kind ≤ (7 : Int)) = true := decide_eq_true h1.2
    rw [show nilE kind = 1 from by unfold nilE askedN; rw [decide_eq_true (by omega)]; rfl]
    clear h1
    go_wp2_with fail
    refine HF.out.mono ?_
    rintro e w2 ⟨rfl, rfl⟩
    go_wp2_with fail
    refine HLi.out.mono ?_
    rintro e w2 ⟨rfl, rfl⟩
    go_wp2_with fail
    refine HDo.out.mono ?_
    rintro e w2 ⟨rfl, rfl⟩
    go_wp2_with fail
    refine HCo.out.mono ?_
    rintro e w2 ⟨rfl, rfl⟩
    go_wp2_with fail
    refine HL.out.mono ?_
    rintro e w3 ⟨rfl, hb3⟩
    have HB3 := Lib.hid (below_then HB1.out hb3)
    clear hb3
    go_wp2
    go_ret
    exact ⟨rfl, HB3.out⟩
  · by_cases h9 : kind = 9
    · subst h9
      rw [show nilE 9 = 1 from rfl]
      clear h1
      go_wp2_with fail
      refine HF.out.mono ?_
      rintro e w2 ⟨rfl, rfl⟩
      go_wp2_with fail
      refine HLi.out.mono ?_
      rintro e w2 ⟨rfl, rfl⟩
      go_wp2_with fail
      refine HDo.out.mono ?_
      rintro e w2 ⟨rfl, rfl⟩
      go_wp2_with fail
      refine HCo.out.mono ?_
      rintro e w2 ⟨rfl, rfl⟩
      go_wp2_with fail
      refine HL.out.mono ?_
      rintro e w3 ⟨rfl, hb3⟩
      have HB3 := Lib.hid (below_then HB1.out hb3)
      clear hb3
      go_wp2
      go_ret
      exact ⟨rfl, HB3.out⟩
    · have q3 : (kind == 9) = false := by rw [beq_eq_false_iff_ne]; exact h9
      rw [show nilE kind = 0 from by unfold nilE askedN; rw [decide_eq_false (by omega)]; rfl]
      by_cases h0 : 1 ≤ kind
      · have q1 : decide ((1 : Int) ≤ kind) = true := decide_eq_true h0
        have q2 : decide (kind ≤ (7 : Int)) = false := decide_eq_false (by omega)
        clear h1 h9 h0
        go_wp2_with fail
        refine HF.out.mono ?_
        rintro e w2 ⟨rfl, rfl⟩
        go_wp2_with fail
        refine HLi.out.mono ?_
        rintro e w2 ⟨rfl, rfl⟩
        go_wp2_with fail
        refine HDo.out.mono ?_
        rintro e w2 ⟨rfl, rfl⟩
        go_wp2_with fail
        refine HCo.out.mono ?_
        rintro e w2 ⟨rfl, rfl⟩
        go_wp2_with fail
        refine HL.out.mono ?_
        rintro e w3 ⟨rfl, hb3⟩
        have HB3 := Lib.hid (below_then HB1.out hb3)
        clear hb3
        go_wp2
        go_ret
        exact ⟨rfl, HB3.out⟩
      · have q1 : decide ((1 : Int) ≤ kind) = false := decide_eq_false h0
        clear h1 h9 h0
        go_wp2_with fail
        refine HF.out.mono ?_
        rintro e w2 ⟨rfl, rfl⟩
        go_wp2_with fail
        refine HLi.out.mono ?_
        rintro e w2 ⟨rfl, rfl⟩
        go_wp2_with fail
        refine HDo.out.mono ?_
        rintro e w2 ⟨rfl, rfl⟩
        go_wp2_with fail
        refine HCo.out.mono ?_
        rintro e w2 ⟨rfl, rfl⟩
        go_wp2_with fail
        refine HL.out.mono ?_
        rintro e w3 ⟨rfl, hb3⟩
        have HB3 := Lib.hid (below_then HB1.out hb3)
        clear hb3
        go_wp2
        go_ret
        exact ⟨rfl, HB3.out⟩
end Go.Proofs.Ytnkbehjjblmihaa
