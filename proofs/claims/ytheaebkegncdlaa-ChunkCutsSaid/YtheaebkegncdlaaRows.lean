/-
  No cell of these rows narrows 'for every input' (looked for: loops, veiled, ifaces, maps, wideKeys, modest, calm, conditions, laid).
  DERIVED. THE GIVEN ROWS OF THIS SEAT. 9 by the template 'for every input the law returns true; each argument reads behind the call as it read before'; 0 by the template 'total and deterministic' (their statements: YtheaebkegncdlaaTotals.lean).
  GIVEN WITH THE SEED: the statements are not yours to turn. If you find one false, say at which input.
  Laid BY PROGRAM, IN A SANDBOX (cutbox-rows.mjs): the forced cells as the released guide's own fill.sh prints them over the translation e0a08b27b16a2be1… (all of the seat's roots in one cut). By AI agents, Wed Nov 11 2026. No macro, syntax, notation, axiom, sorry.
-/
import Derived.Test.YtheaebkegncdlaaChecked
import GoSem.Claim
import GoSem.ClaimJoined
import GoSem.ClaimMapViews
import Derived.JoinedTies
import Derived.KernelRfl
namespace Go.Proofs.Ytheaebkegncdlaa
/- THE CELL 'sum', in the pinned program and in every row, IS THE sha256 OF THE DUMP (.gsa) THAT YtheaebkegncdlaaProg.lean LOADS. Nothing in Lean hashes anything: it is a label: what it is worth is what the hold of that sum in a sandbox is worth. -/
noncomputable def Try.pinned : Pinned := { name := "ytheaebkegncdlaa", sum := "e0a08b27b16a2be114905831d7f14f46af2fdcdfb3ff3058d144dda7fc65fc68", checked := Try.checked }
namespace Rows
def none {H : Type} : Left H := { results := [], args := [] }

/-- 'gaugelaw05.ChunkEncodes': WHATEVER THE INPUT: true; the input reads as it did. -/
def chunkEncodesSpec : ChangeSpec := { name := "chunkEncodes", fn := fun _ => fun
  | [d] => { results := [.lit (.bool true)], args := [d] }
  | _ => none }
def chunkEncodesRow : OpenClaim := { program := "ytheaebkegncdlaa", sum := "e0a08b27b16a2be114905831d7f14f46af2fdcdfb3ff3058d144dda7fc65fc68", func := "gauge/gaugelaw05.ChunkEncodes", spec := "chunkEncodes", unfollowed := true, recurses := true, apart := false }
def ChunkEncodesSaid : Prop := chunkEncodesRow.holds Try.pinned (OpenSpec.ofChange chunkEncodesSpec)

/-- ITS FALSE NEIGHBOUR: 'it returns false'. Refute it at one input. -/
def chunkEncodesWrong : ChangeSpec := { name := "chunkEncodes", fn := fun _ => fun
  | [d] => { results := [.lit (.bool false)], args := [d] }
  | _ => none }
def ChunkEncodesWrongFalsely : Prop := chunkEncodesRow.holds Try.pinned (OpenSpec.ofChange chunkEncodesWrong)

/-- 'gaugelaw05.ChunkDecodes': WHATEVER THE INPUT: true; the input reads as it did. -/
def chunkDecodesSpec : ChangeSpec := { name := "chunkDecodes", fn := fun _ => fun
  | [d1, d2] => { results := [.lit (.bool true)], args := [d1, d2] }
  | _ => none }
def chunkDecodesRow : OpenClaim := { program := "ytheaebkegncdlaa", sum := "e0a08b27b16a2be114905831d7f14f46af2fdcdfb3ff3058d144dda7fc65fc68", func := "gauge/gaugelaw05.ChunkDecodes", spec := "chunkDecodes", unfollowed := true, recurses := true, apart := false }
def ChunkDecodesSaid : Prop := chunkDecodesRow.holds Try.pinned (OpenSpec.ofChange chunkDecodesSpec)

/-- ITS FALSE NEIGHBOUR: 'it returns false'. Refute it at one input. -/
def chunkDecodesWrong : ChangeSpec := { name := "chunkDecodes", fn := fun _ => fun
  | [d1, d2] => { results := [.lit (.bool false)], args := [d1, d2] }
  | _ => none }
def ChunkDecodesWrongFalsely : Prop := chunkDecodesRow.holds Try.pinned (OpenSpec.ofChange chunkDecodesWrong)

/-- 'gaugelaw05.ChunkAppends': WHATEVER THE INPUT: true; the input reads as it did. -/
def chunkAppendsSpec : ChangeSpec := { name := "chunkAppends", fn := fun _ => fun
  | [d1, d2] => { results := [.lit (.bool true)], args := [d1, d2] }
  | _ => none }
def chunkAppendsRow : OpenClaim := { program := "ytheaebkegncdlaa", sum := "e0a08b27b16a2be114905831d7f14f46af2fdcdfb3ff3058d144dda7fc65fc68", func := "gauge/gaugelaw05.ChunkAppends", spec := "chunkAppends", unfollowed := true, recurses := true, apart := false }
def ChunkAppendsSaid : Prop := chunkAppendsRow.holds Try.pinned (OpenSpec.ofChange chunkAppendsSpec)

/-- ITS FALSE NEIGHBOUR: 'it returns false'. Refute it at one input. -/
def chunkAppendsWrong : ChangeSpec := { name := "chunkAppends", fn := fun _ => fun
  | [d1, d2] => { results := [.lit (.bool false)], args := [d1, d2] }
  | _ => none }
def ChunkAppendsWrongFalsely : Prop := chunkAppendsRow.holds Try.pinned (OpenSpec.ofChange chunkAppendsWrong)

/-- 'gaugelaw05.ChunkBack': WHATEVER THE INPUT: true; the input reads as it did. -/
def chunkBackSpec : ChangeSpec := { name := "chunkBack", fn := fun _ => fun
  | [d] => { results := [.lit (.bool true)], args := [d] }
  | _ => none }
def chunkBackRow : OpenClaim := { program := "ytheaebkegncdlaa", sum := "e0a08b27b16a2be114905831d7f14f46af2fdcdfb3ff3058d144dda7fc65fc68", func := "gauge/gaugelaw05.ChunkBack", spec := "chunkBack", unfollowed := true, recurses := true, apart := false }
def ChunkBackSaid : Prop := chunkBackRow.holds Try.pinned (OpenSpec.ofChange chunkBackSpec)

/-- ITS FALSE NEIGHBOUR: 'it returns false'. Refute it at one input. -/
def chunkBackWrong : ChangeSpec := { name := "chunkBack", fn := fun _ => fun
  | [d] => { results := [.lit (.bool false)], args := [d] }
  | _ => none }
def ChunkBackWrongFalsely : Prop := chunkBackRow.holds Try.pinned (OpenSpec.ofChange chunkBackWrong)

/-- 'gaugelaw05.ChunkOne': WHATEVER THE INPUT: true; the input reads as it did. -/
def chunkOneSpec : ChangeSpec := { name := "chunkOne", fn := fun _ => fun
  | [d] => { results := [.lit (.bool true)], args := [d] }
  | _ => none }
def chunkOneRow : OpenClaim := { program := "ytheaebkegncdlaa", sum := "e0a08b27b16a2be114905831d7f14f46af2fdcdfb3ff3058d144dda7fc65fc68", func := "gauge/gaugelaw05.ChunkOne", spec := "chunkOne", unfollowed := true, recurses := true, apart := false }
def ChunkOneSaid : Prop := chunkOneRow.holds Try.pinned (OpenSpec.ofChange chunkOneSpec)

/-- ITS FALSE NEIGHBOUR: 'it returns false'. Refute it at one input. -/
def chunkOneWrong : ChangeSpec := { name := "chunkOne", fn := fun _ => fun
  | [d] => { results := [.lit (.bool false)], args := [d] }
  | _ => none }
def ChunkOneWrongFalsely : Prop := chunkOneRow.holds Try.pinned (OpenSpec.ofChange chunkOneWrong)

/-- 'gaugelaw05.ChunkGrows': WHATEVER THE INPUT: true; the input reads as it did. -/
def chunkGrowsSpec : ChangeSpec := { name := "chunkGrows", fn := fun _ => fun
  | [d] => { results := [.lit (.bool true)], args := [d] }
  | _ => none }
def chunkGrowsRow : OpenClaim := { program := "ytheaebkegncdlaa", sum := "e0a08b27b16a2be114905831d7f14f46af2fdcdfb3ff3058d144dda7fc65fc68", func := "gauge/gaugelaw05.ChunkGrows", spec := "chunkGrows", unfollowed := true, recurses := true, apart := false }
def ChunkGrowsSaid : Prop := chunkGrowsRow.holds Try.pinned (OpenSpec.ofChange chunkGrowsSpec)

/-- ITS FALSE NEIGHBOUR: 'it returns false'. Refute it at one input. -/
def chunkGrowsWrong : ChangeSpec := { name := "chunkGrows", fn := fun _ => fun
  | [d] => { results := [.lit (.bool false)], args := [d] }
  | _ => none }
def ChunkGrowsWrongFalsely : Prop := chunkGrowsRow.holds Try.pinned (OpenSpec.ofChange chunkGrowsWrong)

/-- 'gaugelaw05.ChunkSeeks': WHATEVER THE INPUT: true; the input reads as it did. -/
def chunkSeeksSpec : ChangeSpec := { name := "chunkSeeks", fn := fun _ => fun
  | [d1, d2] => { results := [.lit (.bool true)], args := [d1, d2] }
  | _ => none }
def chunkSeeksRow : OpenClaim := { program := "ytheaebkegncdlaa", sum := "e0a08b27b16a2be114905831d7f14f46af2fdcdfb3ff3058d144dda7fc65fc68", func := "gauge/gaugelaw05.ChunkSeeks", spec := "chunkSeeks", unfollowed := true, recurses := true, apart := false }
def ChunkSeeksSaid : Prop := chunkSeeksRow.holds Try.pinned (OpenSpec.ofChange chunkSeeksSpec)

/-- ITS FALSE NEIGHBOUR: 'it returns false'. Refute it at one input. -/
def chunkSeeksWrong : ChangeSpec := { name := "chunkSeeks", fn := fun _ => fun
  | [d1, d2] => { results := [.lit (.bool false)], args := [d1, d2] }
  | _ => none }
def ChunkSeeksWrongFalsely : Prop := chunkSeeksRow.holds Try.pinned (OpenSpec.ofChange chunkSeeksWrong)

/-- 'gaugelaw05.ChunkCuts': WHATEVER THE INPUT: true; the input reads as it did. -/
def chunkCutsSpec : ChangeSpec := { name := "chunkCuts", fn := fun _ => fun
  | [d] => { results := [.lit (.bool true)], args := [d] }
  | _ => none }
def chunkCutsRow : OpenClaim := { program := "ytheaebkegncdlaa", sum := "e0a08b27b16a2be114905831d7f14f46af2fdcdfb3ff3058d144dda7fc65fc68", func := "gauge/gaugelaw05.ChunkCuts", spec := "chunkCuts", unfollowed := true, recurses := true, apart := false }
def ChunkCutsSaid : Prop := chunkCutsRow.holds Try.pinned (OpenSpec.ofChange chunkCutsSpec)

/-- ITS FALSE NEIGHBOUR: 'it returns false'. Refute it at one input. -/
def chunkCutsWrong : ChangeSpec := { name := "chunkCuts", fn := fun _ => fun
  | [d] => { results := [.lit (.bool false)], args := [d] }
  | _ => none }
def ChunkCutsWrongFalsely : Prop := chunkCutsRow.holds Try.pinned (OpenSpec.ofChange chunkCutsWrong)

/-- 'gaugelaw05.ChunkSmall': WHATEVER THE INPUT: true; the input reads as it did. -/
def chunkSmallSpec : ChangeSpec := { name := "chunkSmall", fn := fun _ => fun
  | [d1, d2, d3, d4] => { results := [.lit (.bool true)], args := [d1, d2, d3, d4] }
  | _ => none }
def chunkSmallRow : OpenClaim := { program := "ytheaebkegncdlaa", sum := "e0a08b27b16a2be114905831d7f14f46af2fdcdfb3ff3058d144dda7fc65fc68", func := "gauge/gaugelaw05.ChunkSmall", spec := "chunkSmall", unfollowed := true, recurses := true, apart := false }
def ChunkSmallSaid : Prop := chunkSmallRow.holds Try.pinned (OpenSpec.ofChange chunkSmallSpec)

/-- ITS FALSE NEIGHBOUR: 'it returns false'. Refute it at one input. -/
def chunkSmallWrong : ChangeSpec := { name := "chunkSmall", fn := fun _ => fun
  | [d1, d2, d3, d4] => { results := [.lit (.bool false)], args := [d1, d2, d3, d4] }
  | _ => none }
def ChunkSmallWrongFalsely : Prop := chunkSmallRow.holds Try.pinned (OpenSpec.ofChange chunkSmallWrong)

/- THE SECOND FORM. 'bulk': how many values and letters a reading holds, each counted each time it is reached (what is shared counts as often as it is met; a slice's spare places count too). A statement '..UptoSaid' is the law's where the arguments, and the package variables that the reading takes, are together of bulk at most 1048576: NARROWER than '..Said'. Prove '..Said' where nothing that the law and all that it calls make is longer than what came in: it says more and counts as full. Else prove '..UptoSaid'. A law counts once. -/
mutual
def uptoBulk {H : Type} : DataW H → Nat
  | .lit (.string bytes) => bytes.length + 1
  | .lit _ => 1
  | .nil => 1
  | .ptr d => uptoBulk d + 1
  | .slice elems spare => uptoBulkAll elems + uptoBulkAll spare + 1
  | .agg parts => uptoBulkAll parts + 1
  | .iface _ d => uptoBulk d + 1
  | .map entries => uptoBulkEntries entries + 1
  | .held _ => 1
def uptoBulkAll {H : Type} : List (DataW H) → Nat
  | [] => 0
  | d :: r => uptoBulk d + uptoBulkAll r
def uptoBulkEntries {H : Type} : List (Lit × DataW H) → Nat
  | [] => 0
  | x :: r => uptoBulkEntry x + uptoBulkEntries r
def uptoBulkEntry {H : Type} : Lit × DataW H → Nat
  | (.string bytes, d) => bytes.length + uptoBulk d + 1
  | (_, d) => uptoBulk d + 1
 end
def uptoSmall : (H : Type) → List (DataW H) → Bool := fun _ ds => decide (uptoBulkAll ds ≤ 1048576)
def OpenSpec.upto (s : _root_.Go.ChangeSpec) : _root_.Go.OpenSpec := { _root_.Go.OpenSpec.ofChange s with cond := some uptoSmall }

/-- 'gaugelaw05.ChunkEncodes', WHERE WHAT IT READS IS OF BULK AT MOST 1048576: true; the input reads as it did. -/
def chunkEncodesUptoRow : OpenClaim := { program := "ytheaebkegncdlaa", sum := "e0a08b27b16a2be114905831d7f14f46af2fdcdfb3ff3058d144dda7fc65fc68", func := "gauge/gaugelaw05.ChunkEncodes", spec := "chunkEncodes", unfollowed := true, recurses := true, apart := false, narrowed := true }
def ChunkEncodesUptoSaid : Prop := chunkEncodesUptoRow.holds Try.pinned (OpenSpec.upto chunkEncodesSpec)

/-- 'gaugelaw05.ChunkDecodes', WHERE WHAT IT READS IS OF BULK AT MOST 1048576: true; the input reads as it did. -/
def chunkDecodesUptoRow : OpenClaim := { program := "ytheaebkegncdlaa", sum := "e0a08b27b16a2be114905831d7f14f46af2fdcdfb3ff3058d144dda7fc65fc68", func := "gauge/gaugelaw05.ChunkDecodes", spec := "chunkDecodes", unfollowed := true, recurses := true, apart := false, narrowed := true }
def ChunkDecodesUptoSaid : Prop := chunkDecodesUptoRow.holds Try.pinned (OpenSpec.upto chunkDecodesSpec)

/-- 'gaugelaw05.ChunkAppends', WHERE WHAT IT READS IS OF BULK AT MOST 1048576: true; the input reads as it did. -/
def chunkAppendsUptoRow : OpenClaim := { program := "ytheaebkegncdlaa", sum := "e0a08b27b16a2be114905831d7f14f46af2fdcdfb3ff3058d144dda7fc65fc68", func := "gauge/gaugelaw05.ChunkAppends", spec := "chunkAppends", unfollowed := true, recurses := true, apart := false, narrowed := true }
def ChunkAppendsUptoSaid : Prop := chunkAppendsUptoRow.holds Try.pinned (OpenSpec.upto chunkAppendsSpec)

/-- 'gaugelaw05.ChunkBack', WHERE WHAT IT READS IS OF BULK AT MOST 1048576: true; the input reads as it did. -/
def chunkBackUptoRow : OpenClaim := { program := "ytheaebkegncdlaa", sum := "e0a08b27b16a2be114905831d7f14f46af2fdcdfb3ff3058d144dda7fc65fc68", func := "gauge/gaugelaw05.ChunkBack", spec := "chunkBack", unfollowed := true, recurses := true, apart := false, narrowed := true }
def ChunkBackUptoSaid : Prop := chunkBackUptoRow.holds Try.pinned (OpenSpec.upto chunkBackSpec)

/-- 'gaugelaw05.ChunkOne', WHERE WHAT IT READS IS OF BULK AT MOST 1048576: true; the input reads as it did. -/
def chunkOneUptoRow : OpenClaim := { program := "ytheaebkegncdlaa", sum := "e0a08b27b16a2be114905831d7f14f46af2fdcdfb3ff3058d144dda7fc65fc68", func := "gauge/gaugelaw05.ChunkOne", spec := "chunkOne", unfollowed := true, recurses := true, apart := false, narrowed := true }
def ChunkOneUptoSaid : Prop := chunkOneUptoRow.holds Try.pinned (OpenSpec.upto chunkOneSpec)

/-- 'gaugelaw05.ChunkGrows', WHERE WHAT IT READS IS OF BULK AT MOST 1048576: true; the input reads as it did. -/
def chunkGrowsUptoRow : OpenClaim := { program := "ytheaebkegncdlaa", sum := "e0a08b27b16a2be114905831d7f14f46af2fdcdfb3ff3058d144dda7fc65fc68", func := "gauge/gaugelaw05.ChunkGrows", spec := "chunkGrows", unfollowed := true, recurses := true, apart := false, narrowed := true }
def ChunkGrowsUptoSaid : Prop := chunkGrowsUptoRow.holds Try.pinned (OpenSpec.upto chunkGrowsSpec)

/-- 'gaugelaw05.ChunkSeeks', WHERE WHAT IT READS IS OF BULK AT MOST 1048576: true; the input reads as it did. -/
def chunkSeeksUptoRow : OpenClaim := { program := "ytheaebkegncdlaa", sum := "e0a08b27b16a2be114905831d7f14f46af2fdcdfb3ff3058d144dda7fc65fc68", func := "gauge/gaugelaw05.ChunkSeeks", spec := "chunkSeeks", unfollowed := true, recurses := true, apart := false, narrowed := true }
def ChunkSeeksUptoSaid : Prop := chunkSeeksUptoRow.holds Try.pinned (OpenSpec.upto chunkSeeksSpec)

/-- 'gaugelaw05.ChunkCuts', WHERE WHAT IT READS IS OF BULK AT MOST 1048576: true; the input reads as it did. -/
def chunkCutsUptoRow : OpenClaim := { program := "ytheaebkegncdlaa", sum := "e0a08b27b16a2be114905831d7f14f46af2fdcdfb3ff3058d144dda7fc65fc68", func := "gauge/gaugelaw05.ChunkCuts", spec := "chunkCuts", unfollowed := true, recurses := true, apart := false, narrowed := true }
def ChunkCutsUptoSaid : Prop := chunkCutsUptoRow.holds Try.pinned (OpenSpec.upto chunkCutsSpec)

/-- 'gaugelaw05.ChunkSmall', WHERE WHAT IT READS IS OF BULK AT MOST 1048576: true; the input reads as it did. -/
def chunkSmallUptoRow : OpenClaim := { program := "ytheaebkegncdlaa", sum := "e0a08b27b16a2be114905831d7f14f46af2fdcdfb3ff3058d144dda7fc65fc68", func := "gauge/gaugelaw05.ChunkSmall", spec := "chunkSmall", unfollowed := true, recurses := true, apart := false, narrowed := true }
def ChunkSmallUptoSaid : Prop := chunkSmallUptoRow.holds Try.pinned (OpenSpec.upto chunkSmallSpec)

end Rows
end Go.Proofs.Ytheaebkegncdlaa
