/-
  No cell of these rows narrows 'for every input' (looked for: loops, veiled, ifaces, maps, wideKeys, modest, calm, conditions, laid).
  DERIVED. THE GIVEN ROWS OF THIS SEAT. 8 by the template 'for every input the law returns true; each argument reads behind the call as it read before'; 0 by the template 'total and deterministic' (their statements: YtiepepikbophmaaTotals.lean).
  GIVEN WITH THE SEED: the statements are not yours to turn. If you find one false, say at which input.
  Laid BY PROGRAM, IN A SANDBOX (cutbox-rows.mjs): the forced cells as the released guide's own fill.sh prints them over the translation ba49cc26a59099e1… (all of the seat's roots in one cut). By AI agents, Wed Nov 11 2026. No macro, syntax, notation, axiom, sorry.
-/
import Derived.Test.YtiepepikbophmaaChecked
import GoSem.Claim
import GoSem.ClaimJoined
import GoSem.ClaimMapViews
import Derived.JoinedTies
import Derived.KernelRfl
namespace Go.Proofs.Ytiepepikbophmaa
/- THE CELL 'sum', in the pinned program and in every row, IS THE sha256 OF THE DUMP (.gsa) THAT YtiepepikbophmaaProg.lean LOADS. Nothing in Lean hashes anything: it is a label: what it is worth is what the hold of that sum in a sandbox is worth. -/
noncomputable def Try.pinned : Pinned := { name := "ytiepepikbophmaa", sum := "ba49cc26a59099e1b98b2dc63aceb89ba3e18fb1b99e9cac4aa3ca2cc81488a4", checked := Try.checked }
namespace Rows
def none {H : Type} : Left H := { results := [], args := [] }

/-- 'gaugelaw04.DiskPlays': WHATEVER THE INPUT: true; the input reads as it did. -/
def diskPlaysSpec : ChangeSpec := { name := "diskPlays", fn := fun _ => fun
  | [d1, d2] => { results := [.lit (.bool true)], args := [d1, d2] }
  | _ => none }
def diskPlaysRow : OpenClaim := { program := "ytiepepikbophmaa", sum := "ba49cc26a59099e1b98b2dc63aceb89ba3e18fb1b99e9cac4aa3ca2cc81488a4", func := "gauge/gaugelaw04.DiskPlays", spec := "diskPlays", inPlace := ["maps.clone"], unfollowed := true, recurses := true, apart := false }
def DiskPlaysSaid : Prop := diskPlaysRow.holds Try.pinned (OpenSpec.ofChange diskPlaysSpec)

/-- ITS FALSE NEIGHBOUR: 'it returns false'. Refute it at one input. -/
def diskPlaysWrong : ChangeSpec := { name := "diskPlays", fn := fun _ => fun
  | [d1, d2] => { results := [.lit (.bool false)], args := [d1, d2] }
  | _ => none }
def DiskPlaysWrongFalsely : Prop := diskPlaysRow.holds Try.pinned (OpenSpec.ofChange diskPlaysWrong)

/-- 'gaugelaw04.DiskCopies': WHATEVER THE INPUT: true; the input reads as it did. -/
def diskCopiesSpec : ChangeSpec := { name := "diskCopies", fn := fun _ => fun
  | [d1, d2, d3] => { results := [.lit (.bool true)], args := [d1, d2, d3] }
  | _ => none }
def diskCopiesRow : OpenClaim := { program := "ytiepepikbophmaa", sum := "ba49cc26a59099e1b98b2dc63aceb89ba3e18fb1b99e9cac4aa3ca2cc81488a4", func := "gauge/gaugelaw04.DiskCopies", spec := "diskCopies", inPlace := ["maps.clone"], unfollowed := true, recurses := true, apart := false }
def DiskCopiesSaid : Prop := diskCopiesRow.holds Try.pinned (OpenSpec.ofChange diskCopiesSpec)

/-- ITS FALSE NEIGHBOUR: 'it returns false'. Refute it at one input. -/
def diskCopiesWrong : ChangeSpec := { name := "diskCopies", fn := fun _ => fun
  | [d1, d2, d3] => { results := [.lit (.bool false)], args := [d1, d2, d3] }
  | _ => none }
def DiskCopiesWrongFalsely : Prop := diskCopiesRow.holds Try.pinned (OpenSpec.ofChange diskCopiesWrong)

/-- 'gaugelaw09.PostingChecks': WHATEVER THE INPUT: true; the input reads as it did. -/
def postingChecksSpec : ChangeSpec := { name := "postingChecks", fn := fun _ => fun
  | [d] => { results := [.lit (.bool true)], args := [d] }
  | _ => none }
def postingChecksRow : OpenClaim := { program := "ytiepepikbophmaa", sum := "ba49cc26a59099e1b98b2dc63aceb89ba3e18fb1b99e9cac4aa3ca2cc81488a4", func := "gauge/gaugelaw09.PostingChecks", spec := "postingChecks", unfollowed := true, recurses := true, apart := false }
def PostingChecksSaid : Prop := postingChecksRow.holds Try.pinned (OpenSpec.ofChange postingChecksSpec)

/-- ITS FALSE NEIGHBOUR: 'it returns false'. Refute it at one input. -/
def postingChecksWrong : ChangeSpec := { name := "postingChecks", fn := fun _ => fun
  | [d] => { results := [.lit (.bool false)], args := [d] }
  | _ => none }
def PostingChecksWrongFalsely : Prop := postingChecksRow.holds Try.pinned (OpenSpec.ofChange postingChecksWrong)

/-- 'gaugelaw09.PostingSets': WHATEVER THE INPUT: true; the input reads as it did. -/
def postingSetsSpec : ChangeSpec := { name := "postingSets", fn := fun _ => fun
  | [d1, d2] => { results := [.lit (.bool true)], args := [d1, d2] }
  | _ => none }
def postingSetsRow : OpenClaim := { program := "ytiepepikbophmaa", sum := "ba49cc26a59099e1b98b2dc63aceb89ba3e18fb1b99e9cac4aa3ca2cc81488a4", func := "gauge/gaugelaw09.PostingSets", spec := "postingSets", unfollowed := true, recurses := true, apart := false }
def PostingSetsSaid : Prop := postingSetsRow.holds Try.pinned (OpenSpec.ofChange postingSetsSpec)

/-- ITS FALSE NEIGHBOUR: 'it returns false'. Refute it at one input. -/
def postingSetsWrong : ChangeSpec := { name := "postingSets", fn := fun _ => fun
  | [d1, d2] => { results := [.lit (.bool false)], args := [d1, d2] }
  | _ => none }
def PostingSetsWrongFalsely : Prop := postingSetsRow.holds Try.pinned (OpenSpec.ofChange postingSetsWrong)

/-- 'gaugelaw09.PostingBytes': WHATEVER THE INPUT: true; the input reads as it did. -/
def postingBytesSpec : ChangeSpec := { name := "postingBytes", fn := fun _ => fun
  | [d1, d2, d3] => { results := [.lit (.bool true)], args := [d1, d2, d3] }
  | _ => none }
def postingBytesRow : OpenClaim := { program := "ytiepepikbophmaa", sum := "ba49cc26a59099e1b98b2dc63aceb89ba3e18fb1b99e9cac4aa3ca2cc81488a4", func := "gauge/gaugelaw09.PostingBytes", spec := "postingBytes", unfollowed := true, recurses := true, apart := false }
def PostingBytesSaid : Prop := postingBytesRow.holds Try.pinned (OpenSpec.ofChange postingBytesSpec)

/-- ITS FALSE NEIGHBOUR: 'it returns false'. Refute it at one input. -/
def postingBytesWrong : ChangeSpec := { name := "postingBytes", fn := fun _ => fun
  | [d1, d2, d3] => { results := [.lit (.bool false)], args := [d1, d2, d3] }
  | _ => none }
def PostingBytesWrongFalsely : Prop := postingBytesRow.holds Try.pinned (OpenSpec.ofChange postingBytesWrong)

/-- 'gaugelaw09.PostingLaws': WHATEVER THE INPUT: true; the input reads as it did. -/
def postingLawsSpec : ChangeSpec := { name := "postingLaws", fn := fun _ => fun
  | [d1, d2, d3] => { results := [.lit (.bool true)], args := [d1, d2, d3] }
  | _ => none }
def postingLawsRow : OpenClaim := { program := "ytiepepikbophmaa", sum := "ba49cc26a59099e1b98b2dc63aceb89ba3e18fb1b99e9cac4aa3ca2cc81488a4", func := "gauge/gaugelaw09.PostingLaws", spec := "postingLaws", unfollowed := true, recurses := true, apart := false }
def PostingLawsSaid : Prop := postingLawsRow.holds Try.pinned (OpenSpec.ofChange postingLawsSpec)

/-- ITS FALSE NEIGHBOUR: 'it returns false'. Refute it at one input. -/
def postingLawsWrong : ChangeSpec := { name := "postingLaws", fn := fun _ => fun
  | [d1, d2, d3] => { results := [.lit (.bool false)], args := [d1, d2, d3] }
  | _ => none }
def PostingLawsWrongFalsely : Prop := postingLawsRow.holds Try.pinned (OpenSpec.ofChange postingLawsWrong)

/-- 'gaugelaw09.PostingBack': WHATEVER THE INPUT: true; the input reads as it did. -/
def postingBackSpec : ChangeSpec := { name := "postingBack", fn := fun _ => fun
  | [d1, d2, d3] => { results := [.lit (.bool true)], args := [d1, d2, d3] }
  | _ => none }
def postingBackRow : OpenClaim := { program := "ytiepepikbophmaa", sum := "ba49cc26a59099e1b98b2dc63aceb89ba3e18fb1b99e9cac4aa3ca2cc81488a4", func := "gauge/gaugelaw09.PostingBack", spec := "postingBack", unfollowed := true, recurses := true, apart := false }
def PostingBackSaid : Prop := postingBackRow.holds Try.pinned (OpenSpec.ofChange postingBackSpec)

/-- ITS FALSE NEIGHBOUR: 'it returns false'. Refute it at one input. -/
def postingBackWrong : ChangeSpec := { name := "postingBack", fn := fun _ => fun
  | [d1, d2, d3] => { results := [.lit (.bool false)], args := [d1, d2, d3] }
  | _ => none }
def PostingBackWrongFalsely : Prop := postingBackRow.holds Try.pinned (OpenSpec.ofChange postingBackWrong)

/-- 'gaugelaw09.PostingOne': WHATEVER THE INPUT: true; the input reads as it did. -/
def postingOneSpec : ChangeSpec := { name := "postingOne", fn := fun _ => fun
  | [d] => { results := [.lit (.bool true)], args := [d] }
  | _ => none }
def postingOneRow : OpenClaim := { program := "ytiepepikbophmaa", sum := "ba49cc26a59099e1b98b2dc63aceb89ba3e18fb1b99e9cac4aa3ca2cc81488a4", func := "gauge/gaugelaw09.PostingOne", spec := "postingOne", unfollowed := true, recurses := true, apart := false }
def PostingOneSaid : Prop := postingOneRow.holds Try.pinned (OpenSpec.ofChange postingOneSpec)

/-- ITS FALSE NEIGHBOUR: 'it returns false'. Refute it at one input. -/
def postingOneWrong : ChangeSpec := { name := "postingOne", fn := fun _ => fun
  | [d] => { results := [.lit (.bool false)], args := [d] }
  | _ => none }
def PostingOneWrongFalsely : Prop := postingOneRow.holds Try.pinned (OpenSpec.ofChange postingOneWrong)

/- THE SECOND FORM. 'bulk': how many values and letters a reading holds, each counted each time it is reached (what is shared counts as often as it is met; a slice's spare places count too). A statement '..UptoSaid' is the law's where the arguments, and the package variables that the reading takes, are together of bulk at most 1048576: NARROWER than '..Said'. Prove '..Said' where nothing that the law and all that it calls make is longer than what came in: it says more and counts as full. Else prove '..UptoSaid'. A law counts once. -/
mutual
def uptoBulk {H : Type} : DataW H → Nat
  | .lit (.string bytes) => bytes.length + 1
  | .lit _ => 1
  | .nil => 1
  | .ptr d => uptoBulk d + 1
  | .slice elems spare => uptoBulkAll elems + uptoBulkAll spare + 1
  | .agg parts => uptoBulkAll parts + 1
  | .iface _ d => uptoBulk d + 1
  | .map entries => uptoBulkEntries entries + 1
  | .held _ => 1
def uptoBulkAll {H : Type} : List (DataW H) → Nat
  | [] => 0
  | d :: r => uptoBulk d + uptoBulkAll r
def uptoBulkEntries {H : Type} : List (Lit × DataW H) → Nat
  | [] => 0
  | x :: r => uptoBulkEntry x + uptoBulkEntries r
def uptoBulkEntry {H : Type} : Lit × DataW H → Nat
  | (.string bytes, d) => bytes.length + uptoBulk d + 1
  | (_, d) => uptoBulk d + 1
 end
def uptoSmall : (H : Type) → List (DataW H) → Bool := fun _ ds => decide (uptoBulkAll ds ≤ 1048576)
def OpenSpec.upto (s : _root_.Go.ChangeSpec) : _root_.Go.OpenSpec := { _root_.Go.OpenSpec.ofChange s with cond := some uptoSmall }

/-- 'gaugelaw04.DiskPlays', WHERE WHAT IT READS IS OF BULK AT MOST 1048576: true; the input reads as it did. -/
def diskPlaysUptoRow : OpenClaim := { program := "ytiepepikbophmaa", sum := "ba49cc26a59099e1b98b2dc63aceb89ba3e18fb1b99e9cac4aa3ca2cc81488a4", func := "gauge/gaugelaw04.DiskPlays", spec := "diskPlays", inPlace := ["maps.clone"], unfollowed := true, recurses := true, apart := false, narrowed := true }
def DiskPlaysUptoSaid : Prop := diskPlaysUptoRow.holds Try.pinned (OpenSpec.upto diskPlaysSpec)

/-- 'gaugelaw04.DiskCopies', WHERE WHAT IT READS IS OF BULK AT MOST 1048576: true; the input reads as it did. -/
def diskCopiesUptoRow : OpenClaim := { program := "ytiepepikbophmaa", sum := "ba49cc26a59099e1b98b2dc63aceb89ba3e18fb1b99e9cac4aa3ca2cc81488a4", func := "gauge/gaugelaw04.DiskCopies", spec := "diskCopies", inPlace := ["maps.clone"], unfollowed := true, recurses := true, apart := false, narrowed := true }
def DiskCopiesUptoSaid : Prop := diskCopiesUptoRow.holds Try.pinned (OpenSpec.upto diskCopiesSpec)

/-- 'gaugelaw09.PostingChecks', WHERE WHAT IT READS IS OF BULK AT MOST 1048576: true; the input reads as it did. -/
def postingChecksUptoRow : OpenClaim := { program := "ytiepepikbophmaa", sum := "ba49cc26a59099e1b98b2dc63aceb89ba3e18fb1b99e9cac4aa3ca2cc81488a4", func := "gauge/gaugelaw09.PostingChecks", spec := "postingChecks", unfollowed := true, recurses := true, apart := false, narrowed := true }
def PostingChecksUptoSaid : Prop := postingChecksUptoRow.holds Try.pinned (OpenSpec.upto postingChecksSpec)

/-- 'gaugelaw09.PostingSets', WHERE WHAT IT READS IS OF BULK AT MOST 1048576: true; the input reads as it did. -/
def postingSetsUptoRow : OpenClaim := { program := "ytiepepikbophmaa", sum := "ba49cc26a59099e1b98b2dc63aceb89ba3e18fb1b99e9cac4aa3ca2cc81488a4", func := "gauge/gaugelaw09.PostingSets", spec := "postingSets", unfollowed := true, recurses := true, apart := false, narrowed := true }
def PostingSetsUptoSaid : Prop := postingSetsUptoRow.holds Try.pinned (OpenSpec.upto postingSetsSpec)

/-- 'gaugelaw09.PostingBytes', WHERE WHAT IT READS IS OF BULK AT MOST 1048576: true; the input reads as it did. -/
def postingBytesUptoRow : OpenClaim := { program := "ytiepepikbophmaa", sum := "ba49cc26a59099e1b98b2dc63aceb89ba3e18fb1b99e9cac4aa3ca2cc81488a4", func := "gauge/gaugelaw09.PostingBytes", spec := "postingBytes", unfollowed := true, recurses := true, apart := false, narrowed := true }
def PostingBytesUptoSaid : Prop := postingBytesUptoRow.holds Try.pinned (OpenSpec.upto postingBytesSpec)

/-- 'gaugelaw09.PostingLaws', WHERE WHAT IT READS IS OF BULK AT MOST 1048576: true; the input reads as it did. -/
def postingLawsUptoRow : OpenClaim := { program := "ytiepepikbophmaa", sum := "ba49cc26a59099e1b98b2dc63aceb89ba3e18fb1b99e9cac4aa3ca2cc81488a4", func := "gauge/gaugelaw09.PostingLaws", spec := "postingLaws", unfollowed := true, recurses := true, apart := false, narrowed := true }
def PostingLawsUptoSaid : Prop := postingLawsUptoRow.holds Try.pinned (OpenSpec.upto postingLawsSpec)

/-- 'gaugelaw09.PostingBack', WHERE WHAT IT READS IS OF BULK AT MOST 1048576: true; the input reads as it did. -/
def postingBackUptoRow : OpenClaim := { program := "ytiepepikbophmaa", sum := "ba49cc26a59099e1b98b2dc63aceb89ba3e18fb1b99e9cac4aa3ca2cc81488a4", func := "gauge/gaugelaw09.PostingBack", spec := "postingBack", unfollowed := true, recurses := true, apart := false, narrowed := true }
def PostingBackUptoSaid : Prop := postingBackUptoRow.holds Try.pinned (OpenSpec.upto postingBackSpec)

/-- 'gaugelaw09.PostingOne', WHERE WHAT IT READS IS OF BULK AT MOST 1048576: true; the input reads as it did. -/
def postingOneUptoRow : OpenClaim := { program := "ytiepepikbophmaa", sum := "ba49cc26a59099e1b98b2dc63aceb89ba3e18fb1b99e9cac4aa3ca2cc81488a4", func := "gauge/gaugelaw09.PostingOne", spec := "postingOne", unfollowed := true, recurses := true, apart := false, narrowed := true }
def PostingOneUptoSaid : Prop := postingOneUptoRow.holds Try.pinned (OpenSpec.upto postingOneSpec)

end Rows
end Go.Proofs.Ytiepepikbophmaa
