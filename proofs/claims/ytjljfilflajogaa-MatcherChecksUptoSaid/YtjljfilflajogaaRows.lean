/-
  No cell of these rows narrows 'for every input' (looked for: loops, veiled, ifaces, maps, wideKeys, modest, calm, conditions, laid).
  DERIVED. THE GIVEN ROWS OF THIS SEAT. 13 by the template 'for every input the law returns true; each argument reads behind the call as it read before'; 0 by the template 'total and deterministic' (their statements: YtjljfilflajogaaTotals.lean).
  GIVEN WITH THE SEED: the statements are not yours to turn. If you find one false, say at which input.
  Laid BY PROGRAM, IN A SANDBOX (cutbox-rows.mjs): the forced cells as the released guide's own fill.sh prints them over the translation 4939a82e8ac1a7f5… (all of the seat's roots in one cut). By AI agents, Wed Nov 11 2026. No macro, syntax, notation, axiom, sorry.
-/
import Derived.Test.YtjljfilflajogaaChecked
import GoSem.Claim
import GoSem.ClaimJoined
import GoSem.ClaimMapViews
import Derived.JoinedTies
import Derived.KernelRfl
namespace Go.Proofs.Ytjljfilflajogaa
/- THE CELL 'sum', in the pinned program and in every row, IS THE sha256 OF THE DUMP (.gsa) THAT YtjljfilflajogaaProg.lean LOADS. Nothing in Lean hashes anything: it is a label: what it is worth is what the hold of that sum in a sandbox is worth. -/
noncomputable def Try.pinned : Pinned := { name := "ytjljfilflajogaa", sum := "4939a82e8ac1a7f55e87b4dfcf33a75af9d4f4cc1de5f9980d55d00db62ebda4", checked := Try.checked }
namespace Rows
def none {H : Type} : Left H := { results := [], args := [] }

/-- 'gaugelaw07.RegexChecks': WHATEVER THE INPUT: true; the input reads as it did. -/
def regexChecksSpec : ChangeSpec := { name := "regexChecks", fn := fun _ => fun
  | [d] => { results := [.lit (.bool true)], args := [d] }
  | _ => none }
def regexChecksRow : OpenClaim := { program := "ytjljfilflajogaa", sum := "4939a82e8ac1a7f55e87b4dfcf33a75af9d4f4cc1de5f9980d55d00db62ebda4", func := "gauge/gaugelaw07.RegexChecks", spec := "regexChecks", inPlace := ["internal/bytealg.IndexByteString"], unfollowed := true, recurses := true, apart := false }
def RegexChecksSaid : Prop := regexChecksRow.holds Try.pinned (OpenSpec.ofChange regexChecksSpec)

/-- ITS FALSE NEIGHBOUR: 'it returns false'. Refute it at one input. -/
def regexChecksWrong : ChangeSpec := { name := "regexChecks", fn := fun _ => fun
  | [d] => { results := [.lit (.bool false)], args := [d] }
  | _ => none }
def RegexChecksWrongFalsely : Prop := regexChecksRow.holds Try.pinned (OpenSpec.ofChange regexChecksWrong)

/-- 'gaugelaw07.RegexFits': WHATEVER THE INPUT: true; the input reads as it did. -/
def regexFitsSpec : ChangeSpec := { name := "regexFits", fn := fun _ => fun
  | [d1, d2] => { results := [.lit (.bool true)], args := [d1, d2] }
  | _ => none }
def regexFitsRow : OpenClaim := { program := "ytjljfilflajogaa", sum := "4939a82e8ac1a7f55e87b4dfcf33a75af9d4f4cc1de5f9980d55d00db62ebda4", func := "gauge/gaugelaw07.RegexFits", spec := "regexFits", inPlace := ["internal/bytealg.IndexByteString"], unfollowed := true, recurses := true, apart := false }
def RegexFitsSaid : Prop := regexFitsRow.holds Try.pinned (OpenSpec.ofChange regexFitsSpec)

/-- ITS FALSE NEIGHBOUR: 'it returns false'. Refute it at one input. -/
def regexFitsWrong : ChangeSpec := { name := "regexFits", fn := fun _ => fun
  | [d1, d2] => { results := [.lit (.bool false)], args := [d1, d2] }
  | _ => none }
def RegexFitsWrongFalsely : Prop := regexFitsRow.holds Try.pinned (OpenSpec.ofChange regexFitsWrong)

/-- 'gaugelaw07.RegexQuoted': WHATEVER THE INPUT: true; the input reads as it did. -/
def regexQuotedSpec : ChangeSpec := { name := "regexQuoted", fn := fun _ => fun
  | [d1, d2] => { results := [.lit (.bool true)], args := [d1, d2] }
  | _ => none }
def regexQuotedRow : OpenClaim := { program := "ytjljfilflajogaa", sum := "4939a82e8ac1a7f55e87b4dfcf33a75af9d4f4cc1de5f9980d55d00db62ebda4", func := "gauge/gaugelaw07.RegexQuoted", spec := "regexQuoted", inPlace := ["internal/bytealg.IndexByteString"], unfollowed := true, recurses := true, apart := false }
def RegexQuotedSaid : Prop := regexQuotedRow.holds Try.pinned (OpenSpec.ofChange regexQuotedSpec)

/-- ITS FALSE NEIGHBOUR: 'it returns false'. Refute it at one input. -/
def regexQuotedWrong : ChangeSpec := { name := "regexQuoted", fn := fun _ => fun
  | [d1, d2] => { results := [.lit (.bool false)], args := [d1, d2] }
  | _ => none }
def RegexQuotedWrongFalsely : Prop := regexQuotedRow.holds Try.pinned (OpenSpec.ofChange regexQuotedWrong)

/-- 'gaugelaw07.RegexOr': WHATEVER THE INPUT: true; the input reads as it did. -/
def regexOrSpec : ChangeSpec := { name := "regexOr", fn := fun _ => fun
  | [d1, d2, d3] => { results := [.lit (.bool true)], args := [d1, d2, d3] }
  | _ => none }
def regexOrRow : OpenClaim := { program := "ytjljfilflajogaa", sum := "4939a82e8ac1a7f55e87b4dfcf33a75af9d4f4cc1de5f9980d55d00db62ebda4", func := "gauge/gaugelaw07.RegexOr", spec := "regexOr", inPlace := ["internal/bytealg.IndexByteString"], unfollowed := true, recurses := true, apart := false }
def RegexOrSaid : Prop := regexOrRow.holds Try.pinned (OpenSpec.ofChange regexOrSpec)

/-- ITS FALSE NEIGHBOUR: 'it returns false'. Refute it at one input. -/
def regexOrWrong : ChangeSpec := { name := "regexOr", fn := fun _ => fun
  | [d1, d2, d3] => { results := [.lit (.bool false)], args := [d1, d2, d3] }
  | _ => none }
def RegexOrWrongFalsely : Prop := regexOrRow.holds Try.pinned (OpenSpec.ofChange regexOrWrong)

/-- 'gaugelaw07.RegexThen': WHATEVER THE INPUT: true; the input reads as it did. -/
def regexThenSpec : ChangeSpec := { name := "regexThen", fn := fun _ => fun
  | [d1, d2, d3] => { results := [.lit (.bool true)], args := [d1, d2, d3] }
  | _ => none }
def regexThenRow : OpenClaim := { program := "ytjljfilflajogaa", sum := "4939a82e8ac1a7f55e87b4dfcf33a75af9d4f4cc1de5f9980d55d00db62ebda4", func := "gauge/gaugelaw07.RegexThen", spec := "regexThen", inPlace := ["internal/bytealg.IndexByteString"], unfollowed := true, recurses := true, apart := false }
def RegexThenSaid : Prop := regexThenRow.holds Try.pinned (OpenSpec.ofChange regexThenSpec)

/-- ITS FALSE NEIGHBOUR: 'it returns false'. Refute it at one input. -/
def regexThenWrong : ChangeSpec := { name := "regexThen", fn := fun _ => fun
  | [d1, d2, d3] => { results := [.lit (.bool false)], args := [d1, d2, d3] }
  | _ => none }
def RegexThenWrongFalsely : Prop := regexThenRow.holds Try.pinned (OpenSpec.ofChange regexThenWrong)

/-- 'gaugelaw07.RegexAgain': WHATEVER THE INPUT: true; the input reads as it did. -/
def regexAgainSpec : ChangeSpec := { name := "regexAgain", fn := fun _ => fun
  | [d1, d2] => { results := [.lit (.bool true)], args := [d1, d2] }
  | _ => none }
def regexAgainRow : OpenClaim := { program := "ytjljfilflajogaa", sum := "4939a82e8ac1a7f55e87b4dfcf33a75af9d4f4cc1de5f9980d55d00db62ebda4", func := "gauge/gaugelaw07.RegexAgain", spec := "regexAgain", inPlace := ["internal/bytealg.IndexByteString"], unfollowed := true, recurses := true, apart := false }
def RegexAgainSaid : Prop := regexAgainRow.holds Try.pinned (OpenSpec.ofChange regexAgainSpec)

/-- ITS FALSE NEIGHBOUR: 'it returns false'. Refute it at one input. -/
def regexAgainWrong : ChangeSpec := { name := "regexAgain", fn := fun _ => fun
  | [d1, d2] => { results := [.lit (.bool false)], args := [d1, d2] }
  | _ => none }
def RegexAgainWrongFalsely : Prop := regexAgainRow.holds Try.pinned (OpenSpec.ofChange regexAgainWrong)

/-- 'gaugelaw07.RegexClass': WHATEVER THE INPUT: true; the input reads as it did. -/
def regexClassSpec : ChangeSpec := { name := "regexClass", fn := fun _ => fun
  | [d1, d2, d3] => { results := [.lit (.bool true)], args := [d1, d2, d3] }
  | _ => none }
def regexClassRow : OpenClaim := { program := "ytjljfilflajogaa", sum := "4939a82e8ac1a7f55e87b4dfcf33a75af9d4f4cc1de5f9980d55d00db62ebda4", func := "gauge/gaugelaw07.RegexClass", spec := "regexClass", inPlace := ["internal/bytealg.IndexByteString"], unfollowed := true, recurses := true, apart := false }
def RegexClassSaid : Prop := regexClassRow.holds Try.pinned (OpenSpec.ofChange regexClassSpec)

/-- ITS FALSE NEIGHBOUR: 'it returns false'. Refute it at one input. -/
def regexClassWrong : ChangeSpec := { name := "regexClass", fn := fun _ => fun
  | [d1, d2, d3] => { results := [.lit (.bool false)], args := [d1, d2, d3] }
  | _ => none }
def RegexClassWrongFalsely : Prop := regexClassRow.holds Try.pinned (OpenSpec.ofChange regexClassWrong)

/-- 'gaugelaw08.MatcherChecks': WHATEVER THE INPUT: true; the input reads as it did. -/
def matcherChecksSpec : ChangeSpec := { name := "matcherChecks", fn := fun _ => fun
  | [d] => { results := [.lit (.bool true)], args := [d] }
  | _ => none }
def matcherChecksRow : OpenClaim := { program := "ytjljfilflajogaa", sum := "4939a82e8ac1a7f55e87b4dfcf33a75af9d4f4cc1de5f9980d55d00db62ebda4", func := "gauge/gaugelaw08.MatcherChecks", spec := "matcherChecks", inPlace := ["internal/bytealg.IndexByteString"], unfollowed := true, recurses := true, apart := false }
def MatcherChecksSaid : Prop := matcherChecksRow.holds Try.pinned (OpenSpec.ofChange matcherChecksSpec)

/-- ITS FALSE NEIGHBOUR: 'it returns false'. Refute it at one input. -/
def matcherChecksWrong : ChangeSpec := { name := "matcherChecks", fn := fun _ => fun
  | [d] => { results := [.lit (.bool false)], args := [d] }
  | _ => none }
def MatcherChecksWrongFalsely : Prop := matcherChecksRow.holds Try.pinned (OpenSpec.ofChange matcherChecksWrong)

/-- 'gaugelaw08.MatcherFits': WHATEVER THE INPUT: true; the input reads as it did. -/
def matcherFitsSpec : ChangeSpec := { name := "matcherFits", fn := fun _ => fun
  | [d1, d2] => { results := [.lit (.bool true)], args := [d1, d2] }
  | _ => none }
def matcherFitsRow : OpenClaim := { program := "ytjljfilflajogaa", sum := "4939a82e8ac1a7f55e87b4dfcf33a75af9d4f4cc1de5f9980d55d00db62ebda4", func := "gauge/gaugelaw08.MatcherFits", spec := "matcherFits", inPlace := ["internal/bytealg.IndexByteString"], unfollowed := true, recurses := true, apart := false }
def MatcherFitsSaid : Prop := matcherFitsRow.holds Try.pinned (OpenSpec.ofChange matcherFitsSpec)

/-- ITS FALSE NEIGHBOUR: 'it returns false'. Refute it at one input. -/
def matcherFitsWrong : ChangeSpec := { name := "matcherFits", fn := fun _ => fun
  | [d1, d2] => { results := [.lit (.bool false)], args := [d1, d2] }
  | _ => none }
def MatcherFitsWrongFalsely : Prop := matcherFitsRow.holds Try.pinned (OpenSpec.ofChange matcherFitsWrong)

/-- 'gaugelaw08.MatcherLists': WHATEVER THE INPUT: true; the input reads as it did. -/
def matcherListsSpec : ChangeSpec := { name := "matcherLists", fn := fun _ => fun
  | [d1, d2] => { results := [.lit (.bool true)], args := [d1, d2] }
  | _ => none }
def matcherListsRow : OpenClaim := { program := "ytjljfilflajogaa", sum := "4939a82e8ac1a7f55e87b4dfcf33a75af9d4f4cc1de5f9980d55d00db62ebda4", func := "gauge/gaugelaw08.MatcherLists", spec := "matcherLists", inPlace := ["internal/bytealg.IndexByteString"], unfollowed := true, recurses := true, apart := false }
def MatcherListsSaid : Prop := matcherListsRow.holds Try.pinned (OpenSpec.ofChange matcherListsSpec)

/-- ITS FALSE NEIGHBOUR: 'it returns false'. Refute it at one input. -/
def matcherListsWrong : ChangeSpec := { name := "matcherLists", fn := fun _ => fun
  | [d1, d2] => { results := [.lit (.bool false)], args := [d1, d2] }
  | _ => none }
def MatcherListsWrongFalsely : Prop := matcherListsRow.holds Try.pinned (OpenSpec.ofChange matcherListsWrong)

/-- 'gaugelaw08.MatcherOpposites': WHATEVER THE INPUT: true; the input reads as it did. -/
def matcherOppositesSpec : ChangeSpec := { name := "matcherOpposites", fn := fun _ => fun
  | [d1, d2, d3, d4] => { results := [.lit (.bool true)], args := [d1, d2, d3, d4] }
  | _ => none }
def matcherOppositesRow : OpenClaim := { program := "ytjljfilflajogaa", sum := "4939a82e8ac1a7f55e87b4dfcf33a75af9d4f4cc1de5f9980d55d00db62ebda4", func := "gauge/gaugelaw08.MatcherOpposites", spec := "matcherOpposites", inPlace := ["internal/bytealg.IndexByteString"], unfollowed := true, recurses := true, apart := false }
def MatcherOppositesSaid : Prop := matcherOppositesRow.holds Try.pinned (OpenSpec.ofChange matcherOppositesSpec)

/-- ITS FALSE NEIGHBOUR: 'it returns false'. Refute it at one input. -/
def matcherOppositesWrong : ChangeSpec := { name := "matcherOpposites", fn := fun _ => fun
  | [d1, d2, d3, d4] => { results := [.lit (.bool false)], args := [d1, d2, d3, d4] }
  | _ => none }
def MatcherOppositesWrongFalsely : Prop := matcherOppositesRow.holds Try.pinned (OpenSpec.ofChange matcherOppositesWrong)

/-- 'gaugelaw08.MatcherPlain': WHATEVER THE INPUT: true; the input reads as it did. -/
def matcherPlainSpec : ChangeSpec := { name := "matcherPlain", fn := fun _ => fun
  | [d1, d2, d3] => { results := [.lit (.bool true)], args := [d1, d2, d3] }
  | _ => none }
def matcherPlainRow : OpenClaim := { program := "ytjljfilflajogaa", sum := "4939a82e8ac1a7f55e87b4dfcf33a75af9d4f4cc1de5f9980d55d00db62ebda4", func := "gauge/gaugelaw08.MatcherPlain", spec := "matcherPlain", inPlace := ["internal/bytealg.IndexByteString"], unfollowed := true, recurses := true, apart := false }
def MatcherPlainSaid : Prop := matcherPlainRow.holds Try.pinned (OpenSpec.ofChange matcherPlainSpec)

/-- ITS FALSE NEIGHBOUR: 'it returns false'. Refute it at one input. -/
def matcherPlainWrong : ChangeSpec := { name := "matcherPlain", fn := fun _ => fun
  | [d1, d2, d3] => { results := [.lit (.bool false)], args := [d1, d2, d3] }
  | _ => none }
def MatcherPlainWrongFalsely : Prop := matcherPlainRow.holds Try.pinned (OpenSpec.ofChange matcherPlainWrong)

/-- 'gaugelaw08.MatcherMore': WHATEVER THE INPUT: true; the input reads as it did. -/
def matcherMoreSpec : ChangeSpec := { name := "matcherMore", fn := fun _ => fun
  | [d1, d2, d3] => { results := [.lit (.bool true)], args := [d1, d2, d3] }
  | _ => none }
def matcherMoreRow : OpenClaim := { program := "ytjljfilflajogaa", sum := "4939a82e8ac1a7f55e87b4dfcf33a75af9d4f4cc1de5f9980d55d00db62ebda4", func := "gauge/gaugelaw08.MatcherMore", spec := "matcherMore", inPlace := ["internal/bytealg.IndexByteString"], unfollowed := true, recurses := true, apart := false }
def MatcherMoreSaid : Prop := matcherMoreRow.holds Try.pinned (OpenSpec.ofChange matcherMoreSpec)

/-- ITS FALSE NEIGHBOUR: 'it returns false'. Refute it at one input. -/
def matcherMoreWrong : ChangeSpec := { name := "matcherMore", fn := fun _ => fun
  | [d1, d2, d3] => { results := [.lit (.bool false)], args := [d1, d2, d3] }
  | _ => none }
def MatcherMoreWrongFalsely : Prop := matcherMoreRow.holds Try.pinned (OpenSpec.ofChange matcherMoreWrong)

/- THE SECOND FORM. 'bulk': how many values and letters a reading holds, each counted each time it is reached (what is shared counts as often as it is met; a slice's spare places count too). A statement '..UptoSaid' is the law's where the arguments, and the package variables that the reading takes, are together of bulk at most 1048576: NARROWER than '..Said'. Prove '..Said' where nothing that the law and all that it calls make is longer than what came in: it says more and counts as full. Else prove '..UptoSaid'. A law counts once. -/
mutual
def uptoBulk {H : Type} : DataW H → Nat
  | .lit (.string bytes) => bytes.length + 1
  | .lit _ => 1
  | .nil => 1
  | .ptr d => uptoBulk d + 1
  | .slice elems spare => uptoBulkAll elems + uptoBulkAll spare + 1
  | .agg parts => uptoBulkAll parts + 1
  | .iface _ d => uptoBulk d + 1
  | .map entries => uptoBulkEntries entries + 1
  | .held _ => 1
def uptoBulkAll {H : Type} : List (DataW H) → Nat
  | [] => 0
  | d :: r => uptoBulk d + uptoBulkAll r
def uptoBulkEntries {H : Type} : List (Lit × DataW H) → Nat
  | [] => 0
  | x :: r => uptoBulkEntry x + uptoBulkEntries r
def uptoBulkEntry {H : Type} : Lit × DataW H → Nat
  | (.string bytes, d) => bytes.length + uptoBulk d + 1
  | (_, d) => uptoBulk d + 1
 end
def uptoSmall : (H : Type) → List (DataW H) → Bool := fun _ ds => decide (uptoBulkAll ds ≤ 1048576)
def OpenSpec.upto (s : _root_.Go.ChangeSpec) : _root_.Go.OpenSpec := { _root_.Go.OpenSpec.ofChange s with cond := some uptoSmall }

/-- 'gaugelaw07.RegexChecks', WHERE WHAT IT READS IS OF BULK AT MOST 1048576: true; the input reads as it did. -/
def regexChecksUptoRow : OpenClaim := { program := "ytjljfilflajogaa", sum := "4939a82e8ac1a7f55e87b4dfcf33a75af9d4f4cc1de5f9980d55d00db62ebda4", func := "gauge/gaugelaw07.RegexChecks", spec := "regexChecks", inPlace := ["internal/bytealg.IndexByteString"], unfollowed := true, recurses := true, apart := false, narrowed := true }
def RegexChecksUptoSaid : Prop := regexChecksUptoRow.holds Try.pinned (OpenSpec.upto regexChecksSpec)

/-- 'gaugelaw07.RegexFits', WHERE WHAT IT READS IS OF BULK AT MOST 1048576: true; the input reads as it did. -/
def regexFitsUptoRow : OpenClaim := { program := "ytjljfilflajogaa", sum := "4939a82e8ac1a7f55e87b4dfcf33a75af9d4f4cc1de5f9980d55d00db62ebda4", func := "gauge/gaugelaw07.RegexFits", spec := "regexFits", inPlace := ["internal/bytealg.IndexByteString"], unfollowed := true, recurses := true, apart := false, narrowed := true }
def RegexFitsUptoSaid : Prop := regexFitsUptoRow.holds Try.pinned (OpenSpec.upto regexFitsSpec)

/-- 'gaugelaw07.RegexQuoted', WHERE WHAT IT READS IS OF BULK AT MOST 1048576: true; the input reads as it did. -/
def regexQuotedUptoRow : OpenClaim := { program := "ytjljfilflajogaa", sum := "4939a82e8ac1a7f55e87b4dfcf33a75af9d4f4cc1de5f9980d55d00db62ebda4", func := "gauge/gaugelaw07.RegexQuoted", spec := "regexQuoted", inPlace := ["internal/bytealg.IndexByteString"], unfollowed := true, recurses := true, apart := false, narrowed := true }
def RegexQuotedUptoSaid : Prop := regexQuotedUptoRow.holds Try.pinned (OpenSpec.upto regexQuotedSpec)

/-- 'gaugelaw07.RegexOr', WHERE WHAT IT READS IS OF BULK AT MOST 1048576: true; the input reads as it did. -/
def regexOrUptoRow : OpenClaim := { program := "ytjljfilflajogaa", sum := "4939a82e8ac1a7f55e87b4dfcf33a75af9d4f4cc1de5f9980d55d00db62ebda4", func := "gauge/gaugelaw07.RegexOr", spec := "regexOr", inPlace := ["internal/bytealg.IndexByteString"], unfollowed := true, recurses := true, apart := false, narrowed := true }
def RegexOrUptoSaid : Prop := regexOrUptoRow.holds Try.pinned (OpenSpec.upto regexOrSpec)

/-- 'gaugelaw07.RegexThen', WHERE WHAT IT READS IS OF BULK AT MOST 1048576: true; the input reads as it did. -/
def regexThenUptoRow : OpenClaim := { program := "ytjljfilflajogaa", sum := "4939a82e8ac1a7f55e87b4dfcf33a75af9d4f4cc1de5f9980d55d00db62ebda4", func := "gauge/gaugelaw07.RegexThen", spec := "regexThen", inPlace := ["internal/bytealg.IndexByteString"], unfollowed := true, recurses := true, apart := false, narrowed := true }
def RegexThenUptoSaid : Prop := regexThenUptoRow.holds Try.pinned (OpenSpec.upto regexThenSpec)

/-- 'gaugelaw07.RegexAgain', WHERE WHAT IT READS IS OF BULK AT MOST 1048576: true; the input reads as it did. -/
def regexAgainUptoRow : OpenClaim := { program := "ytjljfilflajogaa", sum := "4939a82e8ac1a7f55e87b4dfcf33a75af9d4f4cc1de5f9980d55d00db62ebda4", func := "gauge/gaugelaw07.RegexAgain", spec := "regexAgain", inPlace := ["internal/bytealg.IndexByteString"], unfollowed := true, recurses := true, apart := false, narrowed := true }
def RegexAgainUptoSaid : Prop := regexAgainUptoRow.holds Try.pinned (OpenSpec.upto regexAgainSpec)

/-- 'gaugelaw07.RegexClass', WHERE WHAT IT READS IS OF BULK AT MOST 1048576: true; the input reads as it did. -/
def regexClassUptoRow : OpenClaim := { program := "ytjljfilflajogaa", sum := "4939a82e8ac1a7f55e87b4dfcf33a75af9d4f4cc1de5f9980d55d00db62ebda4", func := "gauge/gaugelaw07.RegexClass", spec := "regexClass", inPlace := ["internal/bytealg.IndexByteString"], unfollowed := true, recurses := true, apart := false, narrowed := true }
def RegexClassUptoSaid : Prop := regexClassUptoRow.holds Try.pinned (OpenSpec.upto regexClassSpec)

/-- 'gaugelaw08.MatcherChecks', WHERE WHAT IT READS IS OF BULK AT MOST 1048576: true; the input reads as it did. -/
def matcherChecksUptoRow : OpenClaim := { program := "ytjljfilflajogaa", sum := "4939a82e8ac1a7f55e87b4dfcf33a75af9d4f4cc1de5f9980d55d00db62ebda4", func := "gauge/gaugelaw08.MatcherChecks", spec := "matcherChecks", inPlace := ["internal/bytealg.IndexByteString"], unfollowed := true, recurses := true, apart := false, narrowed := true }
def MatcherChecksUptoSaid : Prop := matcherChecksUptoRow.holds Try.pinned (OpenSpec.upto matcherChecksSpec)

/-- 'gaugelaw08.MatcherFits', WHERE WHAT IT READS IS OF BULK AT MOST 1048576: true; the input reads as it did. -/
def matcherFitsUptoRow : OpenClaim := { program := "ytjljfilflajogaa", sum := "4939a82e8ac1a7f55e87b4dfcf33a75af9d4f4cc1de5f9980d55d00db62ebda4", func := "gauge/gaugelaw08.MatcherFits", spec := "matcherFits", inPlace := ["internal/bytealg.IndexByteString"], unfollowed := true, recurses := true, apart := false, narrowed := true }
def MatcherFitsUptoSaid : Prop := matcherFitsUptoRow.holds Try.pinned (OpenSpec.upto matcherFitsSpec)

/-- 'gaugelaw08.MatcherLists', WHERE WHAT IT READS IS OF BULK AT MOST 1048576: true; the input reads as it did. -/
def matcherListsUptoRow : OpenClaim := { program := "ytjljfilflajogaa", sum := "4939a82e8ac1a7f55e87b4dfcf33a75af9d4f4cc1de5f9980d55d00db62ebda4", func := "gauge/gaugelaw08.MatcherLists", spec := "matcherLists", inPlace := ["internal/bytealg.IndexByteString"], unfollowed := true, recurses := true, apart := false, narrowed := true }
def MatcherListsUptoSaid : Prop := matcherListsUptoRow.holds Try.pinned (OpenSpec.upto matcherListsSpec)

/-- 'gaugelaw08.MatcherOpposites', WHERE WHAT IT READS IS OF BULK AT MOST 1048576: true; the input reads as it did. -/
def matcherOppositesUptoRow : OpenClaim := { program := "ytjljfilflajogaa", sum := "4939a82e8ac1a7f55e87b4dfcf33a75af9d4f4cc1de5f9980d55d00db62ebda4", func := "gauge/gaugelaw08.MatcherOpposites", spec := "matcherOpposites", inPlace := ["internal/bytealg.IndexByteString"], unfollowed := true, recurses := true, apart := false, narrowed := true }
def MatcherOppositesUptoSaid : Prop := matcherOppositesUptoRow.holds Try.pinned (OpenSpec.upto matcherOppositesSpec)

/-- 'gaugelaw08.MatcherPlain', WHERE WHAT IT READS IS OF BULK AT MOST 1048576: true; the input reads as it did. -/
def matcherPlainUptoRow : OpenClaim := { program := "ytjljfilflajogaa", sum := "4939a82e8ac1a7f55e87b4dfcf33a75af9d4f4cc1de5f9980d55d00db62ebda4", func := "gauge/gaugelaw08.MatcherPlain", spec := "matcherPlain", inPlace := ["internal/bytealg.IndexByteString"], unfollowed := true, recurses := true, apart := false, narrowed := true }
def MatcherPlainUptoSaid : Prop := matcherPlainUptoRow.holds Try.pinned (OpenSpec.upto matcherPlainSpec)

/-- 'gaugelaw08.MatcherMore', WHERE WHAT IT READS IS OF BULK AT MOST 1048576: true; the input reads as it did. -/
def matcherMoreUptoRow : OpenClaim := { program := "ytjljfilflajogaa", sum := "4939a82e8ac1a7f55e87b4dfcf33a75af9d4f4cc1de5f9980d55d00db62ebda4", func := "gauge/gaugelaw08.MatcherMore", spec := "matcherMore", inPlace := ["internal/bytealg.IndexByteString"], unfollowed := true, recurses := true, apart := false, narrowed := true }
def MatcherMoreUptoSaid : Prop := matcherMoreUptoRow.holds Try.pinned (OpenSpec.upto matcherMoreSpec)

end Rows
end Go.Proofs.Ytjljfilflajogaa
