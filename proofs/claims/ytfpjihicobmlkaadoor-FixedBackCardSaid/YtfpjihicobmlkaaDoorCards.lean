/-
  DERIVED. GIVEN WITH THE SEED: THE CARDS: each row of YtfpjihicobmlkaaDoorRows.lean that lists a variable, with what it lists TIED to the program's text (the seventh form; the later family's looks); each row that meets fmt, with fmt's text TOLD by the authors' own Lean function (tested against real Go, not proved from fmt's source: count such statements apart). THE CARD IS WHAT COUNTS. Prove the row's statement (the work); the ties are given (YtfpjihicobmlkaaDoorTie.lean); close each card by the builder's one call (the guide's Derived/Test/ToyasCard.lean, 'card_holds'). Laid BY PROGRAM, IN A SANDBOX (cutbox-door.mjs). By AI agents, Wed Nov 11 2026. No macro, syntax, notation, axiom, sorry.
-/
import Derived.Test.YtfpjihicobmlkaaDoorRows
import GoSem.ClaimSeven
namespace Go.Proofs.YtfpjihicobmlkaaDoor
namespace Rows

/-- THE TIED CARD OF 'gaugelaw03.FixedSums'. -/
def fixedSumsCard : Claim7 := { stood := { row := fixedSumsRow, standIns := [], harness := (true, "31558b1c5f528a8f32989c4c71677e9b23ed09c9206e7d0d406535d6a174ecd2"), looks := false }, kinds := [], alts := [], laidByText := true, laidKinds := [.data, .data, .data], laidTests := true, laidLooks := .later }
def FixedSumsCardSaid : Prop := Claim7.holds Tryd.pinned (.plain (OpenSpec.ofChange fixedSumsSpec)) fixedSumsCard

/-- THE TIED CARD OF 'gaugelaw03.FixedRows'. -/
def fixedRowsCard : Claim7 := { stood := { row := fixedRowsRow, standIns := [], harness := (true, "31558b1c5f528a8f32989c4c71677e9b23ed09c9206e7d0d406535d6a174ecd2"), looks := false }, kinds := [], alts := [], laidByText := true, laidKinds := [.data, .data, .data], laidTests := true, laidLooks := .later }
def FixedRowsCardSaid : Prop := Claim7.holds Tryd.pinned (.plain (OpenSpec.ofChange fixedRowsSpec)) fixedRowsCard

/-- THE TIED CARD OF 'gaugelaw03.FixedProducts'. -/
def fixedProductsCard : Claim7 := { stood := { row := fixedProductsRow, standIns := [], harness := (true, "31558b1c5f528a8f32989c4c71677e9b23ed09c9206e7d0d406535d6a174ecd2"), looks := false }, kinds := [], alts := [], laidByText := true, laidKinds := [.data, .data, .data], laidTests := true, laidLooks := .later }
def FixedProductsCardSaid : Prop := Claim7.holds Tryd.pinned (.plain (OpenSpec.ofChange fixedProductsSpec)) fixedProductsCard

/-- THE TIED CARD OF 'gaugelaw03.FixedScales'. -/
def fixedScalesCard : Claim7 := { stood := { row := fixedScalesRow, standIns := [], harness := (true, "31558b1c5f528a8f32989c4c71677e9b23ed09c9206e7d0d406535d6a174ecd2"), looks := false }, kinds := [], alts := [], laidByText := true, laidKinds := [.data, .data, .data], laidTests := true, laidLooks := .later }
def FixedScalesCardSaid : Prop := Claim7.holds Tryd.pinned (.plain (OpenSpec.ofChange fixedScalesSpec)) fixedScalesCard

/-- THE TIED CARD OF 'gaugelaw03.FixedBack'. -/
def fixedBackCard : Claim7 := { stood := { row := fixedBackRow, standIns := [], harness := (true, "31558b1c5f528a8f32989c4c71677e9b23ed09c9206e7d0d406535d6a174ecd2"), looks := false }, kinds := [], alts := [], laidByText := true, laidKinds := [.data, .data, .data], laidTests := true, laidLooks := .later }
def FixedBackCardSaid : Prop := Claim7.holds Tryd.pinned (.plain (OpenSpec.ofChange fixedBackSpec)) fixedBackCard

/-- THE TIED CARD OF 'gaugelaw03.FixedTurns'. -/
def fixedTurnsCard : Claim7 := { stood := { row := fixedTurnsRow, standIns := [], harness := (true, "31558b1c5f528a8f32989c4c71677e9b23ed09c9206e7d0d406535d6a174ecd2"), looks := false }, kinds := [], alts := [], laidByText := true, laidKinds := [.data, .data, .data], laidTests := true, laidLooks := .later }
def FixedTurnsCardSaid : Prop := Claim7.holds Tryd.pinned (.plain (OpenSpec.ofChange fixedTurnsSpec)) fixedTurnsCard

/-- THE TIED CARD OF 'gaugelaw03.FixedQuotients'. -/
def fixedQuotientsCard : Claim7 := { stood := { row := fixedQuotientsRow, standIns := [], harness := (true, "31558b1c5f528a8f32989c4c71677e9b23ed09c9206e7d0d406535d6a174ecd2"), looks := false }, kinds := [], alts := [], laidByText := true, laidKinds := [.data, .data, .data], laidTests := true, laidLooks := .later }
def FixedQuotientsCardSaid : Prop := Claim7.holds Tryd.pinned (.plain (OpenSpec.ofChange fixedQuotientsSpec)) fixedQuotientsCard

/-- THE SECOND FORM's CARD OF 'gaugelaw03.FixedSums'. -/
def fixedSumsUptoCard : Claim7 := { stood := { row := fixedSumsUptoRow, standIns := [], harness := (true, "31558b1c5f528a8f32989c4c71677e9b23ed09c9206e7d0d406535d6a174ecd2"), looks := false }, kinds := [], alts := [], laidByText := true, laidKinds := [.data, .data, .data], laidTests := true, laidLooks := .later }
def FixedSumsUptoCardSaid : Prop := Claim7.holds Tryd.pinned (.plain (OpenSpec.upto fixedSumsSpec)) fixedSumsUptoCard

/-- THE SECOND FORM's CARD OF 'gaugelaw03.FixedRows'. -/
def fixedRowsUptoCard : Claim7 := { stood := { row := fixedRowsUptoRow, standIns := [], harness := (true, "31558b1c5f528a8f32989c4c71677e9b23ed09c9206e7d0d406535d6a174ecd2"), looks := false }, kinds := [], alts := [], laidByText := true, laidKinds := [.data, .data, .data], laidTests := true, laidLooks := .later }
def FixedRowsUptoCardSaid : Prop := Claim7.holds Tryd.pinned (.plain (OpenSpec.upto fixedRowsSpec)) fixedRowsUptoCard

/-- THE SECOND FORM's CARD OF 'gaugelaw03.FixedProducts'. -/
def fixedProductsUptoCard : Claim7 := { stood := { row := fixedProductsUptoRow, standIns := [], harness := (true, "31558b1c5f528a8f32989c4c71677e9b23ed09c9206e7d0d406535d6a174ecd2"), looks := false }, kinds := [], alts := [], laidByText := true, laidKinds := [.data, .data, .data], laidTests := true, laidLooks := .later }
def FixedProductsUptoCardSaid : Prop := Claim7.holds Tryd.pinned (.plain (OpenSpec.upto fixedProductsSpec)) fixedProductsUptoCard

/-- THE SECOND FORM's CARD OF 'gaugelaw03.FixedScales'. -/
def fixedScalesUptoCard : Claim7 := { stood := { row := fixedScalesUptoRow, standIns := [], harness := (true, "31558b1c5f528a8f32989c4c71677e9b23ed09c9206e7d0d406535d6a174ecd2"), looks := false }, kinds := [], alts := [], laidByText := true, laidKinds := [.data, .data, .data], laidTests := true, laidLooks := .later }
def FixedScalesUptoCardSaid : Prop := Claim7.holds Tryd.pinned (.plain (OpenSpec.upto fixedScalesSpec)) fixedScalesUptoCard

/-- THE SECOND FORM's CARD OF 'gaugelaw03.FixedBack'. -/
def fixedBackUptoCard : Claim7 := { stood := { row := fixedBackUptoRow, standIns := [], harness := (true, "31558b1c5f528a8f32989c4c71677e9b23ed09c9206e7d0d406535d6a174ecd2"), looks := false }, kinds := [], alts := [], laidByText := true, laidKinds := [.data, .data, .data], laidTests := true, laidLooks := .later }
def FixedBackUptoCardSaid : Prop := Claim7.holds Tryd.pinned (.plain (OpenSpec.upto fixedBackSpec)) fixedBackUptoCard

/-- THE SECOND FORM's CARD OF 'gaugelaw03.FixedTurns'. -/
def fixedTurnsUptoCard : Claim7 := { stood := { row := fixedTurnsUptoRow, standIns := [], harness := (true, "31558b1c5f528a8f32989c4c71677e9b23ed09c9206e7d0d406535d6a174ecd2"), looks := false }, kinds := [], alts := [], laidByText := true, laidKinds := [.data, .data, .data], laidTests := true, laidLooks := .later }
def FixedTurnsUptoCardSaid : Prop := Claim7.holds Tryd.pinned (.plain (OpenSpec.upto fixedTurnsSpec)) fixedTurnsUptoCard

/-- THE SECOND FORM's CARD OF 'gaugelaw03.FixedQuotients'. -/
def fixedQuotientsUptoCard : Claim7 := { stood := { row := fixedQuotientsUptoRow, standIns := [], harness := (true, "31558b1c5f528a8f32989c4c71677e9b23ed09c9206e7d0d406535d6a174ecd2"), looks := false }, kinds := [], alts := [], laidByText := true, laidKinds := [.data, .data, .data], laidTests := true, laidLooks := .later }
def FixedQuotientsUptoCardSaid : Prop := Claim7.holds Tryd.pinned (.plain (OpenSpec.upto fixedQuotientsSpec)) fixedQuotientsUptoCard
end Rows
end Go.Proofs.YtfpjihicobmlkaaDoor
