/-
  DERIVED. GIVEN WITH THE SEED: THE CARDS: each row of YtfdenbgmogojeaaDoorRows.lean that lists a variable, with what it lists TIED to the program's text (the seventh form; the later family's looks); each row that meets fmt, with fmt's text TOLD by the authors' own Lean function (tested against real Go, not proved from fmt's source: count such statements apart). THE CARD IS WHAT COUNTS. Prove the row's statement (the work); the ties are given (YtfdenbgmogojeaaDoorTie.lean); close each card by the builder's one call (the guide's Derived/Test/ToyasCard.lean, 'card_holds'). Laid BY PROGRAM, IN A SANDBOX (cutbox-door.mjs). By AI agents, Wed Nov 11 2026. No macro, syntax, notation, axiom, sorry.
-/
import Derived.Test.YtfdenbgmogojeaaDoorRows
import GoSem.ClaimSeven
namespace Go.Proofs.YtfdenbgmogojeaaDoor
namespace Rows

/-- THE TIED CARD OF 'quadratlaw01.FloatSums'. -/
def floatSumsCard : Claim7 := { stood := { row := floatSumsRow, standIns := [], harness := (true, "0ce8a47a324a4da41746ec7088461ae9d81ca0c0e3cbd38997168f4553c62ead"), looks := false }, kinds := [], alts := [], laidByText := true, laidKinds := [.data], laidTests := true, laidLooks := .later }
def FloatSumsCardSaid : Prop := Claim7.holds Tryd.pinned (.plain (OpenSpec.ofChange floatSumsSpec)) floatSumsCard

/-- THE TIED CARD OF 'quadratlaw01.FloatProducts'. -/
def floatProductsCard : Claim7 := { stood := { row := floatProductsRow, standIns := [], harness := (true, "0ce8a47a324a4da41746ec7088461ae9d81ca0c0e3cbd38997168f4553c62ead"), looks := false }, kinds := [], alts := [], laidByText := true, laidKinds := [.data], laidTests := true, laidLooks := .later }
def FloatProductsCardSaid : Prop := Claim7.holds Tryd.pinned (.plain (OpenSpec.ofChange floatProductsSpec)) floatProductsCard

/-- THE TIED CARD OF 'quadratlaw01.FloatRoots'. -/
def floatRootsCard : Claim7 := { stood := { row := floatRootsRow, standIns := [], harness := (true, "0ce8a47a324a4da41746ec7088461ae9d81ca0c0e3cbd38997168f4553c62ead"), looks := false }, kinds := [], alts := [], laidByText := true, laidKinds := [.data], laidTests := true, laidLooks := .later }
def FloatRootsCardSaid : Prop := Claim7.holds Tryd.pinned (.plain (OpenSpec.ofChange floatRootsSpec)) floatRootsCard

/-- THE TIED CARD OF 'quadratlaw01.FloatCompares'. -/
def floatComparesCard : Claim7 := { stood := { row := floatComparesRow, standIns := [], harness := (true, "0ce8a47a324a4da41746ec7088461ae9d81ca0c0e3cbd38997168f4553c62ead"), looks := false }, kinds := [], alts := [], laidByText := true, laidKinds := [.data], laidTests := true, laidLooks := .later }
def FloatComparesCardSaid : Prop := Claim7.holds Tryd.pinned (.plain (OpenSpec.ofChange floatComparesSpec)) floatComparesCard

/-- THE TIED CARD OF 'quadratlaw01.FloatInts'. -/
def floatIntsCard : Claim7 := { stood := { row := floatIntsRow, standIns := [], harness := (true, "0ce8a47a324a4da41746ec7088461ae9d81ca0c0e3cbd38997168f4553c62ead"), looks := false }, kinds := [], alts := [], laidByText := true, laidKinds := [.data], laidTests := true, laidLooks := .later }
def FloatIntsCardSaid : Prop := Claim7.holds Tryd.pinned (.plain (OpenSpec.ofChange floatIntsSpec)) floatIntsCard

/-- THE TIED CARD OF 'quadratlaw01.FloatConverts'. -/
def floatConvertsCard : Claim7 := { stood := { row := floatConvertsRow, standIns := [], harness := (true, "0ce8a47a324a4da41746ec7088461ae9d81ca0c0e3cbd38997168f4553c62ead"), looks := false }, kinds := [], alts := [], laidByText := true, laidKinds := [.data], laidTests := true, laidLooks := .later }
def FloatConvertsCardSaid : Prop := Claim7.holds Tryd.pinned (.plain (OpenSpec.ofChange floatConvertsSpec)) floatConvertsCard

/-- THE TIED CARD OF 'quadratlaw01.FloatParts'. -/
def floatPartsCard : Claim7 := { stood := { row := floatPartsRow, standIns := [], harness := (true, "0ce8a47a324a4da41746ec7088461ae9d81ca0c0e3cbd38997168f4553c62ead"), looks := false }, kinds := [], alts := [], laidByText := true, laidKinds := [.data, .data], laidTests := true, laidLooks := .later }
def FloatPartsCardSaid : Prop := Claim7.holds Tryd.pinned (.plain (OpenSpec.ofChange floatPartsSpec)) floatPartsCard

/-- THE TIED CARD OF 'quadratlaw01.FloatMakes'. -/
def floatMakesCard : Claim7 := { stood := { row := floatMakesRow, standIns := [], harness := (true, "0ce8a47a324a4da41746ec7088461ae9d81ca0c0e3cbd38997168f4553c62ead"), looks := false }, kinds := [], alts := [], laidByText := true, laidKinds := [.data], laidTests := true, laidLooks := .later }
def FloatMakesCardSaid : Prop := Claim7.holds Tryd.pinned (.plain (OpenSpec.ofChange floatMakesSpec)) floatMakesCard

/-- THE TIED CARD OF 'quadratlaw01.FloatNext'. -/
def floatNextCard : Claim7 := { stood := { row := floatNextRow, standIns := [], harness := (true, "0ce8a47a324a4da41746ec7088461ae9d81ca0c0e3cbd38997168f4553c62ead"), looks := false }, kinds := [], alts := [], laidByText := true, laidKinds := [.data], laidTests := true, laidLooks := .later }
def FloatNextCardSaid : Prop := Claim7.holds Tryd.pinned (.plain (OpenSpec.ofChange floatNextSpec)) floatNextCard

/-- THE TIED CARD OF 'quadratlaw01.FloatBack'. -/
def floatBackCard : Claim7 := { stood := { row := floatBackRow, standIns := [], harness := (true, "0ce8a47a324a4da41746ec7088461ae9d81ca0c0e3cbd38997168f4553c62ead"), looks := false }, kinds := [], alts := [], laidByText := true, laidKinds := [.data, .data], laidTests := true, laidLooks := .later }
def FloatBackCardSaid : Prop := Claim7.holds Tryd.pinned (.plain (OpenSpec.ofChange floatBackSpec)) floatBackCard

/-- THE TIED CARD OF 'quadratlaw01.FloatModes'. -/
def floatModesCard : Claim7 := { stood := { row := floatModesRow, standIns := [], harness := (true, "0ce8a47a324a4da41746ec7088461ae9d81ca0c0e3cbd38997168f4553c62ead"), looks := false }, kinds := [], alts := [], laidByText := true, laidKinds := [.data], laidTests := true, laidLooks := .later }
def FloatModesCardSaid : Prop := Claim7.holds Tryd.pinned (.plain (OpenSpec.ofChange floatModesSpec)) floatModesCard

/-- THE TIED CARD OF 'quadratlaw01.FloatSteps'. -/
def floatStepsCard : Claim7 := { stood := { row := floatStepsRow, standIns := [], harness := (true, "0ce8a47a324a4da41746ec7088461ae9d81ca0c0e3cbd38997168f4553c62ead"), looks := false }, kinds := [], alts := [], laidByText := true, laidKinds := [.data], laidTests := true, laidLooks := .later }
def FloatStepsCardSaid : Prop := Claim7.holds Tryd.pinned (.plain (OpenSpec.ofChange floatStepsSpec)) floatStepsCard

/-- THE SECOND FORM's CARD OF 'quadratlaw01.FloatSums'. -/
def floatSumsUptoCard : Claim7 := { stood := { row := floatSumsUptoRow, standIns := [], harness := (true, "0ce8a47a324a4da41746ec7088461ae9d81ca0c0e3cbd38997168f4553c62ead"), looks := false }, kinds := [], alts := [], laidByText := true, laidKinds := [.data], laidTests := true, laidLooks := .later }
def FloatSumsUptoCardSaid : Prop := Claim7.holds Tryd.pinned (.plain (OpenSpec.upto floatSumsSpec)) floatSumsUptoCard

/-- THE SECOND FORM's CARD OF 'quadratlaw01.FloatProducts'. -/
def floatProductsUptoCard : Claim7 := { stood := { row := floatProductsUptoRow, standIns := [], harness := (true, "0ce8a47a324a4da41746ec7088461ae9d81ca0c0e3cbd38997168f4553c62ead"), looks := false }, kinds := [], alts := [], laidByText := true, laidKinds := [.data], laidTests := true, laidLooks := .later }
def FloatProductsUptoCardSaid : Prop := Claim7.holds Tryd.pinned (.plain (OpenSpec.upto floatProductsSpec)) floatProductsUptoCard

/-- THE SECOND FORM's CARD OF 'quadratlaw01.FloatRoots'. -/
def floatRootsUptoCard : Claim7 := { stood := { row := floatRootsUptoRow, standIns := [], harness := (true, "0ce8a47a324a4da41746ec7088461ae9d81ca0c0e3cbd38997168f4553c62ead"), looks := false }, kinds := [], alts := [], laidByText := true, laidKinds := [.data], laidTests := true, laidLooks := .later }
def FloatRootsUptoCardSaid : Prop := Claim7.holds Tryd.pinned (.plain (OpenSpec.upto floatRootsSpec)) floatRootsUptoCard

/-- THE SECOND FORM's CARD OF 'quadratlaw01.FloatCompares'. -/
def floatComparesUptoCard : Claim7 := { stood := { row := floatComparesUptoRow, standIns := [], harness := (true, "0ce8a47a324a4da41746ec7088461ae9d81ca0c0e3cbd38997168f4553c62ead"), looks := false }, kinds := [], alts := [], laidByText := true, laidKinds := [.data], laidTests := true, laidLooks := .later }
def FloatComparesUptoCardSaid : Prop := Claim7.holds Tryd.pinned (.plain (OpenSpec.upto floatComparesSpec)) floatComparesUptoCard

/-- THE SECOND FORM's CARD OF 'quadratlaw01.FloatInts'. -/
def floatIntsUptoCard : Claim7 := { stood := { row := floatIntsUptoRow, standIns := [], harness := (true, "0ce8a47a324a4da41746ec7088461ae9d81ca0c0e3cbd38997168f4553c62ead"), looks := false }, kinds := [], alts := [], laidByText := true, laidKinds := [.data], laidTests := true, laidLooks := .later }
def FloatIntsUptoCardSaid : Prop := Claim7.holds Tryd.pinned (.plain (OpenSpec.upto floatIntsSpec)) floatIntsUptoCard

/-- THE SECOND FORM's CARD OF 'quadratlaw01.FloatConverts'. -/
def floatConvertsUptoCard : Claim7 := { stood := { row := floatConvertsUptoRow, standIns := [], harness := (true, "0ce8a47a324a4da41746ec7088461ae9d81ca0c0e3cbd38997168f4553c62ead"), looks := false }, kinds := [], alts := [], laidByText := true, laidKinds := [.data], laidTests := true, laidLooks := .later }
def FloatConvertsUptoCardSaid : Prop := Claim7.holds Tryd.pinned (.plain (OpenSpec.upto floatConvertsSpec)) floatConvertsUptoCard

/-- THE SECOND FORM's CARD OF 'quadratlaw01.FloatParts'. -/
def floatPartsUptoCard : Claim7 := { stood := { row := floatPartsUptoRow, standIns := [], harness := (true, "0ce8a47a324a4da41746ec7088461ae9d81ca0c0e3cbd38997168f4553c62ead"), looks := false }, kinds := [], alts := [], laidByText := true, laidKinds := [.data, .data], laidTests := true, laidLooks := .later }
def FloatPartsUptoCardSaid : Prop := Claim7.holds Tryd.pinned (.plain (OpenSpec.upto floatPartsSpec)) floatPartsUptoCard

/-- THE SECOND FORM's CARD OF 'quadratlaw01.FloatMakes'. -/
def floatMakesUptoCard : Claim7 := { stood := { row := floatMakesUptoRow, standIns := [], harness := (true, "0ce8a47a324a4da41746ec7088461ae9d81ca0c0e3cbd38997168f4553c62ead"), looks := false }, kinds := [], alts := [], laidByText := true, laidKinds := [.data], laidTests := true, laidLooks := .later }
def FloatMakesUptoCardSaid : Prop := Claim7.holds Tryd.pinned (.plain (OpenSpec.upto floatMakesSpec)) floatMakesUptoCard

/-- THE SECOND FORM's CARD OF 'quadratlaw01.FloatNext'. -/
def floatNextUptoCard : Claim7 := { stood := { row := floatNextUptoRow, standIns := [], harness := (true, "0ce8a47a324a4da41746ec7088461ae9d81ca0c0e3cbd38997168f4553c62ead"), looks := false }, kinds := [], alts := [], laidByText := true, laidKinds := [.data], laidTests := true, laidLooks := .later }
def FloatNextUptoCardSaid : Prop := Claim7.holds Tryd.pinned (.plain (OpenSpec.upto floatNextSpec)) floatNextUptoCard

/-- THE SECOND FORM's CARD OF 'quadratlaw01.FloatBack'. -/
def floatBackUptoCard : Claim7 := { stood := { row := floatBackUptoRow, standIns := [], harness := (true, "0ce8a47a324a4da41746ec7088461ae9d81ca0c0e3cbd38997168f4553c62ead"), looks := false }, kinds := [], alts := [], laidByText := true, laidKinds := [.data, .data], laidTests := true, laidLooks := .later }
def FloatBackUptoCardSaid : Prop := Claim7.holds Tryd.pinned (.plain (OpenSpec.upto floatBackSpec)) floatBackUptoCard

/-- THE SECOND FORM's CARD OF 'quadratlaw01.FloatModes'. -/
def floatModesUptoCard : Claim7 := { stood := { row := floatModesUptoRow, standIns := [], harness := (true, "0ce8a47a324a4da41746ec7088461ae9d81ca0c0e3cbd38997168f4553c62ead"), looks := false }, kinds := [], alts := [], laidByText := true, laidKinds := [.data], laidTests := true, laidLooks := .later }
def FloatModesUptoCardSaid : Prop := Claim7.holds Tryd.pinned (.plain (OpenSpec.upto floatModesSpec)) floatModesUptoCard

/-- THE SECOND FORM's CARD OF 'quadratlaw01.FloatSteps'. -/
def floatStepsUptoCard : Claim7 := { stood := { row := floatStepsUptoRow, standIns := [], harness := (true, "0ce8a47a324a4da41746ec7088461ae9d81ca0c0e3cbd38997168f4553c62ead"), looks := false }, kinds := [], alts := [], laidByText := true, laidKinds := [.data], laidTests := true, laidLooks := .later }
def FloatStepsUptoCardSaid : Prop := Claim7.holds Tryd.pinned (.plain (OpenSpec.upto floatStepsSpec)) floatStepsUptoCard
end Rows
end Go.Proofs.YtfdenbgmogojeaaDoor
