/-
  DERIVED. GIVEN WITH THE SEED: THE CARDS: each row of YtdandmbgdndnjaaGreatDoorRows.lean that lists a variable, with what it lists TIED to the program's text (the seventh form; the later family's looks); each row that meets fmt, with fmt's text TOLD by the authors' own Lean function (tested against real Go, not proved from fmt's source: count such statements apart). THE CARD IS WHAT COUNTS. Prove the row's statement (the work); the ties are given (YtdandmbgdndnjaaGreatDoorTie.lean); close each card by the builder's one call (the guide's Derived/Test/ToyasCard.lean, 'card_holds'). Laid BY PROGRAM, IN A SANDBOX (cutbox-door.mjs). By AI agents, Wed Nov 11 2026. No macro, syntax, notation, axiom, sorry.
-/
import Derived.Test.YtdandmbgdndnjaaGreatDoorRows
import GoSem.ClaimSeven
namespace Go.Proofs.YtdandmbgdndnjaaGreatDoor
namespace Rows

/-- THE TIED CARD OF 'quadratlaw03.FormWrites'. -/
def formWritesCard : Claim7 := { stood := { row := formWritesRow, standIns := [], harness := (true, "1103f68d56a91d43aab7249d28c353a324ad50a16f1da05a1306f69472395307"), looks := true }, kinds := [], alts := [], laidByText := true, laidKinds := [.data, .data, .data, .data, .sentinel, .sentinel, .pinned], laidTests := true, laidLooks := .later }
def FormWritesCardSaid : Prop := Claim7.holds Tryz.pinned (.plain (OpenSpec.ofChange formWritesSpec)) formWritesCard

/-- THE TIED CARD OF 'quadratlaw03.FormComments'. -/
def formCommentsCard : Claim7 := { stood := { row := formCommentsRow, standIns := [], harness := (true, "1103f68d56a91d43aab7249d28c353a324ad50a16f1da05a1306f69472395307"), looks := true }, kinds := [], alts := [], laidByText := true, laidKinds := [.data, .data, .data, .data, .sentinel, .sentinel, .pinned], laidTests := true, laidLooks := .later }
def FormCommentsCardSaid : Prop := Claim7.holds Tryz.pinned (.plain (OpenSpec.ofChange formCommentsSpec)) formCommentsCard

/-- THE TIED CARD OF 'quadratlaw03.FormQuotes'. -/
def formQuotesCard : Claim7 := { stood := { row := formQuotesRow, standIns := [], harness := (true, "1103f68d56a91d43aab7249d28c353a324ad50a16f1da05a1306f69472395307"), looks := true }, kinds := [], alts := [], laidByText := true, laidKinds := [.data, .data, .data, .data, .sentinel, .sentinel, .pinned], laidTests := true, laidLooks := .later }
def FormQuotesCardSaid : Prop := Claim7.holds Tryz.pinned (.plain (OpenSpec.ofChange formQuotesSpec)) formQuotesCard

/-- THE TIED CARD OF 'quadratlaw03.FormBack'. -/
def formBackCard : Claim7 := { stood := { row := formBackRow, standIns := [], harness := (true, "1103f68d56a91d43aab7249d28c353a324ad50a16f1da05a1306f69472395307"), looks := true }, kinds := [], alts := [], laidByText := true, laidKinds := [.data, .data, .data, .data, .sentinel, .sentinel, .pinned], laidTests := true, laidLooks := .later }
def FormBackCardSaid : Prop := Claim7.holds Tryz.pinned (.plain (OpenSpec.ofChange formBackSpec)) formBackCard

/-- THE TIED CARD OF 'quadratlaw03.FormGives'. -/
def formGivesCard : Claim7 := { stood := { row := formGivesRow, standIns := [], harness := (true, "1103f68d56a91d43aab7249d28c353a324ad50a16f1da05a1306f69472395307"), looks := true }, kinds := [], alts := [], laidByText := true, laidKinds := [.data, .data, .data, .data, .sentinel, .sentinel, .pinned], laidTests := true, laidLooks := .later }
def FormGivesCardSaid : Prop := Claim7.holds Tryz.pinned (.plain (OpenSpec.ofChange formGivesSpec)) formGivesCard

/-- THE SECOND FORM's CARD OF 'quadratlaw03.FormWrites'. -/
def formWritesUptoCard : Claim7 := { stood := { row := formWritesUptoRow, standIns := [], harness := (true, "1103f68d56a91d43aab7249d28c353a324ad50a16f1da05a1306f69472395307"), looks := true }, kinds := [], alts := [], laidByText := true, laidKinds := [.data, .data, .data, .data, .sentinel, .sentinel, .pinned], laidTests := true, laidLooks := .later }
def FormWritesUptoCardSaid : Prop := Claim7.holds Tryz.pinned (.plain (OpenSpec.upto formWritesSpec)) formWritesUptoCard

/-- THE SECOND FORM's CARD OF 'quadratlaw03.FormComments'. -/
def formCommentsUptoCard : Claim7 := { stood := { row := formCommentsUptoRow, standIns := [], harness := (true, "1103f68d56a91d43aab7249d28c353a324ad50a16f1da05a1306f69472395307"), looks := true }, kinds := [], alts := [], laidByText := true, laidKinds := [.data, .data, .data, .data, .sentinel, .sentinel, .pinned], laidTests := true, laidLooks := .later }
def FormCommentsUptoCardSaid : Prop := Claim7.holds Tryz.pinned (.plain (OpenSpec.upto formCommentsSpec)) formCommentsUptoCard

/-- THE SECOND FORM's CARD OF 'quadratlaw03.FormQuotes'. -/
def formQuotesUptoCard : Claim7 := { stood := { row := formQuotesUptoRow, standIns := [], harness := (true, "1103f68d56a91d43aab7249d28c353a324ad50a16f1da05a1306f69472395307"), looks := true }, kinds := [], alts := [], laidByText := true, laidKinds := [.data, .data, .data, .data, .sentinel, .sentinel, .pinned], laidTests := true, laidLooks := .later }
def FormQuotesUptoCardSaid : Prop := Claim7.holds Tryz.pinned (.plain (OpenSpec.upto formQuotesSpec)) formQuotesUptoCard

/-- THE SECOND FORM's CARD OF 'quadratlaw03.FormBack'. -/
def formBackUptoCard : Claim7 := { stood := { row := formBackUptoRow, standIns := [], harness := (true, "1103f68d56a91d43aab7249d28c353a324ad50a16f1da05a1306f69472395307"), looks := true }, kinds := [], alts := [], laidByText := true, laidKinds := [.data, .data, .data, .data, .sentinel, .sentinel, .pinned], laidTests := true, laidLooks := .later }
def FormBackUptoCardSaid : Prop := Claim7.holds Tryz.pinned (.plain (OpenSpec.upto formBackSpec)) formBackUptoCard

/-- THE SECOND FORM's CARD OF 'quadratlaw03.FormGives'. -/
def formGivesUptoCard : Claim7 := { stood := { row := formGivesUptoRow, standIns := [], harness := (true, "1103f68d56a91d43aab7249d28c353a324ad50a16f1da05a1306f69472395307"), looks := true }, kinds := [], alts := [], laidByText := true, laidKinds := [.data, .data, .data, .data, .sentinel, .sentinel, .pinned], laidTests := true, laidLooks := .later }
def FormGivesUptoCardSaid : Prop := Claim7.holds Tryz.pinned (.plain (OpenSpec.upto formGivesSpec)) formGivesUptoCard
end Rows
end Go.Proofs.YtdandmbgdndnjaaGreatDoor
