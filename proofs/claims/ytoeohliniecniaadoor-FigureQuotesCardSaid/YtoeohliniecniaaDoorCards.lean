/-
  DERIVED. GIVEN WITH THE SEED: THE CARDS: each row of YtoeohliniecniaaDoorRows.lean that lists a variable, with what it lists TIED to the program's text (the seventh form; the later family's looks); each row that meets fmt, with fmt's text TOLD by the authors' own Lean function (tested against real Go, not proved from fmt's source: count such statements apart). THE CARD IS WHAT COUNTS. Prove the row's statement (the work); the ties are given (YtoeohliniecniaaDoorTie.lean); close each card by the builder's one call (the guide's Derived/Test/ToyasCard.lean, 'card_holds'). Laid BY PROGRAM, IN A SANDBOX (cutbox-door.mjs). By AI agents, Wed Nov 11 2026. No macro, syntax, notation, axiom, sorry.
-/
import Derived.Test.YtoeohliniecniaaDoorRows
import GoSem.ClaimSeven
namespace Go.Proofs.YtoeohliniecniaaDoor
namespace Rows

/-- THE TIED CARD OF 'annexelaw01.FigureTexts'. -/
def figureTextsCard : Claim7 := { stood := { row := figureTextsRow, standIns := [], harness := (true, "b2f34d5877da32973fc1ebfb6de8e54aae4eab57c9af3f6bb94010aa2acaef23"), looks := false }, kinds := [], alts := [], laidByText := true, laidKinds := [.data, .data, .data], laidTests := true, laidLooks := .later }
def FigureTextsCardSaid : Prop := Claim7.holds Tryd.pinned (.plain (OpenSpec.ofChange figureTextsSpec)) figureTextsCard

/-- THE TIED CARD OF 'annexelaw01.FigureNames'. -/
def figureNamesCard : Claim7 := { stood := { row := figureNamesRow, standIns := [], harness := (true, "b2f34d5877da32973fc1ebfb6de8e54aae4eab57c9af3f6bb94010aa2acaef23"), looks := false }, kinds := [], alts := [], laidByText := true, laidKinds := [.data, .data, .data], laidTests := true, laidLooks := .later }
def FigureNamesCardSaid : Prop := Claim7.holds Tryd.pinned (.plain (OpenSpec.ofChange figureNamesSpec)) figureNamesCard

/-- THE TIED CARD OF 'annexelaw01.FigureQuotes'. -/
def figureQuotesCard : Claim7 := { stood := { row := figureQuotesRow, standIns := [], harness := (true, "b2f34d5877da32973fc1ebfb6de8e54aae4eab57c9af3f6bb94010aa2acaef23"), looks := false }, kinds := [], alts := [], laidByText := true, laidKinds := [.data, .data, .data], laidTests := true, laidLooks := .later }
def FigureQuotesCardSaid : Prop := Claim7.holds Tryd.pinned (.plain (OpenSpec.ofChange figureQuotesSpec)) figureQuotesCard

/-- THE TIED CARD OF 'annexelaw01.FigureHexes'. -/
def figureHexesCard : Claim7 := { stood := { row := figureHexesRow, standIns := [], harness := (true, "b2f34d5877da32973fc1ebfb6de8e54aae4eab57c9af3f6bb94010aa2acaef23"), looks := false }, kinds := [], alts := [], laidByText := true, laidKinds := [.data, .data, .data], laidTests := true, laidLooks := .later }
def FigureHexesCardSaid : Prop := Claim7.holds Tryd.pinned (.plain (OpenSpec.ofChange figureHexesSpec)) figureHexesCard

/-- THE TIED CARD OF 'annexelaw01.FigureBack'. -/
def figureBackCard : Claim7 := { stood := { row := figureBackRow, standIns := [], harness := (true, "b2f34d5877da32973fc1ebfb6de8e54aae4eab57c9af3f6bb94010aa2acaef23"), looks := false }, kinds := [], alts := [], laidByText := true, laidKinds := [.data, .data, .data], laidTests := true, laidLooks := .later }
def FigureBackCardSaid : Prop := Claim7.holds Tryd.pinned (.plain (OpenSpec.ofChange figureBackSpec)) figureBackCard

/-- THE TIED CARD OF 'annexelaw01.FigureFolded'. -/
def figureFoldedCard : Claim7 := { stood := { row := figureFoldedRow, standIns := [], harness := (true, "b2f34d5877da32973fc1ebfb6de8e54aae4eab57c9af3f6bb94010aa2acaef23"), looks := false }, kinds := [], alts := [], laidByText := true, laidKinds := [.data, .data, .data], laidTests := true, laidLooks := .later }
def FigureFoldedCardSaid : Prop := Claim7.holds Tryd.pinned (.plain (OpenSpec.ofChange figureFoldedSpec)) figureFoldedCard

/-- THE SECOND FORM's CARD OF 'annexelaw01.FigureTexts'. -/
def figureTextsUptoCard : Claim7 := { stood := { row := figureTextsUptoRow, standIns := [], harness := (true, "b2f34d5877da32973fc1ebfb6de8e54aae4eab57c9af3f6bb94010aa2acaef23"), looks := false }, kinds := [], alts := [], laidByText := true, laidKinds := [.data, .data, .data], laidTests := true, laidLooks := .later }
def FigureTextsUptoCardSaid : Prop := Claim7.holds Tryd.pinned (.plain (OpenSpec.upto figureTextsSpec)) figureTextsUptoCard

/-- THE SECOND FORM's CARD OF 'annexelaw01.FigureNames'. -/
def figureNamesUptoCard : Claim7 := { stood := { row := figureNamesUptoRow, standIns := [], harness := (true, "b2f34d5877da32973fc1ebfb6de8e54aae4eab57c9af3f6bb94010aa2acaef23"), looks := false }, kinds := [], alts := [], laidByText := true, laidKinds := [.data, .data, .data], laidTests := true, laidLooks := .later }
def FigureNamesUptoCardSaid : Prop := Claim7.holds Tryd.pinned (.plain (OpenSpec.upto figureNamesSpec)) figureNamesUptoCard

/-- THE SECOND FORM's CARD OF 'annexelaw01.FigureQuotes'. -/
def figureQuotesUptoCard : Claim7 := { stood := { row := figureQuotesUptoRow, standIns := [], harness := (true, "b2f34d5877da32973fc1ebfb6de8e54aae4eab57c9af3f6bb94010aa2acaef23"), looks := false }, kinds := [], alts := [], laidByText := true, laidKinds := [.data, .data, .data], laidTests := true, laidLooks := .later }
def FigureQuotesUptoCardSaid : Prop := Claim7.holds Tryd.pinned (.plain (OpenSpec.upto figureQuotesSpec)) figureQuotesUptoCard

/-- THE SECOND FORM's CARD OF 'annexelaw01.FigureHexes'. -/
def figureHexesUptoCard : Claim7 := { stood := { row := figureHexesUptoRow, standIns := [], harness := (true, "b2f34d5877da32973fc1ebfb6de8e54aae4eab57c9af3f6bb94010aa2acaef23"), looks := false }, kinds := [], alts := [], laidByText := true, laidKinds := [.data, .data, .data], laidTests := true, laidLooks := .later }
def FigureHexesUptoCardSaid : Prop := Claim7.holds Tryd.pinned (.plain (OpenSpec.upto figureHexesSpec)) figureHexesUptoCard

/-- THE SECOND FORM's CARD OF 'annexelaw01.FigureBack'. -/
def figureBackUptoCard : Claim7 := { stood := { row := figureBackUptoRow, standIns := [], harness := (true, "b2f34d5877da32973fc1ebfb6de8e54aae4eab57c9af3f6bb94010aa2acaef23"), looks := false }, kinds := [], alts := [], laidByText := true, laidKinds := [.data, .data, .data], laidTests := true, laidLooks := .later }
def FigureBackUptoCardSaid : Prop := Claim7.holds Tryd.pinned (.plain (OpenSpec.upto figureBackSpec)) figureBackUptoCard

/-- THE SECOND FORM's CARD OF 'annexelaw01.FigureFolded'. -/
def figureFoldedUptoCard : Claim7 := { stood := { row := figureFoldedUptoRow, standIns := [], harness := (true, "b2f34d5877da32973fc1ebfb6de8e54aae4eab57c9af3f6bb94010aa2acaef23"), looks := false }, kinds := [], alts := [], laidByText := true, laidKinds := [.data, .data, .data], laidTests := true, laidLooks := .later }
def FigureFoldedUptoCardSaid : Prop := Claim7.holds Tryd.pinned (.plain (OpenSpec.upto figureFoldedSpec)) figureFoldedUptoCard
end Rows
end Go.Proofs.YtoeohliniecniaaDoor
