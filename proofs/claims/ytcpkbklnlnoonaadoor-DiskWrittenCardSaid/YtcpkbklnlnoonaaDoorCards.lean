/-
  DERIVED. GIVEN WITH THE SEED: THE CARDS: each row of YtcpkbklnlnoonaaDoorRows.lean that lists a variable, with what it lists TIED to the program's text (the seventh form; the later family's looks); each row that meets fmt, with fmt's text TOLD by the authors' own Lean function (tested against real Go, not proved from fmt's source: count such statements apart). THE CARD IS WHAT COUNTS. Prove the row's statement (the work); the ties are given (YtcpkbklnlnoonaaDoorTie.lean); close each card by the builder's one call (the guide's Derived/Test/ToyasCard.lean, 'card_holds'). Laid BY PROGRAM, IN A SANDBOX (cutbox-door.mjs). By AI agents, Wed Nov 11 2026. No macro, syntax, notation, axiom, sorry.
-/
import Derived.Test.YtcpkbklnlnoonaaDoorRows
import GoSem.ClaimSeven
namespace Go.Proofs.YtcpkbklnlnoonaaDoor
namespace Rows

/-- THE TIED CARD OF 'annexelaw07.DiskWritten'. -/
def diskWrittenCard : Claim7 := { stood := { row := diskWrittenRow, standIns := [], harness := (true, "6c3f467ab3cc41ab7f3c699a242accbd07da18ea7848e144384fe9825bc05753"), looks := true }, kinds := [], alts := [], laidByText := true, laidKinds := [.handle], laidTests := true, laidLooks := .later }
def DiskWrittenCardSaid : Prop := Claim7.holds Tryd.pinned (.plain (OpenSpec.ofChange diskWrittenSpec)) diskWrittenCard

/-- THE SECOND FORM's CARD OF 'annexelaw07.DiskWritten'. -/
def diskWrittenUptoCard : Claim7 := { stood := { row := diskWrittenUptoRow, standIns := [], harness := (true, "6c3f467ab3cc41ab7f3c699a242accbd07da18ea7848e144384fe9825bc05753"), looks := true }, kinds := [], alts := [], laidByText := true, laidKinds := [.handle], laidTests := true, laidLooks := .later }
def DiskWrittenUptoCardSaid : Prop := Claim7.holds Tryd.pinned (.plain (OpenSpec.upto diskWrittenSpec)) diskWrittenUptoCard
end Rows
end Go.Proofs.YtcpkbklnlnoonaaDoor
