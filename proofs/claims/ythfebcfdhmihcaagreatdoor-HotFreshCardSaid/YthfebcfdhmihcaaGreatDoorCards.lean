/-
  DERIVED. GIVEN WITH THE SEED: THE CARDS: each row of YthfebcfdhmihcaaGreatDoorRows.lean that lists a variable, with what it lists TIED to the program's text (the seventh form; the later family's looks); each row that meets fmt, with fmt's text TOLD by the authors' own Lean function (tested against real Go, not proved from fmt's source: count such statements apart). THE CARD IS WHAT COUNTS. Prove the row's statement (the work); the ties are given (YthfebcfdhmihcaaGreatDoorTie.lean); close each card by the builder's one call (the guide's Derived/Test/ToyasCard.lean, 'card_holds'). Laid BY PROGRAM, IN A SANDBOX (cutbox-door.mjs). By AI agents, Wed Nov 11 2026. No macro, syntax, notation, axiom, sorry.
-/
import Derived.Test.YthfebcfdhmihcaaGreatDoorRows
import GoSem.ClaimSeven
namespace Go.Proofs.YthfebcfdhmihcaaGreatDoor
namespace Rows

/-- THE TIED CARD OF 'annexelaw13.HotRecovers'. -/
def hotRecoversCard : Claim7 := { stood := { row := hotRecoversRow, standIns := [], harness := (true, "0bdf6f93fe48d87473b92581fa99ac25b0d6be95a8102ed6a82d6bb7ee5a2bbb"), looks := true }, kinds := [], alts := [], laidByText := true, laidKinds := [.data, .data, .data, .handle, .sentinel], laidTests := true, laidLooks := .later }
def HotRecoversCardSaid : Prop := Claim7.holds Tryz.pinned (.plain (OpenSpec.ofChange hotRecoversSpec)) hotRecoversCard

/-- THE TIED CARD OF 'annexelaw13.HotFresh'. -/
def hotFreshCard : Claim7 := { stood := { row := hotFreshRow, standIns := [], harness := (true, "0bdf6f93fe48d87473b92581fa99ac25b0d6be95a8102ed6a82d6bb7ee5a2bbb"), looks := true }, kinds := [], alts := [], laidByText := true, laidKinds := [.data, .data, .data, .handle, .sentinel], laidTests := true, laidLooks := .later }
def HotFreshCardSaid : Prop := Claim7.holds Tryz.pinned (.plain (OpenSpec.ofChange hotFreshSpec)) hotFreshCard

/-- THE SECOND FORM's CARD OF 'annexelaw13.HotRecovers'. -/
def hotRecoversUptoCard : Claim7 := { stood := { row := hotRecoversUptoRow, standIns := [], harness := (true, "0bdf6f93fe48d87473b92581fa99ac25b0d6be95a8102ed6a82d6bb7ee5a2bbb"), looks := true }, kinds := [], alts := [], laidByText := true, laidKinds := [.data, .data, .data, .handle, .sentinel], laidTests := true, laidLooks := .later }
def HotRecoversUptoCardSaid : Prop := Claim7.holds Tryz.pinned (.plain (OpenSpec.upto hotRecoversSpec)) hotRecoversUptoCard

/-- THE SECOND FORM's CARD OF 'annexelaw13.HotFresh'. -/
def hotFreshUptoCard : Claim7 := { stood := { row := hotFreshUptoRow, standIns := [], harness := (true, "0bdf6f93fe48d87473b92581fa99ac25b0d6be95a8102ed6a82d6bb7ee5a2bbb"), looks := true }, kinds := [], alts := [], laidByText := true, laidKinds := [.data, .data, .data, .handle, .sentinel], laidTests := true, laidLooks := .later }
def HotFreshUptoCardSaid : Prop := Claim7.holds Tryz.pinned (.plain (OpenSpec.upto hotFreshSpec)) hotFreshUptoCard
end Rows
end Go.Proofs.YthfebcfdhmihcaaGreatDoor
