/-
  No cell of these rows narrows 'for every input' (looked for: loops, veiled, ifaces, maps, wideKeys, modest, calm, conditions, laid).
  DERIVED. THE GIVEN ROWS OF THIS SEAT. 3 by the template 'for every input the law returns true; each argument reads behind the call as it read before'; 0 by the template 'total and deterministic' (their statements: YtnbbnmhokclhdaaTotals.lean).
  GIVEN WITH THE SEED: the statements are not yours to turn. If you find one false, say at which input.
  Laid BY PROGRAM, IN A SANDBOX (cutbox-rows.mjs): the forced cells as the released guide's own fill.sh prints them over the translation fa8f8d88128a5367… (all of the seat's roots in one cut). By AI agents, Wed Nov 11 2026. No macro, syntax, notation, axiom, sorry.
-/
import Derived.Test.YtnbbnmhokclhdaaChecked
import GoSem.Claim
import GoSem.ClaimJoined
import GoSem.ClaimMapViews
import Derived.JoinedTies
import Derived.KernelRfl
namespace Go.Proofs.Ytnbbnmhokclhdaa
/- THE CELL 'sum', in the pinned program and in every row, IS THE sha256 OF THE DUMP (.gsa) THAT YtnbbnmhokclhdaaProg.lean LOADS. Nothing in Lean hashes anything: it is a label: what it is worth is what the hold of that sum in a sandbox is worth. -/
noncomputable def Try.pinned : Pinned := { name := "ytnbbnmhokclhdaa", sum := "fa8f8d88128a536784412cc448b500baece1b7debcb2e6d95a74cfd39fb1acdd", checked := Try.checked }
namespace Rows
def none {H : Type} : Left H := { results := [], args := [] }

/-- 'annexelaw09.JpageWrites': WHATEVER THE INPUT: true; the input reads as it did. -/
def jpageWritesSpec : ChangeSpec := { name := "jpageWrites", fn := fun _ => fun
  | [d1, d2, d3] => { results := [.lit (.bool true)], args := [d1, d2, d3] }
  | _ => none }
def jpageWritesRow : OpenClaim := { program := "ytnbbnmhokclhdaa", sum := "fa8f8d88128a536784412cc448b500baece1b7debcb2e6d95a74cfd39fb1acdd", func := "annexe/annexelaw09.JpageWrites", spec := "jpageWrites", apart := false }
def JpageWritesSaid : Prop := jpageWritesRow.holds Try.pinned (OpenSpec.ofChange jpageWritesSpec)

/-- ITS FALSE NEIGHBOUR: 'it returns false'. Refute it at one input. -/
def jpageWritesWrong : ChangeSpec := { name := "jpageWrites", fn := fun _ => fun
  | [d1, d2, d3] => { results := [.lit (.bool false)], args := [d1, d2, d3] }
  | _ => none }
def JpageWritesWrongFalsely : Prop := jpageWritesRow.holds Try.pinned (OpenSpec.ofChange jpageWritesWrong)

/-- 'annexelaw09.JpageReads': WHATEVER THE INPUT: true; the input reads as it did. -/
def jpageReadsSpec : ChangeSpec := { name := "jpageReads", fn := fun _ => fun
  | [d1, d2] => { results := [.lit (.bool true)], args := [d1, d2] }
  | _ => none }
def jpageReadsRow : OpenClaim := { program := "ytnbbnmhokclhdaa", sum := "fa8f8d88128a536784412cc448b500baece1b7debcb2e6d95a74cfd39fb1acdd", func := "annexe/annexelaw09.JpageReads", spec := "jpageReads", apart := false }
def JpageReadsSaid : Prop := jpageReadsRow.holds Try.pinned (OpenSpec.ofChange jpageReadsSpec)

/-- ITS FALSE NEIGHBOUR: 'it returns false'. Refute it at one input. -/
def jpageReadsWrong : ChangeSpec := { name := "jpageReads", fn := fun _ => fun
  | [d1, d2] => { results := [.lit (.bool false)], args := [d1, d2] }
  | _ => none }
def JpageReadsWrongFalsely : Prop := jpageReadsRow.holds Try.pinned (OpenSpec.ofChange jpageReadsWrong)

/-- 'annexelaw09.JpageTurned': WHATEVER THE INPUT: true; the input reads as it did. -/
def jpageTurnedSpec : ChangeSpec := { name := "jpageTurned", fn := fun _ => fun
  | [d1, d2, d3, d4] => { results := [.lit (.bool true)], args := [d1, d2, d3, d4] }
  | _ => none }
def jpageTurnedRow : OpenClaim := { program := "ytnbbnmhokclhdaa", sum := "fa8f8d88128a536784412cc448b500baece1b7debcb2e6d95a74cfd39fb1acdd", func := "annexe/annexelaw09.JpageTurned", spec := "jpageTurned", apart := false }
def JpageTurnedSaid : Prop := jpageTurnedRow.holds Try.pinned (OpenSpec.ofChange jpageTurnedSpec)

/-- ITS FALSE NEIGHBOUR: 'it returns false'. Refute it at one input. -/
def jpageTurnedWrong : ChangeSpec := { name := "jpageTurned", fn := fun _ => fun
  | [d1, d2, d3, d4] => { results := [.lit (.bool false)], args := [d1, d2, d3, d4] }
  | _ => none }
def JpageTurnedWrongFalsely : Prop := jpageTurnedRow.holds Try.pinned (OpenSpec.ofChange jpageTurnedWrong)

/- THE SECOND FORM. 'bulk': how many values and letters a reading holds, each counted each time it is reached (what is shared counts as often as it is met; a slice's spare places count too). A statement '..UptoSaid' is the law's where the arguments, and the package variables that the reading takes, are together of bulk at most 1048576: NARROWER than '..Said'. Prove '..Said' where nothing that the law and all that it calls make is longer than what came in: it says more and counts as full. Else prove '..UptoSaid'. A law counts once. -/
mutual
def uptoBulk {H : Type} : DataW H → Nat
  | .lit (.string bytes) => bytes.length + 1
  | .lit _ => 1
  | .nil => 1
  | .ptr d => uptoBulk d + 1
  | .slice elems spare => uptoBulkAll elems + uptoBulkAll spare + 1
  | .agg parts => uptoBulkAll parts + 1
  | .iface _ d => uptoBulk d + 1
  | .map entries => uptoBulkEntries entries + 1
  | .held _ => 1
def uptoBulkAll {H : Type} : List (DataW H) → Nat
  | [] => 0
  | d :: r => uptoBulk d + uptoBulkAll r
def uptoBulkEntries {H : Type} : List (Lit × DataW H) → Nat
  | [] => 0
  | x :: r => uptoBulkEntry x + uptoBulkEntries r
def uptoBulkEntry {H : Type} : Lit × DataW H → Nat
  | (.string bytes, d) => bytes.length + uptoBulk d + 1
  | (_, d) => uptoBulk d + 1
 end
def uptoSmall : (H : Type) → List (DataW H) → Bool := fun _ ds => decide (uptoBulkAll ds ≤ 1048576)
def OpenSpec.upto (s : _root_.Go.ChangeSpec) : _root_.Go.OpenSpec := { _root_.Go.OpenSpec.ofChange s with cond := some uptoSmall }

/-- 'annexelaw09.JpageWrites', WHERE WHAT IT READS IS OF BULK AT MOST 1048576: true; the input reads as it did. -/
def jpageWritesUptoRow : OpenClaim := { program := "ytnbbnmhokclhdaa", sum := "fa8f8d88128a536784412cc448b500baece1b7debcb2e6d95a74cfd39fb1acdd", func := "annexe/annexelaw09.JpageWrites", spec := "jpageWrites", apart := false, narrowed := true }
def JpageWritesUptoSaid : Prop := jpageWritesUptoRow.holds Try.pinned (OpenSpec.upto jpageWritesSpec)

/-- 'annexelaw09.JpageReads', WHERE WHAT IT READS IS OF BULK AT MOST 1048576: true; the input reads as it did. -/
def jpageReadsUptoRow : OpenClaim := { program := "ytnbbnmhokclhdaa", sum := "fa8f8d88128a536784412cc448b500baece1b7debcb2e6d95a74cfd39fb1acdd", func := "annexe/annexelaw09.JpageReads", spec := "jpageReads", apart := false, narrowed := true }
def JpageReadsUptoSaid : Prop := jpageReadsUptoRow.holds Try.pinned (OpenSpec.upto jpageReadsSpec)

/-- 'annexelaw09.JpageTurned', WHERE WHAT IT READS IS OF BULK AT MOST 1048576: true; the input reads as it did. -/
def jpageTurnedUptoRow : OpenClaim := { program := "ytnbbnmhokclhdaa", sum := "fa8f8d88128a536784412cc448b500baece1b7debcb2e6d95a74cfd39fb1acdd", func := "annexe/annexelaw09.JpageTurned", spec := "jpageTurned", apart := false, narrowed := true }
def JpageTurnedUptoSaid : Prop := jpageTurnedUptoRow.holds Try.pinned (OpenSpec.upto jpageTurnedSpec)

end Rows
end Go.Proofs.Ytnbbnmhokclhdaa
