/-
  No cell of these rows narrows 'for every input' (looked for: loops, veiled, ifaces, maps, wideKeys, modest, calm, conditions, laid).
  DERIVED. THE GIVEN ROWS OF THIS SEAT. 4 by the template 'for every input the law returns true; each argument reads behind the call as it read before'; 0 by the template 'total and deterministic' (their statements: YtpglonfghhaanaaTotals.lean).
  GIVEN WITH THE SEED: the statements are not yours to turn. If you find one false, say at which input.
  Laid BY PROGRAM, IN A SANDBOX (cutbox-rows.mjs): the forced cells as the released guide's own fill.sh prints them over the translation 9c30c88b96f1aadc… (all of the seat's roots in one cut). By AI agents, Wed Nov 11 2026. No macro, syntax, notation, axiom, sorry.
-/
import Derived.Test.YtpglonfghhaanaaChecked
import GoSem.Claim
import GoSem.ClaimJoined
import GoSem.ClaimMapViews
import Derived.JoinedTies
import Derived.KernelRfl
namespace Go.Proofs.Ytpglonfghhaanaa
/- THE CELL 'sum', in the pinned program and in every row, IS THE sha256 OF THE DUMP (.gsa) THAT YtpglonfghhaanaaProg.lean LOADS. Nothing in Lean hashes anything: it is a label: what it is worth is what the hold of that sum in a sandbox is worth. -/
noncomputable def Try.pinned : Pinned := { name := "ytpglonfghhaanaa", sum := "9c30c88b96f1aadc2a1d8d56423fd92c4b72a394cdc1ee02fbb264153724c74d", checked := Try.checked }
namespace Rows
def none {H : Type} : Left H := { results := [], args := [] }

/-- 'annexelaw08.JheadWrites': WHATEVER THE INPUT: true; the input reads as it did. -/
def jheadWritesSpec : ChangeSpec := { name := "jheadWrites", fn := fun _ => fun
  | [d1, d2] => { results := [.lit (.bool true)], args := [d1, d2] }
  | _ => none }
def jheadWritesRow : OpenClaim := { program := "ytpglonfghhaanaa", sum := "9c30c88b96f1aadc2a1d8d56423fd92c4b72a394cdc1ee02fbb264153724c74d", func := "annexe/annexelaw08.JheadWrites", spec := "jheadWrites", apart := false }
def JheadWritesSaid : Prop := jheadWritesRow.holds Try.pinned (OpenSpec.ofChange jheadWritesSpec)

/-- ITS FALSE NEIGHBOUR: 'it returns false'. Refute it at one input. -/
def jheadWritesWrong : ChangeSpec := { name := "jheadWrites", fn := fun _ => fun
  | [d1, d2] => { results := [.lit (.bool false)], args := [d1, d2] }
  | _ => none }
def JheadWritesWrongFalsely : Prop := jheadWritesRow.holds Try.pinned (OpenSpec.ofChange jheadWritesWrong)

/-- 'annexelaw08.JheadReads': WHATEVER THE INPUT: true; the input reads as it did. -/
def jheadReadsSpec : ChangeSpec := { name := "jheadReads", fn := fun _ => fun
  | [d] => { results := [.lit (.bool true)], args := [d] }
  | _ => none }
def jheadReadsRow : OpenClaim := { program := "ytpglonfghhaanaa", sum := "9c30c88b96f1aadc2a1d8d56423fd92c4b72a394cdc1ee02fbb264153724c74d", func := "annexe/annexelaw08.JheadReads", spec := "jheadReads", apart := false }
def JheadReadsSaid : Prop := jheadReadsRow.holds Try.pinned (OpenSpec.ofChange jheadReadsSpec)

/-- ITS FALSE NEIGHBOUR: 'it returns false'. Refute it at one input. -/
def jheadReadsWrong : ChangeSpec := { name := "jheadReads", fn := fun _ => fun
  | [d] => { results := [.lit (.bool false)], args := [d] }
  | _ => none }
def JheadReadsWrongFalsely : Prop := jheadReadsRow.holds Try.pinned (OpenSpec.ofChange jheadReadsWrong)

/-- 'annexelaw08.JheadTorn': WHATEVER THE INPUT: true; the input reads as it did. -/
def jheadTornSpec : ChangeSpec := { name := "jheadTorn", fn := fun _ => fun
  | [d1, d2] => { results := [.lit (.bool true)], args := [d1, d2] }
  | _ => none }
def jheadTornRow : OpenClaim := { program := "ytpglonfghhaanaa", sum := "9c30c88b96f1aadc2a1d8d56423fd92c4b72a394cdc1ee02fbb264153724c74d", func := "annexe/annexelaw08.JheadTorn", spec := "jheadTorn", apart := false }
def JheadTornSaid : Prop := jheadTornRow.holds Try.pinned (OpenSpec.ofChange jheadTornSpec)

/-- ITS FALSE NEIGHBOUR: 'it returns false'. Refute it at one input. -/
def jheadTornWrong : ChangeSpec := { name := "jheadTorn", fn := fun _ => fun
  | [d1, d2] => { results := [.lit (.bool false)], args := [d1, d2] }
  | _ => none }
def JheadTornWrongFalsely : Prop := jheadTornRow.holds Try.pinned (OpenSpec.ofChange jheadTornWrong)

/-- 'annexelaw08.JheadTurned': WHATEVER THE INPUT: true; the input reads as it did. -/
def jheadTurnedSpec : ChangeSpec := { name := "jheadTurned", fn := fun _ => fun
  | [d1, d2, d3] => { results := [.lit (.bool true)], args := [d1, d2, d3] }
  | _ => none }
def jheadTurnedRow : OpenClaim := { program := "ytpglonfghhaanaa", sum := "9c30c88b96f1aadc2a1d8d56423fd92c4b72a394cdc1ee02fbb264153724c74d", func := "annexe/annexelaw08.JheadTurned", spec := "jheadTurned", apart := false }
def JheadTurnedSaid : Prop := jheadTurnedRow.holds Try.pinned (OpenSpec.ofChange jheadTurnedSpec)

/-- ITS FALSE NEIGHBOUR: 'it returns false'. Refute it at one input. -/
def jheadTurnedWrong : ChangeSpec := { name := "jheadTurned", fn := fun _ => fun
  | [d1, d2, d3] => { results := [.lit (.bool false)], args := [d1, d2, d3] }
  | _ => none }
def JheadTurnedWrongFalsely : Prop := jheadTurnedRow.holds Try.pinned (OpenSpec.ofChange jheadTurnedWrong)

/- THE SECOND FORM. 'bulk': how many values and letters a reading holds, each counted each time it is reached (what is shared counts as often as it is met; a slice's spare places count too). A statement '..UptoSaid' is the law's where the arguments, and the package variables that the reading takes, are together of bulk at most 1048576: NARROWER than '..Said'. Prove '..Said' where nothing that the law and all that it calls make is longer than what came in: it says more and counts as full. Else prove '..UptoSaid'. A law counts once. -/
mutual
def uptoBulk {H : Type} : DataW H → Nat
  | .lit (.string bytes) => bytes.length + 1
  | .lit _ => 1
  | .nil => 1
  | .ptr d => uptoBulk d + 1
  | .slice elems spare => uptoBulkAll elems + uptoBulkAll spare + 1
  | .agg parts => uptoBulkAll parts + 1
  | .iface _ d => uptoBulk d + 1
  | .map entries => uptoBulkEntries entries + 1
  | .held _ => 1
def uptoBulkAll {H : Type} : List (DataW H) → Nat
  | [] => 0
  | d :: r => uptoBulk d + uptoBulkAll r
def uptoBulkEntries {H : Type} : List (Lit × DataW H) → Nat
  | [] => 0
  | x :: r => uptoBulkEntry x + uptoBulkEntries r
def uptoBulkEntry {H : Type} : Lit × DataW H → Nat
  | (.string bytes, d) => bytes.length + uptoBulk d + 1
  | (_, d) => uptoBulk d + 1
 end
def uptoSmall : (H : Type) → List (DataW H) → Bool := fun _ ds => decide (uptoBulkAll ds ≤ 1048576)
def OpenSpec.upto (s : _root_.Go.ChangeSpec) : _root_.Go.OpenSpec := { _root_.Go.OpenSpec.ofChange s with cond := some uptoSmall }

/-- 'annexelaw08.JheadWrites', WHERE WHAT IT READS IS OF BULK AT MOST 1048576: true; the input reads as it did. -/
def jheadWritesUptoRow : OpenClaim := { program := "ytpglonfghhaanaa", sum := "9c30c88b96f1aadc2a1d8d56423fd92c4b72a394cdc1ee02fbb264153724c74d", func := "annexe/annexelaw08.JheadWrites", spec := "jheadWrites", apart := false, narrowed := true }
def JheadWritesUptoSaid : Prop := jheadWritesUptoRow.holds Try.pinned (OpenSpec.upto jheadWritesSpec)

/-- 'annexelaw08.JheadReads', WHERE WHAT IT READS IS OF BULK AT MOST 1048576: true; the input reads as it did. -/
def jheadReadsUptoRow : OpenClaim := { program := "ytpglonfghhaanaa", sum := "9c30c88b96f1aadc2a1d8d56423fd92c4b72a394cdc1ee02fbb264153724c74d", func := "annexe/annexelaw08.JheadReads", spec := "jheadReads", apart := false, narrowed := true }
def JheadReadsUptoSaid : Prop := jheadReadsUptoRow.holds Try.pinned (OpenSpec.upto jheadReadsSpec)

/-- 'annexelaw08.JheadTorn', WHERE WHAT IT READS IS OF BULK AT MOST 1048576: true; the input reads as it did. -/
def jheadTornUptoRow : OpenClaim := { program := "ytpglonfghhaanaa", sum := "9c30c88b96f1aadc2a1d8d56423fd92c4b72a394cdc1ee02fbb264153724c74d", func := "annexe/annexelaw08.JheadTorn", spec := "jheadTorn", apart := false, narrowed := true }
def JheadTornUptoSaid : Prop := jheadTornUptoRow.holds Try.pinned (OpenSpec.upto jheadTornSpec)

/-- 'annexelaw08.JheadTurned', WHERE WHAT IT READS IS OF BULK AT MOST 1048576: true; the input reads as it did. -/
def jheadTurnedUptoRow : OpenClaim := { program := "ytpglonfghhaanaa", sum := "9c30c88b96f1aadc2a1d8d56423fd92c4b72a394cdc1ee02fbb264153724c74d", func := "annexe/annexelaw08.JheadTurned", spec := "jheadTurned", apart := false, narrowed := true }
def JheadTurnedUptoSaid : Prop := jheadTurnedUptoRow.holds Try.pinned (OpenSpec.upto jheadTurnedSpec)

end Rows
end Go.Proofs.Ytpglonfghhaanaa
