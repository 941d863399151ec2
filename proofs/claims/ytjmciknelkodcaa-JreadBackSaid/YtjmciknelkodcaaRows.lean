/-
  No cell of these rows narrows 'for every input' (looked for: loops, veiled, ifaces, maps, wideKeys, modest, calm, conditions, laid).
  DERIVED. THE GIVEN ROWS OF THIS SEAT. 4 by the template 'for every input the law returns true; each argument reads behind the call as it read before'; 0 by the template 'total and deterministic' (their statements: YtjmciknelkodcaaTotals.lean).
  GIVEN WITH THE SEED: the statements are not yours to turn. If you find one false, say at which input.
  Laid BY PROGRAM, IN A SANDBOX (cutbox-rows.mjs): the forced cells as the released guide's own fill.sh prints them over the translation 9a80d2ce9572d434… (all of the seat's roots in one cut). By AI agents, Wed Nov 11 2026. No macro, syntax, notation, axiom, sorry.
-/
import Derived.Test.YtjmciknelkodcaaChecked
import GoSem.Claim
import GoSem.ClaimJoined
import GoSem.ClaimMapViews
import Derived.JoinedTies
import Derived.KernelRfl
namespace Go.Proofs.Ytjmciknelkodcaa
/- THE CELL 'sum', in the pinned program and in every row, IS THE sha256 OF THE DUMP (.gsa) THAT YtjmciknelkodcaaProg.lean LOADS. Nothing in Lean hashes anything: it is a label: what it is worth is what the hold of that sum in a sandbox is worth. -/
noncomputable def Try.pinned : Pinned := { name := "ytjmciknelkodcaa", sum := "9a80d2ce9572d434293939931f4dddf429bcd750372689b26ff7b2b7ee1999f0", checked := Try.checked }
namespace Rows
def none {H : Type} : Left H := { results := [], args := [] }

/-- 'annexelaw11.JreadReads': WHATEVER THE INPUT: true; the input reads as it did. -/
def jreadReadsSpec : ChangeSpec := { name := "jreadReads", fn := fun _ => fun
  | [d] => { results := [.lit (.bool true)], args := [d] }
  | _ => none }
def jreadReadsRow : OpenClaim := { program := "ytjmciknelkodcaa", sum := "9a80d2ce9572d434293939931f4dddf429bcd750372689b26ff7b2b7ee1999f0", func := "annexe/annexelaw11.JreadReads", spec := "jreadReads", inPlace := ["internal/abi.NoEscape", "internal/bytealg.MakeNoZero"], unfollowed := true, recurses := true, apart := false }
def JreadReadsSaid : Prop := jreadReadsRow.holds Try.pinned (OpenSpec.ofChange jreadReadsSpec)

/-- ITS FALSE NEIGHBOUR: 'it returns false'. Refute it at one input. -/
def jreadReadsWrong : ChangeSpec := { name := "jreadReads", fn := fun _ => fun
  | [d] => { results := [.lit (.bool false)], args := [d] }
  | _ => none }
def JreadReadsWrongFalsely : Prop := jreadReadsRow.holds Try.pinned (OpenSpec.ofChange jreadReadsWrong)

/-- 'annexelaw11.JreadParts': WHATEVER THE INPUT: true; the input reads as it did. -/
def jreadPartsSpec : ChangeSpec := { name := "jreadParts", fn := fun _ => fun
  | [d1, d2, d3, d4] => { results := [.lit (.bool true)], args := [d1, d2, d3, d4] }
  | _ => none }
def jreadPartsRow : OpenClaim := { program := "ytjmciknelkodcaa", sum := "9a80d2ce9572d434293939931f4dddf429bcd750372689b26ff7b2b7ee1999f0", func := "annexe/annexelaw11.JreadParts", spec := "jreadParts", inPlace := ["internal/abi.NoEscape", "internal/bytealg.MakeNoZero"], unfollowed := true, recurses := true, apart := false }
def JreadPartsSaid : Prop := jreadPartsRow.holds Try.pinned (OpenSpec.ofChange jreadPartsSpec)

/-- ITS FALSE NEIGHBOUR: 'it returns false'. Refute it at one input. -/
def jreadPartsWrong : ChangeSpec := { name := "jreadParts", fn := fun _ => fun
  | [d1, d2, d3, d4] => { results := [.lit (.bool false)], args := [d1, d2, d3, d4] }
  | _ => none }
def JreadPartsWrongFalsely : Prop := jreadPartsRow.holds Try.pinned (OpenSpec.ofChange jreadPartsWrong)

/-- 'annexelaw11.JreadBack': WHATEVER THE INPUT: true; the input reads as it did. -/
def jreadBackSpec : ChangeSpec := { name := "jreadBack", fn := fun _ => fun
  | [d1, d2, d3, d4] => { results := [.lit (.bool true)], args := [d1, d2, d3, d4] }
  | _ => none }
def jreadBackRow : OpenClaim := { program := "ytjmciknelkodcaa", sum := "9a80d2ce9572d434293939931f4dddf429bcd750372689b26ff7b2b7ee1999f0", func := "annexe/annexelaw11.JreadBack", spec := "jreadBack", inPlace := ["internal/abi.NoEscape", "internal/bytealg.MakeNoZero"], unfollowed := true, recurses := true, apart := false }
def JreadBackSaid : Prop := jreadBackRow.holds Try.pinned (OpenSpec.ofChange jreadBackSpec)

/-- ITS FALSE NEIGHBOUR: 'it returns false'. Refute it at one input. -/
def jreadBackWrong : ChangeSpec := { name := "jreadBack", fn := fun _ => fun
  | [d1, d2, d3, d4] => { results := [.lit (.bool false)], args := [d1, d2, d3, d4] }
  | _ => none }
def JreadBackWrongFalsely : Prop := jreadBackRow.holds Try.pinned (OpenSpec.ofChange jreadBackWrong)

/-- 'annexelaw11.JreadApplied': WHATEVER THE INPUT: true; the input reads as it did. -/
def jreadAppliedSpec : ChangeSpec := { name := "jreadApplied", fn := fun _ => fun
  | [d1, d2, d3] => { results := [.lit (.bool true)], args := [d1, d2, d3] }
  | _ => none }
def jreadAppliedRow : OpenClaim := { program := "ytjmciknelkodcaa", sum := "9a80d2ce9572d434293939931f4dddf429bcd750372689b26ff7b2b7ee1999f0", func := "annexe/annexelaw11.JreadApplied", spec := "jreadApplied", inPlace := ["internal/abi.NoEscape", "internal/bytealg.MakeNoZero"], unfollowed := true, recurses := true, apart := false }
def JreadAppliedSaid : Prop := jreadAppliedRow.holds Try.pinned (OpenSpec.ofChange jreadAppliedSpec)

/-- ITS FALSE NEIGHBOUR: 'it returns false'. Refute it at one input. -/
def jreadAppliedWrong : ChangeSpec := { name := "jreadApplied", fn := fun _ => fun
  | [d1, d2, d3] => { results := [.lit (.bool false)], args := [d1, d2, d3] }
  | _ => none }
def JreadAppliedWrongFalsely : Prop := jreadAppliedRow.holds Try.pinned (OpenSpec.ofChange jreadAppliedWrong)

/- THE SECOND FORM. 'bulk': how many values and letters a reading holds, each counted each time it is reached (what is shared counts as often as it is met; a slice's spare places count too). A statement '..UptoSaid' is the law's where the arguments, and the package variables that the reading takes, are together of bulk at most 1048576: NARROWER than '..Said'. Prove '..Said' where nothing that the law and all that it calls make is longer than what came in: it says more and counts as full. Else prove '..UptoSaid'. A law counts once. -/
mutual
def uptoBulk {H : Type} : DataW H → Nat
  | .lit (.string bytes) => bytes.length + 1
  | .lit _ => 1
  | .nil => 1
  | .ptr d => uptoBulk d + 1
  | .slice elems spare => uptoBulkAll elems + uptoBulkAll spare + 1
  | .agg parts => uptoBulkAll parts + 1
  | .iface _ d => uptoBulk d + 1
  | .map entries => uptoBulkEntries entries + 1
  | .held _ => 1
def uptoBulkAll {H : Type} : List (DataW H) → Nat
  | [] => 0
  | d :: r => uptoBulk d + uptoBulkAll r
def uptoBulkEntries {H : Type} : List (Lit × DataW H) → Nat
  | [] => 0
  | x :: r => uptoBulkEntry x + uptoBulkEntries r
def uptoBulkEntry {H : Type} : Lit × DataW H → Nat
  | (.string bytes, d) => bytes.length + uptoBulk d + 1
  | (_, d) => uptoBulk d + 1
 end
def uptoSmall : (H : Type) → List (DataW H) → Bool := fun _ ds => decide (uptoBulkAll ds ≤ 1048576)
def OpenSpec.upto (s : _root_.Go.ChangeSpec) : _root_.Go.OpenSpec := { _root_.Go.OpenSpec.ofChange s with cond := some uptoSmall }

/-- 'annexelaw11.JreadReads', WHERE WHAT IT READS IS OF BULK AT MOST 1048576: true; the input reads as it did. -/
def jreadReadsUptoRow : OpenClaim := { program := "ytjmciknelkodcaa", sum := "9a80d2ce9572d434293939931f4dddf429bcd750372689b26ff7b2b7ee1999f0", func := "annexe/annexelaw11.JreadReads", spec := "jreadReads", inPlace := ["internal/abi.NoEscape", "internal/bytealg.MakeNoZero"], unfollowed := true, recurses := true, apart := false, narrowed := true }
def JreadReadsUptoSaid : Prop := jreadReadsUptoRow.holds Try.pinned (OpenSpec.upto jreadReadsSpec)

/-- 'annexelaw11.JreadParts', WHERE WHAT IT READS IS OF BULK AT MOST 1048576: true; the input reads as it did. -/
def jreadPartsUptoRow : OpenClaim := { program := "ytjmciknelkodcaa", sum := "9a80d2ce9572d434293939931f4dddf429bcd750372689b26ff7b2b7ee1999f0", func := "annexe/annexelaw11.JreadParts", spec := "jreadParts", inPlace := ["internal/abi.NoEscape", "internal/bytealg.MakeNoZero"], unfollowed := true, recurses := true, apart := false, narrowed := true }
def JreadPartsUptoSaid : Prop := jreadPartsUptoRow.holds Try.pinned (OpenSpec.upto jreadPartsSpec)

/-- 'annexelaw11.JreadBack', WHERE WHAT IT READS IS OF BULK AT MOST 1048576: true; the input reads as it did. -/
def jreadBackUptoRow : OpenClaim := { program := "ytjmciknelkodcaa", sum := "9a80d2ce9572d434293939931f4dddf429bcd750372689b26ff7b2b7ee1999f0", func := "annexe/annexelaw11.JreadBack", spec := "jreadBack", inPlace := ["internal/abi.NoEscape", "internal/bytealg.MakeNoZero"], unfollowed := true, recurses := true, apart := false, narrowed := true }
def JreadBackUptoSaid : Prop := jreadBackUptoRow.holds Try.pinned (OpenSpec.upto jreadBackSpec)

/-- 'annexelaw11.JreadApplied', WHERE WHAT IT READS IS OF BULK AT MOST 1048576: true; the input reads as it did. -/
def jreadAppliedUptoRow : OpenClaim := { program := "ytjmciknelkodcaa", sum := "9a80d2ce9572d434293939931f4dddf429bcd750372689b26ff7b2b7ee1999f0", func := "annexe/annexelaw11.JreadApplied", spec := "jreadApplied", inPlace := ["internal/abi.NoEscape", "internal/bytealg.MakeNoZero"], unfollowed := true, recurses := true, apart := false, narrowed := true }
def JreadAppliedUptoSaid : Prop := jreadAppliedUptoRow.holds Try.pinned (OpenSpec.upto jreadAppliedSpec)

end Rows
end Go.Proofs.Ytjmciknelkodcaa
