/-
  No cell of these rows narrows 'for every input' (looked for: loops, veiled, ifaces, maps, wideKeys, modest, calm, conditions, laid).
  DERIVED. THE GIVEN ROWS OF THIS SEAT. 7 by the template 'for every input the law returns true; each argument reads behind the call as it read before'; 0 by the template 'total and deterministic' (their statements: YtadbmjmikoggbaaTotals.lean).
  GIVEN WITH THE SEED: the statements are not yours to turn. If you find one false, say at which input.
  Laid BY PROGRAM, IN A SANDBOX (cutbox-rows.mjs): the forced cells as the released guide's own fill.sh prints them over the translation 56e8f1a42d62d1af… (all of the seat's roots in one cut). By AI agents, Wed Nov 11 2026. No macro, syntax, notation, axiom, sorry.
-/
import Derived.Test.YtadbmjmikoggbaaChecked
import GoSem.Claim
import GoSem.ClaimJoined
import GoSem.ClaimMapViews
import Derived.JoinedTies
import Derived.KernelRfl
namespace Go.Proofs.Ytadbmjmikoggbaa
/- THE CELL 'sum', in the pinned program and in every row, IS THE sha256 OF THE DUMP (.gsa) THAT YtadbmjmikoggbaaProg.lean LOADS. Nothing in Lean hashes anything: it is a label: what it is worth is what the hold of that sum in a sandbox is worth. -/
noncomputable def Try.pinned : Pinned := { name := "ytadbmjmikoggbaa", sum := "56e8f1a42d62d1af758130113814abb826673e7aed05cc9724575d6e76c28acc", checked := Try.checked }
namespace Rows
def none {H : Type} : Left H := { results := [], args := [] }

/-- 'annexelaw06.LogicTruths': WHATEVER THE INPUT: true; the input reads as it did. -/
def logicTruthsSpec : ChangeSpec := { name := "logicTruths", fn := fun _ => fun
  | [d1, d2, d3] => { results := [.lit (.bool true)], args := [d1, d2, d3] }
  | _ => none }
def logicTruthsRow : OpenClaim := { program := "ytadbmjmikoggbaa", sum := "56e8f1a42d62d1af758130113814abb826673e7aed05cc9724575d6e76c28acc", func := "annexe/annexelaw06.LogicTruths", spec := "logicTruths", inPlace := ["internal/abi.NoEscape", "internal/bytealg.MakeNoZero"], unfollowed := true, recurses := true, apart := false }
def LogicTruthsSaid : Prop := logicTruthsRow.holds Try.pinned (OpenSpec.ofChange logicTruthsSpec)

/-- ITS FALSE NEIGHBOUR: 'it returns false'. Refute it at one input. -/
def logicTruthsWrong : ChangeSpec := { name := "logicTruths", fn := fun _ => fun
  | [d1, d2, d3] => { results := [.lit (.bool false)], args := [d1, d2, d3] }
  | _ => none }
def LogicTruthsWrongFalsely : Prop := logicTruthsRow.holds Try.pinned (OpenSpec.ofChange logicTruthsWrong)

/-- 'annexelaw06.LogicNumbers': WHATEVER THE INPUT: true; the input reads as it did. -/
def logicNumbersSpec : ChangeSpec := { name := "logicNumbers", fn := fun _ => fun
  | [d1, d2, d3] => { results := [.lit (.bool true)], args := [d1, d2, d3] }
  | _ => none }
def logicNumbersRow : OpenClaim := { program := "ytadbmjmikoggbaa", sum := "56e8f1a42d62d1af758130113814abb826673e7aed05cc9724575d6e76c28acc", func := "annexe/annexelaw06.LogicNumbers", spec := "logicNumbers", inPlace := ["internal/abi.NoEscape", "internal/bytealg.MakeNoZero"], unfollowed := true, recurses := true, apart := false }
def LogicNumbersSaid : Prop := logicNumbersRow.holds Try.pinned (OpenSpec.ofChange logicNumbersSpec)

/-- ITS FALSE NEIGHBOUR: 'it returns false'. Refute it at one input. -/
def logicNumbersWrong : ChangeSpec := { name := "logicNumbers", fn := fun _ => fun
  | [d1, d2, d3] => { results := [.lit (.bool false)], args := [d1, d2, d3] }
  | _ => none }
def LogicNumbersWrongFalsely : Prop := logicNumbersRow.holds Try.pinned (OpenSpec.ofChange logicNumbersWrong)

/-- 'annexelaw06.LogicBinary': WHATEVER THE INPUT: true; the input reads as it did. -/
def logicBinarySpec : ChangeSpec := { name := "logicBinary", fn := fun _ => fun
  | [d1, d2, d3, d4] => { results := [.lit (.bool true)], args := [d1, d2, d3, d4] }
  | _ => none }
def logicBinaryRow : OpenClaim := { program := "ytadbmjmikoggbaa", sum := "56e8f1a42d62d1af758130113814abb826673e7aed05cc9724575d6e76c28acc", func := "annexe/annexelaw06.LogicBinary", spec := "logicBinary", inPlace := ["internal/abi.NoEscape", "internal/bytealg.MakeNoZero"], unfollowed := true, recurses := true, apart := false }
def LogicBinarySaid : Prop := logicBinaryRow.holds Try.pinned (OpenSpec.ofChange logicBinarySpec)

/-- ITS FALSE NEIGHBOUR: 'it returns false'. Refute it at one input. -/
def logicBinaryWrong : ChangeSpec := { name := "logicBinary", fn := fun _ => fun
  | [d1, d2, d3, d4] => { results := [.lit (.bool false)], args := [d1, d2, d3, d4] }
  | _ => none }
def LogicBinaryWrongFalsely : Prop := logicBinaryRow.holds Try.pinned (OpenSpec.ofChange logicBinaryWrong)

/-- 'annexelaw06.LogicTurned': WHATEVER THE INPUT: true; the input reads as it did. -/
def logicTurnedSpec : ChangeSpec := { name := "logicTurned", fn := fun _ => fun
  | [d1, d2, d3] => { results := [.lit (.bool true)], args := [d1, d2, d3] }
  | _ => none }
def logicTurnedRow : OpenClaim := { program := "ytadbmjmikoggbaa", sum := "56e8f1a42d62d1af758130113814abb826673e7aed05cc9724575d6e76c28acc", func := "annexe/annexelaw06.LogicTurned", spec := "logicTurned", inPlace := ["internal/abi.NoEscape", "internal/bytealg.MakeNoZero"], unfollowed := true, recurses := true, apart := false }
def LogicTurnedSaid : Prop := logicTurnedRow.holds Try.pinned (OpenSpec.ofChange logicTurnedSpec)

/-- ITS FALSE NEIGHBOUR: 'it returns false'. Refute it at one input. -/
def logicTurnedWrong : ChangeSpec := { name := "logicTurned", fn := fun _ => fun
  | [d1, d2, d3] => { results := [.lit (.bool false)], args := [d1, d2, d3] }
  | _ => none }
def LogicTurnedWrongFalsely : Prop := logicTurnedRow.holds Try.pinned (OpenSpec.ofChange logicTurnedWrong)

/-- 'annexelaw06.LogicBack': WHATEVER THE INPUT: true; the input reads as it did. -/
def logicBackSpec : ChangeSpec := { name := "logicBack", fn := fun _ => fun
  | [d1, d2] => { results := [.lit (.bool true)], args := [d1, d2] }
  | _ => none }
def logicBackRow : OpenClaim := { program := "ytadbmjmikoggbaa", sum := "56e8f1a42d62d1af758130113814abb826673e7aed05cc9724575d6e76c28acc", func := "annexe/annexelaw06.LogicBack", spec := "logicBack", inPlace := ["internal/abi.NoEscape", "internal/bytealg.MakeNoZero"], unfollowed := true, recurses := true, apart := false }
def LogicBackSaid : Prop := logicBackRow.holds Try.pinned (OpenSpec.ofChange logicBackSpec)

/-- ITS FALSE NEIGHBOUR: 'it returns false'. Refute it at one input. -/
def logicBackWrong : ChangeSpec := { name := "logicBack", fn := fun _ => fun
  | [d1, d2] => { results := [.lit (.bool false)], args := [d1, d2] }
  | _ => none }
def LogicBackWrongFalsely : Prop := logicBackRow.holds Try.pinned (OpenSpec.ofChange logicBackWrong)

/-- 'annexelaw06.LogicLaws': WHATEVER THE INPUT: true; the input reads as it did. -/
def logicLawsSpec : ChangeSpec := { name := "logicLaws", fn := fun _ => fun
  | [d1, d2, d3] => { results := [.lit (.bool true)], args := [d1, d2, d3] }
  | _ => none }
def logicLawsRow : OpenClaim := { program := "ytadbmjmikoggbaa", sum := "56e8f1a42d62d1af758130113814abb826673e7aed05cc9724575d6e76c28acc", func := "annexe/annexelaw06.LogicLaws", spec := "logicLaws", inPlace := ["internal/abi.NoEscape", "internal/bytealg.MakeNoZero"], unfollowed := true, recurses := true, apart := false }
def LogicLawsSaid : Prop := logicLawsRow.holds Try.pinned (OpenSpec.ofChange logicLawsSpec)

/-- ITS FALSE NEIGHBOUR: 'it returns false'. Refute it at one input. -/
def logicLawsWrong : ChangeSpec := { name := "logicLaws", fn := fun _ => fun
  | [d1, d2, d3] => { results := [.lit (.bool false)], args := [d1, d2, d3] }
  | _ => none }
def LogicLawsWrongFalsely : Prop := logicLawsRow.holds Try.pinned (OpenSpec.ofChange logicLawsWrong)

/-- 'annexelaw06.LogicTexts': WHATEVER THE INPUT: true; the input reads as it did. -/
def logicTextsSpec : ChangeSpec := { name := "logicTexts", fn := fun _ => fun
  | [d1, d2, d3] => { results := [.lit (.bool true)], args := [d1, d2, d3] }
  | _ => none }
def logicTextsRow : OpenClaim := { program := "ytadbmjmikoggbaa", sum := "56e8f1a42d62d1af758130113814abb826673e7aed05cc9724575d6e76c28acc", func := "annexe/annexelaw06.LogicTexts", spec := "logicTexts", inPlace := ["internal/abi.NoEscape", "internal/bytealg.MakeNoZero"], unfollowed := true, recurses := true, apart := false }
def LogicTextsSaid : Prop := logicTextsRow.holds Try.pinned (OpenSpec.ofChange logicTextsSpec)

/-- ITS FALSE NEIGHBOUR: 'it returns false'. Refute it at one input. -/
def logicTextsWrong : ChangeSpec := { name := "logicTexts", fn := fun _ => fun
  | [d1, d2, d3] => { results := [.lit (.bool false)], args := [d1, d2, d3] }
  | _ => none }
def LogicTextsWrongFalsely : Prop := logicTextsRow.holds Try.pinned (OpenSpec.ofChange logicTextsWrong)

/- THE SECOND FORM. 'bulk': how many values and letters a reading holds, each counted each time it is reached (what is shared counts as often as it is met; a slice's spare places count too). A statement '..UptoSaid' is the law's where the arguments, and the package variables that the reading takes, are together of bulk at most 1048576: NARROWER than '..Said'. Prove '..Said' where nothing that the law and all that it calls make is longer than what came in: it says more and counts as full. Else prove '..UptoSaid'. A law counts once. -/
mutual
def uptoBulk {H : Type} : DataW H → Nat
  | .lit (.string bytes) => bytes.length + 1
  | .lit _ => 1
  | .nil => 1
  | .ptr d => uptoBulk d + 1
  | .slice elems spare => uptoBulkAll elems + uptoBulkAll spare + 1
  | .agg parts => uptoBulkAll parts + 1
  | .iface _ d => uptoBulk d + 1
  | .map entries => uptoBulkEntries entries + 1
  | .held _ => 1
def uptoBulkAll {H : Type} : List (DataW H) → Nat
  | [] => 0
  | d :: r => uptoBulk d + uptoBulkAll r
def uptoBulkEntries {H : Type} : List (Lit × DataW H) → Nat
  | [] => 0
  | x :: r => uptoBulkEntry x + uptoBulkEntries r
def uptoBulkEntry {H : Type} : Lit × DataW H → Nat
  | (.string bytes, d) => bytes.length + uptoBulk d + 1
  | (_, d) => uptoBulk d + 1
 end
def uptoSmall : (H : Type) → List (DataW H) → Bool := fun _ ds => decide (uptoBulkAll ds ≤ 1048576)
def OpenSpec.upto (s : _root_.Go.ChangeSpec) : _root_.Go.OpenSpec := { _root_.Go.OpenSpec.ofChange s with cond := some uptoSmall }

/-- 'annexelaw06.LogicTruths', WHERE WHAT IT READS IS OF BULK AT MOST 1048576: true; the input reads as it did. -/
def logicTruthsUptoRow : OpenClaim := { program := "ytadbmjmikoggbaa", sum := "56e8f1a42d62d1af758130113814abb826673e7aed05cc9724575d6e76c28acc", func := "annexe/annexelaw06.LogicTruths", spec := "logicTruths", inPlace := ["internal/abi.NoEscape", "internal/bytealg.MakeNoZero"], unfollowed := true, recurses := true, apart := false, narrowed := true }
def LogicTruthsUptoSaid : Prop := logicTruthsUptoRow.holds Try.pinned (OpenSpec.upto logicTruthsSpec)

/-- 'annexelaw06.LogicNumbers', WHERE WHAT IT READS IS OF BULK AT MOST 1048576: true; the input reads as it did. -/
def logicNumbersUptoRow : OpenClaim := { program := "ytadbmjmikoggbaa", sum := "56e8f1a42d62d1af758130113814abb826673e7aed05cc9724575d6e76c28acc", func := "annexe/annexelaw06.LogicNumbers", spec := "logicNumbers", inPlace := ["internal/abi.NoEscape", "internal/bytealg.MakeNoZero"], unfollowed := true, recurses := true, apart := false, narrowed := true }
def LogicNumbersUptoSaid : Prop := logicNumbersUptoRow.holds Try.pinned (OpenSpec.upto logicNumbersSpec)

/-- 'annexelaw06.LogicBinary', WHERE WHAT IT READS IS OF BULK AT MOST 1048576: true; the input reads as it did. -/
def logicBinaryUptoRow : OpenClaim := { program := "ytadbmjmikoggbaa", sum := "56e8f1a42d62d1af758130113814abb826673e7aed05cc9724575d6e76c28acc", func := "annexe/annexelaw06.LogicBinary", spec := "logicBinary", inPlace := ["internal/abi.NoEscape", "internal/bytealg.MakeNoZero"], unfollowed := true, recurses := true, apart := false, narrowed := true }
def LogicBinaryUptoSaid : Prop := logicBinaryUptoRow.holds Try.pinned (OpenSpec.upto logicBinarySpec)

/-- 'annexelaw06.LogicTurned', WHERE WHAT IT READS IS OF BULK AT MOST 1048576: true; the input reads as it did. -/
def logicTurnedUptoRow : OpenClaim := { program := "ytadbmjmikoggbaa", sum := "56e8f1a42d62d1af758130113814abb826673e7aed05cc9724575d6e76c28acc", func := "annexe/annexelaw06.LogicTurned", spec := "logicTurned", inPlace := ["internal/abi.NoEscape", "internal/bytealg.MakeNoZero"], unfollowed := true, recurses := true, apart := false, narrowed := true }
def LogicTurnedUptoSaid : Prop := logicTurnedUptoRow.holds Try.pinned (OpenSpec.upto logicTurnedSpec)

/-- 'annexelaw06.LogicBack', WHERE WHAT IT READS IS OF BULK AT MOST 1048576: true; the input reads as it did. -/
def logicBackUptoRow : OpenClaim := { program := "ytadbmjmikoggbaa", sum := "56e8f1a42d62d1af758130113814abb826673e7aed05cc9724575d6e76c28acc", func := "annexe/annexelaw06.LogicBack", spec := "logicBack", inPlace := ["internal/abi.NoEscape", "internal/bytealg.MakeNoZero"], unfollowed := true, recurses := true, apart := false, narrowed := true }
def LogicBackUptoSaid : Prop := logicBackUptoRow.holds Try.pinned (OpenSpec.upto logicBackSpec)

/-- 'annexelaw06.LogicLaws', WHERE WHAT IT READS IS OF BULK AT MOST 1048576: true; the input reads as it did. -/
def logicLawsUptoRow : OpenClaim := { program := "ytadbmjmikoggbaa", sum := "56e8f1a42d62d1af758130113814abb826673e7aed05cc9724575d6e76c28acc", func := "annexe/annexelaw06.LogicLaws", spec := "logicLaws", inPlace := ["internal/abi.NoEscape", "internal/bytealg.MakeNoZero"], unfollowed := true, recurses := true, apart := false, narrowed := true }
def LogicLawsUptoSaid : Prop := logicLawsUptoRow.holds Try.pinned (OpenSpec.upto logicLawsSpec)

/-- 'annexelaw06.LogicTexts', WHERE WHAT IT READS IS OF BULK AT MOST 1048576: true; the input reads as it did. -/
def logicTextsUptoRow : OpenClaim := { program := "ytadbmjmikoggbaa", sum := "56e8f1a42d62d1af758130113814abb826673e7aed05cc9724575d6e76c28acc", func := "annexe/annexelaw06.LogicTexts", spec := "logicTexts", inPlace := ["internal/abi.NoEscape", "internal/bytealg.MakeNoZero"], unfollowed := true, recurses := true, apart := false, narrowed := true }
def LogicTextsUptoSaid : Prop := logicTextsUptoRow.holds Try.pinned (OpenSpec.upto logicTextsSpec)

end Rows
end Go.Proofs.Ytadbmjmikoggbaa
