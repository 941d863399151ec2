/-
  Layer 13: HotFresh, walked over what the row lists. Condition: the listed variables hold what the program's text lays.
-/
import Derived.Test.YthfebcfdhmihcaaGreatDoorMh23
import Derived.Test.YthfebcfdhmihcaaGreatDoorMh25
namespace Go.Proofs.YthfebcfdhmihcaaGreatDoor
open Go.ChangeShapes Go.WideShapes Go.ChangeAt Go.RowKit

theorem hotfresh_laid (a : Option Addr) (cap : Nat) (l : List F13) (s t : ByteArray) (w : World) (hl : l.length ≤ 9223372036854775807) (hz : SzF l) (hs : s.size ≤ 1152921504606846976) (ht : t.size ≤ 1152921504606846976) (ha : Fls w a l) (hL : laidMetH Tryz.prog laidList w) :
    Calls Tryz.prog 4 #[.slice a l.length cap, .string s, .string t] w fun e w' => e = .returned (.bool true) ∧ Below w.heap.size w w' := by
  obtain ⟨ea, hg⟩ := gl_of_laid hL
  have := hotfresh_any a cap l s.data.toList t.data.toList w hl hz (by simpa using hs) (by simpa using ht) ha hg (gn_of_laid hL)
  rw [ba_back, ba_back] at this
  exact this
end Go.Proofs.YthfebcfdhmihcaaGreatDoor
