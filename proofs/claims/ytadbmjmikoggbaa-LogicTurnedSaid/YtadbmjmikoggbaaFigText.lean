/-
  figure.Text: it returns the number in decimal ('Lib.itoa'), and changes nothing that was there. Conditions: the number is an int; strconv's table of powers of ten lies in memory as its initialiser lays it ('Tab').
-/
import Derived.Test.YtadbmjmikoggbaaFigRead
import Derived.Test.YtadbmjmikoggbaaFigUnq
import Derived.Test.YtadbmjmikoggbaaFigQuote
import Derived.Test.YtadbmjmikoggbaaFigHex
import Derived.Test.YtadbmjmikoggbaaFigUnhex
import Derived.WalkSmall
import Derived.Lib.ItoaLen
namespace Go.Proofs.Ytadbmjmikoggbaa
open Go.RowKit Go.Shelf

def Tab (w : World) : Prop := Lib.TabIs Try.prog w "internal/strconv.uint64pow10" .u64 Lib.pow10Tab
theorem grown_below (w : World) (q : Nat) (os : Array Obj) : Below w.heap.size w (Sort.grow (w.drewN q) os) :=
  ⟨rfl, rfl, rfl, by first | (simp [Sort.grow]; done) | (simp [Sort.grow]; omega), fun i hi => by
    show ((w.drewN q).heap ++ os)[i]? = _
    rw [Array.getElem?_append_left (by show i < w.heap.size; omega)]
    rfl⟩

theorem fold_any (s : ByteArray) (w : World) (hs : s.size ≤ 140737488351232) :
    Calls Try.prog 48 #[.string s] w fun e w' => e = .returned (.string ⟨(foldL s.data.toList).toArray⟩) ∧ Below w.heap.size w w' := callsIn_wide.1 (fold_in s w hs)
end Go.Proofs.Ytadbmjmikoggbaa
