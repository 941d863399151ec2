/-
  Layer 9: strings.Clone returns its string and changes nothing that was there. Condition: at most 2^48 bytes.
-/
import Derived.Test.YtnbbnmhokclhdaaJpLeaf
import Derived.Test.YtnbbnmhokclhdaaShelf
namespace Go.Proofs.Ytnbbnmhokclhdaa
open Go.RowKit

theorem pclone_any (s : ByteArray) (w : World) (h : s.size ≤ 281474976710656) :
    Calls Try.prog 17 #[.string s] w fun e w' => e = .returned (.string s) ∧ Below w.heap.size w w' := by
  have hc := fun w => Try.stringslite_Clone s w h
  go_enter Try.func17, Try.ntmps17
  go_wp2_with (go_at_call 25; refine (hc _).mono ?_; rintro e w' ⟨rfl, hb⟩)
  go_ret
  exact ⟨rfl, hb⟩
end Go.Proofs.Ytnbbnmhokclhdaa
