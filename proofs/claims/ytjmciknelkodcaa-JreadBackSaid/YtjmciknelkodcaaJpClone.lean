/-
  Layer 9: strings.Clone returns its string and changes nothing that was there. Condition: at most 2^48 bytes.
-/
import Derived.Test.YtjmciknelkodcaaJpLeaf
import Derived.Test.YtjmciknelkodcaaShelf
namespace Go.Proofs.Ytjmciknelkodcaa
open Go.RowKit

theorem pclone_any (s : ByteArray) (w : World) (h : s.size ≤ 281474976710656) :
    Calls Try.prog 70 #[.string s] w fun e w' => e = .returned (.string s) ∧ Below w.heap.size w w' := by
  have hc := fun w => Try.stringslite_Clone s w h
  go_enter Try.func70, Try.ntmps70
  go_wp2_with (go_at_call 76; refine (hc _).mono ?_; rintro e w' ⟨rfl, hb⟩)
  go_ret
  exact ⟨rfl, hb⟩
end Go.Proofs.Ytjmciknelkodcaa
