/-
  Layer 8: works, and the statements JheadReads and JheadWrites as walks: each returns true for every input and changes nothing that was there.
-/
import Derived.Test.YtjmciknelkodcaaJhRead
namespace Go.Proofs.Ytjmciknelkodcaa
open Go.RowKit

theorem jread_is {s : ByteArray} (hs : s.size ≤ 9223372036854775807) {a b c e : Int} (h : rdH s.data.toList = (⟨a, b, c⟩, e)) (w : World) :
    Calls Try.prog 52 #[.string s] w fun x w' => x = .returned (.tuple #[.agg #[.int .i64 a, .int .i64 b, .int .i64 c], .int .i64 e]) ∧ Below w.heap.size w w' := by
  have := jread_any s hs w
  rw [h] at this
  exact this
theorem rread_is {s : ByteArray} (hs : s.size ≤ 9223372036854775807) {a b c e : Int} (h : rdH s.data.toList = (⟨a, b, c⟩, e)) (w : World) :
    Calls Try.prog 40 #[.string s] w fun x w' => x = .returned (.tuple #[.agg #[.int .i64 a, .int .i64 b, .int .i64 c], .int .i64 e]) ∧ Below w.heap.size w w' := by
  have := rread_any s hs w
  rw [h] at this
  exact this

end Go.Proofs.Ytjmciknelkodcaa
