/-
  Layer 8: Read and the document's Read: each returns its plain function of the bytes and changes nothing that was there. Condition: the string has at most 2^63 - 1 bytes.
-/
import Derived.Test.YtnbbnmhokclhdaaJhWrite
namespace Go.Proofs.Ytnbbnmhokclhdaa
open Go.RowKit

theorem ext_drop (s : ByteArray) (k : Nat) : (s.extract k s.size).data.toList = s.data.toList.drop k := by
  rw [Lib.extract_data]
  exact List.take_of_length_le (by simp)
theorem ext_mid (s : ByteArray) (k m : Nat) : (s.extract k m).data.toList = (s.data.toList.drop k).take (m - k) := by rw [Lib.extract_data]
theorem ext_le (s : ByteArray) (k m : Nat) (h : m ≤ s.size) : (s.extract k m).size ≤ s.size := by simp; omega

/-- The result's block stands, and nothing that was there has changed. -/
structure R8I (t : TypeId) (w wr : World) : Prop where
  res : Blk wr w.heap.size t #[.int .i64 0, .int .i64 0, .int .i64 0]
  below : Below w.heap.size w wr
theorem r8_new (t : TypeId) (w : World) : R8I t w (w.alloc (.cells #[.int .i64 0, .int .i64 0, .int .i64 0] t)) := ⟨blk_new _ _ _, blw1 _ _⟩
theorem r8_drew {t : TypeId} {w wr : World} (h : R8I t w wr) : R8I t w wr.drew := ⟨h.res, h.below.drew⟩
theorem r8_next {t : TypeId} {w wr w2 : World} (h : R8I t w wr) (hb : Below wr.heap.size wr w2) : R8I t w w2 := ⟨blk_below h.res hb, h.below.trans (hb.mono h.below.size)⟩
theorem r8_alloc {t : TypeId} {w wr : World} (h : R8I t w wr) (o : Obj) : R8I t w (wr.alloc o) := r8_next h (blw1 _ _)
theorem r8_lt {t : TypeId} {w wr : World} (h : R8I t w wr) : w.heap.size < wr.heap.size := blk_lt h.res

def ret8 (r : H8 × Int) : Ending := .returned (.tuple #[.agg #[.int .i64 r.1.a, .int .i64 r.1.b, .int .i64 r.1.c], .int .i64 r.2])

end Go.Proofs.Ytnbbnmhokclhdaa
