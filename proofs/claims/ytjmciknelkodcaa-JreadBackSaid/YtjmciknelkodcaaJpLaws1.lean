/-
  Layer 9: works, and the statements JpageReads and JpageWrites as walks: each returns true for every input and changes nothing that was there.
-/
import Derived.Test.YtjmciknelkodcaaJpRead
import Derived.Test.YtjmciknelkodcaaSumTurn
namespace Go.Proofs.Ytjmciknelkodcaa
open Go.RowKit

theorem pread_is {s : ByteArray} (hs : s.size ≤ 9223372036854775807) {k : Int} (h3 : -9223372036854775808 ≤ k) (h4 : k ≤ 9223372036854775807) {n e : Int} {D : ByteArray} (h : rdP s.data.toList k = ⟨n, D.data.toList, e⟩) (w : World) :
    Calls Try.prog 53 #[.string s, .int .i64 k] w fun x w' => x = .returned (.tuple #[.int .i64 n, .string D, .int .i64 e]) ∧ Below w.heap.size w w' := by
  have := pread_any s hs k h3 h4 w
  rw [h] at this
  exact this
theorem qread_is {s : ByteArray} (hs : s.size ≤ 9223372036854775807) {k : Int} (h3 : -9223372036854775808 ≤ k) (h4 : k ≤ 9223372036854775807) {n e : Int} {D : ByteArray} (h : rdP s.data.toList k = ⟨n, D.data.toList, e⟩) (w : World) :
    Calls Try.prog 41 #[.string s, .int .i64 k] w fun x w' => x = .returned (.tuple #[.int .i64 n, .string D, .int .i64 e]) ∧ Below w.heap.size w w' := by
  have := qread_any s hs k h3 h4 w
  rw [h] at this
  exact this
theorem pconv (v : World) (b n : Nat) (h : ∀ j, j < n → v.cell? ⟨b, j, none⟩ = some (.int .u8 0)) :
    (convert 63 9 (.slice (some ⟨b, 0, none⟩) n n)).run Try.prog v = .ok (.string ⟨(List.replicate n (0 : UInt8)).toArray⟩) v := by
  have := run_convert_bytes_back (P := Try.prog) v 63 9 5 ⟨b, 0, none⟩ n (List.replicate n (0 : UInt8)) Try.underlying63 Try.underlying5 Try.underlying9 (fun j hj => by
    rw [Addr.add_lit, Nat.zero_add, h j (by simpa using hj), List.getElem_replicate]; rfl)
  rwa [List.length_replicate] at this

end Go.Proofs.Ytjmciknelkodcaa
