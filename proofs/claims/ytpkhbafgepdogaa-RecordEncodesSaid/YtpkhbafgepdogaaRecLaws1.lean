/-
  Layer 5, the law's own example works, and the law RecordEncodes: each returns true, and changes nothing that was there. Condition: none beyond the memory's own (strings of at most 2^47 - 4096 bytes).
-/
import Derived.Test.YtpkhbafgepdogaaRecRefEnc
import Derived.Test.YtpkhbafgepdogaaRecRefDec
namespace Go.Proofs.Ytpkhbafgepdogaa
open Go.RowKit

def exRow : List Val := [val0, ⟨1, -1, ⟨#[]⟩⟩, ⟨2, 0, ⟨#[97, 98]⟩⟩]
theorem exRow_enc : encR exRow = ([3, 0, 1, 6, 1, 97, 98], 0) := by decide
def exCells : Array Value := #[.int .i64 0, .int .i64 0, .string ⟨#[]⟩, .int .i64 1, .int .i64 (-1), .string ⟨#[]⟩, .int .i64 2, .int .i64 0, .string ⟨#[97, 98]⟩]
theorem exRow_vals (w : World) : Vals (w.alloc (.cells exCells 32)) (some ⟨w.heap.size, 0, none⟩) exRow := by
  have h := blk_new w 32 exCells
  intro j hj
  match j, hj with
  | 0, _ => exact ⟨(show val0.s.size ≤ 140737488351232 by decide), (show I64 (0) from ⟨by decide, by decide⟩), _, _, rfl, by simp, blk_cell h 0 rfl, blk_cell h 1 rfl, blk_cell h 2 rfl⟩
  | 1, _ => exact ⟨(show (⟨1, -1, ⟨#[]⟩⟩ : Val).s.size ≤ 140737488351232 by decide), (show I64 (-1) from ⟨by decide, by decide⟩), _, _, rfl, by simp, blk_cell h 3 rfl, blk_cell h 4 rfl, blk_cell h 5 rfl⟩
  | 2, _ => exact ⟨(show (⟨2, 0, ⟨#[97, 98]⟩⟩ : Val).s.size ≤ 140737488351232 by decide), (show I64 (0) from ⟨by decide, by decide⟩), _, _, rfl, by simp, blk_cell h 6 rfl, blk_cell h 7 rfl, blk_cell h 8 rfl⟩

set_option maxRecDepth 100000 in
theorem works_any (w : World) : Calls Try.prog 11 #[] w fun e w' => e = .returned (.bool true) ∧ Below w.heap.size w w' := by
  have he := encode_any (some ⟨w.heap.size, 0, none⟩) 3 exRow (w.alloc (.cells exCells 32)) (by decide) (exRow_vals w)
  rw [exRow_enc] at he
  go_enter Try.func11, Try.ntmps11
  go_wp2_with (go_at_call 8; refine he.mono ?_; rintro e w1 ⟨rfl, b1⟩)
  go_ret
  exact ⟨rfl, (below_alloc _ _).trans (b1.mono (by simp))⟩

set_option maxRecDepth 100000 in
set_option maxHeartbeats 1000000 in
theorem encodes_any (a : Option Addr) (cap : Nat) (l : List Val) (w : World) (hl : l.length ≤ 9223372036854775807) (ha : Vals w a l) :
    Calls Try.prog 3 #[.slice a l.length cap] w fun e w' => e = .returned (.bool true) ∧ Below w.heap.size w w' := by
  have hg := great_any a cap l w hl ha
  have h1 := fun w' (hb : Below w.heap.size w w') => encode_any a cap l w' hl (vals_next ha hb)
  have h2 := fun w' (hb : Below w.heap.size w w') => rencode_any a cap l w' hl (vals_next ha hb)
  have h3 := fun w' (hb : Below w.heap.size w w') => len_any a cap l w' hl (vals_next ha hb)
  obtain ⟨x, hx⟩ : ∃ x, x = encR l := ⟨_, rfl⟩
  rw [← hx] at h1 h2 h3
  clear hx
  obtain ⟨p, e⟩ := x
  simp only at h1 h2 h3
  have hp : ((p.length : Nat) : Int) = ((⟨p.toArray⟩ : ByteArray).size : Int) := by rw [← bz_size]; rfl
  rw [hp] at h3
  generalize (⟨p.toArray⟩ : ByteArray) = s at h1 h2 h3
  obtain ⟨g, hgg⟩ : ∃ g, g = greatZ l 0 0 := ⟨_, rfl⟩
  rw [← hgg] at hg
  clear hgg hp ha
  cases g with
  | true =>
    go_enter Try.func3, Try.ntmps3
    go_wp2_with (go_at_call 7; refine hg.mono ?_; rintro e w1 ⟨rfl, rfl⟩)
    go_ret
    exact ⟨rfl, Below.refl _ _⟩
  | false =>
    go_enter Try.func3, Try.ntmps3
    go_wp2_with (first
      | (go_at_call 7; refine hg.mono ?_; rintro e w1 ⟨rfl, rfl⟩)
      | (go_at_call 8; refine (h1 _ (Below.refl _ _)).mono ?_; rintro e w1 ⟨rfl, b1⟩)
      | (go_at_call 9; refine (h2 _ b1).mono ?_; rintro e w2 ⟨rfl, b2⟩; have b12 := b1.trans (b2.mono b1.size))
      | (go_at_call 10; refine (h3 _ b12).mono ?_; rintro e w3 ⟨rfl, b3⟩; have b13 := b12.trans (b3.mono b12.size))
      | (go_at_call 11; refine (works_any _).mono ?_; rintro e w4 ⟨rfl, b4⟩))
    go_ret
    exact ⟨rfl, b13.trans (b4.mono b13.size)⟩
end Go.Proofs.Ytpkhbafgepdogaa
