/-
  Layer 4, Kind, Fits, Number, Text and the document's Kind and Fits: each returns its plain function ('kindS', 'fitsZ') and changes nothing that was there. Condition: strings have at most 2^63 - 1 bytes.
-/
import Derived.Test.YtadbmjmikoggbaaValCheck
import Derived.Laws.Rows
import Derived.KernelRfl
namespace Go.Proofs.Ytadbmjmikoggbaa
open Go.RowKit

/-- The name of a kind. -/
def kindS (k : Int) : ByteArray :=
  if k = 0 then ⟨#[110, 117, 108, 108]⟩ else if k = 1 then ⟨#[105, 110, 116]⟩ else if k = 2 then ⟨#[116, 101, 120, 116]⟩ else if k = 3 then ⟨#[98, 108, 111, 98]⟩ else if k = 4 then ⟨#[97, 110, 121]⟩ else ⟨#[]⟩
theorem ret_s {a b : ByteArray} (h : a = b) : Ending.returned (.string a) = .returned (.string b) := by rw [h]

/-- What is wrong with a value in a column. -/
def fitsZ (ck : Int) (nn : Bool) (k n : Int) (s : ByteArray) : Int :=
  if checkZ k n s ≠ 0 then checkZ k n s else if k = 0 then (if nn then 16 else 0) else if ck ≠ 4 ∧ ck ≠ k then 14 else 0

theorem number_any (n : Int) (w : World) : Calls Try.prog 33 #[.int .i64 n] w fun e w' => e = .returned (.agg #[.int .i64 1, .int .i64 n, .string ⟨#[]⟩]) ∧ Below w.heap.size w w' := by
  go_enter Try.func33, Try.ntmps33
  go_wp2
  refine bodyPost_ret (results_cell_row rfl _ _ w.heap.size _ _ _ _ rfl (heap_alloc_new _ _) Try.underlying23 rfl (by kernel_rfl)) rfl ?_
  exact ⟨rfl, below_alloc _ _⟩
theorem textv_any (s : ByteArray) (w : World) : Calls Try.prog 50 #[.string s] w fun e w' => e = .returned (.agg #[.int .i64 2, .int .i64 0, .string s]) ∧ Below w.heap.size w w' := by
  go_enter Try.func50, Try.ntmps50
  go_wp2
  refine bodyPost_ret (results_cell_row rfl _ _ w.heap.size _ _ _ _ rfl (heap_alloc_new _ _) Try.underlying23 rfl (by kernel_rfl)) rfl ?_
  exact ⟨rfl, below_alloc _ _⟩
end Go.Proofs.Ytadbmjmikoggbaa
