/-
  Layer 4, Check and the document's Check: both return what is wrong with a value ('checkZ') and change nothing that was there. Condition: the string has at most 2^63 - 1 bytes.
-/
import Derived.Test.YtadbmjmikoggbaaValLeaf
import Derived.Below
import Derived.Deep.Light
namespace Go.Proofs.Ytadbmjmikoggbaa
open Go.RowKit

/-- What is wrong with a value: 7 (its kind), 12 (too long), 0. -/
def checkZ (k n : Int) (s : ByteArray) : Int :=
  if k < 0 ∨ 3 < k ∨ (k ≠ 1 ∧ n ≠ 0) ∨ (k < 2 ∧ s.size ≠ 0) then 7 else if 1000 < s.size then 12 else 0

theorem empty_size (s : ByteArray) : s.toList.isEmpty = decide (s.size = 0) := by
  have : s.toList.length = s.size := by rw [Lib.toList_data]; rfl
  cases h : s.toList with
  | nil => rw [h] at this; exact (decide_eq_true (by simpa using this.symm)).symm
  | cons a l => rw [h, List.length_cons] at this; exact (decide_eq_false (by omega)).symm
theorem size_zero {s : ByteArray} (h : s.size = 0) : s = ⟨#[]⟩ := by
  apply WideShapes.bytes_inj
  have : s.data.toList.length = s.size := rfl
  rw [h] at this
  exact List.length_eq_zero_iff.1 this
theorem below_alloc (w : World) (o : Obj) : Below w.heap.size w (w.alloc o) := (Below.refl _ _).alloc (Nat.le_refl _) _
theorem below_alloc2 (w : World) (o o' : Obj) : Below w.heap.size w ((w.alloc o).alloc o') := (below_alloc w o).alloc (by simp) _

set_option maxRecDepth 100000 in
set_option maxHeartbeats 4000000 in
theorem qcheck_any (k n : Int) (s : ByteArray) (w : World) (hs : s.size ≤ 9223372036854775807) :
    Calls Try.prog 28 #[.agg #[.int .i64 k, .int .i64 n, .string s]] w fun e w' => e = .returned (.int .i64 (checkZ k n s)) ∧ Below w.heap.size w w' := by
  obtain ⟨r, hr⟩ : ∃ r, r = checkZ k n s := ⟨_, rfl⟩
  rw [← hr]
  have HR := Lib.hid hr; clear hr
  go_enter Try.func28, Try.ntmps28
  go_wp2
  all_goals (go_ret; refine ⟨ret_int ?_, below_alloc _ _⟩; rw [HR.out, checkZ]; clear HR; go_light)
  all_goals simp only [empty_size, beq_iff_eq, bne_iff_ne, beq_eq_false_iff_ne, bne_eq_false_iff_eq, Bool.not_eq_true', Bool.not_eq_false', decide_eq_true_eq, decide_eq_false_iff_not, ne_eq, Decidable.not_not] at *
  all_goals (split <;> first | omega | (split <;> omega))
end Go.Proofs.Ytadbmjmikoggbaa
