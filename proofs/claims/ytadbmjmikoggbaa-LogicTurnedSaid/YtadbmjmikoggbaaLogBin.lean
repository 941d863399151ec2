/-
  Layer 6, the pieces of Binary: classOf, holds, divide, calculate, concatenate: each returns its plain function and changes nothing that was there. Condition: the numbers are ints, the strings have at most 2^47 - 4096 bytes.
-/
import Derived.Test.YtadbmjmikoggbaaLogNum
namespace Go.Proofs.Ytadbmjmikoggbaa
open Go.RowKit

/-- The class of an operator: 1 compares, 2 calculates, 3 joins, 0 is none. -/
def classZ (op : ByteArray) : Int :=
  if op = ⟨#[61]⟩ ∨ op = ⟨#[60, 62]⟩ ∨ op = ⟨#[60]⟩ ∨ op = ⟨#[60, 61]⟩ ∨ op = ⟨#[62]⟩ ∨ op = ⟨#[62, 61]⟩ then 1
  else if op = ⟨#[43]⟩ ∨ op = ⟨#[45]⟩ ∨ op = ⟨#[42]⟩ ∨ op = ⟨#[47]⟩ ∨ op = ⟨#[37]⟩ then 2
  else if op = ⟨#[124, 124]⟩ then 3 else 0
/-- None of the operators. -/
structure NoOp (op : ByteArray) : Prop where
  t1 : (op.toList == [61]) = false
  t2 : (op.toList == [60, 62]) = false
  t3 : (op.toList == [60]) = false
  t4 : (op.toList == [60, 61]) = false
  t5 : (op.toList == [62]) = false
  t6 : (op.toList == [62, 61]) = false
  t7 : (op.toList == [43]) = false
  t8 : (op.toList == [45]) = false
  t9 : (op.toList == [42]) = false
  t10 : (op.toList == [47]) = false
  t11 : (op.toList == [37]) = false
  t12 : (op.toList == [124, 124]) = false
theorem op_list {op : ByteArray} {l : List UInt8} (h : ¬ (op.toList == l) = false) : op = ⟨l.toArray⟩ := by
  have h : op.toList = l := by simpa using h
  rw [ByteArray.toList_eq] at h
  exact ByteArray.ext (by rw [← h])
theorem op_cases (op : ByteArray) : NoOp op ∨ op = ⟨#[61]⟩ ∨ op = ⟨#[60, 62]⟩ ∨ op = ⟨#[60]⟩ ∨ op = ⟨#[60, 61]⟩ ∨ op = ⟨#[62]⟩ ∨ op = ⟨#[62, 61]⟩ ∨ op = ⟨#[43]⟩ ∨ op = ⟨#[45]⟩ ∨ op = ⟨#[42]⟩ ∨ op = ⟨#[47]⟩ ∨ op = ⟨#[37]⟩ ∨ op = ⟨#[124, 124]⟩ := by
  by_cases h : op = ⟨#[61]⟩ ∨ op = ⟨#[60, 62]⟩ ∨ op = ⟨#[60]⟩ ∨ op = ⟨#[60, 61]⟩ ∨ op = ⟨#[62]⟩ ∨ op = ⟨#[62, 61]⟩ ∨ op = ⟨#[43]⟩ ∨ op = ⟨#[45]⟩ ∨ op = ⟨#[42]⟩ ∨ op = ⟨#[47]⟩ ∨ op = ⟨#[37]⟩ ∨ op = ⟨#[124, 124]⟩
  · exact .inr h
  · refine .inl ⟨?_, ?_, ?_, ?_, ?_, ?_, ?_, ?_, ?_, ?_, ?_, ?_⟩
    all_goals exact Decidable.byContradiction fun e => h (by rw [op_list e]; simp)
theorem noOp_class {op : ByteArray} (h : NoOp op) : classZ op = 0 := by
  have hn : ¬ (op = ⟨#[61]⟩ ∨ op = ⟨#[60, 62]⟩ ∨ op = ⟨#[60]⟩ ∨ op = ⟨#[60, 61]⟩ ∨ op = ⟨#[62]⟩ ∨ op = ⟨#[62, 61]⟩ ∨ op = ⟨#[43]⟩ ∨ op = ⟨#[45]⟩ ∨ op = ⟨#[42]⟩ ∨ op = ⟨#[47]⟩ ∨ op = ⟨#[37]⟩ ∨ op = ⟨#[124, 124]⟩) := by
    obtain ⟨t1, t2, t3, t4, t5, t6, t7, t8, t9, t10, t11, t12⟩ := h
    rintro (rfl | rfl | rfl | rfl | rfl | rfl | rfl | rfl | rfl | rfl | rfl | rfl) <;> simp [ByteArray.toList_eq] at t1 t2 t3 t4 t5 t6 t7 t8 t9 t10 t11 t12
  unfold classZ
  simp only [not_or] at hn
  obtain ⟨h1, h2, h3, h4, h5, h6, h7, h8, h9, h10, h11, h12⟩ := hn
  simp [h1, h2, h3, h4, h5, h6, h7, h8, h9, h10, h11, h12]
theorem class_any (op : ByteArray) (w : World) : Calls Try.prog 38 #[.string op] w fun e w' => e = .returned (.int .i64 (classZ op)) ∧ w = w' := by
  rcases op_cases op with h | rfl | rfl | rfl | rfl | rfl | rfl | rfl | rfl | rfl | rfl | rfl | rfl
  · rw [noOp_class h]
    obtain ⟨t1, t2, t3, t4, t5, t6, t7, t8, t9, t10, t11, t12⟩ := h
    go_enter Try.func38, Try.ntmps38
    go_wp2
    go_ret
    exact ⟨rfl, rfl⟩
  · rw [show classZ ⟨#[61]⟩ = 1 from by decide]
    go_enter Try.func38, Try.ntmps38
    go_wp2
    go_ret
    exact ⟨rfl, rfl⟩
  · rw [show classZ ⟨#[60, 62]⟩ = 1 from by decide]
    go_enter Try.func38, Try.ntmps38
    go_wp2
    go_ret
    exact ⟨rfl, rfl⟩
  · rw [show classZ ⟨#[60]⟩ = 1 from by decide]
    go_enter Try.func38, Try.ntmps38
    go_wp2
    go_ret
    exact ⟨rfl, rfl⟩
  · rw [show classZ ⟨#[60, 61]⟩ = 1 from by decide]
    go_enter Try.func38, Try.ntmps38
    go_wp2
    go_ret
    exact ⟨rfl, rfl⟩
  · rw [show classZ ⟨#[62]⟩ = 1 from by decide]
    go_enter Try.func38, Try.ntmps38
    go_wp2
    go_ret
    exact ⟨rfl, rfl⟩
  · rw [show classZ ⟨#[62, 61]⟩ = 1 from by decide]
    go_enter Try.func38, Try.ntmps38
    go_wp2
    go_ret
    exact ⟨rfl, rfl⟩
  · rw [show classZ ⟨#[43]⟩ = 2 from by decide]
    go_enter Try.func38, Try.ntmps38
    go_wp2
    go_ret
    exact ⟨rfl, rfl⟩
  · rw [show classZ ⟨#[45]⟩ = 2 from by decide]
    go_enter Try.func38, Try.ntmps38
    go_wp2
    go_ret
    exact ⟨rfl, rfl⟩
  · rw [show classZ ⟨#[42]⟩ = 2 from by decide]
    go_enter Try.func38, Try.ntmps38
    go_wp2
    go_ret
    exact ⟨rfl, rfl⟩
  · rw [show classZ ⟨#[47]⟩ = 2 from by decide]
    go_enter Try.func38, Try.ntmps38
    go_wp2
    go_ret
    exact ⟨rfl, rfl⟩
  · rw [show classZ ⟨#[37]⟩ = 2 from by decide]
    go_enter Try.func38, Try.ntmps38
    go_wp2
    go_ret
    exact ⟨rfl, rfl⟩
  · rw [show classZ ⟨#[124, 124]⟩ = 3 from by decide]
    go_enter Try.func38, Try.ntmps38
    go_wp2
    go_ret
    exact ⟨rfl, rfl⟩
/-- Does a comparison hold for operands that stand so? -/
def holdsZ (op : ByteArray) (o : Int) : Bool :=
  if op = ⟨#[62]⟩ then decide (0 < o) else if op = ⟨#[60]⟩ then decide (o < 0) else if op = ⟨#[62, 61]⟩ then decide (0 ≤ o) else if op = ⟨#[60, 61]⟩ then decide (o ≤ 0) else if op = ⟨#[60, 62]⟩ then decide (o ≠ 0) else decide (o = 0)
theorem class_one {op : ByteArray} (h : classZ op = 1) : op = ⟨#[61]⟩ ∨ op = ⟨#[60, 62]⟩ ∨ op = ⟨#[60]⟩ ∨ op = ⟨#[60, 61]⟩ ∨ op = ⟨#[62]⟩ ∨ op = ⟨#[62, 61]⟩ := by
  refine Decidable.byContradiction fun hn => ?_
  rw [classZ, if_neg hn] at h
  split at h
  · cases h
  · split at h <;> cases h
theorem class_two {op : ByteArray} (h : classZ op = 2) : op = ⟨#[43]⟩ ∨ op = ⟨#[45]⟩ ∨ op = ⟨#[42]⟩ ∨ op = ⟨#[47]⟩ ∨ op = ⟨#[37]⟩ := by
  refine Decidable.byContradiction fun hn => ?_
  rw [classZ, if_neg hn] at h
  split at h
  · cases h
  · split at h <;> cases h
theorem class_all (op : ByteArray) : classZ op = 0 ∨ classZ op = 1 ∨ classZ op = 2 ∨ classZ op = 3 := by
  unfold classZ; split <;> (try split) <;> (try split) <;> simp
theorem holds_any (op : ByteArray) (o : Int) (w : World) (h : classZ op = 1) (ho : o = -1 ∨ o = 0 ∨ o = 1) : Calls Try.prog 39 #[.string op, .int .i64 o] w fun e w' => e = .returned (.bool (holdsZ op o)) ∧ w = w' := by
  have hc := class_one h
  clear h
  rcases hc with rfl | rfl | rfl | rfl | rfl | rfl <;> rcases ho with rfl | rfl | rfl
  · rw [show holdsZ ⟨#[61]⟩ (-1) = false from by decide]
    go_enter Try.func39, Try.ntmps39
    go_wp2
    go_ret
    exact ⟨rfl, rfl⟩
  · rw [show holdsZ ⟨#[61]⟩ 0 = true from by decide]
    go_enter Try.func39, Try.ntmps39
    go_wp2
    go_ret
    exact ⟨rfl, rfl⟩
  · rw [show holdsZ ⟨#[61]⟩ 1 = false from by decide]
    go_enter Try.func39, Try.ntmps39
    go_wp2
    go_ret
    exact ⟨rfl, rfl⟩
  · rw [show holdsZ ⟨#[60, 62]⟩ (-1) = true from by decide]
    go_enter Try.func39, Try.ntmps39
    go_wp2
    go_ret
    exact ⟨rfl, rfl⟩
  · rw [show holdsZ ⟨#[60, 62]⟩ 0 = false from by decide]
    go_enter Try.func39, Try.ntmps39
    go_wp2
    go_ret
    exact ⟨rfl, rfl⟩
  · rw [show holdsZ ⟨#[60, 62]⟩ 1 = true from by decide]
    go_enter Try.func39, Try.ntmps39
    go_wp2
    go_ret
    exact ⟨rfl, rfl⟩
  · rw [show holdsZ ⟨#[60]⟩ (-1) = true from by decide]
    go_enter Try.func39, Try.ntmps39
    go_wp2
    go_ret
    exact ⟨rfl, rfl⟩
  · rw [show holdsZ ⟨#[60]⟩ 0 = false from by decide]
    go_enter Try.func39, Try.ntmps39
    go_wp2
    go_ret
    exact ⟨rfl, rfl⟩
  · rw [show holdsZ ⟨#[60]⟩ 1 = false from by decide]
    go_enter Try.func39, Try.ntmps39
    go_wp2
    go_ret
    exact ⟨rfl, rfl⟩
  · rw [show holdsZ ⟨#[60, 61]⟩ (-1) = true from by decide]
    go_enter Try.func39, Try.ntmps39
    go_wp2
    go_ret
    exact ⟨rfl, rfl⟩
  · rw [show holdsZ ⟨#[60, 61]⟩ 0 = true from by decide]
    go_enter Try.func39, Try.ntmps39
    go_wp2
    go_ret
    exact ⟨rfl, rfl⟩
  · rw [show holdsZ ⟨#[60, 61]⟩ 1 = false from by decide]
    go_enter Try.func39, Try.ntmps39
    go_wp2
    go_ret
    exact ⟨rfl, rfl⟩
  · rw [show holdsZ ⟨#[62]⟩ (-1) = false from by decide]
    go_enter Try.func39, Try.ntmps39
    go_wp2
    go_ret
    exact ⟨rfl, rfl⟩
  · rw [show holdsZ ⟨#[62]⟩ 0 = false from by decide]
    go_enter Try.func39, Try.ntmps39
    go_wp2
    go_ret
    exact ⟨rfl, rfl⟩
  · rw [show holdsZ ⟨#[62]⟩ 1 = true from by decide]
    go_enter Try.func39, Try.ntmps39
    go_wp2
    go_ret
    exact ⟨rfl, rfl⟩
  · rw [show holdsZ ⟨#[62, 61]⟩ (-1) = false from by decide]
    go_enter Try.func39, Try.ntmps39
    go_wp2
    go_ret
    exact ⟨rfl, rfl⟩
  · rw [show holdsZ ⟨#[62, 61]⟩ 0 = true from by decide]
    go_enter Try.func39, Try.ntmps39
    go_wp2
    go_ret
    exact ⟨rfl, rfl⟩
  · rw [show holdsZ ⟨#[62, 61]⟩ 1 = true from by decide]
    go_enter Try.func39, Try.ntmps39
    go_wp2
    go_ret
    exact ⟨rfl, rfl⟩
end Go.Proofs.Ytadbmjmikoggbaa
