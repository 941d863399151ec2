/-
  Layer 6, equality of values, and the statements LogicTruths and LogicNumbers as walks: they return true for every input and change nothing that was there. Condition: the numbers are ints.
-/
import Derived.Test.YtadbmjmikoggbaaLogWorks
import Derived.Laws.StructEq
import Derived.Lib.Strings
namespace Go.Proofs.Ytadbmjmikoggbaa
open Go.RowKit

/-- Two values are the same. -/
def eqV (k1 n1 : Int) (s1 : ByteArray) (k2 n2 : Int) (s2 : ByteArray) : Bool := if k1 = k2 ∧ n1 = n2 ∧ s1 = s2 then true else false
theorem eqV_self (k n : Int) (s : ByteArray) : eqV k n s k n s = true := by unfold eqV; rw [if_pos ⟨rfl, rfl, rfl⟩]
theorem guardV (op : BinOp) (x y : Operand) (xs ys : Array Value) (w : World) : (eqGuard op 23 x y (.agg xs) (.agg ys)).run Try.prog w = .ok () w :=
  run_eqGuard_agg w op 23 x y xs ys (by kernel_rfl)
theorem same_list (a b : ByteArray) : (a.toList == b.toList) = decide (a = b) := by
  by_cases h : a = b
  · subst h; simp
  · rw [decide_eq_false h]
    refine beq_eq_false_iff_ne.2 fun e => h ?_
    rw [ByteArray.toList_eq, ByteArray.toList_eq] at e
    exact ByteArray.ext (Array.toList_inj.1 e)
theorem run_eqV (k1 n1 : Int) (s1 : ByteArray) (k2 n2 : Int) (s2 : ByteArray) (w : World) :
    (Op.equalIn 10000 23 (.agg #[.int .i64 k1, .int .i64 n1, .string s1]) (.agg #[.int .i64 k2, .int .i64 n2, .string s2])).run Try.prog w = .ok (eqV k1 n1 s1 k2 n2 s2) w := by
  have h := run_equalIn_struct (P := Try.prog) w 9999 23 #[.int .i64 k1, .int .i64 n1, .string s1] #[.int .i64 k2, .int .i64 n2, .string s2] (by kernel_rfl) (by kernel_rfl)
  rw [show (10000 : Nat) = 9999 + 1 from rfl, h]
  unfold eqV
  simp [Program.fieldsOf, Try.underlying23, Op.eqFields, part, go_sem, Try.sizeOf3, Try.isAgg3, Try.sizeOf9, Try.isAgg9, Try.underlying3, Try.underlying9, same_list]
  by_cases h1 : k1 = k2
  · by_cases h2 : n1 = n2
    · by_cases h3 : s1 = s2
      · simp [h1, h2, h3]
      · simp [h1, h2, h3]
    · simp [h1, h2]
  · simp [h1]
theorem run_neqV (k1 n1 : Int) (s1 : ByteArray) (k2 n2 : Int) (s2 : ByteArray) (w : World) :
    (binOp .neq 23 (.agg #[.int .i64 k1, .int .i64 n1, .string s1]) (.agg #[.int .i64 k2, .int .i64 n2, .string s2])).run Try.prog w = .ok (.bool (!(eqV k1 n1 s1 k2 n2 s2))) w := by
  rw [run_neq_struct, run_eqV]; rfl
theorem run_eqlV (k1 n1 : Int) (s1 : ByteArray) (k2 n2 : Int) (s2 : ByteArray) (w : World) :
    (binOp .eql 23 (.agg #[.int .i64 k1, .int .i64 n1, .string s1]) (.agg #[.int .i64 k2, .int .i64 n2, .string s2])).run Try.prog w = .ok (.bool (eqV k1 n1 s1 k2 n2 s2)) w := by
  rw [run_eql_struct, run_eqV]; rfl

theorem run_eqlS (k n : Int) (s : ByteArray) (w : World) :
    (binOp .eql 23 (.agg #[.int .i64 k, .int .i64 n, .string s]) (.agg #[.int .i64 k, .int .i64 n, .string s])).run Try.prog w = .ok (.bool true) w := by
  rw [run_eqlV, eqV_self]

set_option maxRecDepth 100000 in
set_option maxHeartbeats 2000000 in
theorem truths_any (k n : Int) (s : ByteArray) (a b : Int) (w : World) :
    Calls Try.prog 3 #[.agg #[.int .i64 k, .int .i64 n, .string s], .int .i64 a, .int .i64 b] w fun e w' => e = .returned (.bool true) ∧ Below w.heap.size w w' := by
  have HX := Lib.hid (blk_new w 23 #[.int .i64 k, .int .i64 n, .string s])
  have HW := Lib.hid (blw1 w (.cells #[.int .i64 k, .int .i64 n, .string s] 23))
  obtain ⟨x, hx⟩ : ∃ x, x = truN k n := ⟨_, rfl⟩
  obtain ⟨e, he⟩ : ∃ e, e = truE k := ⟨_, rfl⟩
  obtain ⟨p, hp⟩ : ∃ p, p = ofK a := ⟨_, rfl⟩
  obtain ⟨q, hq⟩ : ∃ q, q = ofN a := ⟨_, rfl⟩
  obtain ⟨u, hu⟩ : ∃ u, u = notT a := ⟨_, rfl⟩
  obtain ⟨v, hv⟩ : ∃ v, v = andT a b := ⟨_, rfl⟩
  obtain ⟨z, hz⟩ : ∃ z, z = orT a b := ⟨_, rfl⟩
  have KX := Lib.hid hx; have KE := Lib.hid he; have KP := Lib.hid hp; have KQ := Lib.hid hq; have KU := Lib.hid hu; have KV := Lib.hid hv; have KZ := Lib.hid hz
  clear hx he hp hq hu hv hz
  have heq := run_eqlS p q ⟨#[]⟩
  have hgd := guardV
  go_enter Try.func3, Try.ntmps3
  go_wp2_with fail
  refine (truth_any k n s _).mono ?_
  rw [← KX.out, ← KE.out]
  rintro e' w1 ⟨rfl, b1⟩
  have HX1 := Lib.hid (blk_below HX.out b1)
  have HW1 := Lib.hid (blw_on HW.out (b1.mono (by simp)))
  clear b1 HX HW
  have c0 := blk_cell HX1.out 0 rfl; have c1 := blk_cell HX1.out 1 rfl; have c2 := blk_cell HX1.out 2 rfl
  go_wp2_with fail
  refine (rtruth_any k n s _).mono ?_
  rw [← KX.out, ← KE.out]
  rintro e' w2 ⟨rfl, b2⟩
  have HW2 := Lib.hid (blw_on HW1.out b2)
  clear b2 c0 c1 c2 HX1 HW1
  go_wp2_with fail
  refine (lof_any a _).mono ?_
  rw [← KP.out, ← KQ.out]
  rintro e' w3 ⟨rfl, b3⟩
  have HW3 := Lib.hid (blw_on HW2.out b3)
  clear b3 HW2
  go_wp2_with fail
  refine (rof_any a _).mono ?_
  rw [← KP.out, ← KQ.out]
  rintro e' w4 ⟨rfl, b4⟩
  have HW4 := Lib.hid (blw_on HW3.out b4)
  clear b4 HW3
  go_wp2_with fail
  refine (not_any a _).mono ?_
  rw [← KU.out]
  rintro e' w5 ⟨rfl, rfl⟩
  go_wp2_with fail
  refine (rnot_any a _).mono ?_
  rw [← KU.out]
  rintro e' w6 ⟨rfl, b6⟩
  have HW6 := Lib.hid (blw_on HW4.out b6)
  clear b6 HW4
  go_wp2_with fail
  refine (and_any a b _).mono ?_
  rw [← KV.out]
  rintro e' w7 ⟨rfl, rfl⟩
  go_wp2_with fail
  refine (rand_any a b _).mono ?_
  rw [← KV.out]
  rintro e' w8 ⟨rfl, rfl⟩
  go_wp2_with fail
  refine (or_any a b _).mono ?_
  rw [← KZ.out]
  rintro e' w9 ⟨rfl, rfl⟩
  go_wp2_with fail
  refine (ror_any a b _).mono ?_
  rw [← KZ.out]
  rintro e' w10 ⟨rfl, b10⟩
  have HW10 := Lib.hid (blw_on HW6.out b10)
  clear b10 HW6
  go_wp2_with fail
  refine (works6_any _).mono ?_
  rintro e' w11 ⟨rfl, b11⟩
  have HW11 := Lib.hid (blw_on HW10.out b11)
  clear b11 HW10
  go_wp2_with fail
  go_ret
  exact ⟨rfl, HW11.out⟩
end Go.Proofs.Ytadbmjmikoggbaa
