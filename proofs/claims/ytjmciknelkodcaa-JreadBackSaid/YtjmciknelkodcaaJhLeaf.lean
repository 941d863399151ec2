/-
  Layer 8, the small functions: fixed, number, within, nearest, valid and the document's Four and Right: each returns its plain function and changes nothing that was there. Condition: numbers are ints; a string has at most 2^63 - 1 bytes.
-/
import Derived.Test.YtjmciknelkodcaaJhMath
import Derived.Test.YtjmciknelkodcaaLogLeaf
import Derived.Deep.RegionHeld3
import Derived.Lib.MinMax
import Derived.Laws.Rows
import Derived.Laws.StructEq
import Derived.StillTailTactics
import Derived.Deep.RegionWith
import Derived.Deep.Cut
namespace Go.Proofs.Ytjmciknelkodcaa
open Go.RowKit

theorem jfixed_any (n : Int) (h1 : -9223372036854775808 ≤ n) (h2 : n ≤ 9223372036854775807) (w : World) :
    Calls Try.prog 44 #[.int .i64 n] w fun e w' => e = .returned (.string ⟨(fixR n).1.toArray⟩) ∧ Below w.heap.size w w' := by
  go_enter Try.func44, Try.ntmps44
  go_wp2_with (go_at_call 61; refine (vfixed_any n h1 h2 _).mono ?_; rintro e w' ⟨rfl, hb⟩)
  go_ret
  exact ⟨rfl, hb⟩
theorem rfour_any (n : Int) (h1 : -9223372036854775808 ≤ n) (h2 : n ≤ 9223372036854775807) (w : World) :
    Calls Try.prog 34 #[.int .i64 n] w fun e w' => e = .returned (.string ⟨(fixR n).1.toArray⟩) ∧ Below w.heap.size w w' := by
  go_enter Try.func34, Try.ntmps34
  go_wp2_with (go_at_call 51; refine (rfixed_any n h1 h2 _).mono ?_; rintro e w' ⟨rfl, hb⟩)
  go_ret
  exact ⟨rfl, hb⟩
theorem jnumber_any (s : ByteArray) (hs : s.size ≤ 9223372036854775807) (w : World) :
    Calls Try.prog 68 #[.string s] w fun e w' => e = .returned (.int .i64 (nmL s.data.toList)) ∧ w = w' := by
  go_enter Try.func68, Try.ntmps68
  go_wp2_with (go_at_call 75; refine (vnumber_any s hs _).mono ?_; rintro e w' ⟨rfl, rfl⟩)
  go_ret
  exact ⟨rfl, rfl⟩

def clampZ (n m : Int) : Int := max 0 (min n m)
theorem within_any (n m : Int) (w : World) :
    Calls Try.prog 73 #[.int .i64 n, .int .i64 m] w fun e w' => e = .returned (.int .i64 (clampZ n m)) ∧ w = w' := by
  go_enter Try.func73, Try.ntmps73
  go_wp2
  all_goals go_ret
  all_goals exact ⟨ret_int rfl, rfl⟩

structure H8I (b : Nat) (x y z : Value) (w wr : World) : Prop where
  c0 : wr.cell? ⟨b, 0, none⟩ = some x
  c1 : wr.cell? ⟨b, 1, none⟩ = some y
  c2 : wr.cell? ⟨b, 2, none⟩ = some z
  lt : b < wr.heap.size
  below : Below w.heap.size w wr
theorem h8_drew {b : Nat} {x y z : Value} {w wr : World} (h : H8I b x y z w wr) : H8I b x y z w wr.drew := ⟨h.c0, h.c1, h.c2, h.lt, h.below.drew⟩
theorem h8_next {b : Nat} {x y z : Value} {w wr w2 : World} (h : H8I b x y z w wr) (hb : Below wr.heap.size wr w2) : H8I b x y z w w2 :=
  ⟨(hb.cell (p := ⟨b, 0, none⟩) h.lt).trans h.c0, (hb.cell (p := ⟨b, 1, none⟩) h.lt).trans h.c1, (hb.cell (p := ⟨b, 2, none⟩) h.lt).trans h.c2, Nat.lt_of_lt_of_le h.lt hb.size, h.below.trans (hb.mono h.below.size)⟩
theorem h8_new (w : World) (x y z : Value) (t : TypeId) : H8I w.heap.size x y z w (w.alloc (.cells #[x, y, z] t)) := by
  have h := World.rowIs_alloc w #[x, y, z] t (fun j => [x, y, z].getD j x) (fun i hi => by
    match i, hi with
    | 0, _ => rfl
    | 1, _ => rfl
    | 2, _ => rfl
    | i + 3, hi => simp at hi; omega)
  exact ⟨h.cell (i := 0) (by simp), h.cell (i := 1) (by simp), h.cell (i := 2) (by simp), by simp, (Below.refl _ _).alloc (Nat.le_refl _) _⟩
theorem h8_of {b : Nat} {x y z : Value} {w wr : World} (h : H8I b x y z w wr) : wr.cell? ⟨b, 0, none⟩ = some x ∧ wr.cell? ⟨b, 1, none⟩ = some y ∧ wr.cell? ⟨b, 2, none⟩ = some z ∧ H8I b x y z w wr := ⟨h.c0, h.c1, h.c2, h⟩

def eq3 (a b c a' b' c' : Int) : Bool := decide (a = a' ∧ b = b' ∧ c = c')
theorem eq3_true {a b c a' b' c' : Int} : eq3 a b c a' b' c' = true ↔ a = a' ∧ b = b' ∧ c = c' := decide_eq_true_iff
theorem guardH (op : BinOp) (x y : Operand) (xs ys : Array Value) (w : World) : (eqGuard op 65 x y (.agg xs) (.agg ys)).run Try.prog w = .ok () w :=
  run_eqGuard_agg w op 65 x y xs ys (by kernel_rfl)
theorem run_eqH (a b c a' b' c' : Int) (w : World) :
    (Op.equalIn 10000 65 (.agg #[.int .i64 a, .int .i64 b, .int .i64 c]) (.agg #[.int .i64 a', .int .i64 b', .int .i64 c'])).run Try.prog w = .ok (eq3 a b c a' b' c') w := by
  have h := run_equalIn_struct (P := Try.prog) w 9999 65 #[.int .i64 a, .int .i64 b, .int .i64 c] #[.int .i64 a', .int .i64 b', .int .i64 c'] (by kernel_rfl) (by kernel_rfl)
  rw [show (10000 : Nat) = 9999 + 1 from rfl, h]
  unfold eq3
  simp [Program.fieldsOf, Try.underlying65, Op.eqFields, part, go_sem, Try.sizeOf3, Try.isAgg3, Try.underlying3]
  by_cases h1 : a = a'
  · by_cases h2 : b = b'
    · by_cases h3 : c = c'
      · simp [h1, h2, h3]
      · simp [h1, h2, h3]
    · simp [h1, h2]
  · simp [h1]
theorem run_eqlH (a b c a' b' c' : Int) (w : World) :
    (binOp .eql 65 (.agg #[.int .i64 a, .int .i64 b, .int .i64 c]) (.agg #[.int .i64 a', .int .i64 b', .int .i64 c'])).run Try.prog w = .ok (.bool (eq3 a b c a' b' c')) w := by
  rw [run_eql_struct, run_eqH]; rfl

structure N8I (b r : Nat) (x y z : Value) (w wr : World) : Prop where
  box : Blk wr b 65 #[x, y, z]
  res : ∃ x' y' z', Blk wr r 65 #[x', y', z']
  ne : b ≠ r
  own : w.heap.size ≤ b ∧ w.heap.size ≤ r
  below : Below w.heap.size w wr
theorem n8_new (w : World) (x y z : Value) {x' y' z' : Value} : N8I w.heap.size (w.heap.size + 1) x y z w ((w.alloc (.cells #[x, y, z] 65)).alloc (.cells #[x', y', z'] 65)) :=
  ⟨blk_alloc (blk_new _ _ _) _, ⟨_, _, _, blk_at (by simp)⟩, by omega, by omega, blw2 _ _ _⟩
theorem n8_drew {b r : Nat} {x y z : Value} {w wr : World} (h : N8I b r x y z w wr) : N8I b r x y z w wr.drew := ⟨h.box, h.res, h.ne, h.own, h.below.drew⟩
theorem n8_sets {b r : Nat} {x y z : Value} {w wr : World} (h : N8I b r x y z w wr) (p q s : Value) : N8I b r x y z w (((wr.setCell ⟨r, 0, none⟩ p).setCell ⟨r, 1, none⟩ q).setCell ⟨r, 2, none⟩ s) := by
  obtain ⟨x', y', z', hr⟩ := h.res
  exact ⟨blk_other (blk_other (blk_other h.box h.ne 0 p) h.ne 1 q) h.ne 2 s, ⟨p, q, s, blk_set (blk_set (blk_set hr 0 p) 1 q) 2 s⟩, h.ne, h.own, blw_set (blw_set (blw_set h.below h.own.2 0 p) h.own.2 1 q) h.own.2 2 s⟩
theorem n8_of {b r : Nat} {x y z : Value} {w wr : World} (h : N8I b r x y z w wr) : wr.cell? ⟨b, 0, none⟩ = some x ∧ wr.cell? ⟨b, 1, none⟩ = some y ∧ wr.cell? ⟨b, 2, none⟩ = some z ∧ N8I b r x y z w wr :=
  ⟨blk_cell h.box 0 rfl, blk_cell h.box 1 rfl, blk_cell h.box 2 rfl, h⟩
theorem n8_res {b r : Nat} {x y z : Value} {w wr : World} (h : wr.cell? ⟨b, 0, none⟩ = some x ∧ wr.cell? ⟨b, 1, none⟩ = some y ∧ wr.cell? ⟨b, 2, none⟩ = some z ∧ N8I b r x y z w wr) : ∃ x' y' z', Blk wr r 65 #[x', y', z'] := h.2.2.2.res

set_option maxHeartbeats 2000000 in
set_option maxRecDepth 100000 in
theorem nearest_any (a b c : Int) (w : World) :
    Calls Try.prog 60 #[.agg #[.int .i64 a, .int .i64 b, .int .i64 c]] w fun e w' => e = .returned (.agg #[.int .i64 (clampZ a 2000), .int .i64 (clampZ b 2000), .int .i64 (clampZ c 4294967295)]) ∧ Below w.heap.size w w' := by
  have h1 := fun w => within_any a 2000 w
  have h2 := fun w => within_any b 2000 w
  have h3 := fun w => within_any c 4294967295 w
  obtain ⟨x, hx⟩ : ∃ x, x = clampZ a 2000 := ⟨_, rfl⟩
  obtain ⟨y, hy⟩ : ∃ y, y = clampZ b 2000 := ⟨_, rfl⟩
  obtain ⟨z, hz⟩ : ∃ z, z = clampZ c 4294967295 := ⟨_, rfl⟩
  rw [← hx] at h1
  rw [← hy] at h2
  rw [← hz] at h3
  rw [← hx, ← hy, ← hz]
  clear hx hy hz
  go_enter Try.func60, Try.ntmps60
  go_upto_region 1 with (fail)
  obtain ⟨W0, hW0⟩ : ∃ W0, W0 = ((w.alloc (.cells #[.int .i64 a, .int .i64 b, .int .i64 c] 65)).alloc (.cells #[.int .i64 0, .int .i64 0, .int .i64 0] 65)) := ⟨_, rfl⟩
  have HN := Lib.hid (show N8I w.heap.size (w.heap.size + 1) (.int .i64 a) (.int .i64 b) (.int .i64 c) w W0 by rw [hW0]; exact n8_new w _ _ _)
  rw [← hW0]
  clear hW0
  obtain ⟨z0, z1, z2, -⟩ := n8_of HN.out
  have q1 := fun w => (h1 w).mono (fun e w' h => (⟨h.1, h.2.symm⟩ : _ ∧ w' = w))
  have q2 := fun w => (h2 w).mono (fun e w' h => (⟨h.1, h.2.symm⟩ : _ ∧ w' = w))
  have q3 := fun w => (h3 w).mono (fun e w' h => (⟨h.1, h.2.symm⟩ : _ ∧ w' = w))
  refine wp_region_still_tail 10 (by kernel_rfl) (by kernel_rfl) ?_
  simp only [List.take_succ_cons, List.take_zero, List.drop_succ_cons, List.drop_zero]
  still_step
  still_step
  still_call (q1 _)
  still_step
  still_step
  still_call (q2 _)
  still_step
  still_step
  still_call (q3 _)
  still_step
  refine wpStill_nil ?_
  change wpList _ _ _ _ _ W0.drew
  clear z0 z1 z2 h1 h2 h3 q1 q2 q3
  obtain ⟨x', y', z', hz⟩ := HN.out.res
  have z0 := blk_cell hz 0 rfl; have z1 := blk_cell hz 1 rfl; have z2 := blk_cell hz 2 rfl; have z3 := blk_frozen hz 0; have z4 := blk_frozen hz 1; have z5 := blk_frozen hz 2
  have HZ := Lib.hid hz; clear hz
  go_wp2
  refine bodyPost_ret (results_cell_row rfl _ _ (w.heap.size + 1) _ _ _ _ rfl (blk_set (blk_set (blk_set (show Blk W0.drew _ _ _ from HZ.out) 0 _) 1 _) 2 _) Try.underlying65 rfl (by kernel_rfl)) rfl ?_
  exact ⟨rfl, (n8_sets (n8_drew HN.out) _ _ _).below⟩
end Go.Proofs.Ytjmciknelkodcaa
