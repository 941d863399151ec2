/-
  Layer 6, Binary for operators that do not compare: it returns its plain function and changes nothing that was there. Condition: the numbers are ints, the strings have at most 2^47 - 4096 bytes.
-/
import Derived.Test.YtadbmjmikoggbaaLogCalc
namespace Go.Proofs.Ytadbmjmikoggbaa
open Go.RowKit

set_option maxHeartbeats 1000000 in
theorem bin_none (op : ByteArray) (k1 n1 : Int) (s1 : ByteArray) (k2 n2 : Int) (s2 : ByteArray) (nc : Bool) (w : World) (hop : classZ op = 0) :
    Calls Try.prog 29 #[.string op, .agg #[.int .i64 k1, .int .i64 n1, .string s1], .agg #[.int .i64 k2, .int .i64 n2, .string s2], .bool nc] w fun e w' => e = .returned (.tuple #[.agg #[.int .i64 (nulR 8).k, .int .i64 (nulR 8).n, .string (nulR 8).s], .int .i64 (nulR 8).e]) ∧ Below w.heap.size w w' := by
  have HO := Lib.hid hop; clear hop
  go_enter Try.func29, Try.ntmps29
  go_wp2_with (go_at_call 38; refine (class_any op _).mono ?_; rw [HO.out]; rintro e w' ⟨rfl, rfl⟩)
  refine bodyPost_ret (results_pair rfl _ _ (w.heap.size + 2) _ _ _ rfl (blk_at (by simp)) Try.underlying23 rfl (by kernel_rfl)) rfl ?_
  exact ⟨rfl, blw3 _ _ _ _⟩
set_option maxHeartbeats 1000000 in
theorem bin_null (op : ByteArray) (k1 n1 : Int) (s1 : ByteArray) (k2 n2 : Int) (s2 : ByteArray) (nc : Bool) (w : World) (c : Int) (hop : c = classZ op) (hc : (c == 0) = false) (hk : (k1 == 0) = true ∨ (k1 == 0) = false ∧ (k2 == 0) = true) :
    Calls Try.prog 29 #[.string op, .agg #[.int .i64 k1, .int .i64 n1, .string s1], .agg #[.int .i64 k2, .int .i64 n2, .string s2], .bool nc] w fun e w' => e = .returned (.tuple #[.agg #[.int .i64 (nulR 0).k, .int .i64 (nulR 0).n, .string (nulR 0).s], .int .i64 (nulR 0).e]) ∧ Below w.heap.size w w' := by
  have HO := Lib.hid hop; clear hop
  rcases hk with t1 | ⟨t1, t2⟩
  all_goals
    go_enter Try.func29, Try.ntmps29
    go_wp2_with (go_at_call 38; refine (class_any op _).mono ?_; rw [← HO.out]; rintro e w' ⟨rfl, rfl⟩)
    refine bodyPost_ret (results_pair rfl _ _ (w.heap.size + 2) _ _ _ rfl (blk_at (by simp)) Try.underlying23 rfl (by kernel_rfl)) rfl ?_
    exact ⟨rfl, blw3 _ _ _ _⟩
set_option maxHeartbeats 1000000 in
theorem bin_type (op : ByteArray) (k1 n1 : Int) (s1 : ByteArray) (k2 n2 : Int) (s2 : ByteArray) (nc : Bool) (w : World) (hop : classZ op = 2) (t1 : (k1 == 0) = false) (t2 : (k2 == 0) = false) (hk : (k1 != 1) = true ∨ (k1 != 1) = false ∧ (k2 != 1) = true) :
    Calls Try.prog 29 #[.string op, .agg #[.int .i64 k1, .int .i64 n1, .string s1], .agg #[.int .i64 k2, .int .i64 n2, .string s2], .bool nc] w fun e w' => e = .returned (.tuple #[.agg #[.int .i64 (nulR 14).k, .int .i64 (nulR 14).n, .string (nulR 14).s], .int .i64 (nulR 14).e]) ∧ Below w.heap.size w w' := by
  have HO := Lib.hid hop; clear hop
  rcases hk with t3 | ⟨t3, t4⟩
  all_goals
    go_enter Try.func29, Try.ntmps29
    go_wp2_with (go_at_call 38; refine (class_any op _).mono ?_; rw [HO.out]; rintro e w' ⟨rfl, rfl⟩)
    refine bodyPost_ret (results_pair rfl _ _ (w.heap.size + 2) _ _ _ rfl (blk_at (by simp)) Try.underlying23 rfl (by kernel_rfl)) rfl ?_
    exact ⟨rfl, blw3 _ _ _ _⟩
set_option maxHeartbeats 1000000 in
theorem bin_num (op : ByteArray) (n1 : Int) (s1 : ByteArray) (n2 : Int) (s2 : ByteArray) (nc : Bool) (w : World) (hop : classZ op = 2) (h1 : -9223372036854775808 ≤ n1 ∧ n1 ≤ 9223372036854775807) (h2 : -9223372036854775808 ≤ n2 ∧ n2 ≤ 9223372036854775807) :
    Calls Try.prog 29 #[.string op, .agg #[.int .i64 1, .int .i64 n1, .string s1], .agg #[.int .i64 1, .int .i64 n2, .string s2], .bool nc] w fun e w' => e = .returned (.tuple #[.agg #[.int .i64 (calcR op n1 n2).k, .int .i64 (calcR op n1 n2).n, .string (calcR op n1 n2).s], .int .i64 (calcR op n1 n2).e]) ∧ Below w.heap.size w w' := by
  have HO := Lib.hid hop; clear hop
  obtain ⟨r, hr⟩ : ∃ r, r = calcR op n1 n2 := ⟨_, rfl⟩
  rw [← hr]
  have HR := Lib.hid hr; have H1 := Lib.hid h1; have H2 := Lib.hid h2; clear hr h1 h2
  have HX := Lib.hid (box_new w 1 n1 s1 1 n2 s2)
  go_enter Try.func29, Try.ntmps29
  go_wp2_with (go_at_call 38; refine (class_any op _).mono ?_; rw [HO.out]; rintro e w' ⟨rfl, rfl⟩)
  refine (calc_any op n1 n2 _ H1.out H2.out HO.out).mono ?_
  rw [← HR.out]
  rintro e w' ⟨rfl, hb⟩
  have HY := Lib.hid (box_next HX.out hb)
  clear hb
  have hrow := HY.out.row
  have f0 := blk_frozen hrow 0; have f1 := blk_frozen hrow 1; have f2 := blk_frozen hrow 2
  have c0 := blk_cell hrow 0 rfl; have c1 := blk_cell hrow 1 rfl; have c2 := blk_cell hrow 2 rfl
  go_wp2_with fail
  refine bodyPost_ret (results_pair rfl _ _ (w.heap.size + 2) _ _ _ rfl (blk_set (blk_set (blk_set hrow 0 _) 1 _) 2 _) Try.underlying23 rfl (by kernel_rfl)) rfl ?_
  exact ⟨rfl, box_fin HY.out _ _ _⟩
set_option maxHeartbeats 1000000 in
theorem bin_cat (op : ByteArray) (k1 n1 : Int) (s1 : ByteArray) (k2 n2 : Int) (s2 : ByteArray) (nc : Bool) (w : World) (hop : classZ op = 3) (t1 : (k1 == 0) = false) (t2 : (k2 == 0) = false) (h1 : s1.size ≤ 140737488351232) (h2 : s2.size ≤ 140737488351232) :
    Calls Try.prog 29 #[.string op, .agg #[.int .i64 k1, .int .i64 n1, .string s1], .agg #[.int .i64 k2, .int .i64 n2, .string s2], .bool nc] w fun e w' => e = .returned (.tuple #[.agg #[.int .i64 (catR k1 s1 k2 s2).k, .int .i64 (catR k1 s1 k2 s2).n, .string (catR k1 s1 k2 s2).s], .int .i64 (catR k1 s1 k2 s2).e]) ∧ Below w.heap.size w w' := by
  have HO := Lib.hid hop; clear hop
  obtain ⟨r, hr⟩ : ∃ r, r = catR k1 s1 k2 s2 := ⟨_, rfl⟩
  rw [← hr]
  have HR := Lib.hid hr; have H1 := Lib.hid h1; have H2 := Lib.hid h2; clear hr h1 h2
  have HX := Lib.hid (box_new w k1 n1 s1 k2 n2 s2)
  go_enter Try.func29, Try.ntmps29
  go_wp2_with (go_at_call 38; refine (class_any op _).mono ?_; rw [HO.out]; rintro e w' ⟨rfl, rfl⟩)
  refine (cat_any k1 n1 s1 k2 n2 s2 _ H1.out H2.out).mono ?_
  rw [← HR.out]
  rintro e w' ⟨rfl, hb⟩
  have HY := Lib.hid (box_next HX.out hb)
  clear hb
  have hrow := HY.out.row
  have f0 := blk_frozen hrow 0; have f1 := blk_frozen hrow 1; have f2 := blk_frozen hrow 2
  have c0 := blk_cell hrow 0 rfl; have c1 := blk_cell hrow 1 rfl; have c2 := blk_cell hrow 2 rfl
  go_wp2_with fail
  refine bodyPost_ret (results_pair rfl _ _ (w.heap.size + 2) _ _ _ rfl (blk_set (blk_set (blk_set hrow 0 _) 1 _) 2 _) Try.underlying23 rfl (by kernel_rfl)) rfl ?_
  exact ⟨rfl, box_fin HY.out _ _ _⟩
/-- The examples. -/
theorem run_fieldN (k n : Int) (s : ByteArray) (w : World) : Sem.run Try.prog (Instr.field 23 (.agg #[.int .i64 k, .int .i64 n, .string s]) 1) w = .ok (.int .i64 n) w := by
  simp [Instr.field, asAgg, go_sem]
end Go.Proofs.Ytadbmjmikoggbaa
