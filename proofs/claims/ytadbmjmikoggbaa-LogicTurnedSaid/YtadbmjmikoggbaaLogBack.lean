/-
  The statement LogicBack as a walk: it returns true for every input and changes nothing that was there. Condition: the numbers are ints.
-/
import Derived.Test.YtadbmjmikoggbaaLogEq
namespace Go.Proofs.Ytadbmjmikoggbaa
open Go.RowKit

theorem bin_is (op : ByteArray) (n1 n2 k n : Int) (s : ByteArray) (e : Int) (hop : classZ op = 2) (h1 : -9223372036854775808 ≤ n1 ∧ n1 ≤ 9223372036854775807) (h2 : -9223372036854775808 ≤ n2 ∧ n2 ≤ 9223372036854775807) (hr : calcR op n1 n2 = ⟨k, n, s, e⟩) (w : World) :
    Calls Try.prog 29 #[.string op, .agg #[.int .i64 1, .int .i64 n1, .string ⟨#[]⟩], .agg #[.int .i64 1, .int .i64 n2, .string ⟨#[]⟩], .bool false] w fun e' w' => e' = .returned (.tuple #[.agg #[.int .i64 k, .int .i64 n, .string s], .int .i64 e]) ∧ Below w.heap.size w w' := by
  have h := bin_num op n1 ⟨#[]⟩ n2 ⟨#[]⟩ false w hop h1 h2
  rw [hr] at h
  exact h
theorem run_neqS (k n : Int) (s : ByteArray) (w : World) :
    (binOp .neq 23 (.agg #[.int .i64 k, .int .i64 n, .string s]) (.agg #[.int .i64 k, .int .i64 n, .string s])).run Try.prog w = .ok (.bool false) w := by
  rw [run_neqV, eqV_self]; rfl
set_option maxRecDepth 100000 in
set_option maxHeartbeats 2000000 in
theorem back_in_zero (a b c u v m : Int) (w : World) (tb : (b == 0) = true)
    (hs : ∀ w, Calls Try.prog 29 #[.string ⟨#[43]⟩, .agg #[.int .i64 1, .int .i64 a, .string ⟨#[]⟩], .agg #[.int .i64 1, .int .i64 b, .string ⟨#[]⟩], .bool false] w fun e w' => e = .returned (.tuple #[.agg #[.int .i64 1, .int .i64 c, .string ⟨#[]⟩], .int .i64 0]) ∧ Below w.heap.size w w')
    (hd : ∀ w, Calls Try.prog 29 #[.string ⟨#[45]⟩, .agg #[.int .i64 1, .int .i64 c, .string ⟨#[]⟩], .agg #[.int .i64 1, .int .i64 b, .string ⟨#[]⟩], .bool false] w fun e w' => e = .returned (.tuple #[.agg #[.int .i64 1, .int .i64 a, .string ⟨#[]⟩], .int .i64 0]) ∧ Below w.heap.size w w')
    (hq : ∀ w, Calls Try.prog 29 #[.string ⟨#[47]⟩, .agg #[.int .i64 1, .int .i64 a, .string ⟨#[]⟩], .agg #[.int .i64 1, .int .i64 b, .string ⟨#[]⟩], .bool false] w fun e w' => e = .returned (.tuple #[.agg #[.int .i64 0, .int .i64 0, .string ⟨#[]⟩], .int .i64 0]) ∧ Below w.heap.size w w')
    (hr : ∀ w, Calls Try.prog 29 #[.string ⟨#[37]⟩, .agg #[.int .i64 1, .int .i64 a, .string ⟨#[]⟩], .agg #[.int .i64 1, .int .i64 b, .string ⟨#[]⟩], .bool false] w fun e w' => e = .returned (.tuple #[.agg #[.int .i64 0, .int .i64 0, .string ⟨#[]⟩], .int .i64 0]) ∧ Below w.heap.size w w') :
    Calls Try.prog 7 #[.int .i64 a, .int .i64 b] w fun e w' => e = .returned (.bool true) ∧ Below w.heap.size w w' := by
    have e0 := run_eqlS 0 0 ⟨#[]⟩
    have e1 := run_eqlS 1 a ⟨#[]⟩
    have e2 := run_neqS 1 a ⟨#[]⟩
    have hgd := guardV
    have HW := Lib.hid (Below.refl w.heap.size w)
    go_enter Try.func7, Try.ntmps7
    go_wp2_with fail
    refine (works6_any _).mono ?_
    rintro e' w1 ⟨rfl, b⟩
    replace HW := Lib.hid (blw_on HW.out b)
    clear b
    have HXx := Lib.hid (blk_new w1 23 #[.int .i64 1, .int .i64 a, .string ⟨#[]⟩])
    replace HW := Lib.hid (blw_al HW.out (.cells #[.int .i64 1, .int .i64 a, .string ⟨#[]⟩] 23))
    replace HXx := Lib.hid (blk_alloc HXx.out (.cells #[.int .i64 1, .int .i64 b, .string ⟨#[]⟩] 23))
    have HXy := Lib.hid (show Blk ((w1.alloc (.cells #[.int .i64 1, .int .i64 a, .string ⟨#[]⟩] 23)).alloc (.cells #[.int .i64 1, .int .i64 b, .string ⟨#[]⟩] 23)) (w1.heap.size + 1) 23 #[.int .i64 1, .int .i64 b, .string ⟨#[]⟩] from blk_at (by simp))
    replace HW := Lib.hid (blw_al HW.out (.cells #[.int .i64 1, .int .i64 b, .string ⟨#[]⟩] 23))
    have x0 := blk_cell HXx.out 0 rfl
    have x1 := blk_cell HXx.out 1 rfl
    have x2 := blk_cell HXx.out 2 rfl
    have y0 := blk_cell HXy.out 0 rfl
    have y1 := blk_cell HXy.out 1 rfl
    have y2 := blk_cell HXy.out 2 rfl
    go_wp2_with fail
    refine (hs _).mono ?_
    rintro e' w2 ⟨rfl, b⟩
    replace HW := Lib.hid (blw_on HW.out b)
    replace HXx := Lib.hid (blk_below HXx.out b)
    replace HXy := Lib.hid (blk_below HXy.out b)
    clear x0 x1 x2 y0 y1 y2
    clear b
    replace HXx := Lib.hid (blk_alloc HXx.out (.cells #[.int .i64 1, .int .i64 c, .string ⟨#[]⟩] 23))
    replace HXy := Lib.hid (blk_alloc HXy.out (.cells #[.int .i64 1, .int .i64 c, .string ⟨#[]⟩] 23))
    have HXs := Lib.hid (blk_new w2 23 #[.int .i64 1, .int .i64 c, .string ⟨#[]⟩])
    replace HW := Lib.hid (blw_al HW.out (.cells #[.int .i64 1, .int .i64 c, .string ⟨#[]⟩] 23))
    have x0 := blk_cell HXx.out 0 rfl
    have x1 := blk_cell HXx.out 1 rfl
    have x2 := blk_cell HXx.out 2 rfl
    have y0 := blk_cell HXy.out 0 rfl
    have y1 := blk_cell HXy.out 1 rfl
    have y2 := blk_cell HXy.out 2 rfl
    have s0 := blk_cell HXs.out 0 rfl
    have s1 := blk_cell HXs.out 1 rfl
    have s2 := blk_cell HXs.out 2 rfl
    go_wp2_with fail
    refine (hd _).mono ?_
    rintro e' w3 ⟨rfl, b⟩
    replace HW := Lib.hid (blw_on HW.out b)
    replace HXx := Lib.hid (blk_below HXx.out b)
    replace HXy := Lib.hid (blk_below HXy.out b)
    replace HXs := Lib.hid (blk_below HXs.out b)
    clear x0 x1 x2 y0 y1 y2 s0 s1 s2
    clear b
    replace HXx := Lib.hid (blk_alloc HXx.out (.cells #[.int .i64 1, .int .i64 a, .string ⟨#[]⟩] 23))
    replace HXy := Lib.hid (blk_alloc HXy.out (.cells #[.int .i64 1, .int .i64 a, .string ⟨#[]⟩] 23))
    replace HXs := Lib.hid (blk_alloc HXs.out (.cells #[.int .i64 1, .int .i64 a, .string ⟨#[]⟩] 23))
    have HXd := Lib.hid (blk_new w3 23 #[.int .i64 1, .int .i64 a, .string ⟨#[]⟩])
    replace HW := Lib.hid (blw_al HW.out (.cells #[.int .i64 1, .int .i64 a, .string ⟨#[]⟩] 23))
    have x0 := blk_cell HXx.out 0 rfl
    have x1 := blk_cell HXx.out 1 rfl
    have x2 := blk_cell HXx.out 2 rfl
    have y0 := blk_cell HXy.out 0 rfl
    have y1 := blk_cell HXy.out 1 rfl
    have y2 := blk_cell HXy.out 2 rfl
    have d0 := blk_cell HXd.out 0 rfl
    have d1 := blk_cell HXd.out 1 rfl
    have d2 := blk_cell HXd.out 2 rfl
    go_wp2_with fail
    refine (hq _).mono ?_
    rintro e' w4 ⟨rfl, b⟩
    replace HW := Lib.hid (blw_on HW.out b)
    replace HXx := Lib.hid (blk_below HXx.out b)
    replace HXy := Lib.hid (blk_below HXy.out b)
    replace HXs := Lib.hid (blk_below HXs.out b)
    replace HXd := Lib.hid (blk_below HXd.out b)
    clear x0 x1 x2 y0 y1 y2 d0 d1 d2
    clear b
    replace HXx := Lib.hid (blk_alloc HXx.out (.cells #[.int .i64 0, .int .i64 0, .string ⟨#[]⟩] 23))
    replace HXy := Lib.hid (blk_alloc HXy.out (.cells #[.int .i64 0, .int .i64 0, .string ⟨#[]⟩] 23))
    replace HXs := Lib.hid (blk_alloc HXs.out (.cells #[.int .i64 0, .int .i64 0, .string ⟨#[]⟩] 23))
    replace HXd := Lib.hid (blk_alloc HXd.out (.cells #[.int .i64 0, .int .i64 0, .string ⟨#[]⟩] 23))
    have HXq := Lib.hid (blk_new w4 23 #[.int .i64 0, .int .i64 0, .string ⟨#[]⟩])
    replace HW := Lib.hid (blw_al HW.out (.cells #[.int .i64 0, .int .i64 0, .string ⟨#[]⟩] 23))
    have x0 := blk_cell HXx.out 0 rfl
    have x1 := blk_cell HXx.out 1 rfl
    have x2 := blk_cell HXx.out 2 rfl
    have y0 := blk_cell HXy.out 0 rfl
    have y1 := blk_cell HXy.out 1 rfl
    have y2 := blk_cell HXy.out 2 rfl
    go_wp2_with fail
    refine (hr _).mono ?_
    rintro e' w5 ⟨rfl, b⟩
    replace HW := Lib.hid (blw_on HW.out b)
    replace HXx := Lib.hid (blk_below HXx.out b)
    replace HXy := Lib.hid (blk_below HXy.out b)
    replace HXs := Lib.hid (blk_below HXs.out b)
    replace HXd := Lib.hid (blk_below HXd.out b)
    replace HXq := Lib.hid (blk_below HXq.out b)
    clear x0 x1 x2 y0 y1 y2
    clear b
    replace HXx := Lib.hid (blk_alloc HXx.out (.cells #[.int .i64 0, .int .i64 0, .string ⟨#[]⟩] 23))
    replace HXy := Lib.hid (blk_alloc HXy.out (.cells #[.int .i64 0, .int .i64 0, .string ⟨#[]⟩] 23))
    replace HXs := Lib.hid (blk_alloc HXs.out (.cells #[.int .i64 0, .int .i64 0, .string ⟨#[]⟩] 23))
    replace HXd := Lib.hid (blk_alloc HXd.out (.cells #[.int .i64 0, .int .i64 0, .string ⟨#[]⟩] 23))
    replace HXq := Lib.hid (blk_alloc HXq.out (.cells #[.int .i64 0, .int .i64 0, .string ⟨#[]⟩] 23))
    have HXr := Lib.hid (blk_new w5 23 #[.int .i64 0, .int .i64 0, .string ⟨#[]⟩])
    replace HW := Lib.hid (blw_al HW.out (.cells #[.int .i64 0, .int .i64 0, .string ⟨#[]⟩] 23))
    have x0 := blk_cell HXx.out 0 rfl
    have x1 := blk_cell HXx.out 1 rfl
    have x2 := blk_cell HXx.out 2 rfl
    have y0 := blk_cell HXy.out 0 rfl
    have y1 := blk_cell HXy.out 1 rfl
    have y2 := blk_cell HXy.out 2 rfl
    have q0 := blk_cell HXq.out 0 rfl
    have q1 := blk_cell HXq.out 1 rfl
    have q2 := blk_cell HXq.out 2 rfl
    have r0 := blk_cell HXr.out 0 rfl
    have r1 := blk_cell HXr.out 1 rfl
    have r2 := blk_cell HXr.out 2 rfl
    go_wp2_with fail
    go_ret
    exact ⟨rfl, HW.out⟩
set_option maxRecDepth 100000 in
set_option maxHeartbeats 2000000 in
theorem back_in_over (a b c u v m : Int) (w : World) (tb : (b == 0) = false) (t1 : (a == -9223372036854775808) = true) (t2 : (b == -1) = true)
    (hs : ∀ w, Calls Try.prog 29 #[.string ⟨#[43]⟩, .agg #[.int .i64 1, .int .i64 a, .string ⟨#[]⟩], .agg #[.int .i64 1, .int .i64 b, .string ⟨#[]⟩], .bool false] w fun e w' => e = .returned (.tuple #[.agg #[.int .i64 1, .int .i64 c, .string ⟨#[]⟩], .int .i64 0]) ∧ Below w.heap.size w w')
    (hd : ∀ w, Calls Try.prog 29 #[.string ⟨#[45]⟩, .agg #[.int .i64 1, .int .i64 c, .string ⟨#[]⟩], .agg #[.int .i64 1, .int .i64 b, .string ⟨#[]⟩], .bool false] w fun e w' => e = .returned (.tuple #[.agg #[.int .i64 1, .int .i64 a, .string ⟨#[]⟩], .int .i64 0]) ∧ Below w.heap.size w w')
    (hq : ∀ w, Calls Try.prog 29 #[.string ⟨#[47]⟩, .agg #[.int .i64 1, .int .i64 a, .string ⟨#[]⟩], .agg #[.int .i64 1, .int .i64 b, .string ⟨#[]⟩], .bool false] w fun e w' => e = .returned (.tuple #[.agg #[.int .i64 0, .int .i64 0, .string ⟨#[]⟩], .int .i64 15]) ∧ Below w.heap.size w w')
    (hr : ∀ w, Calls Try.prog 29 #[.string ⟨#[37]⟩, .agg #[.int .i64 1, .int .i64 a, .string ⟨#[]⟩], .agg #[.int .i64 1, .int .i64 b, .string ⟨#[]⟩], .bool false] w fun e w' => e = .returned (.tuple #[.agg #[.int .i64 1, .int .i64 v, .string ⟨#[]⟩], .int .i64 0]) ∧ Below w.heap.size w w') :
    Calls Try.prog 7 #[.int .i64 a, .int .i64 b] w fun e w' => e = .returned (.bool true) ∧ Below w.heap.size w w' := by
    have e0 := run_eqlS 0 0 ⟨#[]⟩
    have e1 := run_eqlS 1 a ⟨#[]⟩
    have e2 := run_neqS 1 a ⟨#[]⟩
    have hgd := guardV
    have HW := Lib.hid (Below.refl w.heap.size w)
    go_enter Try.func7, Try.ntmps7
    go_wp2_with fail
    refine (works6_any _).mono ?_
    rintro e' w1 ⟨rfl, b⟩
    replace HW := Lib.hid (blw_on HW.out b)
    clear b
    have HXx := Lib.hid (blk_new w1 23 #[.int .i64 1, .int .i64 a, .string ⟨#[]⟩])
    replace HW := Lib.hid (blw_al HW.out (.cells #[.int .i64 1, .int .i64 a, .string ⟨#[]⟩] 23))
    replace HXx := Lib.hid (blk_alloc HXx.out (.cells #[.int .i64 1, .int .i64 b, .string ⟨#[]⟩] 23))
    have HXy := Lib.hid (show Blk ((w1.alloc (.cells #[.int .i64 1, .int .i64 a, .string ⟨#[]⟩] 23)).alloc (.cells #[.int .i64 1, .int .i64 b, .string ⟨#[]⟩] 23)) (w1.heap.size + 1) 23 #[.int .i64 1, .int .i64 b, .string ⟨#[]⟩] from blk_at (by simp))
    replace HW := Lib.hid (blw_al HW.out (.cells #[.int .i64 1, .int .i64 b, .string ⟨#[]⟩] 23))
    have x0 := blk_cell HXx.out 0 rfl
    have x1 := blk_cell HXx.out 1 rfl
    have x2 := blk_cell HXx.out 2 rfl
    have y0 := blk_cell HXy.out 0 rfl
    have y1 := blk_cell HXy.out 1 rfl
    have y2 := blk_cell HXy.out 2 rfl
    go_wp2_with fail
    refine (hs _).mono ?_
    rintro e' w2 ⟨rfl, b⟩
    replace HW := Lib.hid (blw_on HW.out b)
    replace HXx := Lib.hid (blk_below HXx.out b)
    replace HXy := Lib.hid (blk_below HXy.out b)
    clear x0 x1 x2 y0 y1 y2
    clear b
    replace HXx := Lib.hid (blk_alloc HXx.out (.cells #[.int .i64 1, .int .i64 c, .string ⟨#[]⟩] 23))
    replace HXy := Lib.hid (blk_alloc HXy.out (.cells #[.int .i64 1, .int .i64 c, .string ⟨#[]⟩] 23))
    have HXs := Lib.hid (blk_new w2 23 #[.int .i64 1, .int .i64 c, .string ⟨#[]⟩])
    replace HW := Lib.hid (blw_al HW.out (.cells #[.int .i64 1, .int .i64 c, .string ⟨#[]⟩] 23))
    have x0 := blk_cell HXx.out 0 rfl
    have x1 := blk_cell HXx.out 1 rfl
    have x2 := blk_cell HXx.out 2 rfl
    have y0 := blk_cell HXy.out 0 rfl
    have y1 := blk_cell HXy.out 1 rfl
    have y2 := blk_cell HXy.out 2 rfl
    have s0 := blk_cell HXs.out 0 rfl
    have s1 := blk_cell HXs.out 1 rfl
    have s2 := blk_cell HXs.out 2 rfl
    go_wp2_with fail
    refine (hd _).mono ?_
    rintro e' w3 ⟨rfl, b⟩
    replace HW := Lib.hid (blw_on HW.out b)
    replace HXx := Lib.hid (blk_below HXx.out b)
    replace HXy := Lib.hid (blk_below HXy.out b)
    replace HXs := Lib.hid (blk_below HXs.out b)
    clear x0 x1 x2 y0 y1 y2 s0 s1 s2
    clear b
    replace HXx := Lib.hid (blk_alloc HXx.out (.cells #[.int .i64 1, .int .i64 a, .string ⟨#[]⟩] 23))
    replace HXy := Lib.hid (blk_alloc HXy.out (.cells #[.int .i64 1, .int .i64 a, .string ⟨#[]⟩] 23))
    replace HXs := Lib.hid (blk_alloc HXs.out (.cells #[.int .i64 1, .int .i64 a, .string ⟨#[]⟩] 23))
    have HXd := Lib.hid (blk_new w3 23 #[.int .i64 1, .int .i64 a, .string ⟨#[]⟩])
    replace HW := Lib.hid (blw_al HW.out (.cells #[.int .i64 1, .int .i64 a, .string ⟨#[]⟩] 23))
    have x0 := blk_cell HXx.out 0 rfl
    have x1 := blk_cell HXx.out 1 rfl
    have x2 := blk_cell HXx.out 2 rfl
    have y0 := blk_cell HXy.out 0 rfl
    have y1 := blk_cell HXy.out 1 rfl
    have y2 := blk_cell HXy.out 2 rfl
    have d0 := blk_cell HXd.out 0 rfl
    have d1 := blk_cell HXd.out 1 rfl
    have d2 := blk_cell HXd.out 2 rfl
    go_wp2_with fail
    refine (hq _).mono ?_
    rintro e' w4 ⟨rfl, b⟩
    replace HW := Lib.hid (blw_on HW.out b)
    replace HXx := Lib.hid (blk_below HXx.out b)
    replace HXy := Lib.hid (blk_below HXy.out b)
    replace HXs := Lib.hid (blk_below HXs.out b)
    replace HXd := Lib.hid (blk_below HXd.out b)
    clear x0 x1 x2 y0 y1 y2 d0 d1 d2
    clear b
    replace HXx := Lib.hid (blk_alloc HXx.out (.cells #[.int .i64 0, .int .i64 0, .string ⟨#[]⟩] 23))
    replace HXy := Lib.hid (blk_alloc HXy.out (.cells #[.int .i64 0, .int .i64 0, .string ⟨#[]⟩] 23))
    replace HXs := Lib.hid (blk_alloc HXs.out (.cells #[.int .i64 0, .int .i64 0, .string ⟨#[]⟩] 23))
    replace HXd := Lib.hid (blk_alloc HXd.out (.cells #[.int .i64 0, .int .i64 0, .string ⟨#[]⟩] 23))
    have HXq := Lib.hid (blk_new w4 23 #[.int .i64 0, .int .i64 0, .string ⟨#[]⟩])
    replace HW := Lib.hid (blw_al HW.out (.cells #[.int .i64 0, .int .i64 0, .string ⟨#[]⟩] 23))
    have x0 := blk_cell HXx.out 0 rfl
    have x1 := blk_cell HXx.out 1 rfl
    have x2 := blk_cell HXx.out 2 rfl
    have y0 := blk_cell HXy.out 0 rfl
    have y1 := blk_cell HXy.out 1 rfl
    have y2 := blk_cell HXy.out 2 rfl
    go_wp2_with fail
    refine (hr _).mono ?_
    rintro e' w5 ⟨rfl, b⟩
    replace HW := Lib.hid (blw_on HW.out b)
    replace HXx := Lib.hid (blk_below HXx.out b)
    replace HXy := Lib.hid (blk_below HXy.out b)
    replace HXs := Lib.hid (blk_below HXs.out b)
    replace HXd := Lib.hid (blk_below HXd.out b)
    replace HXq := Lib.hid (blk_below HXq.out b)
    clear x0 x1 x2 y0 y1 y2
    clear b
    replace HXx := Lib.hid (blk_alloc HXx.out (.cells #[.int .i64 1, .int .i64 v, .string ⟨#[]⟩] 23))
    replace HXy := Lib.hid (blk_alloc HXy.out (.cells #[.int .i64 1, .int .i64 v, .string ⟨#[]⟩] 23))
    replace HXs := Lib.hid (blk_alloc HXs.out (.cells #[.int .i64 1, .int .i64 v, .string ⟨#[]⟩] 23))
    replace HXd := Lib.hid (blk_alloc HXd.out (.cells #[.int .i64 1, .int .i64 v, .string ⟨#[]⟩] 23))
    replace HXq := Lib.hid (blk_alloc HXq.out (.cells #[.int .i64 1, .int .i64 v, .string ⟨#[]⟩] 23))
    have HXr := Lib.hid (blk_new w5 23 #[.int .i64 1, .int .i64 v, .string ⟨#[]⟩])
    replace HW := Lib.hid (blw_al HW.out (.cells #[.int .i64 1, .int .i64 v, .string ⟨#[]⟩] 23))
    have x0 := blk_cell HXx.out 0 rfl
    have x1 := blk_cell HXx.out 1 rfl
    have x2 := blk_cell HXx.out 2 rfl
    have y0 := blk_cell HXy.out 0 rfl
    have y1 := blk_cell HXy.out 1 rfl
    have y2 := blk_cell HXy.out 2 rfl
    have q0 := blk_cell HXq.out 0 rfl
    have q1 := blk_cell HXq.out 1 rfl
    have q2 := blk_cell HXq.out 2 rfl
    have r0 := blk_cell HXr.out 0 rfl
    have r1 := blk_cell HXr.out 1 rfl
    have r2 := blk_cell HXr.out 2 rfl
    go_wp2_with fail
    go_ret
    exact ⟨rfl, HW.out⟩
set_option maxRecDepth 100000 in
set_option maxHeartbeats 2000000 in
theorem back_in_ok (a b c u v m : Int) (w : World) (tb : (b == 0) = false)
    (hs : ∀ w, Calls Try.prog 29 #[.string ⟨#[43]⟩, .agg #[.int .i64 1, .int .i64 a, .string ⟨#[]⟩], .agg #[.int .i64 1, .int .i64 b, .string ⟨#[]⟩], .bool false] w fun e w' => e = .returned (.tuple #[.agg #[.int .i64 1, .int .i64 c, .string ⟨#[]⟩], .int .i64 0]) ∧ Below w.heap.size w w')
    (hd : ∀ w, Calls Try.prog 29 #[.string ⟨#[45]⟩, .agg #[.int .i64 1, .int .i64 c, .string ⟨#[]⟩], .agg #[.int .i64 1, .int .i64 b, .string ⟨#[]⟩], .bool false] w fun e w' => e = .returned (.tuple #[.agg #[.int .i64 1, .int .i64 a, .string ⟨#[]⟩], .int .i64 0]) ∧ Below w.heap.size w w')
    (hq : ∀ w, Calls Try.prog 29 #[.string ⟨#[47]⟩, .agg #[.int .i64 1, .int .i64 a, .string ⟨#[]⟩], .agg #[.int .i64 1, .int .i64 b, .string ⟨#[]⟩], .bool false] w fun e w' => e = .returned (.tuple #[.agg #[.int .i64 1, .int .i64 u, .string ⟨#[]⟩], .int .i64 0]) ∧ Below w.heap.size w w')
    (hr : ∀ w, Calls Try.prog 29 #[.string ⟨#[37]⟩, .agg #[.int .i64 1, .int .i64 a, .string ⟨#[]⟩], .agg #[.int .i64 1, .int .i64 b, .string ⟨#[]⟩], .bool false] w fun e w' => e = .returned (.tuple #[.agg #[.int .i64 1, .int .i64 v, .string ⟨#[]⟩], .int .i64 0]) ∧ Below w.heap.size w w')
    (hp : ∀ w, Calls Try.prog 29 #[.string ⟨#[42]⟩, .agg #[.int .i64 1, .int .i64 u, .string ⟨#[]⟩], .agg #[.int .i64 1, .int .i64 b, .string ⟨#[]⟩], .bool false] w fun e w' => e = .returned (.tuple #[.agg #[.int .i64 1, .int .i64 m, .string ⟨#[]⟩], .int .i64 0]) ∧ Below w.heap.size w w')
    (ht : ∀ w, Calls Try.prog 29 #[.string ⟨#[43]⟩, .agg #[.int .i64 1, .int .i64 m, .string ⟨#[]⟩], .agg #[.int .i64 1, .int .i64 v, .string ⟨#[]⟩], .bool false] w fun e w' => e = .returned (.tuple #[.agg #[.int .i64 1, .int .i64 a, .string ⟨#[]⟩], .int .i64 0]) ∧ Below w.heap.size w w') :
    Calls Try.prog 7 #[.int .i64 a, .int .i64 b] w fun e w' => e = .returned (.bool true) ∧ Below w.heap.size w w' := by
    have e0 := run_eqlS 0 0 ⟨#[]⟩
    have e1 := run_eqlS 1 a ⟨#[]⟩
    have e2 := run_neqS 1 a ⟨#[]⟩
    have hgd := guardV
    have HW := Lib.hid (Below.refl w.heap.size w)
    go_enter Try.func7, Try.ntmps7
    go_wp2_with fail
    refine (works6_any _).mono ?_
    rintro e' w1 ⟨rfl, b⟩
    replace HW := Lib.hid (blw_on HW.out b)
    clear b
    have HXx := Lib.hid (blk_new w1 23 #[.int .i64 1, .int .i64 a, .string ⟨#[]⟩])
    replace HW := Lib.hid (blw_al HW.out (.cells #[.int .i64 1, .int .i64 a, .string ⟨#[]⟩] 23))
    replace HXx := Lib.hid (blk_alloc HXx.out (.cells #[.int .i64 1, .int .i64 b, .string ⟨#[]⟩] 23))
    have HXy := Lib.hid (show Blk ((w1.alloc (.cells #[.int .i64 1, .int .i64 a, .string ⟨#[]⟩] 23)).alloc (.cells #[.int .i64 1, .int .i64 b, .string ⟨#[]⟩] 23)) (w1.heap.size + 1) 23 #[.int .i64 1, .int .i64 b, .string ⟨#[]⟩] from blk_at (by simp))
    replace HW := Lib.hid (blw_al HW.out (.cells #[.int .i64 1, .int .i64 b, .string ⟨#[]⟩] 23))
    have x0 := blk_cell HXx.out 0 rfl
    have x1 := blk_cell HXx.out 1 rfl
    have x2 := blk_cell HXx.out 2 rfl
    have y0 := blk_cell HXy.out 0 rfl
    have y1 := blk_cell HXy.out 1 rfl
    have y2 := blk_cell HXy.out 2 rfl
    go_wp2_with fail
    refine (hs _).mono ?_
    rintro e' w2 ⟨rfl, b⟩
    replace HW := Lib.hid (blw_on HW.out b)
    replace HXx := Lib.hid (blk_below HXx.out b)
    replace HXy := Lib.hid (blk_below HXy.out b)
    clear x0 x1 x2 y0 y1 y2
    clear b
    replace HXx := Lib.hid (blk_alloc HXx.out (.cells #[.int .i64 1, .int .i64 c, .string ⟨#[]⟩] 23))
    replace HXy := Lib.hid (blk_alloc HXy.out (.cells #[.int .i64 1, .int .i64 c, .string ⟨#[]⟩] 23))
    have HXs := Lib.hid (blk_new w2 23 #[.int .i64 1, .int .i64 c, .string ⟨#[]⟩])
    replace HW := Lib.hid (blw_al HW.out (.cells #[.int .i64 1, .int .i64 c, .string ⟨#[]⟩] 23))
    have x0 := blk_cell HXx.out 0 rfl
    have x1 := blk_cell HXx.out 1 rfl
    have x2 := blk_cell HXx.out 2 rfl
    have y0 := blk_cell HXy.out 0 rfl
    have y1 := blk_cell HXy.out 1 rfl
    have y2 := blk_cell HXy.out 2 rfl
    have s0 := blk_cell HXs.out 0 rfl
    have s1 := blk_cell HXs.out 1 rfl
    have s2 := blk_cell HXs.out 2 rfl
    go_wp2_with fail
    refine (hd _).mono ?_
    rintro e' w3 ⟨rfl, b⟩
    replace HW := Lib.hid (blw_on HW.out b)
    replace HXx := Lib.hid (blk_below HXx.out b)
    replace HXy := Lib.hid (blk_below HXy.out b)
    replace HXs := Lib.hid (blk_below HXs.out b)
    clear x0 x1 x2 y0 y1 y2 s0 s1 s2
    clear b
    replace HXx := Lib.hid (blk_alloc HXx.out (.cells #[.int .i64 1, .int .i64 a, .string ⟨#[]⟩] 23))
    replace HXy := Lib.hid (blk_alloc HXy.out (.cells #[.int .i64 1, .int .i64 a, .string ⟨#[]⟩] 23))
    replace HXs := Lib.hid (blk_alloc HXs.out (.cells #[.int .i64 1, .int .i64 a, .string ⟨#[]⟩] 23))
    have HXd := Lib.hid (blk_new w3 23 #[.int .i64 1, .int .i64 a, .string ⟨#[]⟩])
    replace HW := Lib.hid (blw_al HW.out (.cells #[.int .i64 1, .int .i64 a, .string ⟨#[]⟩] 23))
    have x0 := blk_cell HXx.out 0 rfl
    have x1 := blk_cell HXx.out 1 rfl
    have x2 := blk_cell HXx.out 2 rfl
    have y0 := blk_cell HXy.out 0 rfl
    have y1 := blk_cell HXy.out 1 rfl
    have y2 := blk_cell HXy.out 2 rfl
    have d0 := blk_cell HXd.out 0 rfl
    have d1 := blk_cell HXd.out 1 rfl
    have d2 := blk_cell HXd.out 2 rfl
    go_wp2_with fail
    refine (hq _).mono ?_
    rintro e' w4 ⟨rfl, b⟩
    replace HW := Lib.hid (blw_on HW.out b)
    replace HXx := Lib.hid (blk_below HXx.out b)
    replace HXy := Lib.hid (blk_below HXy.out b)
    replace HXs := Lib.hid (blk_below HXs.out b)
    replace HXd := Lib.hid (blk_below HXd.out b)
    clear x0 x1 x2 y0 y1 y2 d0 d1 d2
    clear b
    replace HXx := Lib.hid (blk_alloc HXx.out (.cells #[.int .i64 1, .int .i64 u, .string ⟨#[]⟩] 23))
    replace HXy := Lib.hid (blk_alloc HXy.out (.cells #[.int .i64 1, .int .i64 u, .string ⟨#[]⟩] 23))
    replace HXs := Lib.hid (blk_alloc HXs.out (.cells #[.int .i64 1, .int .i64 u, .string ⟨#[]⟩] 23))
    replace HXd := Lib.hid (blk_alloc HXd.out (.cells #[.int .i64 1, .int .i64 u, .string ⟨#[]⟩] 23))
    have HXq := Lib.hid (blk_new w4 23 #[.int .i64 1, .int .i64 u, .string ⟨#[]⟩])
    replace HW := Lib.hid (blw_al HW.out (.cells #[.int .i64 1, .int .i64 u, .string ⟨#[]⟩] 23))
    have x0 := blk_cell HXx.out 0 rfl
    have x1 := blk_cell HXx.out 1 rfl
    have x2 := blk_cell HXx.out 2 rfl
    have y0 := blk_cell HXy.out 0 rfl
    have y1 := blk_cell HXy.out 1 rfl
    have y2 := blk_cell HXy.out 2 rfl
    go_wp2_with fail
    refine (hr _).mono ?_
    rintro e' w5 ⟨rfl, b⟩
    replace HW := Lib.hid (blw_on HW.out b)
    replace HXx := Lib.hid (blk_below HXx.out b)
    replace HXy := Lib.hid (blk_below HXy.out b)
    replace HXs := Lib.hid (blk_below HXs.out b)
    replace HXd := Lib.hid (blk_below HXd.out b)
    replace HXq := Lib.hid (blk_below HXq.out b)
    clear x0 x1 x2 y0 y1 y2
    clear b
    replace HXx := Lib.hid (blk_alloc HXx.out (.cells #[.int .i64 1, .int .i64 v, .string ⟨#[]⟩] 23))
    replace HXy := Lib.hid (blk_alloc HXy.out (.cells #[.int .i64 1, .int .i64 v, .string ⟨#[]⟩] 23))
    replace HXs := Lib.hid (blk_alloc HXs.out (.cells #[.int .i64 1, .int .i64 v, .string ⟨#[]⟩] 23))
    replace HXd := Lib.hid (blk_alloc HXd.out (.cells #[.int .i64 1, .int .i64 v, .string ⟨#[]⟩] 23))
    replace HXq := Lib.hid (blk_alloc HXq.out (.cells #[.int .i64 1, .int .i64 v, .string ⟨#[]⟩] 23))
    have HXr := Lib.hid (blk_new w5 23 #[.int .i64 1, .int .i64 v, .string ⟨#[]⟩])
    replace HW := Lib.hid (blw_al HW.out (.cells #[.int .i64 1, .int .i64 v, .string ⟨#[]⟩] 23))
    have x0 := blk_cell HXx.out 0 rfl
    have x1 := blk_cell HXx.out 1 rfl
    have x2 := blk_cell HXx.out 2 rfl
    have y0 := blk_cell HXy.out 0 rfl
    have y1 := blk_cell HXy.out 1 rfl
    have y2 := blk_cell HXy.out 2 rfl
    have q0 := blk_cell HXq.out 0 rfl
    have q1 := blk_cell HXq.out 1 rfl
    have q2 := blk_cell HXq.out 2 rfl
    have r0 := blk_cell HXr.out 0 rfl
    have r1 := blk_cell HXr.out 1 rfl
    have r2 := blk_cell HXr.out 2 rfl
    go_wp2_with fail
    refine (hp _).mono ?_
    rintro e' w6 ⟨rfl, b⟩
    replace HW := Lib.hid (blw_on HW.out b)
    replace HXx := Lib.hid (blk_below HXx.out b)
    replace HXy := Lib.hid (blk_below HXy.out b)
    replace HXs := Lib.hid (blk_below HXs.out b)
    replace HXd := Lib.hid (blk_below HXd.out b)
    replace HXq := Lib.hid (blk_below HXq.out b)
    replace HXr := Lib.hid (blk_below HXr.out b)
    clear x0 x1 x2 y0 y1 y2 q0 q1 q2 r0 r1 r2
    clear b
    replace HXx := Lib.hid (blk_alloc HXx.out (.cells #[.int .i64 1, .int .i64 m, .string ⟨#[]⟩] 23))
    replace HXy := Lib.hid (blk_alloc HXy.out (.cells #[.int .i64 1, .int .i64 m, .string ⟨#[]⟩] 23))
    replace HXs := Lib.hid (blk_alloc HXs.out (.cells #[.int .i64 1, .int .i64 m, .string ⟨#[]⟩] 23))
    replace HXd := Lib.hid (blk_alloc HXd.out (.cells #[.int .i64 1, .int .i64 m, .string ⟨#[]⟩] 23))
    replace HXq := Lib.hid (blk_alloc HXq.out (.cells #[.int .i64 1, .int .i64 m, .string ⟨#[]⟩] 23))
    replace HXr := Lib.hid (blk_alloc HXr.out (.cells #[.int .i64 1, .int .i64 m, .string ⟨#[]⟩] 23))
    have HXp := Lib.hid (blk_new w6 23 #[.int .i64 1, .int .i64 m, .string ⟨#[]⟩])
    replace HW := Lib.hid (blw_al HW.out (.cells #[.int .i64 1, .int .i64 m, .string ⟨#[]⟩] 23))
    have p0 := blk_cell HXp.out 0 rfl
    have p1 := blk_cell HXp.out 1 rfl
    have p2 := blk_cell HXp.out 2 rfl
    have r0 := blk_cell HXr.out 0 rfl
    have r1 := blk_cell HXr.out 1 rfl
    have r2 := blk_cell HXr.out 2 rfl
    have x0 := blk_cell HXx.out 0 rfl
    have x1 := blk_cell HXx.out 1 rfl
    have x2 := blk_cell HXx.out 2 rfl
    go_wp2_with fail
    refine (ht _).mono ?_
    rintro e' w7 ⟨rfl, b⟩
    replace HW := Lib.hid (blw_on HW.out b)
    replace HXx := Lib.hid (blk_below HXx.out b)
    replace HXy := Lib.hid (blk_below HXy.out b)
    replace HXs := Lib.hid (blk_below HXs.out b)
    replace HXd := Lib.hid (blk_below HXd.out b)
    replace HXq := Lib.hid (blk_below HXq.out b)
    replace HXr := Lib.hid (blk_below HXr.out b)
    replace HXp := Lib.hid (blk_below HXp.out b)
    clear p0 p1 p2 r0 r1 r2 x0 x1 x2
    clear b
    replace HXx := Lib.hid (blk_alloc HXx.out (.cells #[.int .i64 1, .int .i64 a, .string ⟨#[]⟩] 23))
    replace HXy := Lib.hid (blk_alloc HXy.out (.cells #[.int .i64 1, .int .i64 a, .string ⟨#[]⟩] 23))
    replace HXs := Lib.hid (blk_alloc HXs.out (.cells #[.int .i64 1, .int .i64 a, .string ⟨#[]⟩] 23))
    replace HXd := Lib.hid (blk_alloc HXd.out (.cells #[.int .i64 1, .int .i64 a, .string ⟨#[]⟩] 23))
    replace HXq := Lib.hid (blk_alloc HXq.out (.cells #[.int .i64 1, .int .i64 a, .string ⟨#[]⟩] 23))
    replace HXr := Lib.hid (blk_alloc HXr.out (.cells #[.int .i64 1, .int .i64 a, .string ⟨#[]⟩] 23))
    replace HXp := Lib.hid (blk_alloc HXp.out (.cells #[.int .i64 1, .int .i64 a, .string ⟨#[]⟩] 23))
    have HXt := Lib.hid (blk_new w7 23 #[.int .i64 1, .int .i64 a, .string ⟨#[]⟩])
    replace HW := Lib.hid (blw_al HW.out (.cells #[.int .i64 1, .int .i64 a, .string ⟨#[]⟩] 23))
    have t0 := blk_cell HXt.out 0 rfl
    have t1 := blk_cell HXt.out 1 rfl
    have t2 := blk_cell HXt.out 2 rfl
    have x0 := blk_cell HXx.out 0 rfl
    have x1 := blk_cell HXx.out 1 rfl
    have x2 := blk_cell HXx.out 2 rfl
    go_wp2_with fail
    go_ret
    exact ⟨rfl, HW.out⟩
set_option maxRecDepth 100000 in
set_option maxHeartbeats 2000000 in
theorem back_out_zero (a b c u v m : Int) (w : World) (tb : (b == 0) = true)
    (hs : ∀ w, Calls Try.prog 29 #[.string ⟨#[43]⟩, .agg #[.int .i64 1, .int .i64 a, .string ⟨#[]⟩], .agg #[.int .i64 1, .int .i64 b, .string ⟨#[]⟩], .bool false] w fun e w' => e = .returned (.tuple #[.agg #[.int .i64 0, .int .i64 0, .string ⟨#[]⟩], .int .i64 15]) ∧ Below w.heap.size w w')
    (hq : ∀ w, Calls Try.prog 29 #[.string ⟨#[47]⟩, .agg #[.int .i64 1, .int .i64 a, .string ⟨#[]⟩], .agg #[.int .i64 1, .int .i64 b, .string ⟨#[]⟩], .bool false] w fun e w' => e = .returned (.tuple #[.agg #[.int .i64 0, .int .i64 0, .string ⟨#[]⟩], .int .i64 0]) ∧ Below w.heap.size w w')
    (hr : ∀ w, Calls Try.prog 29 #[.string ⟨#[37]⟩, .agg #[.int .i64 1, .int .i64 a, .string ⟨#[]⟩], .agg #[.int .i64 1, .int .i64 b, .string ⟨#[]⟩], .bool false] w fun e w' => e = .returned (.tuple #[.agg #[.int .i64 0, .int .i64 0, .string ⟨#[]⟩], .int .i64 0]) ∧ Below w.heap.size w w') :
    Calls Try.prog 7 #[.int .i64 a, .int .i64 b] w fun e w' => e = .returned (.bool true) ∧ Below w.heap.size w w' := by
    have e0 := run_eqlS 0 0 ⟨#[]⟩
    have e1 := run_eqlS 1 a ⟨#[]⟩
    have e2 := run_neqS 1 a ⟨#[]⟩
    have hgd := guardV
    have HW := Lib.hid (Below.refl w.heap.size w)
    go_enter Try.func7, Try.ntmps7
    go_wp2_with fail
    refine (works6_any _).mono ?_
    rintro e' w1 ⟨rfl, b⟩
    replace HW := Lib.hid (blw_on HW.out b)
    clear b
    have HXx := Lib.hid (blk_new w1 23 #[.int .i64 1, .int .i64 a, .string ⟨#[]⟩])
    replace HW := Lib.hid (blw_al HW.out (.cells #[.int .i64 1, .int .i64 a, .string ⟨#[]⟩] 23))
    replace HXx := Lib.hid (blk_alloc HXx.out (.cells #[.int .i64 1, .int .i64 b, .string ⟨#[]⟩] 23))
    have HXy := Lib.hid (show Blk ((w1.alloc (.cells #[.int .i64 1, .int .i64 a, .string ⟨#[]⟩] 23)).alloc (.cells #[.int .i64 1, .int .i64 b, .string ⟨#[]⟩] 23)) (w1.heap.size + 1) 23 #[.int .i64 1, .int .i64 b, .string ⟨#[]⟩] from blk_at (by simp))
    replace HW := Lib.hid (blw_al HW.out (.cells #[.int .i64 1, .int .i64 b, .string ⟨#[]⟩] 23))
    have x0 := blk_cell HXx.out 0 rfl
    have x1 := blk_cell HXx.out 1 rfl
    have x2 := blk_cell HXx.out 2 rfl
    have y0 := blk_cell HXy.out 0 rfl
    have y1 := blk_cell HXy.out 1 rfl
    have y2 := blk_cell HXy.out 2 rfl
    go_wp2_with fail
    refine (hs _).mono ?_
    rintro e' w2 ⟨rfl, b⟩
    replace HW := Lib.hid (blw_on HW.out b)
    replace HXx := Lib.hid (blk_below HXx.out b)
    replace HXy := Lib.hid (blk_below HXy.out b)
    clear x0 x1 x2 y0 y1 y2
    clear b
    replace HXx := Lib.hid (blk_alloc HXx.out (.cells #[.int .i64 0, .int .i64 0, .string ⟨#[]⟩] 23))
    replace HXy := Lib.hid (blk_alloc HXy.out (.cells #[.int .i64 0, .int .i64 0, .string ⟨#[]⟩] 23))
    have HXs := Lib.hid (blk_new w2 23 #[.int .i64 0, .int .i64 0, .string ⟨#[]⟩])
    replace HW := Lib.hid (blw_al HW.out (.cells #[.int .i64 0, .int .i64 0, .string ⟨#[]⟩] 23))
    have x0 := blk_cell HXx.out 0 rfl
    have x1 := blk_cell HXx.out 1 rfl
    have x2 := blk_cell HXx.out 2 rfl
    have y0 := blk_cell HXy.out 0 rfl
    have y1 := blk_cell HXy.out 1 rfl
    have y2 := blk_cell HXy.out 2 rfl
    have s0 := blk_cell HXs.out 0 rfl
    have s1 := blk_cell HXs.out 1 rfl
    have s2 := blk_cell HXs.out 2 rfl
    go_wp2_with fail
    refine (hq _).mono ?_
    rintro e' w3 ⟨rfl, b⟩
    replace HW := Lib.hid (blw_on HW.out b)
    replace HXx := Lib.hid (blk_below HXx.out b)
    replace HXy := Lib.hid (blk_below HXy.out b)
    replace HXs := Lib.hid (blk_below HXs.out b)
    clear x0 x1 x2 y0 y1 y2 s0 s1 s2
    clear b
    replace HXx := Lib.hid (blk_alloc HXx.out (.cells #[.int .i64 0, .int .i64 0, .string ⟨#[]⟩] 23))
    replace HXy := Lib.hid (blk_alloc HXy.out (.cells #[.int .i64 0, .int .i64 0, .string ⟨#[]⟩] 23))
    replace HXs := Lib.hid (blk_alloc HXs.out (.cells #[.int .i64 0, .int .i64 0, .string ⟨#[]⟩] 23))
    have HXq := Lib.hid (blk_new w3 23 #[.int .i64 0, .int .i64 0, .string ⟨#[]⟩])
    replace HW := Lib.hid (blw_al HW.out (.cells #[.int .i64 0, .int .i64 0, .string ⟨#[]⟩] 23))
    have x0 := blk_cell HXx.out 0 rfl
    have x1 := blk_cell HXx.out 1 rfl
    have x2 := blk_cell HXx.out 2 rfl
    have y0 := blk_cell HXy.out 0 rfl
    have y1 := blk_cell HXy.out 1 rfl
    have y2 := blk_cell HXy.out 2 rfl
    go_wp2_with fail
    refine (hr _).mono ?_
    rintro e' w4 ⟨rfl, b⟩
    replace HW := Lib.hid (blw_on HW.out b)
    replace HXx := Lib.hid (blk_below HXx.out b)
    replace HXy := Lib.hid (blk_below HXy.out b)
    replace HXs := Lib.hid (blk_below HXs.out b)
    replace HXq := Lib.hid (blk_below HXq.out b)
    clear x0 x1 x2 y0 y1 y2
    clear b
    replace HXx := Lib.hid (blk_alloc HXx.out (.cells #[.int .i64 0, .int .i64 0, .string ⟨#[]⟩] 23))
    replace HXy := Lib.hid (blk_alloc HXy.out (.cells #[.int .i64 0, .int .i64 0, .string ⟨#[]⟩] 23))
    replace HXs := Lib.hid (blk_alloc HXs.out (.cells #[.int .i64 0, .int .i64 0, .string ⟨#[]⟩] 23))
    replace HXq := Lib.hid (blk_alloc HXq.out (.cells #[.int .i64 0, .int .i64 0, .string ⟨#[]⟩] 23))
    have HXr := Lib.hid (blk_new w4 23 #[.int .i64 0, .int .i64 0, .string ⟨#[]⟩])
    replace HW := Lib.hid (blw_al HW.out (.cells #[.int .i64 0, .int .i64 0, .string ⟨#[]⟩] 23))
    have x0 := blk_cell HXx.out 0 rfl
    have x1 := blk_cell HXx.out 1 rfl
    have x2 := blk_cell HXx.out 2 rfl
    have y0 := blk_cell HXy.out 0 rfl
    have y1 := blk_cell HXy.out 1 rfl
    have y2 := blk_cell HXy.out 2 rfl
    have q0 := blk_cell HXq.out 0 rfl
    have q1 := blk_cell HXq.out 1 rfl
    have q2 := blk_cell HXq.out 2 rfl
    have r0 := blk_cell HXr.out 0 rfl
    have r1 := blk_cell HXr.out 1 rfl
    have r2 := blk_cell HXr.out 2 rfl
    go_wp2_with fail
    go_ret
    exact ⟨rfl, HW.out⟩
set_option maxRecDepth 100000 in
set_option maxHeartbeats 2000000 in
theorem back_out_over (a b c u v m : Int) (w : World) (tb : (b == 0) = false) (t1 : (a == -9223372036854775808) = true) (t2 : (b == -1) = true)
    (hs : ∀ w, Calls Try.prog 29 #[.string ⟨#[43]⟩, .agg #[.int .i64 1, .int .i64 a, .string ⟨#[]⟩], .agg #[.int .i64 1, .int .i64 b, .string ⟨#[]⟩], .bool false] w fun e w' => e = .returned (.tuple #[.agg #[.int .i64 0, .int .i64 0, .string ⟨#[]⟩], .int .i64 15]) ∧ Below w.heap.size w w')
    (hq : ∀ w, Calls Try.prog 29 #[.string ⟨#[47]⟩, .agg #[.int .i64 1, .int .i64 a, .string ⟨#[]⟩], .agg #[.int .i64 1, .int .i64 b, .string ⟨#[]⟩], .bool false] w fun e w' => e = .returned (.tuple #[.agg #[.int .i64 0, .int .i64 0, .string ⟨#[]⟩], .int .i64 15]) ∧ Below w.heap.size w w')
    (hr : ∀ w, Calls Try.prog 29 #[.string ⟨#[37]⟩, .agg #[.int .i64 1, .int .i64 a, .string ⟨#[]⟩], .agg #[.int .i64 1, .int .i64 b, .string ⟨#[]⟩], .bool false] w fun e w' => e = .returned (.tuple #[.agg #[.int .i64 1, .int .i64 v, .string ⟨#[]⟩], .int .i64 0]) ∧ Below w.heap.size w w') :
    Calls Try.prog 7 #[.int .i64 a, .int .i64 b] w fun e w' => e = .returned (.bool true) ∧ Below w.heap.size w w' := by
    have e0 := run_eqlS 0 0 ⟨#[]⟩
    have e1 := run_eqlS 1 a ⟨#[]⟩
    have e2 := run_neqS 1 a ⟨#[]⟩
    have hgd := guardV
    have HW := Lib.hid (Below.refl w.heap.size w)
    go_enter Try.func7, Try.ntmps7
    go_wp2_with fail
    refine (works6_any _).mono ?_
    rintro e' w1 ⟨rfl, b⟩
    replace HW := Lib.hid (blw_on HW.out b)
    clear b
    have HXx := Lib.hid (blk_new w1 23 #[.int .i64 1, .int .i64 a, .string ⟨#[]⟩])
    replace HW := Lib.hid (blw_al HW.out (.cells #[.int .i64 1, .int .i64 a, .string ⟨#[]⟩] 23))
    replace HXx := Lib.hid (blk_alloc HXx.out (.cells #[.int .i64 1, .int .i64 b, .string ⟨#[]⟩] 23))
    have HXy := Lib.hid (show Blk ((w1.alloc (.cells #[.int .i64 1, .int .i64 a, .string ⟨#[]⟩] 23)).alloc (.cells #[.int .i64 1, .int .i64 b, .string ⟨#[]⟩] 23)) (w1.heap.size + 1) 23 #[.int .i64 1, .int .i64 b, .string ⟨#[]⟩] from blk_at (by simp))
    replace HW := Lib.hid (blw_al HW.out (.cells #[.int .i64 1, .int .i64 b, .string ⟨#[]⟩] 23))
    have x0 := blk_cell HXx.out 0 rfl
    have x1 := blk_cell HXx.out 1 rfl
    have x2 := blk_cell HXx.out 2 rfl
    have y0 := blk_cell HXy.out 0 rfl
    have y1 := blk_cell HXy.out 1 rfl
    have y2 := blk_cell HXy.out 2 rfl
    go_wp2_with fail
    refine (hs _).mono ?_
    rintro e' w2 ⟨rfl, b⟩
    replace HW := Lib.hid (blw_on HW.out b)
    replace HXx := Lib.hid (blk_below HXx.out b)
    replace HXy := Lib.hid (blk_below HXy.out b)
    clear x0 x1 x2 y0 y1 y2
    clear b
    replace HXx := Lib.hid (blk_alloc HXx.out (.cells #[.int .i64 0, .int .i64 0, .string ⟨#[]⟩] 23))
    replace HXy := Lib.hid (blk_alloc HXy.out (.cells #[.int .i64 0, .int .i64 0, .string ⟨#[]⟩] 23))
    have HXs := Lib.hid (blk_new w2 23 #[.int .i64 0, .int .i64 0, .string ⟨#[]⟩])
    replace HW := Lib.hid (blw_al HW.out (.cells #[.int .i64 0, .int .i64 0, .string ⟨#[]⟩] 23))
    have x0 := blk_cell HXx.out 0 rfl
    have x1 := blk_cell HXx.out 1 rfl
    have x2 := blk_cell HXx.out 2 rfl
    have y0 := blk_cell HXy.out 0 rfl
    have y1 := blk_cell HXy.out 1 rfl
    have y2 := blk_cell HXy.out 2 rfl
    have s0 := blk_cell HXs.out 0 rfl
    have s1 := blk_cell HXs.out 1 rfl
    have s2 := blk_cell HXs.out 2 rfl
    go_wp2_with fail
    refine (hq _).mono ?_
    rintro e' w3 ⟨rfl, b⟩
    replace HW := Lib.hid (blw_on HW.out b)
    replace HXx := Lib.hid (blk_below HXx.out b)
    replace HXy := Lib.hid (blk_below HXy.out b)
    replace HXs := Lib.hid (blk_below HXs.out b)
    clear x0 x1 x2 y0 y1 y2 s0 s1 s2
    clear b
    replace HXx := Lib.hid (blk_alloc HXx.out (.cells #[.int .i64 0, .int .i64 0, .string ⟨#[]⟩] 23))
    replace HXy := Lib.hid (blk_alloc HXy.out (.cells #[.int .i64 0, .int .i64 0, .string ⟨#[]⟩] 23))
    replace HXs := Lib.hid (blk_alloc HXs.out (.cells #[.int .i64 0, .int .i64 0, .string ⟨#[]⟩] 23))
    have HXq := Lib.hid (blk_new w3 23 #[.int .i64 0, .int .i64 0, .string ⟨#[]⟩])
    replace HW := Lib.hid (blw_al HW.out (.cells #[.int .i64 0, .int .i64 0, .string ⟨#[]⟩] 23))
    have x0 := blk_cell HXx.out 0 rfl
    have x1 := blk_cell HXx.out 1 rfl
    have x2 := blk_cell HXx.out 2 rfl
    have y0 := blk_cell HXy.out 0 rfl
    have y1 := blk_cell HXy.out 1 rfl
    have y2 := blk_cell HXy.out 2 rfl
    go_wp2_with fail
    refine (hr _).mono ?_
    rintro e' w4 ⟨rfl, b⟩
    replace HW := Lib.hid (blw_on HW.out b)
    replace HXx := Lib.hid (blk_below HXx.out b)
    replace HXy := Lib.hid (blk_below HXy.out b)
    replace HXs := Lib.hid (blk_below HXs.out b)
    replace HXq := Lib.hid (blk_below HXq.out b)
    clear x0 x1 x2 y0 y1 y2
    clear b
    replace HXx := Lib.hid (blk_alloc HXx.out (.cells #[.int .i64 1, .int .i64 v, .string ⟨#[]⟩] 23))
    replace HXy := Lib.hid (blk_alloc HXy.out (.cells #[.int .i64 1, .int .i64 v, .string ⟨#[]⟩] 23))
    replace HXs := Lib.hid (blk_alloc HXs.out (.cells #[.int .i64 1, .int .i64 v, .string ⟨#[]⟩] 23))
    replace HXq := Lib.hid (blk_alloc HXq.out (.cells #[.int .i64 1, .int .i64 v, .string ⟨#[]⟩] 23))
    have HXr := Lib.hid (blk_new w4 23 #[.int .i64 1, .int .i64 v, .string ⟨#[]⟩])
    replace HW := Lib.hid (blw_al HW.out (.cells #[.int .i64 1, .int .i64 v, .string ⟨#[]⟩] 23))
    have x0 := blk_cell HXx.out 0 rfl
    have x1 := blk_cell HXx.out 1 rfl
    have x2 := blk_cell HXx.out 2 rfl
    have y0 := blk_cell HXy.out 0 rfl
    have y1 := blk_cell HXy.out 1 rfl
    have y2 := blk_cell HXy.out 2 rfl
    have q0 := blk_cell HXq.out 0 rfl
    have q1 := blk_cell HXq.out 1 rfl
    have q2 := blk_cell HXq.out 2 rfl
    have r0 := blk_cell HXr.out 0 rfl
    have r1 := blk_cell HXr.out 1 rfl
    have r2 := blk_cell HXr.out 2 rfl
    go_wp2_with fail
    go_ret
    exact ⟨rfl, HW.out⟩
set_option maxRecDepth 100000 in
set_option maxHeartbeats 2000000 in
theorem back_out_ok (a b c u v m : Int) (w : World) (tb : (b == 0) = false)
    (hs : ∀ w, Calls Try.prog 29 #[.string ⟨#[43]⟩, .agg #[.int .i64 1, .int .i64 a, .string ⟨#[]⟩], .agg #[.int .i64 1, .int .i64 b, .string ⟨#[]⟩], .bool false] w fun e w' => e = .returned (.tuple #[.agg #[.int .i64 0, .int .i64 0, .string ⟨#[]⟩], .int .i64 15]) ∧ Below w.heap.size w w')
    (hq : ∀ w, Calls Try.prog 29 #[.string ⟨#[47]⟩, .agg #[.int .i64 1, .int .i64 a, .string ⟨#[]⟩], .agg #[.int .i64 1, .int .i64 b, .string ⟨#[]⟩], .bool false] w fun e w' => e = .returned (.tuple #[.agg #[.int .i64 1, .int .i64 u, .string ⟨#[]⟩], .int .i64 0]) ∧ Below w.heap.size w w')
    (hr : ∀ w, Calls Try.prog 29 #[.string ⟨#[37]⟩, .agg #[.int .i64 1, .int .i64 a, .string ⟨#[]⟩], .agg #[.int .i64 1, .int .i64 b, .string ⟨#[]⟩], .bool false] w fun e w' => e = .returned (.tuple #[.agg #[.int .i64 1, .int .i64 v, .string ⟨#[]⟩], .int .i64 0]) ∧ Below w.heap.size w w')
    (hp : ∀ w, Calls Try.prog 29 #[.string ⟨#[42]⟩, .agg #[.int .i64 1, .int .i64 u, .string ⟨#[]⟩], .agg #[.int .i64 1, .int .i64 b, .string ⟨#[]⟩], .bool false] w fun e w' => e = .returned (.tuple #[.agg #[.int .i64 1, .int .i64 m, .string ⟨#[]⟩], .int .i64 0]) ∧ Below w.heap.size w w')
    (ht : ∀ w, Calls Try.prog 29 #[.string ⟨#[43]⟩, .agg #[.int .i64 1, .int .i64 m, .string ⟨#[]⟩], .agg #[.int .i64 1, .int .i64 v, .string ⟨#[]⟩], .bool false] w fun e w' => e = .returned (.tuple #[.agg #[.int .i64 1, .int .i64 a, .string ⟨#[]⟩], .int .i64 0]) ∧ Below w.heap.size w w') :
    Calls Try.prog 7 #[.int .i64 a, .int .i64 b] w fun e w' => e = .returned (.bool true) ∧ Below w.heap.size w w' := by
    have e0 := run_eqlS 0 0 ⟨#[]⟩
    have e1 := run_eqlS 1 a ⟨#[]⟩
    have e2 := run_neqS 1 a ⟨#[]⟩
    have hgd := guardV
    have HW := Lib.hid (Below.refl w.heap.size w)
    go_enter Try.func7, Try.ntmps7
    go_wp2_with fail
    refine (works6_any _).mono ?_
    rintro e' w1 ⟨rfl, b⟩
    replace HW := Lib.hid (blw_on HW.out b)
    clear b
    have HXx := Lib.hid (blk_new w1 23 #[.int .i64 1, .int .i64 a, .string ⟨#[]⟩])
    replace HW := Lib.hid (blw_al HW.out (.cells #[.int .i64 1, .int .i64 a, .string ⟨#[]⟩] 23))
    replace HXx := Lib.hid (blk_alloc HXx.out (.cells #[.int .i64 1, .int .i64 b, .string ⟨#[]⟩] 23))
    have HXy := Lib.hid (show Blk ((w1.alloc (.cells #[.int .i64 1, .int .i64 a, .string ⟨#[]⟩] 23)).alloc (.cells #[.int .i64 1, .int .i64 b, .string ⟨#[]⟩] 23)) (w1.heap.size + 1) 23 #[.int .i64 1, .int .i64 b, .string ⟨#[]⟩] from blk_at (by simp))
    replace HW := Lib.hid (blw_al HW.out (.cells #[.int .i64 1, .int .i64 b, .string ⟨#[]⟩] 23))
    have x0 := blk_cell HXx.out 0 rfl
    have x1 := blk_cell HXx.out 1 rfl
    have x2 := blk_cell HXx.out 2 rfl
    have y0 := blk_cell HXy.out 0 rfl
    have y1 := blk_cell HXy.out 1 rfl
    have y2 := blk_cell HXy.out 2 rfl
    go_wp2_with fail
    refine (hs _).mono ?_
    rintro e' w2 ⟨rfl, b⟩
    replace HW := Lib.hid (blw_on HW.out b)
    replace HXx := Lib.hid (blk_below HXx.out b)
    replace HXy := Lib.hid (blk_below HXy.out b)
    clear x0 x1 x2 y0 y1 y2
    clear b
    replace HXx := Lib.hid (blk_alloc HXx.out (.cells #[.int .i64 0, .int .i64 0, .string ⟨#[]⟩] 23))
    replace HXy := Lib.hid (blk_alloc HXy.out (.cells #[.int .i64 0, .int .i64 0, .string ⟨#[]⟩] 23))
    have HXs := Lib.hid (blk_new w2 23 #[.int .i64 0, .int .i64 0, .string ⟨#[]⟩])
    replace HW := Lib.hid (blw_al HW.out (.cells #[.int .i64 0, .int .i64 0, .string ⟨#[]⟩] 23))
    have x0 := blk_cell HXx.out 0 rfl
    have x1 := blk_cell HXx.out 1 rfl
    have x2 := blk_cell HXx.out 2 rfl
    have y0 := blk_cell HXy.out 0 rfl
    have y1 := blk_cell HXy.out 1 rfl
    have y2 := blk_cell HXy.out 2 rfl
    have s0 := blk_cell HXs.out 0 rfl
    have s1 := blk_cell HXs.out 1 rfl
    have s2 := blk_cell HXs.out 2 rfl
    go_wp2_with fail
    refine (hq _).mono ?_
    rintro e' w3 ⟨rfl, b⟩
    replace HW := Lib.hid (blw_on HW.out b)
    replace HXx := Lib.hid (blk_below HXx.out b)
    replace HXy := Lib.hid (blk_below HXy.out b)
    replace HXs := Lib.hid (blk_below HXs.out b)
    clear x0 x1 x2 y0 y1 y2 s0 s1 s2
    clear b
    replace HXx := Lib.hid (blk_alloc HXx.out (.cells #[.int .i64 1, .int .i64 u, .string ⟨#[]⟩] 23))
    replace HXy := Lib.hid (blk_alloc HXy.out (.cells #[.int .i64 1, .int .i64 u, .string ⟨#[]⟩] 23))
    replace HXs := Lib.hid (blk_alloc HXs.out (.cells #[.int .i64 1, .int .i64 u, .string ⟨#[]⟩] 23))
    have HXq := Lib.hid (blk_new w3 23 #[.int .i64 1, .int .i64 u, .string ⟨#[]⟩])
    replace HW := Lib.hid (blw_al HW.out (.cells #[.int .i64 1, .int .i64 u, .string ⟨#[]⟩] 23))
    have x0 := blk_cell HXx.out 0 rfl
    have x1 := blk_cell HXx.out 1 rfl
    have x2 := blk_cell HXx.out 2 rfl
    have y0 := blk_cell HXy.out 0 rfl
    have y1 := blk_cell HXy.out 1 rfl
    have y2 := blk_cell HXy.out 2 rfl
    go_wp2_with fail
    refine (hr _).mono ?_
    rintro e' w4 ⟨rfl, b⟩
    replace HW := Lib.hid (blw_on HW.out b)
    replace HXx := Lib.hid (blk_below HXx.out b)
    replace HXy := Lib.hid (blk_below HXy.out b)
    replace HXs := Lib.hid (blk_below HXs.out b)
    replace HXq := Lib.hid (blk_below HXq.out b)
    clear x0 x1 x2 y0 y1 y2
    clear b
    replace HXx := Lib.hid (blk_alloc HXx.out (.cells #[.int .i64 1, .int .i64 v, .string ⟨#[]⟩] 23))
    replace HXy := Lib.hid (blk_alloc HXy.out (.cells #[.int .i64 1, .int .i64 v, .string ⟨#[]⟩] 23))
    replace HXs := Lib.hid (blk_alloc HXs.out (.cells #[.int .i64 1, .int .i64 v, .string ⟨#[]⟩] 23))
    replace HXq := Lib.hid (blk_alloc HXq.out (.cells #[.int .i64 1, .int .i64 v, .string ⟨#[]⟩] 23))
    have HXr := Lib.hid (blk_new w4 23 #[.int .i64 1, .int .i64 v, .string ⟨#[]⟩])
    replace HW := Lib.hid (blw_al HW.out (.cells #[.int .i64 1, .int .i64 v, .string ⟨#[]⟩] 23))
    have x0 := blk_cell HXx.out 0 rfl
    have x1 := blk_cell HXx.out 1 rfl
    have x2 := blk_cell HXx.out 2 rfl
    have y0 := blk_cell HXy.out 0 rfl
    have y1 := blk_cell HXy.out 1 rfl
    have y2 := blk_cell HXy.out 2 rfl
    have q0 := blk_cell HXq.out 0 rfl
    have q1 := blk_cell HXq.out 1 rfl
    have q2 := blk_cell HXq.out 2 rfl
    have r0 := blk_cell HXr.out 0 rfl
    have r1 := blk_cell HXr.out 1 rfl
    have r2 := blk_cell HXr.out 2 rfl
    go_wp2_with fail
    refine (hp _).mono ?_
    rintro e' w5 ⟨rfl, b⟩
    replace HW := Lib.hid (blw_on HW.out b)
    replace HXx := Lib.hid (blk_below HXx.out b)
    replace HXy := Lib.hid (blk_below HXy.out b)
    replace HXs := Lib.hid (blk_below HXs.out b)
    replace HXq := Lib.hid (blk_below HXq.out b)
    replace HXr := Lib.hid (blk_below HXr.out b)
    clear x0 x1 x2 y0 y1 y2 q0 q1 q2 r0 r1 r2
    clear b
    replace HXx := Lib.hid (blk_alloc HXx.out (.cells #[.int .i64 1, .int .i64 m, .string ⟨#[]⟩] 23))
    replace HXy := Lib.hid (blk_alloc HXy.out (.cells #[.int .i64 1, .int .i64 m, .string ⟨#[]⟩] 23))
    replace HXs := Lib.hid (blk_alloc HXs.out (.cells #[.int .i64 1, .int .i64 m, .string ⟨#[]⟩] 23))
    replace HXq := Lib.hid (blk_alloc HXq.out (.cells #[.int .i64 1, .int .i64 m, .string ⟨#[]⟩] 23))
    replace HXr := Lib.hid (blk_alloc HXr.out (.cells #[.int .i64 1, .int .i64 m, .string ⟨#[]⟩] 23))
    have HXp := Lib.hid (blk_new w5 23 #[.int .i64 1, .int .i64 m, .string ⟨#[]⟩])
    replace HW := Lib.hid (blw_al HW.out (.cells #[.int .i64 1, .int .i64 m, .string ⟨#[]⟩] 23))
    have p0 := blk_cell HXp.out 0 rfl
    have p1 := blk_cell HXp.out 1 rfl
    have p2 := blk_cell HXp.out 2 rfl
    have r0 := blk_cell HXr.out 0 rfl
    have r1 := blk_cell HXr.out 1 rfl
    have r2 := blk_cell HXr.out 2 rfl
    have x0 := blk_cell HXx.out 0 rfl
    have x1 := blk_cell HXx.out 1 rfl
    have x2 := blk_cell HXx.out 2 rfl
    go_wp2_with fail
    refine (ht _).mono ?_
    rintro e' w6 ⟨rfl, b⟩
    replace HW := Lib.hid (blw_on HW.out b)
    replace HXx := Lib.hid (blk_below HXx.out b)
    replace HXy := Lib.hid (blk_below HXy.out b)
    replace HXs := Lib.hid (blk_below HXs.out b)
    replace HXq := Lib.hid (blk_below HXq.out b)
    replace HXr := Lib.hid (blk_below HXr.out b)
    replace HXp := Lib.hid (blk_below HXp.out b)
    clear p0 p1 p2 r0 r1 r2 x0 x1 x2
    clear b
    replace HXx := Lib.hid (blk_alloc HXx.out (.cells #[.int .i64 1, .int .i64 a, .string ⟨#[]⟩] 23))
    replace HXy := Lib.hid (blk_alloc HXy.out (.cells #[.int .i64 1, .int .i64 a, .string ⟨#[]⟩] 23))
    replace HXs := Lib.hid (blk_alloc HXs.out (.cells #[.int .i64 1, .int .i64 a, .string ⟨#[]⟩] 23))
    replace HXq := Lib.hid (blk_alloc HXq.out (.cells #[.int .i64 1, .int .i64 a, .string ⟨#[]⟩] 23))
    replace HXr := Lib.hid (blk_alloc HXr.out (.cells #[.int .i64 1, .int .i64 a, .string ⟨#[]⟩] 23))
    replace HXp := Lib.hid (blk_alloc HXp.out (.cells #[.int .i64 1, .int .i64 a, .string ⟨#[]⟩] 23))
    have HXt := Lib.hid (blk_new w6 23 #[.int .i64 1, .int .i64 a, .string ⟨#[]⟩])
    replace HW := Lib.hid (blw_al HW.out (.cells #[.int .i64 1, .int .i64 a, .string ⟨#[]⟩] 23))
    have t0 := blk_cell HXt.out 0 rfl
    have t1 := blk_cell HXt.out 1 rfl
    have t2 := blk_cell HXt.out 2 rfl
    have x0 := blk_cell HXx.out 0 rfl
    have x1 := blk_cell HXx.out 1 rfl
    have x2 := blk_cell HXx.out 2 rfl
    go_wp2_with fail
    go_ret
    exact ⟨rfl, HW.out⟩
theorem fitR_out {z : Int} (h : ¬ (-9223372036854775808 ≤ z ∧ z ≤ 9223372036854775807)) : fitR z = ⟨0, 0, ⟨#[]⟩, 15⟩ := by
  have e : fitE z = 15 := by rw [fitE, if_neg h]
  have n : fitN z = 0 := by rw [fitN, if_neg h]
  rw [fitR, e, n]; rfl
theorem calc_p (a b : Int) : calcR ⟨#[43]⟩ a b = fitR (a + b) := by rw [calcR, if_pos rfl]
theorem calc_m (a b : Int) : calcR ⟨#[45]⟩ a b = fitR (a - b) := by rw [calcR, if_neg (by decide), if_pos rfl]
theorem calc_t (a b : Int) : calcR ⟨#[42]⟩ a b = fitR (a * b) := by rw [calcR, if_neg (by decide), if_neg (by decide), if_pos rfl]
theorem calc_q (a b : Int) (h : b ≠ 0) : calcR ⟨#[47]⟩ a b = fitR (a.tdiv b) := by rw [calcR, if_neg (by decide), if_neg (by decide), if_neg (by decide), divR, if_neg h, if_neg (by decide)]
theorem calc_r (a b : Int) (h : b ≠ 0) : calcR ⟨#[37]⟩ a b = fitR (a.tmod b) := by rw [calcR, if_neg (by decide), if_neg (by decide), if_neg (by decide), divR, if_neg h, if_pos rfl]
theorem calc_q0 (a : Int) : calcR ⟨#[47]⟩ a 0 = ⟨0, 0, ⟨#[]⟩, 0⟩ := by rw [calcR, if_neg (by decide), if_neg (by decide), if_neg (by decide), divR, if_pos rfl]; rfl
theorem calc_r0 (a : Int) : calcR ⟨#[37]⟩ a 0 = ⟨0, 0, ⟨#[]⟩, 0⟩ := by rw [calcR, if_neg (by decide), if_neg (by decide), if_neg (by decide), divR, if_pos rfl]; rfl
theorem back_any (a b : Int) (w : World) (ha : -9223372036854775808 ≤ a ∧ a ≤ 9223372036854775807) (hb : -9223372036854775808 ≤ b ∧ b ≤ 9223372036854775807) :
    Calls Try.prog 7 #[.int .i64 a, .int .i64 b] w fun e w' => e = .returned (.bool true) ∧ Below w.heap.size w w' := by
  have hin := fun h => bin_is ⟨#[43]⟩ a b 1 (a + b) ⟨#[]⟩ 0 (by decide) ha hb (by rw [calc_p, fitR_in h])
  have hsub := fun h : -9223372036854775808 ≤ a + b ∧ a + b ≤ 9223372036854775807 => bin_is ⟨#[45]⟩ (a + b) b 1 a ⟨#[]⟩ 0 (by decide) h hb (by rw [calc_m, Int.add_sub_cancel, fitR_in ha])
  have hout := fun h => bin_is ⟨#[43]⟩ a b 0 0 ⟨#[]⟩ 15 (by decide) ha hb (by rw [calc_p, fitR_out h])
  by_cases b0 : b = 0
  · subst b0
    have hq := bin_is ⟨#[47]⟩ a 0 0 0 ⟨#[]⟩ 0 (by decide) ha hb (calc_q0 a)
    have hr := bin_is ⟨#[37]⟩ a 0 0 0 ⟨#[]⟩ 0 (by decide) ha hb (calc_r0 a)
    by_cases hf : -9223372036854775808 ≤ a + 0 ∧ a + 0 ≤ 9223372036854775807
    · exact back_in_zero a 0 (a + 0) 0 0 0 w rfl (hin hf) (hsub hf) hq hr
    · exact back_out_zero a 0 0 0 0 0 w rfl (hout hf) hq hr
  have tb : (b == 0) = false := by simpa using b0
  have hmf := tmod_fits (a := a) hb b0
  have hr := bin_is ⟨#[37]⟩ a b 1 (a.tmod b) ⟨#[]⟩ 0 (by decide) ha hb (by rw [calc_r a b b0, fitR_in hmf])
  by_cases hov : a = -9223372036854775808 ∧ b = -1
  · have e : a.tdiv b = 9223372036854775808 := by rw [hov.2, tdiv_minus]; omega
    have hq := bin_is ⟨#[47]⟩ a b 0 0 ⟨#[]⟩ 15 (by decide) ha hb (by rw [calc_q a b b0, e, fitR_out (by omega)])
    by_cases hf : -9223372036854775808 ≤ a + b ∧ a + b ≤ 9223372036854775807
    · exact back_in_over a b (a + b) 0 (a.tmod b) 0 w tb (by simpa using hov.1) (by simpa using hov.2) (hin hf) (hsub hf) hq hr
    · exact back_out_over a b 0 0 (a.tmod b) 0 w tb (by simpa using hov.1) (by simpa using hov.2) (hout hf) hq hr
  · have hdf : -9223372036854775808 ≤ a.tdiv b ∧ a.tdiv b ≤ 9223372036854775807 := by
      by_cases hm : b = -1
      · rw [hm, tdiv_minus]; omega
      · exact tdiv_fits ha b0 hm
    have hq := bin_is ⟨#[47]⟩ a b 1 (a.tdiv b) ⟨#[]⟩ 0 (by decide) ha hb (by rw [calc_q a b b0, fitR_in hdf])
    have hsum : a.tdiv b * b + a.tmod b = a := by rw [Int.mul_comm]; exact Int.mul_tdiv_add_tmod a b
    have hsgn : (0 ≤ a → 0 ≤ a.tmod b) ∧ (a < 0 → a.tmod b ≤ 0) := by
      refine ⟨fun h => Int.tmod_nonneg b h, fun h => ?_⟩
      have := Int.tmod_nonneg b (show 0 ≤ -a by omega)
      rw [Int.neg_tmod] at this
      omega
    have hma : (a.tmod b).natAbs ≤ a.natAbs := by rw [Int.natAbs_tmod]; exact Nat.mod_le _ _
    have hmm : -9223372036854775808 ≤ a.tdiv b * b ∧ a.tdiv b * b ≤ 9223372036854775807 := by omega
    have hp := bin_is ⟨#[42]⟩ (a.tdiv b) b 1 (a.tdiv b * b) ⟨#[]⟩ 0 (by decide) hdf hb (by rw [calc_t, fitR_in hmm])
    have ht := bin_is ⟨#[43]⟩ (a.tdiv b * b) (a.tmod b) 1 a ⟨#[]⟩ 0 (by decide) hmm hmf (by rw [calc_p, hsum, fitR_in ha])
    by_cases hf : -9223372036854775808 ≤ a + b ∧ a + b ≤ 9223372036854775807
    · exact back_in_ok a b (a + b) _ _ _ w tb (hin hf) (hsub hf) hq hr hp ht
    · exact back_out_ok a b 0 _ _ _ w tb (hout hf) hq hr hp ht
end Go.Proofs.Ytadbmjmikoggbaa
