/-
  Layer 6, the document's Binary: it returns the same plain function as the program's ('binR') and changes nothing that was there. Condition: the numbers are ints, the strings have at most 1000 bytes.
-/
import Derived.Test.YtadbmjmikoggbaaLogCmp
import Derived.Test.YtadbmjmikoggbaaLogRef
import Derived.Test.YtadbmjmikoggbaaValRefD
namespace Go.Proofs.Ytadbmjmikoggbaa
open Go.RowKit

set_option maxHeartbeats 1000000 in
theorem rbin_none (op : ByteArray) (k1 n1 : Int) (s1 : ByteArray) (k2 n2 : Int) (s2 : ByteArray) (nc : Bool) (w : World) (hop : NoOp op) (hs1 : s1.size ≤ 1000) (hs2 : s2.size ≤ 1000) :
    Calls Try.prog 30 #[.string op, .agg #[.int .i64 k1, .int .i64 n1, .string s1], .agg #[.int .i64 k2, .int .i64 n2, .string s2], .bool nc] w fun e w' => e = .returned (.tuple #[.agg #[.int .i64 0, .int .i64 0, .string ⟨#[]⟩], .int .i64 8]) ∧ Below w.heap.size w w' := by
  obtain ⟨t1, t2, t3, t4, t5, t6, t7, t8, t9, t10, t11, t12⟩ := hop
  obtain ⟨c, hc⟩ : ∃ c, c = cmpV k1 n1 s1 k2 n2 s2 nc := ⟨_, rfl⟩
  have HC := Lib.hid hc; have HS1 := Lib.hid (show s1.size ≤ 30000 by omega); have HS2 := Lib.hid (show s2.size ≤ 30000 by omega)
  clear hc
  have HX := Lib.hid (box_new w k1 n1 s1 k2 n2 s2)
  go_enter Try.func30, Try.ntmps30
  go_wp2_with fail
  refine (qcompare_any k1 n1 s1 k2 n2 s2 nc _ HS1.out HS2.out).mono ?_
  rw [← HC.out]
  rintro e w1 ⟨rfl, hb⟩
  have HY := Lib.hid (box_next (box_next HX.out hb) (blw1 w1 (.cells #[.int .i64 0, .int .i64 0, .string ⟨#[]⟩] 23)))
  have hl1 : w.heap.size + 3 ≤ w1.heap.size := (box_next HX.out hb).size
  clear hb HX
  obtain ⟨a0, a1, a2, b0, b1, b2, hrow, hsz, -⟩ := HY.out
  have f0 := blk_frozen hrow 0; have f1 := blk_frozen hrow 1; have f2 := blk_frozen hrow 2
  have c0 := blk_cell hrow 0 rfl; have c1 := blk_cell hrow 1 rfl; have c2 := blk_cell hrow 2 rfl
  go_wp2_with fail
  refine bodyPost_ret (results_pair rfl _ _ (w.heap.size + 2) _ _ _ rfl (blk_set (blk_set (blk_set hrow 0 _) 1 _) 2 _) Try.underlying23 rfl (by kernel_rfl)) rfl ?_
  exact ⟨rfl, box_fin HY.out _ _ _⟩
set_option maxHeartbeats 1000000 in
theorem rbin_eq_null (k1 n1 : Int) (s1 : ByteArray) (k2 n2 : Int) (s2 : ByteArray) (nc : Bool) (w : World) (z : Int) (hz : (if (cmpV k1 n1 s1 k2 n2 s2 nc == 0) then 1 else 0) = z) (hk : (k1 == 0) = true ∨ (k1 == 0) = false ∧ (k2 == 0) = true) (hs1 : s1.size ≤ 1000) (hs2 : s2.size ≤ 1000) :
    Calls Try.prog 30 #[.string ⟨#[61]⟩, .agg #[.int .i64 k1, .int .i64 n1, .string s1], .agg #[.int .i64 k2, .int .i64 n2, .string s2], .bool nc] w fun e w' => e = .returned (.tuple #[.agg #[.int .i64 0, .int .i64 0, .string ⟨#[]⟩], .int .i64 0]) ∧ Below w.heap.size w w' := by
  obtain ⟨c, hc⟩ : ∃ c, c = cmpV k1 n1 s1 k2 n2 s2 nc := ⟨_, rfl⟩
  have HC := Lib.hid hc; have HS1 := Lib.hid (show s1.size ≤ 30000 by omega); have HS2 := Lib.hid (show s2.size ≤ 30000 by omega)
  rw [← hc] at hz
  have HZ := Lib.hid hz
  clear hc hz
  have HX := Lib.hid (box_new w k1 n1 s1 k2 n2 s2)
  rcases hk with t1 | ⟨t1, t2⟩
  all_goals
    go_enter Try.func30, Try.ntmps30
    go_wp2_with fail
    refine (qcompare_any k1 n1 s1 k2 n2 s2 nc _ HS1.out HS2.out).mono ?_
    rw [← HC.out]
    rintro e w1 ⟨rfl, hb⟩
    have HY := Lib.hid (box_next (box_next HX.out hb) (blw1 w1 (.cells #[.int .i64 0, .int .i64 0, .string ⟨#[]⟩] 23)))
    have hl1 : w.heap.size + 3 ≤ w1.heap.size := (box_next HX.out hb).size
    clear hb HX
    obtain ⟨a0, a1, a2, b0, b1, b2, hrow, hsz, -⟩ := HY.out
    have f0 := blk_frozen hrow 0; have f1 := blk_frozen hrow 1; have f2 := blk_frozen hrow 2
    have c0 := blk_cell hrow 0 rfl; have c1 := blk_cell hrow 1 rfl; have c2 := blk_cell hrow 2 rfl
    go_wp2_with fail
    refine (rtruthV_any _ _).mono ?_
    rw [HZ.out]
    rintro e w2 ⟨rfl, hb⟩
    have HY2 := Lib.hid (box_next HY.out hb)
    have hans := blk_below (blk_new w1 23 #[.int .i64 0, .int .i64 0, .string ⟨#[]⟩]) hb
    clear hb a0 a1 a2 b0 b1 b2 hrow hsz f0 f1 f2 c0 c1 c2 HY
    obtain ⟨a0, a1, a2, b0, b1, b2, hrow, hsz, -⟩ := HY2.out
    have f0 := blk_frozen hrow 0; have f1 := blk_frozen hrow 1; have f2 := blk_frozen hrow 2
    have c0 := blk_cell hrow 0 rfl; have c1 := blk_cell hrow 1 rfl; have c2 := blk_cell hrow 2 rfl
    have g0 := blk_frozen hans 0; have g1 := blk_frozen hans 1; have g2 := blk_frozen hans 2
    have d0 := blk_cell hans 0 rfl; have d1 := blk_cell hans 1 rfl; have d2 := blk_cell hans 2 rfl
    have n0 : w.heap.size ≠ w1.heap.size := by omega
    have n1' : w.heap.size + 1 ≠ w1.heap.size := by omega
    have n2' : w.heap.size + 2 ≠ w1.heap.size := by omega
    have m2' : w1.heap.size ≠ w.heap.size + 2 := by omega
    go_wp2_with fail
    refine bodyPost_ret (results_pair rfl _ _ (w.heap.size + 2) _ _ _ rfl (blk_set (blk_set (blk_set (blk_other (blk_other (blk_other hrow n2' 0 _) n2' 1 _) n2' 2 _) 0 _) 1 _) 2 _) Try.underlying23 rfl (by kernel_rfl)) rfl ?_
    exact ⟨rfl, blw_set (blw_set (blw_set (blw_set (blw_set (blw_set HY2.out.below (by omega) _ _) (by omega) _ _) (by omega) _ _) (by omega) _ _) (by omega) _ _) (by omega) _ _⟩
set_option maxHeartbeats 1000000 in
theorem rbin_eq (k1 n1 : Int) (s1 : ByteArray) (k2 n2 : Int) (s2 : ByteArray) (nc : Bool) (w : World) (z : Int) (hz : (if (cmpV k1 n1 s1 k2 n2 s2 nc == 0) then 1 else 0) = z) (t1 : (k1 == 0) = false) (t2 : (k2 == 0) = false) (hs1 : s1.size ≤ 1000) (hs2 : s2.size ≤ 1000) :
    Calls Try.prog 30 #[.string ⟨#[61]⟩, .agg #[.int .i64 k1, .int .i64 n1, .string s1], .agg #[.int .i64 k2, .int .i64 n2, .string s2], .bool nc] w fun e w' => e = .returned (.tuple #[.agg #[.int .i64 1, .int .i64 z, .string ⟨#[]⟩], .int .i64 0]) ∧ Below w.heap.size w w' := by
  obtain ⟨c, hc⟩ : ∃ c, c = cmpV k1 n1 s1 k2 n2 s2 nc := ⟨_, rfl⟩
  have HC := Lib.hid hc; have HS1 := Lib.hid (show s1.size ≤ 30000 by omega); have HS2 := Lib.hid (show s2.size ≤ 30000 by omega)
  rw [← hc] at hz
  have HZ := Lib.hid hz
  clear hc hz
  have HX := Lib.hid (box_new w k1 n1 s1 k2 n2 s2)
  go_enter Try.func30, Try.ntmps30
  go_wp2_with fail
  refine (qcompare_any k1 n1 s1 k2 n2 s2 nc _ HS1.out HS2.out).mono ?_
  rw [← HC.out]
  rintro e w1 ⟨rfl, hb⟩
  have HY := Lib.hid (box_next (box_next HX.out hb) (blw1 w1 (.cells #[.int .i64 0, .int .i64 0, .string ⟨#[]⟩] 23)))
  have hl1 : w.heap.size + 3 ≤ w1.heap.size := (box_next HX.out hb).size
  clear hb HX
  obtain ⟨a0, a1, a2, b0, b1, b2, hrow, hsz, -⟩ := HY.out
  have f0 := blk_frozen hrow 0; have f1 := blk_frozen hrow 1; have f2 := blk_frozen hrow 2
  have c0 := blk_cell hrow 0 rfl; have c1 := blk_cell hrow 1 rfl; have c2 := blk_cell hrow 2 rfl
  go_wp2_with fail
  refine (rtruthV_any _ _).mono ?_
  rw [HZ.out]
  rintro e w2 ⟨rfl, hb⟩
  have HY2 := Lib.hid (box_next HY.out hb)
  have hans := blk_below (blk_new w1 23 #[.int .i64 0, .int .i64 0, .string ⟨#[]⟩]) hb
  clear hb a0 a1 a2 b0 b1 b2 hrow hsz f0 f1 f2 c0 c1 c2 HY
  obtain ⟨a0, a1, a2, b0, b1, b2, hrow, hsz, -⟩ := HY2.out
  have f0 := blk_frozen hrow 0; have f1 := blk_frozen hrow 1; have f2 := blk_frozen hrow 2
  have c0 := blk_cell hrow 0 rfl; have c1 := blk_cell hrow 1 rfl; have c2 := blk_cell hrow 2 rfl
  have g0 := blk_frozen hans 0; have g1 := blk_frozen hans 1; have g2 := blk_frozen hans 2
  have d0 := blk_cell hans 0 rfl; have d1 := blk_cell hans 1 rfl; have d2 := blk_cell hans 2 rfl
  have n0 : w.heap.size ≠ w1.heap.size := by omega
  have n1' : w.heap.size + 1 ≠ w1.heap.size := by omega
  have n2' : w.heap.size + 2 ≠ w1.heap.size := by omega
  have m2' : w1.heap.size ≠ w.heap.size + 2 := by omega
  go_wp2_with fail
  refine bodyPost_ret (results_pair rfl _ _ (w.heap.size + 2) _ _ _ rfl (blk_set (blk_set (blk_set (blk_other (blk_other (blk_other hrow n2' 0 _) n2' 1 _) n2' 2 _) 0 _) 1 _) 2 _) Try.underlying23 rfl (by kernel_rfl)) rfl ?_
  exact ⟨rfl, blw_set (blw_set (blw_set (blw_set (blw_set (blw_set HY2.out.below (by omega) _ _) (by omega) _ _) (by omega) _ _) (by omega) _ _) (by omega) _ _) (by omega) _ _⟩
set_option maxHeartbeats 1000000 in
theorem rbin_ne_null (k1 n1 : Int) (s1 : ByteArray) (k2 n2 : Int) (s2 : ByteArray) (nc : Bool) (w : World) (z : Int) (hz : (if (cmpV k1 n1 s1 k2 n2 s2 nc != 0) then 1 else 0) = z) (hk : (k1 == 0) = true ∨ (k1 == 0) = false ∧ (k2 == 0) = true) (hs1 : s1.size ≤ 1000) (hs2 : s2.size ≤ 1000) :
    Calls Try.prog 30 #[.string ⟨#[60, 62]⟩, .agg #[.int .i64 k1, .int .i64 n1, .string s1], .agg #[.int .i64 k2, .int .i64 n2, .string s2], .bool nc] w fun e w' => e = .returned (.tuple #[.agg #[.int .i64 0, .int .i64 0, .string ⟨#[]⟩], .int .i64 0]) ∧ Below w.heap.size w w' := by
  obtain ⟨c, hc⟩ : ∃ c, c = cmpV k1 n1 s1 k2 n2 s2 nc := ⟨_, rfl⟩
  have HC := Lib.hid hc; have HS1 := Lib.hid (show s1.size ≤ 30000 by omega); have HS2 := Lib.hid (show s2.size ≤ 30000 by omega)
  rw [← hc] at hz
  have HZ := Lib.hid hz
  clear hc hz
  have HX := Lib.hid (box_new w k1 n1 s1 k2 n2 s2)
  rcases hk with t1 | ⟨t1, t2⟩
  all_goals
    go_enter Try.func30, Try.ntmps30
    go_wp2_with fail
    refine (qcompare_any k1 n1 s1 k2 n2 s2 nc _ HS1.out HS2.out).mono ?_
    rw [← HC.out]
    rintro e w1 ⟨rfl, hb⟩
    have HY := Lib.hid (box_next (box_next HX.out hb) (blw1 w1 (.cells #[.int .i64 0, .int .i64 0, .string ⟨#[]⟩] 23)))
    have hl1 : w.heap.size + 3 ≤ w1.heap.size := (box_next HX.out hb).size
    clear hb HX
    obtain ⟨a0, a1, a2, b0, b1, b2, hrow, hsz, -⟩ := HY.out
    have f0 := blk_frozen hrow 0; have f1 := blk_frozen hrow 1; have f2 := blk_frozen hrow 2
    have c0 := blk_cell hrow 0 rfl; have c1 := blk_cell hrow 1 rfl; have c2 := blk_cell hrow 2 rfl
    go_wp2_with fail
    refine (rtruthV_any _ _).mono ?_
    rw [HZ.out]
    rintro e w2 ⟨rfl, hb⟩
    have HY2 := Lib.hid (box_next HY.out hb)
    have hans := blk_below (blk_new w1 23 #[.int .i64 0, .int .i64 0, .string ⟨#[]⟩]) hb
    clear hb a0 a1 a2 b0 b1 b2 hrow hsz f0 f1 f2 c0 c1 c2 HY
    obtain ⟨a0, a1, a2, b0, b1, b2, hrow, hsz, -⟩ := HY2.out
    have f0 := blk_frozen hrow 0; have f1 := blk_frozen hrow 1; have f2 := blk_frozen hrow 2
    have c0 := blk_cell hrow 0 rfl; have c1 := blk_cell hrow 1 rfl; have c2 := blk_cell hrow 2 rfl
    have g0 := blk_frozen hans 0; have g1 := blk_frozen hans 1; have g2 := blk_frozen hans 2
    have d0 := blk_cell hans 0 rfl; have d1 := blk_cell hans 1 rfl; have d2 := blk_cell hans 2 rfl
    have n0 : w.heap.size ≠ w1.heap.size := by omega
    have n1' : w.heap.size + 1 ≠ w1.heap.size := by omega
    have n2' : w.heap.size + 2 ≠ w1.heap.size := by omega
    have m2' : w1.heap.size ≠ w.heap.size + 2 := by omega
    go_wp2_with fail
    refine bodyPost_ret (results_pair rfl _ _ (w.heap.size + 2) _ _ _ rfl (blk_set (blk_set (blk_set (blk_other (blk_other (blk_other hrow n2' 0 _) n2' 1 _) n2' 2 _) 0 _) 1 _) 2 _) Try.underlying23 rfl (by kernel_rfl)) rfl ?_
    exact ⟨rfl, blw_set (blw_set (blw_set (blw_set (blw_set (blw_set HY2.out.below (by omega) _ _) (by omega) _ _) (by omega) _ _) (by omega) _ _) (by omega) _ _) (by omega) _ _⟩
set_option maxHeartbeats 1000000 in
theorem rbin_ne (k1 n1 : Int) (s1 : ByteArray) (k2 n2 : Int) (s2 : ByteArray) (nc : Bool) (w : World) (z : Int) (hz : (if (cmpV k1 n1 s1 k2 n2 s2 nc != 0) then 1 else 0) = z) (t1 : (k1 == 0) = false) (t2 : (k2 == 0) = false) (hs1 : s1.size ≤ 1000) (hs2 : s2.size ≤ 1000) :
    Calls Try.prog 30 #[.string ⟨#[60, 62]⟩, .agg #[.int .i64 k1, .int .i64 n1, .string s1], .agg #[.int .i64 k2, .int .i64 n2, .string s2], .bool nc] w fun e w' => e = .returned (.tuple #[.agg #[.int .i64 1, .int .i64 z, .string ⟨#[]⟩], .int .i64 0]) ∧ Below w.heap.size w w' := by
  obtain ⟨c, hc⟩ : ∃ c, c = cmpV k1 n1 s1 k2 n2 s2 nc := ⟨_, rfl⟩
  have HC := Lib.hid hc; have HS1 := Lib.hid (show s1.size ≤ 30000 by omega); have HS2 := Lib.hid (show s2.size ≤ 30000 by omega)
  rw [← hc] at hz
  have HZ := Lib.hid hz
  clear hc hz
  have HX := Lib.hid (box_new w k1 n1 s1 k2 n2 s2)
  go_enter Try.func30, Try.ntmps30
  go_wp2_with fail
  refine (qcompare_any k1 n1 s1 k2 n2 s2 nc _ HS1.out HS2.out).mono ?_
  rw [← HC.out]
  rintro e w1 ⟨rfl, hb⟩
  have HY := Lib.hid (box_next (box_next HX.out hb) (blw1 w1 (.cells #[.int .i64 0, .int .i64 0, .string ⟨#[]⟩] 23)))
  have hl1 : w.heap.size + 3 ≤ w1.heap.size := (box_next HX.out hb).size
  clear hb HX
  obtain ⟨a0, a1, a2, b0, b1, b2, hrow, hsz, -⟩ := HY.out
  have f0 := blk_frozen hrow 0; have f1 := blk_frozen hrow 1; have f2 := blk_frozen hrow 2
  have c0 := blk_cell hrow 0 rfl; have c1 := blk_cell hrow 1 rfl; have c2 := blk_cell hrow 2 rfl
  go_wp2_with fail
  refine (rtruthV_any _ _).mono ?_
  rw [HZ.out]
  rintro e w2 ⟨rfl, hb⟩
  have HY2 := Lib.hid (box_next HY.out hb)
  have hans := blk_below (blk_new w1 23 #[.int .i64 0, .int .i64 0, .string ⟨#[]⟩]) hb
  clear hb a0 a1 a2 b0 b1 b2 hrow hsz f0 f1 f2 c0 c1 c2 HY
  obtain ⟨a0, a1, a2, b0, b1, b2, hrow, hsz, -⟩ := HY2.out
  have f0 := blk_frozen hrow 0; have f1 := blk_frozen hrow 1; have f2 := blk_frozen hrow 2
  have c0 := blk_cell hrow 0 rfl; have c1 := blk_cell hrow 1 rfl; have c2 := blk_cell hrow 2 rfl
  have g0 := blk_frozen hans 0; have g1 := blk_frozen hans 1; have g2 := blk_frozen hans 2
  have d0 := blk_cell hans 0 rfl; have d1 := blk_cell hans 1 rfl; have d2 := blk_cell hans 2 rfl
  have n0 : w.heap.size ≠ w1.heap.size := by omega
  have n1' : w.heap.size + 1 ≠ w1.heap.size := by omega
  have n2' : w.heap.size + 2 ≠ w1.heap.size := by omega
  have m2' : w1.heap.size ≠ w.heap.size + 2 := by omega
  go_wp2_with fail
  refine bodyPost_ret (results_pair rfl _ _ (w.heap.size + 2) _ _ _ rfl (blk_set (blk_set (blk_set (blk_other (blk_other (blk_other hrow n2' 0 _) n2' 1 _) n2' 2 _) 0 _) 1 _) 2 _) Try.underlying23 rfl (by kernel_rfl)) rfl ?_
  exact ⟨rfl, blw_set (blw_set (blw_set (blw_set (blw_set (blw_set HY2.out.below (by omega) _ _) (by omega) _ _) (by omega) _ _) (by omega) _ _) (by omega) _ _) (by omega) _ _⟩
set_option maxHeartbeats 1000000 in
theorem rbin_lt_null (k1 n1 : Int) (s1 : ByteArray) (k2 n2 : Int) (s2 : ByteArray) (nc : Bool) (w : World) (z : Int) (hz : (if decide (cmpV k1 n1 s1 k2 n2 s2 nc < 0) then 1 else 0) = z) (hk : (k1 == 0) = true ∨ (k1 == 0) = false ∧ (k2 == 0) = true) (hs1 : s1.size ≤ 1000) (hs2 : s2.size ≤ 1000) :
    Calls Try.prog 30 #[.string ⟨#[60]⟩, .agg #[.int .i64 k1, .int .i64 n1, .string s1], .agg #[.int .i64 k2, .int .i64 n2, .string s2], .bool nc] w fun e w' => e = .returned (.tuple #[.agg #[.int .i64 0, .int .i64 0, .string ⟨#[]⟩], .int .i64 0]) ∧ Below w.heap.size w w' := by
  obtain ⟨c, hc⟩ : ∃ c, c = cmpV k1 n1 s1 k2 n2 s2 nc := ⟨_, rfl⟩
  have HC := Lib.hid hc; have HS1 := Lib.hid (show s1.size ≤ 30000 by omega); have HS2 := Lib.hid (show s2.size ≤ 30000 by omega)
  rw [← hc] at hz
  have HZ := Lib.hid hz
  clear hc hz
  have HX := Lib.hid (box_new w k1 n1 s1 k2 n2 s2)
  rcases hk with t1 | ⟨t1, t2⟩
  all_goals
    go_enter Try.func30, Try.ntmps30
    go_wp2_with fail
    refine (qcompare_any k1 n1 s1 k2 n2 s2 nc _ HS1.out HS2.out).mono ?_
    rw [← HC.out]
    rintro e w1 ⟨rfl, hb⟩
    have HY := Lib.hid (box_next (box_next HX.out hb) (blw1 w1 (.cells #[.int .i64 0, .int .i64 0, .string ⟨#[]⟩] 23)))
    have hl1 : w.heap.size + 3 ≤ w1.heap.size := (box_next HX.out hb).size
    clear hb HX
    obtain ⟨a0, a1, a2, b0, b1, b2, hrow, hsz, -⟩ := HY.out
    have f0 := blk_frozen hrow 0; have f1 := blk_frozen hrow 1; have f2 := blk_frozen hrow 2
    have c0 := blk_cell hrow 0 rfl; have c1 := blk_cell hrow 1 rfl; have c2 := blk_cell hrow 2 rfl
    go_wp2_with fail
    refine (rtruthV_any _ _).mono ?_
    rw [HZ.out]
    rintro e w2 ⟨rfl, hb⟩
    have HY2 := Lib.hid (box_next HY.out hb)
    have hans := blk_below (blk_new w1 23 #[.int .i64 0, .int .i64 0, .string ⟨#[]⟩]) hb
    clear hb a0 a1 a2 b0 b1 b2 hrow hsz f0 f1 f2 c0 c1 c2 HY
    obtain ⟨a0, a1, a2, b0, b1, b2, hrow, hsz, -⟩ := HY2.out
    have f0 := blk_frozen hrow 0; have f1 := blk_frozen hrow 1; have f2 := blk_frozen hrow 2
    have c0 := blk_cell hrow 0 rfl; have c1 := blk_cell hrow 1 rfl; have c2 := blk_cell hrow 2 rfl
    have g0 := blk_frozen hans 0; have g1 := blk_frozen hans 1; have g2 := blk_frozen hans 2
    have d0 := blk_cell hans 0 rfl; have d1 := blk_cell hans 1 rfl; have d2 := blk_cell hans 2 rfl
    have n0 : w.heap.size ≠ w1.heap.size := by omega
    have n1' : w.heap.size + 1 ≠ w1.heap.size := by omega
    have n2' : w.heap.size + 2 ≠ w1.heap.size := by omega
    have m2' : w1.heap.size ≠ w.heap.size + 2 := by omega
    go_wp2_with fail
    refine bodyPost_ret (results_pair rfl _ _ (w.heap.size + 2) _ _ _ rfl (blk_set (blk_set (blk_set (blk_other (blk_other (blk_other hrow n2' 0 _) n2' 1 _) n2' 2 _) 0 _) 1 _) 2 _) Try.underlying23 rfl (by kernel_rfl)) rfl ?_
    exact ⟨rfl, blw_set (blw_set (blw_set (blw_set (blw_set (blw_set HY2.out.below (by omega) _ _) (by omega) _ _) (by omega) _ _) (by omega) _ _) (by omega) _ _) (by omega) _ _⟩
set_option maxHeartbeats 1000000 in
theorem rbin_lt (k1 n1 : Int) (s1 : ByteArray) (k2 n2 : Int) (s2 : ByteArray) (nc : Bool) (w : World) (z : Int) (hz : (if decide (cmpV k1 n1 s1 k2 n2 s2 nc < 0) then 1 else 0) = z) (t1 : (k1 == 0) = false) (t2 : (k2 == 0) = false) (hs1 : s1.size ≤ 1000) (hs2 : s2.size ≤ 1000) :
    Calls Try.prog 30 #[.string ⟨#[60]⟩, .agg #[.int .i64 k1, .int .i64 n1, .string s1], .agg #[.int .i64 k2, .int .i64 n2, .string s2], .bool nc] w fun e w' => e = .returned (.tuple #[.agg #[.int .i64 1, .int .i64 z, .string ⟨#[]⟩], .int .i64 0]) ∧ Below w.heap.size w w' := by
  obtain ⟨c, hc⟩ : ∃ c, c = cmpV k1 n1 s1 k2 n2 s2 nc := ⟨_, rfl⟩
  have HC := Lib.hid hc; have HS1 := Lib.hid (show s1.size ≤ 30000 by omega); have HS2 := Lib.hid (show s2.size ≤ 30000 by omega)
  rw [← hc] at hz
  have HZ := Lib.hid hz
  clear hc hz
  have HX := Lib.hid (box_new w k1 n1 s1 k2 n2 s2)
  go_enter Try.func30, Try.ntmps30
  go_wp2_with fail
  refine (qcompare_any k1 n1 s1 k2 n2 s2 nc _ HS1.out HS2.out).mono ?_
  rw [← HC.out]
  rintro e w1 ⟨rfl, hb⟩
  have HY := Lib.hid (box_next (box_next HX.out hb) (blw1 w1 (.cells #[.int .i64 0, .int .i64 0, .string ⟨#[]⟩] 23)))
  have hl1 : w.heap.size + 3 ≤ w1.heap.size := (box_next HX.out hb).size
  clear hb HX
  obtain ⟨a0, a1, a2, b0, b1, b2, hrow, hsz, -⟩ := HY.out
  have f0 := blk_frozen hrow 0; have f1 := blk_frozen hrow 1; have f2 := blk_frozen hrow 2
  have c0 := blk_cell hrow 0 rfl; have c1 := blk_cell hrow 1 rfl; have c2 := blk_cell hrow 2 rfl
  go_wp2_with fail
  refine (rtruthV_any _ _).mono ?_
  rw [HZ.out]
  rintro e w2 ⟨rfl, hb⟩
  have HY2 := Lib.hid (box_next HY.out hb)
  have hans := blk_below (blk_new w1 23 #[.int .i64 0, .int .i64 0, .string ⟨#[]⟩]) hb
  clear hb a0 a1 a2 b0 b1 b2 hrow hsz f0 f1 f2 c0 c1 c2 HY
  obtain ⟨a0, a1, a2, b0, b1, b2, hrow, hsz, -⟩ := HY2.out
  have f0 := blk_frozen hrow 0; have f1 := blk_frozen hrow 1; have f2 := blk_frozen hrow 2
  have c0 := blk_cell hrow 0 rfl; have c1 := blk_cell hrow 1 rfl; have c2 := blk_cell hrow 2 rfl
  have g0 := blk_frozen hans 0; have g1 := blk_frozen hans 1; have g2 := blk_frozen hans 2
  have d0 := blk_cell hans 0 rfl; have d1 := blk_cell hans 1 rfl; have d2 := blk_cell hans 2 rfl
  have n0 : w.heap.size ≠ w1.heap.size := by omega
  have n1' : w.heap.size + 1 ≠ w1.heap.size := by omega
  have n2' : w.heap.size + 2 ≠ w1.heap.size := by omega
  have m2' : w1.heap.size ≠ w.heap.size + 2 := by omega
  go_wp2_with fail
  refine bodyPost_ret (results_pair rfl _ _ (w.heap.size + 2) _ _ _ rfl (blk_set (blk_set (blk_set (blk_other (blk_other (blk_other hrow n2' 0 _) n2' 1 _) n2' 2 _) 0 _) 1 _) 2 _) Try.underlying23 rfl (by kernel_rfl)) rfl ?_
  exact ⟨rfl, blw_set (blw_set (blw_set (blw_set (blw_set (blw_set HY2.out.below (by omega) _ _) (by omega) _ _) (by omega) _ _) (by omega) _ _) (by omega) _ _) (by omega) _ _⟩
set_option maxHeartbeats 1000000 in
theorem rbin_le_null (k1 n1 : Int) (s1 : ByteArray) (k2 n2 : Int) (s2 : ByteArray) (nc : Bool) (w : World) (z : Int) (hz : (if decide (cmpV k1 n1 s1 k2 n2 s2 nc ≤ 0) then 1 else 0) = z) (hk : (k1 == 0) = true ∨ (k1 == 0) = false ∧ (k2 == 0) = true) (hs1 : s1.size ≤ 1000) (hs2 : s2.size ≤ 1000) :
    Calls Try.prog 30 #[.string ⟨#[60, 61]⟩, .agg #[.int .i64 k1, .int .i64 n1, .string s1], .agg #[.int .i64 k2, .int .i64 n2, .string s2], .bool nc] w fun e w' => e = .returned (.tuple #[.agg #[.int .i64 0, .int .i64 0, .string ⟨#[]⟩], .int .i64 0]) ∧ Below w.heap.size w w' := by
  obtain ⟨c, hc⟩ : ∃ c, c = cmpV k1 n1 s1 k2 n2 s2 nc := ⟨_, rfl⟩
  have HC := Lib.hid hc; have HS1 := Lib.hid (show s1.size ≤ 30000 by omega); have HS2 := Lib.hid (show s2.size ≤ 30000 by omega)
  rw [← hc] at hz
  have HZ := Lib.hid hz
  clear hc hz
  have HX := Lib.hid (box_new w k1 n1 s1 k2 n2 s2)
  rcases hk with t1 | ⟨t1, t2⟩
  all_goals
    go_enter Try.func30, Try.ntmps30
    go_wp2_with fail
    refine (qcompare_any k1 n1 s1 k2 n2 s2 nc _ HS1.out HS2.out).mono ?_
    rw [← HC.out]
    rintro e w1 ⟨rfl, hb⟩
    have HY := Lib.hid (box_next (box_next HX.out hb) (blw1 w1 (.cells #[.int .i64 0, .int .i64 0, .string ⟨#[]⟩] 23)))
    have hl1 : w.heap.size + 3 ≤ w1.heap.size := (box_next HX.out hb).size
    clear hb HX
    obtain ⟨a0, a1, a2, b0, b1, b2, hrow, hsz, -⟩ := HY.out
    have f0 := blk_frozen hrow 0; have f1 := blk_frozen hrow 1; have f2 := blk_frozen hrow 2
    have c0 := blk_cell hrow 0 rfl; have c1 := blk_cell hrow 1 rfl; have c2 := blk_cell hrow 2 rfl
    go_wp2_with fail
    refine (rtruthV_any _ _).mono ?_
    rw [HZ.out]
    rintro e w2 ⟨rfl, hb⟩
    have HY2 := Lib.hid (box_next HY.out hb)
    have hans := blk_below (blk_new w1 23 #[.int .i64 0, .int .i64 0, .string ⟨#[]⟩]) hb
    clear hb a0 a1 a2 b0 b1 b2 hrow hsz f0 f1 f2 c0 c1 c2 HY
    obtain ⟨a0, a1, a2, b0, b1, b2, hrow, hsz, -⟩ := HY2.out
    have f0 := blk_frozen hrow 0; have f1 := blk_frozen hrow 1; have f2 := blk_frozen hrow 2
    have c0 := blk_cell hrow 0 rfl; have c1 := blk_cell hrow 1 rfl; have c2 := blk_cell hrow 2 rfl
    have g0 := blk_frozen hans 0; have g1 := blk_frozen hans 1; have g2 := blk_frozen hans 2
    have d0 := blk_cell hans 0 rfl; have d1 := blk_cell hans 1 rfl; have d2 := blk_cell hans 2 rfl
    have n0 : w.heap.size ≠ w1.heap.size := by omega
    have n1' : w.heap.size + 1 ≠ w1.heap.size := by omega
    have n2' : w.heap.size + 2 ≠ w1.heap.size := by omega
    have m2' : w1.heap.size ≠ w.heap.size + 2 := by omega
    go_wp2_with fail
    refine bodyPost_ret (results_pair rfl _ _ (w.heap.size + 2) _ _ _ rfl (blk_set (blk_set (blk_set (blk_other (blk_other (blk_other hrow n2' 0 _) n2' 1 _) n2' 2 _) 0 _) 1 _) 2 _) Try.underlying23 rfl (by kernel_rfl)) rfl ?_
    exact ⟨rfl, blw_set (blw_set (blw_set (blw_set (blw_set (blw_set HY2.out.below (by omega) _ _) (by omega) _ _) (by omega) _ _) (by omega) _ _) (by omega) _ _) (by omega) _ _⟩
set_option maxHeartbeats 1000000 in
theorem rbin_le (k1 n1 : Int) (s1 : ByteArray) (k2 n2 : Int) (s2 : ByteArray) (nc : Bool) (w : World) (z : Int) (hz : (if decide (cmpV k1 n1 s1 k2 n2 s2 nc ≤ 0) then 1 else 0) = z) (t1 : (k1 == 0) = false) (t2 : (k2 == 0) = false) (hs1 : s1.size ≤ 1000) (hs2 : s2.size ≤ 1000) :
    Calls Try.prog 30 #[.string ⟨#[60, 61]⟩, .agg #[.int .i64 k1, .int .i64 n1, .string s1], .agg #[.int .i64 k2, .int .i64 n2, .string s2], .bool nc] w fun e w' => e = .returned (.tuple #[.agg #[.int .i64 1, .int .i64 z, .string ⟨#[]⟩], .int .i64 0]) ∧ Below w.heap.size w w' := by
  obtain ⟨c, hc⟩ : ∃ c, c = cmpV k1 n1 s1 k2 n2 s2 nc := ⟨_, rfl⟩
  have HC := Lib.hid hc; have HS1 := Lib.hid (show s1.size ≤ 30000 by omega); have HS2 := Lib.hid (show s2.size ≤ 30000 by omega)
  rw [← hc] at hz
  have HZ := Lib.hid hz
  clear hc hz
  have HX := Lib.hid (box_new w k1 n1 s1 k2 n2 s2)
  go_enter Try.func30, Try.ntmps30
  go_wp2_with fail
  refine (qcompare_any k1 n1 s1 k2 n2 s2 nc _ HS1.out HS2.out).mono ?_
  rw [← HC.out]
  rintro e w1 ⟨rfl, hb⟩
  have HY := Lib.hid (box_next (box_next HX.out hb) (blw1 w1 (.cells #[.int .i64 0, .int .i64 0, .string ⟨#[]⟩] 23)))
  have hl1 : w.heap.size + 3 ≤ w1.heap.size := (box_next HX.out hb).size
  clear hb HX
  obtain ⟨a0, a1, a2, b0, b1, b2, hrow, hsz, -⟩ := HY.out
  have f0 := blk_frozen hrow 0; have f1 := blk_frozen hrow 1; have f2 := blk_frozen hrow 2
  have c0 := blk_cell hrow 0 rfl; have c1 := blk_cell hrow 1 rfl; have c2 := blk_cell hrow 2 rfl
  go_wp2_with fail
  refine (rtruthV_any _ _).mono ?_
  rw [HZ.out]
  rintro e w2 ⟨rfl, hb⟩
  have HY2 := Lib.hid (box_next HY.out hb)
  have hans := blk_below (blk_new w1 23 #[.int .i64 0, .int .i64 0, .string ⟨#[]⟩]) hb
  clear hb a0 a1 a2 b0 b1 b2 hrow hsz f0 f1 f2 c0 c1 c2 HY
  obtain ⟨a0, a1, a2, b0, b1, b2, hrow, hsz, -⟩ := HY2.out
  have f0 := blk_frozen hrow 0; have f1 := blk_frozen hrow 1; have f2 := blk_frozen hrow 2
  have c0 := blk_cell hrow 0 rfl; have c1 := blk_cell hrow 1 rfl; have c2 := blk_cell hrow 2 rfl
  have g0 := blk_frozen hans 0; have g1 := blk_frozen hans 1; have g2 := blk_frozen hans 2
  have d0 := blk_cell hans 0 rfl; have d1 := blk_cell hans 1 rfl; have d2 := blk_cell hans 2 rfl
  have n0 : w.heap.size ≠ w1.heap.size := by omega
  have n1' : w.heap.size + 1 ≠ w1.heap.size := by omega
  have n2' : w.heap.size + 2 ≠ w1.heap.size := by omega
  have m2' : w1.heap.size ≠ w.heap.size + 2 := by omega
  go_wp2_with fail
  refine bodyPost_ret (results_pair rfl _ _ (w.heap.size + 2) _ _ _ rfl (blk_set (blk_set (blk_set (blk_other (blk_other (blk_other hrow n2' 0 _) n2' 1 _) n2' 2 _) 0 _) 1 _) 2 _) Try.underlying23 rfl (by kernel_rfl)) rfl ?_
  exact ⟨rfl, blw_set (blw_set (blw_set (blw_set (blw_set (blw_set HY2.out.below (by omega) _ _) (by omega) _ _) (by omega) _ _) (by omega) _ _) (by omega) _ _) (by omega) _ _⟩
set_option maxHeartbeats 1000000 in
theorem rbin_gt_null (k1 n1 : Int) (s1 : ByteArray) (k2 n2 : Int) (s2 : ByteArray) (nc : Bool) (w : World) (z : Int) (hz : (if decide (0 < cmpV k1 n1 s1 k2 n2 s2 nc) then 1 else 0) = z) (hk : (k1 == 0) = true ∨ (k1 == 0) = false ∧ (k2 == 0) = true) (hs1 : s1.size ≤ 1000) (hs2 : s2.size ≤ 1000) :
    Calls Try.prog 30 #[.string ⟨#[62]⟩, .agg #[.int .i64 k1, .int .i64 n1, .string s1], .agg #[.int .i64 k2, .int .i64 n2, .string s2], .bool nc] w fun e w' => e = .returned (.tuple #[.agg #[.int .i64 0, .int .i64 0, .string ⟨#[]⟩], .int .i64 0]) ∧ Below w.heap.size w w' := by
  obtain ⟨c, hc⟩ : ∃ c, c = cmpV k1 n1 s1 k2 n2 s2 nc := ⟨_, rfl⟩
  have HC := Lib.hid hc; have HS1 := Lib.hid (show s1.size ≤ 30000 by omega); have HS2 := Lib.hid (show s2.size ≤ 30000 by omega)
  rw [← hc] at hz
  have HZ := Lib.hid hz
  clear hc hz
  have HX := Lib.hid (box_new w k1 n1 s1 k2 n2 s2)
  rcases hk with t1 | ⟨t1, t2⟩
  all_goals
    go_enter Try.func30, Try.ntmps30
    go_wp2_with fail
    refine (qcompare_any k1 n1 s1 k2 n2 s2 nc _ HS1.out HS2.out).mono ?_
    rw [← HC.out]
    rintro e w1 ⟨rfl, hb⟩
    have HY := Lib.hid (box_next (box_next HX.out hb) (blw1 w1 (.cells #[.int .i64 0, .int .i64 0, .string ⟨#[]⟩] 23)))
    have hl1 : w.heap.size + 3 ≤ w1.heap.size := (box_next HX.out hb).size
    clear hb HX
    obtain ⟨a0, a1, a2, b0, b1, b2, hrow, hsz, -⟩ := HY.out
    have f0 := blk_frozen hrow 0; have f1 := blk_frozen hrow 1; have f2 := blk_frozen hrow 2
    have c0 := blk_cell hrow 0 rfl; have c1 := blk_cell hrow 1 rfl; have c2 := blk_cell hrow 2 rfl
    go_wp2_with fail
    refine (rtruthV_any _ _).mono ?_
    rw [HZ.out]
    rintro e w2 ⟨rfl, hb⟩
    have HY2 := Lib.hid (box_next HY.out hb)
    have hans := blk_below (blk_new w1 23 #[.int .i64 0, .int .i64 0, .string ⟨#[]⟩]) hb
    clear hb a0 a1 a2 b0 b1 b2 hrow hsz f0 f1 f2 c0 c1 c2 HY
    obtain ⟨a0, a1, a2, b0, b1, b2, hrow, hsz, -⟩ := HY2.out
    have f0 := blk_frozen hrow 0; have f1 := blk_frozen hrow 1; have f2 := blk_frozen hrow 2
    have c0 := blk_cell hrow 0 rfl; have c1 := blk_cell hrow 1 rfl; have c2 := blk_cell hrow 2 rfl
    have g0 := blk_frozen hans 0; have g1 := blk_frozen hans 1; have g2 := blk_frozen hans 2
    have d0 := blk_cell hans 0 rfl; have d1 := blk_cell hans 1 rfl; have d2 := blk_cell hans 2 rfl
    have n0 : w.heap.size ≠ w1.heap.size := by omega
    have n1' : w.heap.size + 1 ≠ w1.heap.size := by omega
    have n2' : w.heap.size + 2 ≠ w1.heap.size := by omega
    have m2' : w1.heap.size ≠ w.heap.size + 2 := by omega
    go_wp2_with fail
    refine bodyPost_ret (results_pair rfl _ _ (w.heap.size + 2) _ _ _ rfl (blk_set (blk_set (blk_set (blk_other (blk_other (blk_other hrow n2' 0 _) n2' 1 _) n2' 2 _) 0 _) 1 _) 2 _) Try.underlying23 rfl (by kernel_rfl)) rfl ?_
    exact ⟨rfl, blw_set (blw_set (blw_set (blw_set (blw_set (blw_set HY2.out.below (by omega) _ _) (by omega) _ _) (by omega) _ _) (by omega) _ _) (by omega) _ _) (by omega) _ _⟩
set_option maxHeartbeats 1000000 in
theorem rbin_gt (k1 n1 : Int) (s1 : ByteArray) (k2 n2 : Int) (s2 : ByteArray) (nc : Bool) (w : World) (z : Int) (hz : (if decide (0 < cmpV k1 n1 s1 k2 n2 s2 nc) then 1 else 0) = z) (t1 : (k1 == 0) = false) (t2 : (k2 == 0) = false) (hs1 : s1.size ≤ 1000) (hs2 : s2.size ≤ 1000) :
    Calls Try.prog 30 #[.string ⟨#[62]⟩, .agg #[.int .i64 k1, .int .i64 n1, .string s1], .agg #[.int .i64 k2, .int .i64 n2, .string s2], .bool nc] w fun e w' => e = .returned (.tuple #[.agg #[.int .i64 1, .int .i64 z, .string ⟨#[]⟩], .int .i64 0]) ∧ Below w.heap.size w w' := by
  obtain ⟨c, hc⟩ : ∃ c, c = cmpV k1 n1 s1 k2 n2 s2 nc := ⟨_, rfl⟩
  have HC := Lib.hid hc; have HS1 := Lib.hid (show s1.size ≤ 30000 by omega); have HS2 := Lib.hid (show s2.size ≤ 30000 by omega)
  rw [← hc] at hz
  have HZ := Lib.hid hz
  clear hc hz
  have HX := Lib.hid (box_new w k1 n1 s1 k2 n2 s2)
  go_enter Try.func30, Try.ntmps30
  go_wp2_with fail
  refine (qcompare_any k1 n1 s1 k2 n2 s2 nc _ HS1.out HS2.out).mono ?_
  rw [← HC.out]
  rintro e w1 ⟨rfl, hb⟩
  have HY := Lib.hid (box_next (box_next HX.out hb) (blw1 w1 (.cells #[.int .i64 0, .int .i64 0, .string ⟨#[]⟩] 23)))
  have hl1 : w.heap.size + 3 ≤ w1.heap.size := (box_next HX.out hb).size
  clear hb HX
  obtain ⟨a0, a1, a2, b0, b1, b2, hrow, hsz, -⟩ := HY.out
  have f0 := blk_frozen hrow 0; have f1 := blk_frozen hrow 1; have f2 := blk_frozen hrow 2
  have c0 := blk_cell hrow 0 rfl; have c1 := blk_cell hrow 1 rfl; have c2 := blk_cell hrow 2 rfl
  go_wp2_with fail
  refine (rtruthV_any _ _).mono ?_
  rw [HZ.out]
  rintro e w2 ⟨rfl, hb⟩
  have HY2 := Lib.hid (box_next HY.out hb)
  have hans := blk_below (blk_new w1 23 #[.int .i64 0, .int .i64 0, .string ⟨#[]⟩]) hb
  clear hb a0 a1 a2 b0 b1 b2 hrow hsz f0 f1 f2 c0 c1 c2 HY
  obtain ⟨a0, a1, a2, b0, b1, b2, hrow, hsz, -⟩ := HY2.out
  have f0 := blk_frozen hrow 0; have f1 := blk_frozen hrow 1; have f2 := blk_frozen hrow 2
  have c0 := blk_cell hrow 0 rfl; have c1 := blk_cell hrow 1 rfl; have c2 := blk_cell hrow 2 rfl
  have g0 := blk_frozen hans 0; have g1 := blk_frozen hans 1; have g2 := blk_frozen hans 2
  have d0 := blk_cell hans 0 rfl; have d1 := blk_cell hans 1 rfl; have d2 := blk_cell hans 2 rfl
  have n0 : w.heap.size ≠ w1.heap.size := by omega
  have n1' : w.heap.size + 1 ≠ w1.heap.size := by omega
  have n2' : w.heap.size + 2 ≠ w1.heap.size := by omega
  have m2' : w1.heap.size ≠ w.heap.size + 2 := by omega
  go_wp2_with fail
  refine bodyPost_ret (results_pair rfl _ _ (w.heap.size + 2) _ _ _ rfl (blk_set (blk_set (blk_set (blk_other (blk_other (blk_other hrow n2' 0 _) n2' 1 _) n2' 2 _) 0 _) 1 _) 2 _) Try.underlying23 rfl (by kernel_rfl)) rfl ?_
  exact ⟨rfl, blw_set (blw_set (blw_set (blw_set (blw_set (blw_set HY2.out.below (by omega) _ _) (by omega) _ _) (by omega) _ _) (by omega) _ _) (by omega) _ _) (by omega) _ _⟩
set_option maxHeartbeats 1000000 in
theorem rbin_ge_null (k1 n1 : Int) (s1 : ByteArray) (k2 n2 : Int) (s2 : ByteArray) (nc : Bool) (w : World) (z : Int) (hz : (if decide (0 ≤ cmpV k1 n1 s1 k2 n2 s2 nc) then 1 else 0) = z) (hk : (k1 == 0) = true ∨ (k1 == 0) = false ∧ (k2 == 0) = true) (hs1 : s1.size ≤ 1000) (hs2 : s2.size ≤ 1000) :
    Calls Try.prog 30 #[.string ⟨#[62, 61]⟩, .agg #[.int .i64 k1, .int .i64 n1, .string s1], .agg #[.int .i64 k2, .int .i64 n2, .string s2], .bool nc] w fun e w' => e = .returned (.tuple #[.agg #[.int .i64 0, .int .i64 0, .string ⟨#[]⟩], .int .i64 0]) ∧ Below w.heap.size w w' := by
  obtain ⟨c, hc⟩ : ∃ c, c = cmpV k1 n1 s1 k2 n2 s2 nc := ⟨_, rfl⟩
  have HC := Lib.hid hc; have HS1 := Lib.hid (show s1.size ≤ 30000 by omega); have HS2 := Lib.hid (show s2.size ≤ 30000 by omega)
  rw [← hc] at hz
  have HZ := Lib.hid hz
  clear hc hz
  have HX := Lib.hid (box_new w k1 n1 s1 k2 n2 s2)
  rcases hk with t1 | ⟨t1, t2⟩
  all_goals
    go_enter Try.func30, Try.ntmps30
    go_wp2_with fail
    refine (qcompare_any k1 n1 s1 k2 n2 s2 nc _ HS1.out HS2.out).mono ?_
    rw [← HC.out]
    rintro e w1 ⟨rfl, hb⟩
    have HY := Lib.hid (box_next (box_next HX.out hb) (blw1 w1 (.cells #[.int .i64 0, .int .i64 0, .string ⟨#[]⟩] 23)))
    have hl1 : w.heap.size + 3 ≤ w1.heap.size := (box_next HX.out hb).size
    clear hb HX
    obtain ⟨a0, a1, a2, b0, b1, b2, hrow, hsz, -⟩ := HY.out
    have f0 := blk_frozen hrow 0; have f1 := blk_frozen hrow 1; have f2 := blk_frozen hrow 2
    have c0 := blk_cell hrow 0 rfl; have c1 := blk_cell hrow 1 rfl; have c2 := blk_cell hrow 2 rfl
    go_wp2_with fail
    refine (rtruthV_any _ _).mono ?_
    rw [HZ.out]
    rintro e w2 ⟨rfl, hb⟩
    have HY2 := Lib.hid (box_next HY.out hb)
    have hans := blk_below (blk_new w1 23 #[.int .i64 0, .int .i64 0, .string ⟨#[]⟩]) hb
    clear hb a0 a1 a2 b0 b1 b2 hrow hsz f0 f1 f2 c0 c1 c2 HY
    obtain ⟨a0, a1, a2, b0, b1, b2, hrow, hsz, -⟩ := HY2.out
    have f0 := blk_frozen hrow 0; have f1 := blk_frozen hrow 1; have f2 := blk_frozen hrow 2
    have c0 := blk_cell hrow 0 rfl; have c1 := blk_cell hrow 1 rfl; have c2 := blk_cell hrow 2 rfl
    have g0 := blk_frozen hans 0; have g1 := blk_frozen hans 1; have g2 := blk_frozen hans 2
    have d0 := blk_cell hans 0 rfl; have d1 := blk_cell hans 1 rfl; have d2 := blk_cell hans 2 rfl
    have n0 : w.heap.size ≠ w1.heap.size := by omega
    have n1' : w.heap.size + 1 ≠ w1.heap.size := by omega
    have n2' : w.heap.size + 2 ≠ w1.heap.size := by omega
    have m2' : w1.heap.size ≠ w.heap.size + 2 := by omega
    go_wp2_with fail
    refine bodyPost_ret (results_pair rfl _ _ (w.heap.size + 2) _ _ _ rfl (blk_set (blk_set (blk_set (blk_other (blk_other (blk_other hrow n2' 0 _) n2' 1 _) n2' 2 _) 0 _) 1 _) 2 _) Try.underlying23 rfl (by kernel_rfl)) rfl ?_
    exact ⟨rfl, blw_set (blw_set (blw_set (blw_set (blw_set (blw_set HY2.out.below (by omega) _ _) (by omega) _ _) (by omega) _ _) (by omega) _ _) (by omega) _ _) (by omega) _ _⟩
set_option maxHeartbeats 1000000 in
theorem rbin_ge (k1 n1 : Int) (s1 : ByteArray) (k2 n2 : Int) (s2 : ByteArray) (nc : Bool) (w : World) (z : Int) (hz : (if decide (0 ≤ cmpV k1 n1 s1 k2 n2 s2 nc) then 1 else 0) = z) (t1 : (k1 == 0) = false) (t2 : (k2 == 0) = false) (hs1 : s1.size ≤ 1000) (hs2 : s2.size ≤ 1000) :
    Calls Try.prog 30 #[.string ⟨#[62, 61]⟩, .agg #[.int .i64 k1, .int .i64 n1, .string s1], .agg #[.int .i64 k2, .int .i64 n2, .string s2], .bool nc] w fun e w' => e = .returned (.tuple #[.agg #[.int .i64 1, .int .i64 z, .string ⟨#[]⟩], .int .i64 0]) ∧ Below w.heap.size w w' := by
  obtain ⟨c, hc⟩ : ∃ c, c = cmpV k1 n1 s1 k2 n2 s2 nc := ⟨_, rfl⟩
  have HC := Lib.hid hc; have HS1 := Lib.hid (show s1.size ≤ 30000 by omega); have HS2 := Lib.hid (show s2.size ≤ 30000 by omega)
  rw [← hc] at hz
  have HZ := Lib.hid hz
  clear hc hz
  have HX := Lib.hid (box_new w k1 n1 s1 k2 n2 s2)
  go_enter Try.func30, Try.ntmps30
  go_wp2_with fail
  refine (qcompare_any k1 n1 s1 k2 n2 s2 nc _ HS1.out HS2.out).mono ?_
  rw [← HC.out]
  rintro e w1 ⟨rfl, hb⟩
  have HY := Lib.hid (box_next (box_next HX.out hb) (blw1 w1 (.cells #[.int .i64 0, .int .i64 0, .string ⟨#[]⟩] 23)))
  have hl1 : w.heap.size + 3 ≤ w1.heap.size := (box_next HX.out hb).size
  clear hb HX
  obtain ⟨a0, a1, a2, b0, b1, b2, hrow, hsz, -⟩ := HY.out
  have f0 := blk_frozen hrow 0; have f1 := blk_frozen hrow 1; have f2 := blk_frozen hrow 2
  have c0 := blk_cell hrow 0 rfl; have c1 := blk_cell hrow 1 rfl; have c2 := blk_cell hrow 2 rfl
  go_wp2_with fail
  refine (rtruthV_any _ _).mono ?_
  rw [HZ.out]
  rintro e w2 ⟨rfl, hb⟩
  have HY2 := Lib.hid (box_next HY.out hb)
  have hans := blk_below (blk_new w1 23 #[.int .i64 0, .int .i64 0, .string ⟨#[]⟩]) hb
  clear hb a0 a1 a2 b0 b1 b2 hrow hsz f0 f1 f2 c0 c1 c2 HY
  obtain ⟨a0, a1, a2, b0, b1, b2, hrow, hsz, -⟩ := HY2.out
  have f0 := blk_frozen hrow 0; have f1 := blk_frozen hrow 1; have f2 := blk_frozen hrow 2
  have c0 := blk_cell hrow 0 rfl; have c1 := blk_cell hrow 1 rfl; have c2 := blk_cell hrow 2 rfl
  have g0 := blk_frozen hans 0; have g1 := blk_frozen hans 1; have g2 := blk_frozen hans 2
  have d0 := blk_cell hans 0 rfl; have d1 := blk_cell hans 1 rfl; have d2 := blk_cell hans 2 rfl
  have n0 : w.heap.size ≠ w1.heap.size := by omega
  have n1' : w.heap.size + 1 ≠ w1.heap.size := by omega
  have n2' : w.heap.size + 2 ≠ w1.heap.size := by omega
  have m2' : w1.heap.size ≠ w.heap.size + 2 := by omega
  go_wp2_with fail
  refine bodyPost_ret (results_pair rfl _ _ (w.heap.size + 2) _ _ _ rfl (blk_set (blk_set (blk_set (blk_other (blk_other (blk_other hrow n2' 0 _) n2' 1 _) n2' 2 _) 0 _) 1 _) 2 _) Try.underlying23 rfl (by kernel_rfl)) rfl ?_
  exact ⟨rfl, blw_set (blw_set (blw_set (blw_set (blw_set (blw_set HY2.out.below (by omega) _ _) (by omega) _ _) (by omega) _ _) (by omega) _ _) (by omega) _ _) (by omega) _ _⟩
set_option maxHeartbeats 1000000 in
theorem rbin_add_null (k1 n1 : Int) (s1 : ByteArray) (k2 n2 : Int) (s2 : ByteArray) (nc : Bool) (w : World) (hk : (k1 == 0) = true ∨ (k1 == 0) = false ∧ (k2 == 0) = true) (hs1 : s1.size ≤ 1000) (hs2 : s2.size ≤ 1000) :
    Calls Try.prog 30 #[.string ⟨#[43]⟩, .agg #[.int .i64 k1, .int .i64 n1, .string s1], .agg #[.int .i64 k2, .int .i64 n2, .string s2], .bool nc] w fun e w' => e = .returned (.tuple #[.agg #[.int .i64 0, .int .i64 0, .string ⟨#[]⟩], .int .i64 0]) ∧ Below w.heap.size w w' := by
  obtain ⟨c, hc⟩ : ∃ c, c = cmpV k1 n1 s1 k2 n2 s2 nc := ⟨_, rfl⟩
  have HC := Lib.hid hc; have HS1 := Lib.hid (show s1.size ≤ 30000 by omega); have HS2 := Lib.hid (show s2.size ≤ 30000 by omega)
  clear hc
  have HX := Lib.hid (box_new w k1 n1 s1 k2 n2 s2)
  rcases hk with t1 | ⟨t1, t2⟩
  all_goals
    go_enter Try.func30, Try.ntmps30
    go_wp2_with fail
    refine (qcompare_any k1 n1 s1 k2 n2 s2 nc _ HS1.out HS2.out).mono ?_
    rw [← HC.out]
    rintro e w1 ⟨rfl, hb⟩
    have HY := Lib.hid (box_next (box_next HX.out hb) (blw1 w1 (.cells #[.int .i64 0, .int .i64 0, .string ⟨#[]⟩] 23)))
    have hl1 : w.heap.size + 3 ≤ w1.heap.size := (box_next HX.out hb).size
    clear hb HX
    obtain ⟨a0, a1, a2, b0, b1, b2, hrow, hsz, -⟩ := HY.out
    have f0 := blk_frozen hrow 0; have f1 := blk_frozen hrow 1; have f2 := blk_frozen hrow 2
    have c0 := blk_cell hrow 0 rfl; have c1 := blk_cell hrow 1 rfl; have c2 := blk_cell hrow 2 rfl
    go_wp2_with fail
    refine bodyPost_ret (results_pair rfl _ _ (w.heap.size + 2) _ _ _ rfl (blk_set (blk_set (blk_set hrow 0 _) 1 _) 2 _) Try.underlying23 rfl (by kernel_rfl)) rfl ?_
    exact ⟨rfl, box_fin HY.out _ _ _⟩
set_option maxHeartbeats 1000000 in
theorem rbin_add (k1 n1 : Int) (s1 : ByteArray) (k2 n2 : Int) (s2 : ByteArray) (nc : Bool) (w : World) (r : Out) (hn : ∀ w, Calls Try.prog 45 #[.string ⟨#[43]⟩, .agg #[.int .i64 k1, .int .i64 n1, .string s1], .agg #[.int .i64 k2, .int .i64 n2, .string s2]] w fun e w' => e = .returned (.tuple #[.agg #[.int .i64 (r).k, .int .i64 (r).n, .string (r).s], .int .i64 (r).e]) ∧ Below w.heap.size w w') (t1 : (k1 == 0) = false) (t2 : (k2 == 0) = false) (hs1 : s1.size ≤ 1000) (hs2 : s2.size ≤ 1000) :
    Calls Try.prog 30 #[.string ⟨#[43]⟩, .agg #[.int .i64 k1, .int .i64 n1, .string s1], .agg #[.int .i64 k2, .int .i64 n2, .string s2], .bool nc] w fun e w' => e = .returned (.tuple #[.agg #[.int .i64 (r).k, .int .i64 (r).n, .string (r).s], .int .i64 (r).e]) ∧ Below w.heap.size w w' := by
  obtain ⟨c, hc⟩ : ∃ c, c = cmpV k1 n1 s1 k2 n2 s2 nc := ⟨_, rfl⟩
  have HC := Lib.hid hc; have HS1 := Lib.hid (show s1.size ≤ 30000 by omega); have HS2 := Lib.hid (show s2.size ≤ 30000 by omega)
  clear hc
  have HX := Lib.hid (box_new w k1 n1 s1 k2 n2 s2)
  go_enter Try.func30, Try.ntmps30
  go_wp2_with fail
  refine (qcompare_any k1 n1 s1 k2 n2 s2 nc _ HS1.out HS2.out).mono ?_
  rw [← HC.out]
  rintro e w1 ⟨rfl, hb⟩
  have HY := Lib.hid (box_next (box_next HX.out hb) (blw1 w1 (.cells #[.int .i64 0, .int .i64 0, .string ⟨#[]⟩] 23)))
  have hl1 : w.heap.size + 3 ≤ w1.heap.size := (box_next HX.out hb).size
  clear hb HX
  obtain ⟨a0, a1, a2, b0, b1, b2, hrow, hsz, -⟩ := HY.out
  have f0 := blk_frozen hrow 0; have f1 := blk_frozen hrow 1; have f2 := blk_frozen hrow 2
  have c0 := blk_cell hrow 0 rfl; have c1 := blk_cell hrow 1 rfl; have c2 := blk_cell hrow 2 rfl
  go_wp2_with fail
  refine (hn _).mono ?_
  rintro e w2 ⟨rfl, hb⟩
  have HY2 := Lib.hid (box_next HY.out hb)
  clear hb a0 a1 a2 b0 b1 b2 hrow hsz f0 f1 f2 c0 c1 c2 HY
  obtain ⟨-, -, -, -, -, -, hrow, hsz, -⟩ := HY2.out
  have f0 := blk_frozen hrow 0; have f1 := blk_frozen hrow 1; have f2 := blk_frozen hrow 2
  have c0 := blk_cell hrow 0 rfl; have c1 := blk_cell hrow 1 rfl; have c2 := blk_cell hrow 2 rfl
  go_wp2_with fail
  refine bodyPost_ret (results_pair rfl _ _ (w.heap.size + 2) _ _ _ rfl (blk_set (blk_set (blk_set hrow 0 _) 1 _) 2 _) Try.underlying23 rfl (by kernel_rfl)) rfl ?_
  exact ⟨rfl, box_fin HY2.out _ _ _⟩
set_option maxHeartbeats 1000000 in
theorem rbin_sub_null (k1 n1 : Int) (s1 : ByteArray) (k2 n2 : Int) (s2 : ByteArray) (nc : Bool) (w : World) (hk : (k1 == 0) = true ∨ (k1 == 0) = false ∧ (k2 == 0) = true) (hs1 : s1.size ≤ 1000) (hs2 : s2.size ≤ 1000) :
    Calls Try.prog 30 #[.string ⟨#[45]⟩, .agg #[.int .i64 k1, .int .i64 n1, .string s1], .agg #[.int .i64 k2, .int .i64 n2, .string s2], .bool nc] w fun e w' => e = .returned (.tuple #[.agg #[.int .i64 0, .int .i64 0, .string ⟨#[]⟩], .int .i64 0]) ∧ Below w.heap.size w w' := by
  obtain ⟨c, hc⟩ : ∃ c, c = cmpV k1 n1 s1 k2 n2 s2 nc := ⟨_, rfl⟩
  have HC := Lib.hid hc; have HS1 := Lib.hid (show s1.size ≤ 30000 by omega); have HS2 := Lib.hid (show s2.size ≤ 30000 by omega)
  clear hc
  have HX := Lib.hid (box_new w k1 n1 s1 k2 n2 s2)
  rcases hk with t1 | ⟨t1, t2⟩
  all_goals
    go_enter Try.func30, Try.ntmps30
    go_wp2_with fail
    refine (qcompare_any k1 n1 s1 k2 n2 s2 nc _ HS1.out HS2.out).mono ?_
    rw [← HC.out]
    rintro e w1 ⟨rfl, hb⟩
    have HY := Lib.hid (box_next (box_next HX.out hb) (blw1 w1 (.cells #[.int .i64 0, .int .i64 0, .string ⟨#[]⟩] 23)))
    have hl1 : w.heap.size + 3 ≤ w1.heap.size := (box_next HX.out hb).size
    clear hb HX
    obtain ⟨a0, a1, a2, b0, b1, b2, hrow, hsz, -⟩ := HY.out
    have f0 := blk_frozen hrow 0; have f1 := blk_frozen hrow 1; have f2 := blk_frozen hrow 2
    have c0 := blk_cell hrow 0 rfl; have c1 := blk_cell hrow 1 rfl; have c2 := blk_cell hrow 2 rfl
    go_wp2_with fail
    refine bodyPost_ret (results_pair rfl _ _ (w.heap.size + 2) _ _ _ rfl (blk_set (blk_set (blk_set hrow 0 _) 1 _) 2 _) Try.underlying23 rfl (by kernel_rfl)) rfl ?_
    exact ⟨rfl, box_fin HY.out _ _ _⟩
set_option maxHeartbeats 1000000 in
theorem rbin_sub (k1 n1 : Int) (s1 : ByteArray) (k2 n2 : Int) (s2 : ByteArray) (nc : Bool) (w : World) (r : Out) (hn : ∀ w, Calls Try.prog 45 #[.string ⟨#[45]⟩, .agg #[.int .i64 k1, .int .i64 n1, .string s1], .agg #[.int .i64 k2, .int .i64 n2, .string s2]] w fun e w' => e = .returned (.tuple #[.agg #[.int .i64 (r).k, .int .i64 (r).n, .string (r).s], .int .i64 (r).e]) ∧ Below w.heap.size w w') (t1 : (k1 == 0) = false) (t2 : (k2 == 0) = false) (hs1 : s1.size ≤ 1000) (hs2 : s2.size ≤ 1000) :
    Calls Try.prog 30 #[.string ⟨#[45]⟩, .agg #[.int .i64 k1, .int .i64 n1, .string s1], .agg #[.int .i64 k2, .int .i64 n2, .string s2], .bool nc] w fun e w' => e = .returned (.tuple #[.agg #[.int .i64 (r).k, .int .i64 (r).n, .string (r).s], .int .i64 (r).e]) ∧ Below w.heap.size w w' := by
  obtain ⟨c, hc⟩ : ∃ c, c = cmpV k1 n1 s1 k2 n2 s2 nc := ⟨_, rfl⟩
  have HC := Lib.hid hc; have HS1 := Lib.hid (show s1.size ≤ 30000 by omega); have HS2 := Lib.hid (show s2.size ≤ 30000 by omega)
  clear hc
  have HX := Lib.hid (box_new w k1 n1 s1 k2 n2 s2)
  go_enter Try.func30, Try.ntmps30
  go_wp2_with fail
  refine (qcompare_any k1 n1 s1 k2 n2 s2 nc _ HS1.out HS2.out).mono ?_
  rw [← HC.out]
  rintro e w1 ⟨rfl, hb⟩
  have HY := Lib.hid (box_next (box_next HX.out hb) (blw1 w1 (.cells #[.int .i64 0, .int .i64 0, .string ⟨#[]⟩] 23)))
  have hl1 : w.heap.size + 3 ≤ w1.heap.size := (box_next HX.out hb).size
  clear hb HX
  obtain ⟨a0, a1, a2, b0, b1, b2, hrow, hsz, -⟩ := HY.out
  have f0 := blk_frozen hrow 0; have f1 := blk_frozen hrow 1; have f2 := blk_frozen hrow 2
  have c0 := blk_cell hrow 0 rfl; have c1 := blk_cell hrow 1 rfl; have c2 := blk_cell hrow 2 rfl
  go_wp2_with fail
  refine (hn _).mono ?_
  rintro e w2 ⟨rfl, hb⟩
  have HY2 := Lib.hid (box_next HY.out hb)
  clear hb a0 a1 a2 b0 b1 b2 hrow hsz f0 f1 f2 c0 c1 c2 HY
  obtain ⟨-, -, -, -, -, -, hrow, hsz, -⟩ := HY2.out
  have f0 := blk_frozen hrow 0; have f1 := blk_frozen hrow 1; have f2 := blk_frozen hrow 2
  have c0 := blk_cell hrow 0 rfl; have c1 := blk_cell hrow 1 rfl; have c2 := blk_cell hrow 2 rfl
  go_wp2_with fail
  refine bodyPost_ret (results_pair rfl _ _ (w.heap.size + 2) _ _ _ rfl (blk_set (blk_set (blk_set hrow 0 _) 1 _) 2 _) Try.underlying23 rfl (by kernel_rfl)) rfl ?_
  exact ⟨rfl, box_fin HY2.out _ _ _⟩
set_option maxHeartbeats 1000000 in
theorem rbin_mul_null (k1 n1 : Int) (s1 : ByteArray) (k2 n2 : Int) (s2 : ByteArray) (nc : Bool) (w : World) (hk : (k1 == 0) = true ∨ (k1 == 0) = false ∧ (k2 == 0) = true) (hs1 : s1.size ≤ 1000) (hs2 : s2.size ≤ 1000) :
    Calls Try.prog 30 #[.string ⟨#[42]⟩, .agg #[.int .i64 k1, .int .i64 n1, .string s1], .agg #[.int .i64 k2, .int .i64 n2, .string s2], .bool nc] w fun e w' => e = .returned (.tuple #[.agg #[.int .i64 0, .int .i64 0, .string ⟨#[]⟩], .int .i64 0]) ∧ Below w.heap.size w w' := by
  obtain ⟨c, hc⟩ : ∃ c, c = cmpV k1 n1 s1 k2 n2 s2 nc := ⟨_, rfl⟩
  have HC := Lib.hid hc; have HS1 := Lib.hid (show s1.size ≤ 30000 by omega); have HS2 := Lib.hid (show s2.size ≤ 30000 by omega)
  clear hc
  have HX := Lib.hid (box_new w k1 n1 s1 k2 n2 s2)
  rcases hk with t1 | ⟨t1, t2⟩
  all_goals
    go_enter Try.func30, Try.ntmps30
    go_wp2_with fail
    refine (qcompare_any k1 n1 s1 k2 n2 s2 nc _ HS1.out HS2.out).mono ?_
    rw [← HC.out]
    rintro e w1 ⟨rfl, hb⟩
    have HY := Lib.hid (box_next (box_next HX.out hb) (blw1 w1 (.cells #[.int .i64 0, .int .i64 0, .string ⟨#[]⟩] 23)))
    have hl1 : w.heap.size + 3 ≤ w1.heap.size := (box_next HX.out hb).size
    clear hb HX
    obtain ⟨a0, a1, a2, b0, b1, b2, hrow, hsz, -⟩ := HY.out
    have f0 := blk_frozen hrow 0; have f1 := blk_frozen hrow 1; have f2 := blk_frozen hrow 2
    have c0 := blk_cell hrow 0 rfl; have c1 := blk_cell hrow 1 rfl; have c2 := blk_cell hrow 2 rfl
    go_wp2_with fail
    refine bodyPost_ret (results_pair rfl _ _ (w.heap.size + 2) _ _ _ rfl (blk_set (blk_set (blk_set hrow 0 _) 1 _) 2 _) Try.underlying23 rfl (by kernel_rfl)) rfl ?_
    exact ⟨rfl, box_fin HY.out _ _ _⟩
set_option maxHeartbeats 1000000 in
theorem rbin_mul (k1 n1 : Int) (s1 : ByteArray) (k2 n2 : Int) (s2 : ByteArray) (nc : Bool) (w : World) (r : Out) (hn : ∀ w, Calls Try.prog 45 #[.string ⟨#[42]⟩, .agg #[.int .i64 k1, .int .i64 n1, .string s1], .agg #[.int .i64 k2, .int .i64 n2, .string s2]] w fun e w' => e = .returned (.tuple #[.agg #[.int .i64 (r).k, .int .i64 (r).n, .string (r).s], .int .i64 (r).e]) ∧ Below w.heap.size w w') (t1 : (k1 == 0) = false) (t2 : (k2 == 0) = false) (hs1 : s1.size ≤ 1000) (hs2 : s2.size ≤ 1000) :
    Calls Try.prog 30 #[.string ⟨#[42]⟩, .agg #[.int .i64 k1, .int .i64 n1, .string s1], .agg #[.int .i64 k2, .int .i64 n2, .string s2], .bool nc] w fun e w' => e = .returned (.tuple #[.agg #[.int .i64 (r).k, .int .i64 (r).n, .string (r).s], .int .i64 (r).e]) ∧ Below w.heap.size w w' := by
  obtain ⟨c, hc⟩ : ∃ c, c = cmpV k1 n1 s1 k2 n2 s2 nc := ⟨_, rfl⟩
  have HC := Lib.hid hc; have HS1 := Lib.hid (show s1.size ≤ 30000 by omega); have HS2 := Lib.hid (show s2.size ≤ 30000 by omega)
  clear hc
  have HX := Lib.hid (box_new w k1 n1 s1 k2 n2 s2)
  go_enter Try.func30, Try.ntmps30
  go_wp2_with fail
  refine (qcompare_any k1 n1 s1 k2 n2 s2 nc _ HS1.out HS2.out).mono ?_
  rw [← HC.out]
  rintro e w1 ⟨rfl, hb⟩
  have HY := Lib.hid (box_next (box_next HX.out hb) (blw1 w1 (.cells #[.int .i64 0, .int .i64 0, .string ⟨#[]⟩] 23)))
  have hl1 : w.heap.size + 3 ≤ w1.heap.size := (box_next HX.out hb).size
  clear hb HX
  obtain ⟨a0, a1, a2, b0, b1, b2, hrow, hsz, -⟩ := HY.out
  have f0 := blk_frozen hrow 0; have f1 := blk_frozen hrow 1; have f2 := blk_frozen hrow 2
  have c0 := blk_cell hrow 0 rfl; have c1 := blk_cell hrow 1 rfl; have c2 := blk_cell hrow 2 rfl
  go_wp2_with fail
  refine (hn _).mono ?_
  rintro e w2 ⟨rfl, hb⟩
  have HY2 := Lib.hid (box_next HY.out hb)
  clear hb a0 a1 a2 b0 b1 b2 hrow hsz f0 f1 f2 c0 c1 c2 HY
  obtain ⟨-, -, -, -, -, -, hrow, hsz, -⟩ := HY2.out
  have f0 := blk_frozen hrow 0; have f1 := blk_frozen hrow 1; have f2 := blk_frozen hrow 2
  have c0 := blk_cell hrow 0 rfl; have c1 := blk_cell hrow 1 rfl; have c2 := blk_cell hrow 2 rfl
  go_wp2_with fail
  refine bodyPost_ret (results_pair rfl _ _ (w.heap.size + 2) _ _ _ rfl (blk_set (blk_set (blk_set hrow 0 _) 1 _) 2 _) Try.underlying23 rfl (by kernel_rfl)) rfl ?_
  exact ⟨rfl, box_fin HY2.out _ _ _⟩
set_option maxHeartbeats 1000000 in
theorem rbin_div_null (k1 n1 : Int) (s1 : ByteArray) (k2 n2 : Int) (s2 : ByteArray) (nc : Bool) (w : World) (hk : (k1 == 0) = true ∨ (k1 == 0) = false ∧ (k2 == 0) = true) (hs1 : s1.size ≤ 1000) (hs2 : s2.size ≤ 1000) :
    Calls Try.prog 30 #[.string ⟨#[47]⟩, .agg #[.int .i64 k1, .int .i64 n1, .string s1], .agg #[.int .i64 k2, .int .i64 n2, .string s2], .bool nc] w fun e w' => e = .returned (.tuple #[.agg #[.int .i64 0, .int .i64 0, .string ⟨#[]⟩], .int .i64 0]) ∧ Below w.heap.size w w' := by
  obtain ⟨c, hc⟩ : ∃ c, c = cmpV k1 n1 s1 k2 n2 s2 nc := ⟨_, rfl⟩
  have HC := Lib.hid hc; have HS1 := Lib.hid (show s1.size ≤ 30000 by omega); have HS2 := Lib.hid (show s2.size ≤ 30000 by omega)
  clear hc
  have HX := Lib.hid (box_new w k1 n1 s1 k2 n2 s2)
  rcases hk with t1 | ⟨t1, t2⟩
  all_goals
    go_enter Try.func30, Try.ntmps30
    go_wp2_with fail
    refine (qcompare_any k1 n1 s1 k2 n2 s2 nc _ HS1.out HS2.out).mono ?_
    rw [← HC.out]
    rintro e w1 ⟨rfl, hb⟩
    have HY := Lib.hid (box_next (box_next HX.out hb) (blw1 w1 (.cells #[.int .i64 0, .int .i64 0, .string ⟨#[]⟩] 23)))
    have hl1 : w.heap.size + 3 ≤ w1.heap.size := (box_next HX.out hb).size
    clear hb HX
    obtain ⟨a0, a1, a2, b0, b1, b2, hrow, hsz, -⟩ := HY.out
    have f0 := blk_frozen hrow 0; have f1 := blk_frozen hrow 1; have f2 := blk_frozen hrow 2
    have c0 := blk_cell hrow 0 rfl; have c1 := blk_cell hrow 1 rfl; have c2 := blk_cell hrow 2 rfl
    go_wp2_with fail
    refine bodyPost_ret (results_pair rfl _ _ (w.heap.size + 2) _ _ _ rfl (blk_set (blk_set (blk_set hrow 0 _) 1 _) 2 _) Try.underlying23 rfl (by kernel_rfl)) rfl ?_
    exact ⟨rfl, box_fin HY.out _ _ _⟩
set_option maxHeartbeats 1000000 in
theorem rbin_div (k1 n1 : Int) (s1 : ByteArray) (k2 n2 : Int) (s2 : ByteArray) (nc : Bool) (w : World) (r : Out) (hn : ∀ w, Calls Try.prog 45 #[.string ⟨#[47]⟩, .agg #[.int .i64 k1, .int .i64 n1, .string s1], .agg #[.int .i64 k2, .int .i64 n2, .string s2]] w fun e w' => e = .returned (.tuple #[.agg #[.int .i64 (r).k, .int .i64 (r).n, .string (r).s], .int .i64 (r).e]) ∧ Below w.heap.size w w') (t1 : (k1 == 0) = false) (t2 : (k2 == 0) = false) (hs1 : s1.size ≤ 1000) (hs2 : s2.size ≤ 1000) :
    Calls Try.prog 30 #[.string ⟨#[47]⟩, .agg #[.int .i64 k1, .int .i64 n1, .string s1], .agg #[.int .i64 k2, .int .i64 n2, .string s2], .bool nc] w fun e w' => e = .returned (.tuple #[.agg #[.int .i64 (r).k, .int .i64 (r).n, .string (r).s], .int .i64 (r).e]) ∧ Below w.heap.size w w' := by
  obtain ⟨c, hc⟩ : ∃ c, c = cmpV k1 n1 s1 k2 n2 s2 nc := ⟨_, rfl⟩
  have HC := Lib.hid hc; have HS1 := Lib.hid (show s1.size ≤ 30000 by omega); have HS2 := Lib.hid (show s2.size ≤ 30000 by omega)
  clear hc
  have HX := Lib.hid (box_new w k1 n1 s1 k2 n2 s2)
  go_enter Try.func30, Try.ntmps30
  go_wp2_with fail
  refine (qcompare_any k1 n1 s1 k2 n2 s2 nc _ HS1.out HS2.out).mono ?_
  rw [← HC.out]
  rintro e w1 ⟨rfl, hb⟩
  have HY := Lib.hid (box_next (box_next HX.out hb) (blw1 w1 (.cells #[.int .i64 0, .int .i64 0, .string ⟨#[]⟩] 23)))
  have hl1 : w.heap.size + 3 ≤ w1.heap.size := (box_next HX.out hb).size
  clear hb HX
  obtain ⟨a0, a1, a2, b0, b1, b2, hrow, hsz, -⟩ := HY.out
  have f0 := blk_frozen hrow 0; have f1 := blk_frozen hrow 1; have f2 := blk_frozen hrow 2
  have c0 := blk_cell hrow 0 rfl; have c1 := blk_cell hrow 1 rfl; have c2 := blk_cell hrow 2 rfl
  go_wp2_with fail
  refine (hn _).mono ?_
  rintro e w2 ⟨rfl, hb⟩
  have HY2 := Lib.hid (box_next HY.out hb)
  clear hb a0 a1 a2 b0 b1 b2 hrow hsz f0 f1 f2 c0 c1 c2 HY
  obtain ⟨-, -, -, -, -, -, hrow, hsz, -⟩ := HY2.out
  have f0 := blk_frozen hrow 0; have f1 := blk_frozen hrow 1; have f2 := blk_frozen hrow 2
  have c0 := blk_cell hrow 0 rfl; have c1 := blk_cell hrow 1 rfl; have c2 := blk_cell hrow 2 rfl
  go_wp2_with fail
  refine bodyPost_ret (results_pair rfl _ _ (w.heap.size + 2) _ _ _ rfl (blk_set (blk_set (blk_set hrow 0 _) 1 _) 2 _) Try.underlying23 rfl (by kernel_rfl)) rfl ?_
  exact ⟨rfl, box_fin HY2.out _ _ _⟩
set_option maxHeartbeats 1000000 in
theorem rbin_rem_null (k1 n1 : Int) (s1 : ByteArray) (k2 n2 : Int) (s2 : ByteArray) (nc : Bool) (w : World) (hk : (k1 == 0) = true ∨ (k1 == 0) = false ∧ (k2 == 0) = true) (hs1 : s1.size ≤ 1000) (hs2 : s2.size ≤ 1000) :
    Calls Try.prog 30 #[.string ⟨#[37]⟩, .agg #[.int .i64 k1, .int .i64 n1, .string s1], .agg #[.int .i64 k2, .int .i64 n2, .string s2], .bool nc] w fun e w' => e = .returned (.tuple #[.agg #[.int .i64 0, .int .i64 0, .string ⟨#[]⟩], .int .i64 0]) ∧ Below w.heap.size w w' := by
  obtain ⟨c, hc⟩ : ∃ c, c = cmpV k1 n1 s1 k2 n2 s2 nc := ⟨_, rfl⟩
  have HC := Lib.hid hc; have HS1 := Lib.hid (show s1.size ≤ 30000 by omega); have HS2 := Lib.hid (show s2.size ≤ 30000 by omega)
  clear hc
  have HX := Lib.hid (box_new w k1 n1 s1 k2 n2 s2)
  rcases hk with t1 | ⟨t1, t2⟩
  all_goals
    go_enter Try.func30, Try.ntmps30
    go_wp2_with fail
    refine (qcompare_any k1 n1 s1 k2 n2 s2 nc _ HS1.out HS2.out).mono ?_
    rw [← HC.out]
    rintro e w1 ⟨rfl, hb⟩
    have HY := Lib.hid (box_next (box_next HX.out hb) (blw1 w1 (.cells #[.int .i64 0, .int .i64 0, .string ⟨#[]⟩] 23)))
    have hl1 : w.heap.size + 3 ≤ w1.heap.size := (box_next HX.out hb).size
    clear hb HX
    obtain ⟨a0, a1, a2, b0, b1, b2, hrow, hsz, -⟩ := HY.out
    have f0 := blk_frozen hrow 0; have f1 := blk_frozen hrow 1; have f2 := blk_frozen hrow 2
    have c0 := blk_cell hrow 0 rfl; have c1 := blk_cell hrow 1 rfl; have c2 := blk_cell hrow 2 rfl
    go_wp2_with fail
    refine bodyPost_ret (results_pair rfl _ _ (w.heap.size + 2) _ _ _ rfl (blk_set (blk_set (blk_set hrow 0 _) 1 _) 2 _) Try.underlying23 rfl (by kernel_rfl)) rfl ?_
    exact ⟨rfl, box_fin HY.out _ _ _⟩
set_option maxHeartbeats 1000000 in
theorem rbin_rem (k1 n1 : Int) (s1 : ByteArray) (k2 n2 : Int) (s2 : ByteArray) (nc : Bool) (w : World) (r : Out) (hn : ∀ w, Calls Try.prog 45 #[.string ⟨#[37]⟩, .agg #[.int .i64 k1, .int .i64 n1, .string s1], .agg #[.int .i64 k2, .int .i64 n2, .string s2]] w fun e w' => e = .returned (.tuple #[.agg #[.int .i64 (r).k, .int .i64 (r).n, .string (r).s], .int .i64 (r).e]) ∧ Below w.heap.size w w') (t1 : (k1 == 0) = false) (t2 : (k2 == 0) = false) (hs1 : s1.size ≤ 1000) (hs2 : s2.size ≤ 1000) :
    Calls Try.prog 30 #[.string ⟨#[37]⟩, .agg #[.int .i64 k1, .int .i64 n1, .string s1], .agg #[.int .i64 k2, .int .i64 n2, .string s2], .bool nc] w fun e w' => e = .returned (.tuple #[.agg #[.int .i64 (r).k, .int .i64 (r).n, .string (r).s], .int .i64 (r).e]) ∧ Below w.heap.size w w' := by
  obtain ⟨c, hc⟩ : ∃ c, c = cmpV k1 n1 s1 k2 n2 s2 nc := ⟨_, rfl⟩
  have HC := Lib.hid hc; have HS1 := Lib.hid (show s1.size ≤ 30000 by omega); have HS2 := Lib.hid (show s2.size ≤ 30000 by omega)
  clear hc
  have HX := Lib.hid (box_new w k1 n1 s1 k2 n2 s2)
  go_enter Try.func30, Try.ntmps30
  go_wp2_with fail
  refine (qcompare_any k1 n1 s1 k2 n2 s2 nc _ HS1.out HS2.out).mono ?_
  rw [← HC.out]
  rintro e w1 ⟨rfl, hb⟩
  have HY := Lib.hid (box_next (box_next HX.out hb) (blw1 w1 (.cells #[.int .i64 0, .int .i64 0, .string ⟨#[]⟩] 23)))
  have hl1 : w.heap.size + 3 ≤ w1.heap.size := (box_next HX.out hb).size
  clear hb HX
  obtain ⟨a0, a1, a2, b0, b1, b2, hrow, hsz, -⟩ := HY.out
  have f0 := blk_frozen hrow 0; have f1 := blk_frozen hrow 1; have f2 := blk_frozen hrow 2
  have c0 := blk_cell hrow 0 rfl; have c1 := blk_cell hrow 1 rfl; have c2 := blk_cell hrow 2 rfl
  go_wp2_with fail
  refine (hn _).mono ?_
  rintro e w2 ⟨rfl, hb⟩
  have HY2 := Lib.hid (box_next HY.out hb)
  clear hb a0 a1 a2 b0 b1 b2 hrow hsz f0 f1 f2 c0 c1 c2 HY
  obtain ⟨-, -, -, -, -, -, hrow, hsz, -⟩ := HY2.out
  have f0 := blk_frozen hrow 0; have f1 := blk_frozen hrow 1; have f2 := blk_frozen hrow 2
  have c0 := blk_cell hrow 0 rfl; have c1 := blk_cell hrow 1 rfl; have c2 := blk_cell hrow 2 rfl
  go_wp2_with fail
  refine bodyPost_ret (results_pair rfl _ _ (w.heap.size + 2) _ _ _ rfl (blk_set (blk_set (blk_set hrow 0 _) 1 _) 2 _) Try.underlying23 rfl (by kernel_rfl)) rfl ?_
  exact ⟨rfl, box_fin HY2.out _ _ _⟩
set_option maxHeartbeats 1000000 in
theorem rbin_cat_null (k1 n1 : Int) (s1 : ByteArray) (k2 n2 : Int) (s2 : ByteArray) (nc : Bool) (w : World) (hk : (k1 == 0) = true ∨ (k1 == 0) = false ∧ (k2 == 0) = true) (hs1 : s1.size ≤ 1000) (hs2 : s2.size ≤ 1000) :
    Calls Try.prog 30 #[.string ⟨#[124, 124]⟩, .agg #[.int .i64 k1, .int .i64 n1, .string s1], .agg #[.int .i64 k2, .int .i64 n2, .string s2], .bool nc] w fun e w' => e = .returned (.tuple #[.agg #[.int .i64 0, .int .i64 0, .string ⟨#[]⟩], .int .i64 0]) ∧ Below w.heap.size w w' := by
  obtain ⟨c, hc⟩ : ∃ c, c = cmpV k1 n1 s1 k2 n2 s2 nc := ⟨_, rfl⟩
  have HC := Lib.hid hc; have HS1 := Lib.hid (show s1.size ≤ 30000 by omega); have HS2 := Lib.hid (show s2.size ≤ 30000 by omega)
  clear hc
  have HX := Lib.hid (box_new w k1 n1 s1 k2 n2 s2)
  rcases hk with t1 | ⟨t1, t2⟩
  all_goals
    go_enter Try.func30, Try.ntmps30
    go_wp2_with fail
    refine (qcompare_any k1 n1 s1 k2 n2 s2 nc _ HS1.out HS2.out).mono ?_
    rw [← HC.out]
    rintro e w1 ⟨rfl, hb⟩
    have HY := Lib.hid (box_next (box_next HX.out hb) (blw1 w1 (.cells #[.int .i64 0, .int .i64 0, .string ⟨#[]⟩] 23)))
    have hl1 : w.heap.size + 3 ≤ w1.heap.size := (box_next HX.out hb).size
    clear hb HX
    obtain ⟨a0, a1, a2, b0, b1, b2, hrow, hsz, -⟩ := HY.out
    have f0 := blk_frozen hrow 0; have f1 := blk_frozen hrow 1; have f2 := blk_frozen hrow 2
    have c0 := blk_cell hrow 0 rfl; have c1 := blk_cell hrow 1 rfl; have c2 := blk_cell hrow 2 rfl
    go_wp2_with fail
    refine bodyPost_ret (results_pair rfl _ _ (w.heap.size + 2) _ _ _ rfl (blk_set (blk_set (blk_set hrow 0 _) 1 _) 2 _) Try.underlying23 rfl (by kernel_rfl)) rfl ?_
    exact ⟨rfl, box_fin HY.out _ _ _⟩
set_option maxHeartbeats 1000000 in
theorem rbin_cat_type (k1 n1 : Int) (s1 : ByteArray) (k2 n2 : Int) (s2 : ByteArray) (nc : Bool) (w : World) (t1 : (k1 == 0) = false) (t2 : (k2 == 0) = false) (hk : (k1 != 2) = true ∨ (k1 != 2) = false ∧ (k2 != 2) = true) (hs1 : s1.size ≤ 1000) (hs2 : s2.size ≤ 1000) :
    Calls Try.prog 30 #[.string ⟨#[124, 124]⟩, .agg #[.int .i64 k1, .int .i64 n1, .string s1], .agg #[.int .i64 k2, .int .i64 n2, .string s2], .bool nc] w fun e w' => e = .returned (.tuple #[.agg #[.int .i64 0, .int .i64 0, .string ⟨#[]⟩], .int .i64 14]) ∧ Below w.heap.size w w' := by
  obtain ⟨c, hc⟩ : ∃ c, c = cmpV k1 n1 s1 k2 n2 s2 nc := ⟨_, rfl⟩
  have HC := Lib.hid hc; have HS1 := Lib.hid (show s1.size ≤ 30000 by omega); have HS2 := Lib.hid (show s2.size ≤ 30000 by omega)
  clear hc
  have HX := Lib.hid (box_new w k1 n1 s1 k2 n2 s2)
  rcases hk with t3 | ⟨t3, t4⟩
  all_goals
    go_enter Try.func30, Try.ntmps30
    go_wp2_with fail
    refine (qcompare_any k1 n1 s1 k2 n2 s2 nc _ HS1.out HS2.out).mono ?_
    rw [← HC.out]
    rintro e w1 ⟨rfl, hb⟩
    have HY := Lib.hid (box_next (box_next HX.out hb) (blw1 w1 (.cells #[.int .i64 0, .int .i64 0, .string ⟨#[]⟩] 23)))
    have hl1 : w.heap.size + 3 ≤ w1.heap.size := (box_next HX.out hb).size
    clear hb HX
    obtain ⟨a0, a1, a2, b0, b1, b2, hrow, hsz, -⟩ := HY.out
    have f0 := blk_frozen hrow 0; have f1 := blk_frozen hrow 1; have f2 := blk_frozen hrow 2
    have c0 := blk_cell hrow 0 rfl; have c1 := blk_cell hrow 1 rfl; have c2 := blk_cell hrow 2 rfl
    go_wp2_with fail
    refine bodyPost_ret (results_pair rfl _ _ (w.heap.size + 2) _ _ _ rfl (blk_set (blk_set (blk_set hrow 0 _) 1 _) 2 _) Try.underlying23 rfl (by kernel_rfl)) rfl ?_
    exact ⟨rfl, box_fin HY.out _ _ _⟩
set_option maxHeartbeats 1000000 in
theorem rbin_cat_long (n1 : Int) (s1 : ByteArray) (n2 : Int) (s2 : ByteArray) (nc : Bool) (w : World) (hl : 1000 < s1.size + s2.size) (hs1 : s1.size ≤ 1000) (hs2 : s2.size ≤ 1000) :
    Calls Try.prog 30 #[.string ⟨#[124, 124]⟩, .agg #[.int .i64 2, .int .i64 n1, .string s1], .agg #[.int .i64 2, .int .i64 n2, .string s2], .bool nc] w fun e w' => e = .returned (.tuple #[.agg #[.int .i64 0, .int .i64 0, .string ⟨#[]⟩], .int .i64 12]) ∧ Below w.heap.size w w' := by
  obtain ⟨c, hc⟩ : ∃ c, c = cmpV 2 n1 s1 2 n2 s2 nc := ⟨_, rfl⟩
  have HC := Lib.hid hc; have HS1 := Lib.hid (show s1.size ≤ 30000 by omega); have HS2 := Lib.hid (show s2.size ≤ 30000 by omega)
  clear hc
  have HX := Lib.hid (box_new w 2 n1 s1 2 n2 s2)
  go_enter Try.func30, Try.ntmps30
  go_wp2_with fail
  refine (qcompare_any 2 n1 s1 2 n2 s2 nc _ HS1.out HS2.out).mono ?_
  rw [← HC.out]
  rintro e w1 ⟨rfl, hb⟩
  have HY := Lib.hid (box_next (box_next HX.out hb) (blw1 w1 (.cells #[.int .i64 0, .int .i64 0, .string ⟨#[]⟩] 23)))
  have hl1 : w.heap.size + 3 ≤ w1.heap.size := (box_next HX.out hb).size
  clear hb HX
  obtain ⟨a0, a1, a2, b0, b1, b2, hrow, hsz, -⟩ := HY.out
  have f0 := blk_frozen hrow 0; have f1 := blk_frozen hrow 1; have f2 := blk_frozen hrow 2
  have c0 := blk_cell hrow 0 rfl; have c1 := blk_cell hrow 1 rfl; have c2 := blk_cell hrow 2 rfl
  go_wp2_with fail
  refine bodyPost_ret (results_pair rfl _ _ (w.heap.size + 2) _ _ _ rfl (blk_set (blk_set (blk_set hrow 0 _) 1 _) 2 _) Try.underlying23 rfl (by kernel_rfl)) rfl ?_
  exact ⟨rfl, box_fin HY.out _ _ _⟩
set_option maxHeartbeats 1000000 in
theorem rbin_cat_ok (n1 : Int) (s1 : ByteArray) (n2 : Int) (s2 : ByteArray) (nc : Bool) (w : World) (hl : s1.size + s2.size ≤ 1000) (hs1 : s1.size ≤ 1000) (hs2 : s2.size ≤ 1000) :
    Calls Try.prog 30 #[.string ⟨#[124, 124]⟩, .agg #[.int .i64 2, .int .i64 n1, .string s1], .agg #[.int .i64 2, .int .i64 n2, .string s2], .bool nc] w fun e w' => e = .returned (.tuple #[.agg #[.int .i64 2, .int .i64 0, .string (s1 ++ s2)], .int .i64 0]) ∧ Below w.heap.size w w' := by
  obtain ⟨c, hc⟩ : ∃ c, c = cmpV 2 n1 s1 2 n2 s2 nc := ⟨_, rfl⟩
  have HC := Lib.hid hc; have HS1 := Lib.hid (show s1.size ≤ 30000 by omega); have HS2 := Lib.hid (show s2.size ≤ 30000 by omega)
  clear hc
  have HX := Lib.hid (box_new w 2 n1 s1 2 n2 s2)
  go_enter Try.func30, Try.ntmps30
  go_wp2_with fail
  refine (qcompare_any 2 n1 s1 2 n2 s2 nc _ HS1.out HS2.out).mono ?_
  rw [← HC.out]
  rintro e w1 ⟨rfl, hb⟩
  have HY := Lib.hid (box_next (box_next HX.out hb) (blw1 w1 (.cells #[.int .i64 0, .int .i64 0, .string ⟨#[]⟩] 23)))
  have hl1 : w.heap.size + 3 ≤ w1.heap.size := (box_next HX.out hb).size
  clear hb HX
  obtain ⟨a0, a1, a2, b0, b1, b2, hrow, hsz, -⟩ := HY.out
  have f0 := blk_frozen hrow 0; have f1 := blk_frozen hrow 1; have f2 := blk_frozen hrow 2
  have c0 := blk_cell hrow 0 rfl; have c1 := blk_cell hrow 1 rfl; have c2 := blk_cell hrow 2 rfl
  go_wp2_with fail
  refine bodyPost_ret (results_pair rfl _ _ (w.heap.size + 2) _ _ _ rfl (blk_set (blk_set (blk_set hrow 0 _) 1 _) 2 _) Try.underlying23 rfl (by kernel_rfl)) rfl ?_
  exact ⟨rfl, box_fin HY.out _ _ _⟩
end Go.Proofs.Ytadbmjmikoggbaa
