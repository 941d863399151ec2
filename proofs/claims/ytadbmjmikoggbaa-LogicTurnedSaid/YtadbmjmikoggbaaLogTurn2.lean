/-
  The statement LogicTurned as a walk: it returns true for every input and changes nothing that was there. Conditions: the numbers are ints, the strings have at most 2^47 - 4096 bytes.
-/
import Derived.Test.YtadbmjmikoggbaaLogTurn1
namespace Go.Proofs.Ytadbmjmikoggbaa
open Go.RowKit

set_option maxRecDepth 100000 in
set_option maxHeartbeats 2000000 in
theorem turned_great (k1 n1 : Int) (s1 : ByteArray) (k2 n2 : Int) (s2 : ByteArray) (nc : Bool) (w : World) (hs1 : s1.size ≤ 140737488351232) (hs2 : s2.size ≤ 140737488351232) (hg : greatB s1 s2 = true) :
    Calls Try.prog 6 #[.agg #[.int .i64 k1, .int .i64 n1, .string s1], .agg #[.int .i64 k2, .int .i64 n2, .string s2], .bool nc] w fun e w' => e = .returned (.bool true) ∧ Below w.heap.size w w' := by
  have HG := Lib.hid hg; clear hg
  have HS1 := Lib.hid hs1; have HS2 := Lib.hid hs2; clear hs1 hs2
  have HW := Lib.hid (Below.refl w.heap.size w)
  have HXx := Lib.hid (blk_new w 23 #[.int .i64 k1, .int .i64 n1, .string s1])
  replace HW := Lib.hid (blw_al HW.out (.cells #[.int .i64 k1, .int .i64 n1, .string s1] 23))
  replace HXx := Lib.hid (blk_alloc HXx.out (.cells #[.int .i64 k2, .int .i64 n2, .string s2] 23))
  have HXy := Lib.hid (show Blk ((w.alloc (.cells #[.int .i64 k1, .int .i64 n1, .string s1] 23)).alloc (.cells #[.int .i64 k2, .int .i64 n2, .string s2] 23)) (w.heap.size + 1) 23 #[.int .i64 k2, .int .i64 n2, .string s2] from blk_at (by simp))
  replace HW := Lib.hid (blw_al HW.out (.cells #[.int .i64 k2, .int .i64 n2, .string s2] 23))
  go_enter Try.func6, Try.ntmps6
  go_wp2_with fail
  refine (works6_any _).mono ?_
  rintro e w0 ⟨rfl, b⟩
  replace HW := Lib.hid (blw_on HW.out b)
  replace HXx := Lib.hid (blk_below HXx.out b)
  replace HXy := Lib.hid (blk_below HXy.out b)
  clear b
  have x0 := blk_cell HXx.out 0 rfl; have x1 := blk_cell HXx.out 1 rfl; have x2 := blk_cell HXx.out 2 rfl
  have y0 := blk_cell HXy.out 0 rfl; have y1 := blk_cell HXy.out 1 rfl; have y2 := blk_cell HXy.out 2 rfl
  go_wp2_with fail
  refine (great2_any _ _ _ k1 n1 s1 k2 n2 s2 _ (blk_new _ _ _) HS1.out HS2.out).mono ?_
  rw [HG.out]
  rintro e w1 ⟨rfl, rfl⟩
  replace HW := Lib.hid (blw_al HW.out (.cells #[.int .i64 k1, .int .i64 n1, .string s1, .int .i64 k2, .int .i64 n2, .string s2] 23))
  go_wp2_with fail
  go_ret
  exact ⟨rfl, HW.out⟩
set_option maxRecDepth 100000 in
set_option maxHeartbeats 2000000 in
theorem turned_c1 (k1 n1 : Int) (s1 : ByteArray) (k2 n2 : Int) (s2 : ByteArray) (nc : Bool) (w : World) (hs1 : s1.size ≤ 140737488351232) (hs2 : s2.size ≤ 140737488351232) (hg : greatB s1 s2 = false) (c : Int) (hc : c = checkZ k1 n1 s1) (tc : (c != 0) = true) :
    Calls Try.prog 6 #[.agg #[.int .i64 k1, .int .i64 n1, .string s1], .agg #[.int .i64 k2, .int .i64 n2, .string s2], .bool nc] w fun e w' => e = .returned (.bool true) ∧ Below w.heap.size w w' := by
  have HG := Lib.hid hg; have HC1 := Lib.hid hc; clear hg hc
  have HS1 := Lib.hid hs1; have HS2 := Lib.hid hs2; clear hs1 hs2
  have HW := Lib.hid (Below.refl w.heap.size w)
  have HXx := Lib.hid (blk_new w 23 #[.int .i64 k1, .int .i64 n1, .string s1])
  replace HW := Lib.hid (blw_al HW.out (.cells #[.int .i64 k1, .int .i64 n1, .string s1] 23))
  replace HXx := Lib.hid (blk_alloc HXx.out (.cells #[.int .i64 k2, .int .i64 n2, .string s2] 23))
  have HXy := Lib.hid (show Blk ((w.alloc (.cells #[.int .i64 k1, .int .i64 n1, .string s1] 23)).alloc (.cells #[.int .i64 k2, .int .i64 n2, .string s2] 23)) (w.heap.size + 1) 23 #[.int .i64 k2, .int .i64 n2, .string s2] from blk_at (by simp))
  replace HW := Lib.hid (blw_al HW.out (.cells #[.int .i64 k2, .int .i64 n2, .string s2] 23))
  go_enter Try.func6, Try.ntmps6
  go_wp2_with fail
  refine (works6_any _).mono ?_
  rintro e w0 ⟨rfl, b⟩
  replace HW := Lib.hid (blw_on HW.out b)
  replace HXx := Lib.hid (blk_below HXx.out b)
  replace HXy := Lib.hid (blk_below HXy.out b)
  clear b
  have x0 := blk_cell HXx.out 0 rfl; have x1 := blk_cell HXx.out 1 rfl; have x2 := blk_cell HXx.out 2 rfl
  have y0 := blk_cell HXy.out 0 rfl; have y1 := blk_cell HXy.out 1 rfl; have y2 := blk_cell HXy.out 2 rfl
  go_wp2_with fail
  refine (great2_any _ _ _ k1 n1 s1 k2 n2 s2 _ (blk_new _ _ _) HS1.out HS2.out).mono ?_
  rw [HG.out]
  rintro e w1 ⟨rfl, rfl⟩
  clear x0 x1 x2 y0 y1 y2
  replace HXx := Lib.hid (blk_alloc HXx.out (.cells #[.int .i64 k1, .int .i64 n1, .string s1, .int .i64 k2, .int .i64 n2, .string s2] 23))
  replace HXy := Lib.hid (blk_alloc HXy.out (.cells #[.int .i64 k1, .int .i64 n1, .string s1, .int .i64 k2, .int .i64 n2, .string s2] 23))
  replace HW := Lib.hid (blw_al HW.out (.cells #[.int .i64 k1, .int .i64 n1, .string s1, .int .i64 k2, .int .i64 n2, .string s2] 23))
  have x0 := blk_cell HXx.out 0 rfl; have x1 := blk_cell HXx.out 1 rfl; have x2 := blk_cell HXx.out 2 rfl
  go_wp2_with fail
  refine (qcheck_any k1 n1 s1 _ (by have := HS1.out; omega)).mono ?_
  rw [← HC1.out]
  rintro e w2 ⟨rfl, b⟩
  replace HW := Lib.hid (blw_on HW.out b)
  clear b
  go_wp2_with fail
  go_ret
  exact ⟨rfl, HW.out⟩
set_option maxRecDepth 100000 in
set_option maxHeartbeats 2000000 in
theorem turned_c2 (k1 n1 : Int) (s1 : ByteArray) (k2 n2 : Int) (s2 : ByteArray) (nc : Bool) (w : World) (hs1 : s1.size ≤ 140737488351232) (hs2 : s2.size ≤ 140737488351232) (hg : greatB s1 s2 = false) (hc : 0 = checkZ k1 n1 s1) (d : Int) (hd : d = checkZ k2 n2 s2) (td : (d != 0) = true) :
    Calls Try.prog 6 #[.agg #[.int .i64 k1, .int .i64 n1, .string s1], .agg #[.int .i64 k2, .int .i64 n2, .string s2], .bool nc] w fun e w' => e = .returned (.bool true) ∧ Below w.heap.size w w' := by
  have HG := Lib.hid hg; have HC1 := Lib.hid hc; have HC2 := Lib.hid hd; clear hg hc hd
  have HS1 := Lib.hid hs1; have HS2 := Lib.hid hs2; clear hs1 hs2
  have HW := Lib.hid (Below.refl w.heap.size w)
  have HXx := Lib.hid (blk_new w 23 #[.int .i64 k1, .int .i64 n1, .string s1])
  replace HW := Lib.hid (blw_al HW.out (.cells #[.int .i64 k1, .int .i64 n1, .string s1] 23))
  replace HXx := Lib.hid (blk_alloc HXx.out (.cells #[.int .i64 k2, .int .i64 n2, .string s2] 23))
  have HXy := Lib.hid (show Blk ((w.alloc (.cells #[.int .i64 k1, .int .i64 n1, .string s1] 23)).alloc (.cells #[.int .i64 k2, .int .i64 n2, .string s2] 23)) (w.heap.size + 1) 23 #[.int .i64 k2, .int .i64 n2, .string s2] from blk_at (by simp))
  replace HW := Lib.hid (blw_al HW.out (.cells #[.int .i64 k2, .int .i64 n2, .string s2] 23))
  go_enter Try.func6, Try.ntmps6
  go_wp2_with fail
  refine (works6_any _).mono ?_
  rintro e w0 ⟨rfl, b⟩
  replace HW := Lib.hid (blw_on HW.out b)
  replace HXx := Lib.hid (blk_below HXx.out b)
  replace HXy := Lib.hid (blk_below HXy.out b)
  clear b
  have x0 := blk_cell HXx.out 0 rfl; have x1 := blk_cell HXx.out 1 rfl; have x2 := blk_cell HXx.out 2 rfl
  have y0 := blk_cell HXy.out 0 rfl; have y1 := blk_cell HXy.out 1 rfl; have y2 := blk_cell HXy.out 2 rfl
  go_wp2_with fail
  refine (great2_any _ _ _ k1 n1 s1 k2 n2 s2 _ (blk_new _ _ _) HS1.out HS2.out).mono ?_
  rw [HG.out]
  rintro e w1 ⟨rfl, rfl⟩
  clear x0 x1 x2 y0 y1 y2
  replace HXx := Lib.hid (blk_alloc HXx.out (.cells #[.int .i64 k1, .int .i64 n1, .string s1, .int .i64 k2, .int .i64 n2, .string s2] 23))
  replace HXy := Lib.hid (blk_alloc HXy.out (.cells #[.int .i64 k1, .int .i64 n1, .string s1, .int .i64 k2, .int .i64 n2, .string s2] 23))
  replace HW := Lib.hid (blw_al HW.out (.cells #[.int .i64 k1, .int .i64 n1, .string s1, .int .i64 k2, .int .i64 n2, .string s2] 23))
  have x0 := blk_cell HXx.out 0 rfl; have x1 := blk_cell HXx.out 1 rfl; have x2 := blk_cell HXx.out 2 rfl
  go_wp2_with fail
  refine (qcheck_any k1 n1 s1 _ (by have := HS1.out; omega)).mono ?_
  rw [← HC1.out]
  rintro e w2 ⟨rfl, b⟩
  replace HW := Lib.hid (blw_on HW.out b)
  replace HXx := Lib.hid (blk_below HXx.out b)
  replace HXy := Lib.hid (blk_below HXy.out b)
  clear b x0 x1 x2
  have y0 := blk_cell HXy.out 0 rfl; have y1 := blk_cell HXy.out 1 rfl; have y2 := blk_cell HXy.out 2 rfl
  go_wp2_with fail
  refine (qcheck_any k2 n2 s2 _ (by have := HS2.out; omega)).mono ?_
  rw [← HC2.out]
  rintro e w3 ⟨rfl, b⟩
  replace HW := Lib.hid (blw_on HW.out b)
  replace HXx := Lib.hid (blk_below HXx.out b)
  replace HXy := Lib.hid (blk_below HXy.out b)
  clear b y0 y1 y2
  go_wp2_with fail
  go_ret
  exact ⟨rfl, HW.out⟩
theorem turned_any (k1 n1 : Int) (s1 : ByteArray) (k2 n2 : Int) (s2 : ByteArray) (nc : Bool) (w : World) (h1 : -9223372036854775808 ≤ n1 ∧ n1 ≤ 9223372036854775807) (h2 : -9223372036854775808 ≤ n2 ∧ n2 ≤ 9223372036854775807) (hs1 : s1.size ≤ 140737488351232) (hs2 : s2.size ≤ 140737488351232) :
    Calls Try.prog 6 #[.agg #[.int .i64 k1, .int .i64 n1, .string s1], .agg #[.int .i64 k2, .int .i64 n2, .string s2], .bool nc] w fun e w' => e = .returned (.bool true) ∧ Below w.heap.size w w' := by
  rcases hg : greatB s1 s2 with _ | _
  · by_cases c1 : checkZ k1 n1 s1 = 0
    · by_cases c2 : checkZ k2 n2 s2 = 0
      · obtain ⟨e1, e2, e3⟩ := turn_lt k1 n1 s1 k2 n2 s2 nc
        obtain ⟨B, hB⟩ : ∃ B, B = binR ⟨#[60]⟩ k1 n1 s1 k2 n2 s2 nc := ⟨_, rfl⟩
        rw [← hB] at e1 e2 e3
        refine turned_t k1 n1 s1 k2 n2 s2 nc w hs1 hs2 hg c1.symm c2.symm (fun i _ => ⟨binR (opsL i) k1 n1 s1 k2 n2 s2 nc, fun W => bin_any (opsL i) k1 n1 s1 k2 n2 s2 nc W h1 h2 hs1 hs2, fun W => ?_⟩) B.k B.n B.e (ofK (notT (truN B.k B.n))) (ofN (notT (truN B.k B.n))) 0 (truN B.k B.n) (truE B.k) (notT (truN B.k B.n)) (fun W => ?_) (fun W => ?_) (fun W => ?_) (fun W => truth_any _ _ _ W) (fun W => not_any _ W) (fun W => lof_any _ W)
        · have h := bin_any (opsL i) k2 n2 s2 k1 n1 s1 nc W h2 h1 hs2 hs1
          rw [turn_op] at h
          exact h
        · have h := bin_any ⟨#[60]⟩ k1 n1 s1 k2 n2 s2 nc W h1 h2 hs1 hs2
          rw [← hB, e2] at h
          exact h
        · have h := bin_any ⟨#[62]⟩ k2 n2 s2 k1 n1 s1 nc W h2 h1 hs2 hs1
          rw [e1, e2] at h
          exact h
        · have h := bin_any ⟨#[62, 61]⟩ k1 n1 s1 k2 n2 s2 nc W h1 h2 hs1 hs2
          rw [e3] at h
          exact h
      · exact turned_c2 k1 n1 s1 k2 n2 s2 nc w hs1 hs2 hg c1.symm _ rfl (by simpa using c2)
    · exact turned_c1 k1 n1 s1 k2 n2 s2 nc w hs1 hs2 hg _ rfl (by simpa using c1)
  · exact turned_great k1 n1 s1 k2 n2 s2 nc w hs1 hs2 hg
end Go.Proofs.Ytadbmjmikoggbaa
