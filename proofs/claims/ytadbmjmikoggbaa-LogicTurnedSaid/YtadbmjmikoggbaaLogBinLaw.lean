/-
  The statement LogicBinary as a walk: it returns true for every input and changes nothing that was there. Conditions: the numbers are ints, the strings have at most 2^47 - 4096 bytes.
-/
import Derived.Test.YtadbmjmikoggbaaLogRefBin
import Derived.Test.YtadbmjmikoggbaaLogGreat
namespace Go.Proofs.Ytadbmjmikoggbaa
open Go.RowKit

theorem two_cases {k1 k2 : Int} (h : k1 ≠ 2 ∨ k2 ≠ 2) : (k1 != 2) = true ∨ (k1 != 2) = false ∧ (k2 != 2) = true := by
  by_cases e : k1 = 2
  · exact .inr ⟨by simpa using e, by simp; omega⟩
  · exact .inl (by simpa using e)
theorem binR_null (op : ByteArray) (k1 n1 : Int) (s1 : ByteArray) (k2 n2 : Int) (s2 : ByteArray) (nc : Bool) (hc : classZ op ≠ 0) (hk : k1 = 0 ∨ k2 = 0) : binR op k1 n1 s1 k2 n2 s2 nc = ⟨0, 0, ⟨#[]⟩, 0⟩ := by rw [binR, if_neg hc, if_pos hk]; rfl
theorem binR_cmp (op : ByteArray) (k1 n1 : Int) (s1 : ByteArray) (k2 n2 : Int) (s2 : ByteArray) (nc : Bool) (hc : classZ op = 1) (hk : ¬ (k1 = 0 ∨ k2 = 0)) : binR op k1 n1 s1 k2 n2 s2 nc = ⟨1, if holdsZ op (cmpV k1 n1 s1 k2 n2 s2 nc) then 1 else 0, ⟨#[]⟩, 0⟩ := by rw [binR, if_neg (by omega), if_neg hk, if_pos hc]
theorem binR_num (op : ByteArray) (k1 n1 : Int) (s1 : ByteArray) (k2 n2 : Int) (s2 : ByteArray) (nc : Bool) (hc : classZ op = 2) (hk : ¬ (k1 = 0 ∨ k2 = 0)) : binR op k1 n1 s1 k2 n2 s2 nc = if k1 ≠ 1 ∨ k2 ≠ 1 then nulR 14 else calcR op n1 n2 := by rw [binR, if_neg (by omega), if_neg hk, if_neg (by omega), if_pos hc]
theorem binR_cat (op : ByteArray) (k1 n1 : Int) (s1 : ByteArray) (k2 n2 : Int) (s2 : ByteArray) (nc : Bool) (hc : classZ op = 3) (hk : ¬ (k1 = 0 ∨ k2 = 0)) : binR op k1 n1 s1 k2 n2 s2 nc = catR k1 s1 k2 s2 := by rw [binR, if_neg (by omega), if_neg hk, if_neg (by omega), if_neg (by omega)]
theorem rnum_all (op : ByteArray) (k1 n1 : Int) (s1 : ByteArray) (k2 n2 : Int) (s2 : ByteArray) (w : World) (hop : classZ op = 2) (h1 : -9223372036854775808 ≤ n1 ∧ n1 ≤ 9223372036854775807) (h2 : -9223372036854775808 ≤ n2 ∧ n2 ≤ 9223372036854775807) :
    Calls Try.prog 45 #[.string op, .agg #[.int .i64 k1, .int .i64 n1, .string s1], .agg #[.int .i64 k2, .int .i64 n2, .string s2]] w fun e w' => e = .returned (.tuple #[.agg #[.int .i64 (if k1 ≠ 1 ∨ k2 ≠ 1 then nulR 14 else calcR op n1 n2).k, .int .i64 (if k1 ≠ 1 ∨ k2 ≠ 1 then nulR 14 else calcR op n1 n2).n, .string (if k1 ≠ 1 ∨ k2 ≠ 1 then nulR 14 else calcR op n1 n2).s], .int .i64 (if k1 ≠ 1 ∨ k2 ≠ 1 then nulR 14 else calcR op n1 n2).e]) ∧ Below w.heap.size w w' := by
  by_cases ho : k1 ≠ 1 ∨ k2 ≠ 1
  · rw [if_pos ho]; exact rnum_type op k1 n1 s1 k2 n2 s2 w (one_cases ho)
  · rw [if_neg ho]
    obtain ⟨rfl, rfl⟩ : k1 = 1 ∧ k2 = 1 := by omega
    exact rnum_any op n1 s1 n2 s2 w hop h1 h2
theorem rbin_any (op : ByteArray) (k1 n1 : Int) (s1 : ByteArray) (k2 n2 : Int) (s2 : ByteArray) (nc : Bool) (w : World) (h1 : -9223372036854775808 ≤ n1 ∧ n1 ≤ 9223372036854775807) (h2 : -9223372036854775808 ≤ n2 ∧ n2 ≤ 9223372036854775807) (hs1 : s1.size ≤ 1000) (hs2 : s2.size ≤ 1000) :
    Calls Try.prog 30 #[.string op, .agg #[.int .i64 k1, .int .i64 n1, .string s1], .agg #[.int .i64 k2, .int .i64 n2, .string s2], .bool nc] w fun e w' => e = .returned (.tuple #[.agg #[.int .i64 (binR op k1 n1 s1 k2 n2 s2 nc).k, .int .i64 (binR op k1 n1 s1 k2 n2 s2 nc).n, .string (binR op k1 n1 s1 k2 n2 s2 nc).s], .int .i64 (binR op k1 n1 s1 k2 n2 s2 nc).e]) ∧ Below w.heap.size w w' := by
  rcases op_cases op with h | rfl | rfl | rfl | rfl | rfl | rfl | rfl | rfl | rfl | rfl | rfl | rfl
  · rw [show binR op k1 n1 s1 k2 n2 s2 nc = ⟨0, 0, ⟨#[]⟩, 8⟩ from by rw [binR, if_pos (noOp_class h)]; rfl]
    exact rbin_none op k1 n1 s1 k2 n2 s2 nc w h hs1 hs2
  · by_cases hk : k1 = 0 ∨ k2 = 0
    · rw [binR_null _ _ _ _ _ _ _ _ (by decide) hk]; exact rbin_eq_null k1 n1 s1 k2 n2 s2 nc w _ rfl (nul_cases hk) hs1 hs2
    · rw [binR_cmp _ _ _ _ _ _ _ _ (by decide) hk]
      exact rbin_eq k1 n1 s1 k2 n2 s2 nc w _ (by simp [holdsZ]) (by simp; omega) (by simp; omega) hs1 hs2
  · by_cases hk : k1 = 0 ∨ k2 = 0
    · rw [binR_null _ _ _ _ _ _ _ _ (by decide) hk]; exact rbin_ne_null k1 n1 s1 k2 n2 s2 nc w _ rfl (nul_cases hk) hs1 hs2
    · rw [binR_cmp _ _ _ _ _ _ _ _ (by decide) hk]
      exact rbin_ne k1 n1 s1 k2 n2 s2 nc w _ (by simp [holdsZ]) (by simp; omega) (by simp; omega) hs1 hs2
  · by_cases hk : k1 = 0 ∨ k2 = 0
    · rw [binR_null _ _ _ _ _ _ _ _ (by decide) hk]; exact rbin_lt_null k1 n1 s1 k2 n2 s2 nc w _ rfl (nul_cases hk) hs1 hs2
    · rw [binR_cmp _ _ _ _ _ _ _ _ (by decide) hk]
      exact rbin_lt k1 n1 s1 k2 n2 s2 nc w _ (by simp [holdsZ]) (by simp; omega) (by simp; omega) hs1 hs2
  · by_cases hk : k1 = 0 ∨ k2 = 0
    · rw [binR_null _ _ _ _ _ _ _ _ (by decide) hk]; exact rbin_le_null k1 n1 s1 k2 n2 s2 nc w _ rfl (nul_cases hk) hs1 hs2
    · rw [binR_cmp _ _ _ _ _ _ _ _ (by decide) hk]
      exact rbin_le k1 n1 s1 k2 n2 s2 nc w _ (by simp [holdsZ]) (by simp; omega) (by simp; omega) hs1 hs2
  · by_cases hk : k1 = 0 ∨ k2 = 0
    · rw [binR_null _ _ _ _ _ _ _ _ (by decide) hk]; exact rbin_gt_null k1 n1 s1 k2 n2 s2 nc w _ rfl (nul_cases hk) hs1 hs2
    · rw [binR_cmp _ _ _ _ _ _ _ _ (by decide) hk]
      exact rbin_gt k1 n1 s1 k2 n2 s2 nc w _ (by simp [holdsZ]) (by simp; omega) (by simp; omega) hs1 hs2
  · by_cases hk : k1 = 0 ∨ k2 = 0
    · rw [binR_null _ _ _ _ _ _ _ _ (by decide) hk]; exact rbin_ge_null k1 n1 s1 k2 n2 s2 nc w _ rfl (nul_cases hk) hs1 hs2
    · rw [binR_cmp _ _ _ _ _ _ _ _ (by decide) hk]
      exact rbin_ge k1 n1 s1 k2 n2 s2 nc w _ (by simp [holdsZ]) (by simp; omega) (by simp; omega) hs1 hs2
  · by_cases hk : k1 = 0 ∨ k2 = 0
    · rw [binR_null _ _ _ _ _ _ _ _ (by decide) hk]; exact rbin_add_null k1 n1 s1 k2 n2 s2 nc w (nul_cases hk) hs1 hs2
    · rw [binR_num _ _ _ _ _ _ _ _ (by decide) hk]
      exact rbin_add k1 n1 s1 k2 n2 s2 nc w _ (fun w => rnum_all _ k1 n1 s1 k2 n2 s2 w (by decide) h1 h2) (by simp; omega) (by simp; omega) hs1 hs2
  · by_cases hk : k1 = 0 ∨ k2 = 0
    · rw [binR_null _ _ _ _ _ _ _ _ (by decide) hk]; exact rbin_sub_null k1 n1 s1 k2 n2 s2 nc w (nul_cases hk) hs1 hs2
    · rw [binR_num _ _ _ _ _ _ _ _ (by decide) hk]
      exact rbin_sub k1 n1 s1 k2 n2 s2 nc w _ (fun w => rnum_all _ k1 n1 s1 k2 n2 s2 w (by decide) h1 h2) (by simp; omega) (by simp; omega) hs1 hs2
  · by_cases hk : k1 = 0 ∨ k2 = 0
    · rw [binR_null _ _ _ _ _ _ _ _ (by decide) hk]; exact rbin_mul_null k1 n1 s1 k2 n2 s2 nc w (nul_cases hk) hs1 hs2
    · rw [binR_num _ _ _ _ _ _ _ _ (by decide) hk]
      exact rbin_mul k1 n1 s1 k2 n2 s2 nc w _ (fun w => rnum_all _ k1 n1 s1 k2 n2 s2 w (by decide) h1 h2) (by simp; omega) (by simp; omega) hs1 hs2
  · by_cases hk : k1 = 0 ∨ k2 = 0
    · rw [binR_null _ _ _ _ _ _ _ _ (by decide) hk]; exact rbin_div_null k1 n1 s1 k2 n2 s2 nc w (nul_cases hk) hs1 hs2
    · rw [binR_num _ _ _ _ _ _ _ _ (by decide) hk]
      exact rbin_div k1 n1 s1 k2 n2 s2 nc w _ (fun w => rnum_all _ k1 n1 s1 k2 n2 s2 w (by decide) h1 h2) (by simp; omega) (by simp; omega) hs1 hs2
  · by_cases hk : k1 = 0 ∨ k2 = 0
    · rw [binR_null _ _ _ _ _ _ _ _ (by decide) hk]; exact rbin_rem_null k1 n1 s1 k2 n2 s2 nc w (nul_cases hk) hs1 hs2
    · rw [binR_num _ _ _ _ _ _ _ _ (by decide) hk]
      exact rbin_rem k1 n1 s1 k2 n2 s2 nc w _ (fun w => rnum_all _ k1 n1 s1 k2 n2 s2 w (by decide) h1 h2) (by simp; omega) (by simp; omega) hs1 hs2
  · by_cases hk : k1 = 0 ∨ k2 = 0
    · rw [binR_null _ _ _ _ _ _ _ _ (by decide) hk]; exact rbin_cat_null k1 n1 s1 k2 n2 s2 nc w (nul_cases hk) hs1 hs2
    · rw [binR_cat _ _ _ _ _ _ _ _ (by decide) hk]
      by_cases h22 : k1 ≠ 2 ∨ k2 ≠ 2
      · rw [show catR k1 s1 k2 s2 = ⟨0, 0, ⟨#[]⟩, 14⟩ from by rw [catR, if_pos h22]; rfl]
        exact rbin_cat_type k1 n1 s1 k2 n2 s2 nc w (by simp; omega) (by simp; omega) (two_cases h22) hs1 hs2
      · obtain ⟨rfl, rfl⟩ : k1 = 2 ∧ k2 = 2 := by omega
        by_cases hl : 1000 < s1.size + s2.size
        · rw [show catR 2 s1 2 s2 = ⟨0, 0, ⟨#[]⟩, 12⟩ from by rw [catR, if_neg h22, if_pos hl]; rfl]
          exact rbin_cat_long n1 s1 n2 s2 nc w hl hs1 hs2
        · rw [show catR 2 s1 2 s2 = ⟨2, 0, s1 ++ s2, 0⟩ from by rw [catR, if_neg h22, if_neg hl]]
          exact rbin_cat_ok n1 s1 n2 s2 nc w (by omega) hs1 hs2
theorem check_size {k n : Int} {s : ByteArray} (h : checkZ k n s = 0) : s.size ≤ 1000 := by
  unfold checkZ at h; split at h
  · omega
  · split at h <;> omega
set_option maxRecDepth 100000 in
set_option maxHeartbeats 2000000 in
theorem binlaw_great (op : ByteArray) (k1 n1 : Int) (s1 : ByteArray) (k2 n2 : Int) (s2 : ByteArray) (nc : Bool) (w : World) (h1 : -9223372036854775808 ≤ n1 ∧ n1 ≤ 9223372036854775807) (h2 : -9223372036854775808 ≤ n2 ∧ n2 ≤ 9223372036854775807) (hs1 : s1.size ≤ 140737488351232) (hs2 : s2.size ≤ 140737488351232) (hg : greatB s1 s2 = true) :
    Calls Try.prog 5 #[.string op, .agg #[.int .i64 k1, .int .i64 n1, .string s1], .agg #[.int .i64 k2, .int .i64 n2, .string s2], .bool nc] w fun e w' => e = .returned (.bool true) ∧ Below w.heap.size w w' := by
    have HG := Lib.hid hg; clear hg
    have HS1 := Lib.hid hs1; have HS2 := Lib.hid hs2; have HN1 := Lib.hid h1; have HN2 := Lib.hid h2
    clear hs1 hs2 h1 h2
    have HW := Lib.hid (Below.refl w.heap.size w)
    have HXx := Lib.hid (blk_new w 23 #[.int .i64 k1, .int .i64 n1, .string s1])
    replace HW := Lib.hid (blw_al HW.out (.cells #[.int .i64 k1, .int .i64 n1, .string s1] 23))
    replace HXx := Lib.hid (blk_alloc HXx.out (.cells #[.int .i64 k2, .int .i64 n2, .string s2] 23))
    have HXy := Lib.hid (show Blk ((w.alloc (.cells #[.int .i64 k1, .int .i64 n1, .string s1] 23)).alloc (.cells #[.int .i64 k2, .int .i64 n2, .string s2] 23)) (w.heap.size + 1) 23 #[.int .i64 k2, .int .i64 n2, .string s2] from blk_at (by simp))
    replace HW := Lib.hid (blw_al HW.out (.cells #[.int .i64 k2, .int .i64 n2, .string s2] 23))
    replace HXx := Lib.hid (blk_alloc HXx.out (.cells #[.int .i64 k1, .int .i64 n1, .string s1, .int .i64 k2, .int .i64 n2, .string s2] 23))
    replace HXy := Lib.hid (blk_alloc HXy.out (.cells #[.int .i64 k1, .int .i64 n1, .string s1, .int .i64 k2, .int .i64 n2, .string s2] 23))
    replace HW := Lib.hid (blw_al HW.out (.cells #[.int .i64 k1, .int .i64 n1, .string s1, .int .i64 k2, .int .i64 n2, .string s2] 23))
    go_enter Try.func5, Try.ntmps5
    go_wp2_with fail
    refine (great2_any _ _ _ k1 n1 s1 k2 n2 s2 _ (blk_at (by simp)) HS1.out HS2.out).mono ?_
    rw [HG.out]
    rintro e' w1 ⟨rfl, rfl⟩
    go_wp2_with fail
    go_ret
    exact ⟨rfl, HW.out⟩
set_option maxRecDepth 100000 in
set_option maxHeartbeats 2000000 in
theorem binlaw_c1 (op : ByteArray) (k1 n1 : Int) (s1 : ByteArray) (k2 n2 : Int) (s2 : ByteArray) (nc : Bool) (w : World) (h1 : -9223372036854775808 ≤ n1 ∧ n1 ≤ 9223372036854775807) (h2 : -9223372036854775808 ≤ n2 ∧ n2 ≤ 9223372036854775807) (hs1 : s1.size ≤ 140737488351232) (hs2 : s2.size ≤ 140737488351232) (hg : greatB s1 s2 = false) (c : Int) (hc : c = checkZ k1 n1 s1) (tc : (c != 0) = true) :
    Calls Try.prog 5 #[.string op, .agg #[.int .i64 k1, .int .i64 n1, .string s1], .agg #[.int .i64 k2, .int .i64 n2, .string s2], .bool nc] w fun e w' => e = .returned (.bool true) ∧ Below w.heap.size w w' := by
    have HG := Lib.hid hg; have HC1 := Lib.hid hc; clear hg hc
    have HS1 := Lib.hid hs1; have HS2 := Lib.hid hs2; have HN1 := Lib.hid h1; have HN2 := Lib.hid h2
    clear hs1 hs2 h1 h2
    have HW := Lib.hid (Below.refl w.heap.size w)
    have HXx := Lib.hid (blk_new w 23 #[.int .i64 k1, .int .i64 n1, .string s1])
    replace HW := Lib.hid (blw_al HW.out (.cells #[.int .i64 k1, .int .i64 n1, .string s1] 23))
    replace HXx := Lib.hid (blk_alloc HXx.out (.cells #[.int .i64 k2, .int .i64 n2, .string s2] 23))
    have HXy := Lib.hid (show Blk ((w.alloc (.cells #[.int .i64 k1, .int .i64 n1, .string s1] 23)).alloc (.cells #[.int .i64 k2, .int .i64 n2, .string s2] 23)) (w.heap.size + 1) 23 #[.int .i64 k2, .int .i64 n2, .string s2] from blk_at (by simp))
    replace HW := Lib.hid (blw_al HW.out (.cells #[.int .i64 k2, .int .i64 n2, .string s2] 23))
    replace HXx := Lib.hid (blk_alloc HXx.out (.cells #[.int .i64 k1, .int .i64 n1, .string s1, .int .i64 k2, .int .i64 n2, .string s2] 23))
    replace HXy := Lib.hid (blk_alloc HXy.out (.cells #[.int .i64 k1, .int .i64 n1, .string s1, .int .i64 k2, .int .i64 n2, .string s2] 23))
    replace HW := Lib.hid (blw_al HW.out (.cells #[.int .i64 k1, .int .i64 n1, .string s1, .int .i64 k2, .int .i64 n2, .string s2] 23))
    go_enter Try.func5, Try.ntmps5
    go_wp2_with fail
    refine (great2_any _ _ _ k1 n1 s1 k2 n2 s2 _ (blk_at (by simp)) HS1.out HS2.out).mono ?_
    rw [HG.out]
    rintro e' w1 ⟨rfl, rfl⟩
    have x0 := blk_cell HXx.out 0 rfl
    have x1 := blk_cell HXx.out 1 rfl
    have x2 := blk_cell HXx.out 2 rfl
    go_wp2_with fail
    refine (qcheck_any k1 n1 s1 _ (by have := HS1.out; omega)).mono ?_
    rw [← HC1.out]
    rintro e' w2 ⟨rfl, b⟩
    replace HW := Lib.hid (blw_on HW.out b)
    replace HXx := Lib.hid (blk_below HXx.out b)
    replace HXy := Lib.hid (blk_below HXy.out b)
    clear x0 x1 x2
    clear b
    go_wp2_with fail
    go_ret
    exact ⟨rfl, HW.out⟩
set_option maxRecDepth 100000 in
set_option maxHeartbeats 2000000 in
theorem binlaw_c2 (op : ByteArray) (k1 n1 : Int) (s1 : ByteArray) (k2 n2 : Int) (s2 : ByteArray) (nc : Bool) (w : World) (h1 : -9223372036854775808 ≤ n1 ∧ n1 ≤ 9223372036854775807) (h2 : -9223372036854775808 ≤ n2 ∧ n2 ≤ 9223372036854775807) (hs1 : s1.size ≤ 140737488351232) (hs2 : s2.size ≤ 140737488351232) (hg : greatB s1 s2 = false) (hc : 0 = checkZ k1 n1 s1) (d : Int) (hd : d = checkZ k2 n2 s2) (td : (d != 0) = true) :
    Calls Try.prog 5 #[.string op, .agg #[.int .i64 k1, .int .i64 n1, .string s1], .agg #[.int .i64 k2, .int .i64 n2, .string s2], .bool nc] w fun e w' => e = .returned (.bool true) ∧ Below w.heap.size w w' := by
    have HG := Lib.hid hg; have HC1 := Lib.hid hc; have HC2 := Lib.hid hd; clear hg hc hd
    have HS1 := Lib.hid hs1; have HS2 := Lib.hid hs2; have HN1 := Lib.hid h1; have HN2 := Lib.hid h2
    clear hs1 hs2 h1 h2
    have HW := Lib.hid (Below.refl w.heap.size w)
    have HXx := Lib.hid (blk_new w 23 #[.int .i64 k1, .int .i64 n1, .string s1])
    replace HW := Lib.hid (blw_al HW.out (.cells #[.int .i64 k1, .int .i64 n1, .string s1] 23))
    replace HXx := Lib.hid (blk_alloc HXx.out (.cells #[.int .i64 k2, .int .i64 n2, .string s2] 23))
    have HXy := Lib.hid (show Blk ((w.alloc (.cells #[.int .i64 k1, .int .i64 n1, .string s1] 23)).alloc (.cells #[.int .i64 k2, .int .i64 n2, .string s2] 23)) (w.heap.size + 1) 23 #[.int .i64 k2, .int .i64 n2, .string s2] from blk_at (by simp))
    replace HW := Lib.hid (blw_al HW.out (.cells #[.int .i64 k2, .int .i64 n2, .string s2] 23))
    replace HXx := Lib.hid (blk_alloc HXx.out (.cells #[.int .i64 k1, .int .i64 n1, .string s1, .int .i64 k2, .int .i64 n2, .string s2] 23))
    replace HXy := Lib.hid (blk_alloc HXy.out (.cells #[.int .i64 k1, .int .i64 n1, .string s1, .int .i64 k2, .int .i64 n2, .string s2] 23))
    replace HW := Lib.hid (blw_al HW.out (.cells #[.int .i64 k1, .int .i64 n1, .string s1, .int .i64 k2, .int .i64 n2, .string s2] 23))
    go_enter Try.func5, Try.ntmps5
    go_wp2_with fail
    refine (great2_any _ _ _ k1 n1 s1 k2 n2 s2 _ (blk_at (by simp)) HS1.out HS2.out).mono ?_
    rw [HG.out]
    rintro e' w1 ⟨rfl, rfl⟩
    have x0 := blk_cell HXx.out 0 rfl
    have x1 := blk_cell HXx.out 1 rfl
    have x2 := blk_cell HXx.out 2 rfl
    go_wp2_with fail
    refine (qcheck_any k1 n1 s1 _ (by have := HS1.out; omega)).mono ?_
    rw [← HC1.out]
    rintro e' w2 ⟨rfl, b⟩
    replace HW := Lib.hid (blw_on HW.out b)
    replace HXx := Lib.hid (blk_below HXx.out b)
    replace HXy := Lib.hid (blk_below HXy.out b)
    clear x0 x1 x2
    clear b
    have y0 := blk_cell HXy.out 0 rfl
    have y1 := blk_cell HXy.out 1 rfl
    have y2 := blk_cell HXy.out 2 rfl
    go_wp2_with fail
    refine (qcheck_any k2 n2 s2 _ (by have := HS2.out; omega)).mono ?_
    rw [← HC2.out]
    rintro e' w3 ⟨rfl, b⟩
    replace HW := Lib.hid (blw_on HW.out b)
    replace HXx := Lib.hid (blk_below HXx.out b)
    replace HXy := Lib.hid (blk_below HXy.out b)
    clear y0 y1 y2
    clear b
    go_wp2_with fail
    go_ret
    exact ⟨rfl, HW.out⟩
set_option maxRecDepth 100000 in
set_option maxHeartbeats 2000000 in
theorem binlaw_ok (op : ByteArray) (k1 n1 : Int) (s1 : ByteArray) (k2 n2 : Int) (s2 : ByteArray) (nc : Bool) (w : World) (h1 : -9223372036854775808 ≤ n1 ∧ n1 ≤ 9223372036854775807) (h2 : -9223372036854775808 ≤ n2 ∧ n2 ≤ 9223372036854775807) (hs1 : s1.size ≤ 140737488351232) (hs2 : s2.size ≤ 140737488351232) (hg : greatB s1 s2 = false) (hc : 0 = checkZ k1 n1 s1) (hd : 0 = checkZ k2 n2 s2) :
    Calls Try.prog 5 #[.string op, .agg #[.int .i64 k1, .int .i64 n1, .string s1], .agg #[.int .i64 k2, .int .i64 n2, .string s2], .bool nc] w fun e w' => e = .returned (.bool true) ∧ Below w.heap.size w w' := by
    have HT1 := Lib.hid (check_size hc.symm); have HT2 := Lib.hid (check_size hd.symm)
    have HG := Lib.hid hg; have HC1 := Lib.hid hc; have HC2 := Lib.hid hd; clear hg hc hd
    obtain ⟨r, hr⟩ : ∃ r, r = binR op k1 n1 s1 k2 n2 s2 nc := ⟨_, rfl⟩
    have HR := Lib.hid hr; clear hr
    have heq := run_eqlS r.k r.n r.s
    have hgd := guardV
    have HS1 := Lib.hid hs1; have HS2 := Lib.hid hs2; have HN1 := Lib.hid h1; have HN2 := Lib.hid h2
    clear hs1 hs2 h1 h2
    have HW := Lib.hid (Below.refl w.heap.size w)
    have HXx := Lib.hid (blk_new w 23 #[.int .i64 k1, .int .i64 n1, .string s1])
    replace HW := Lib.hid (blw_al HW.out (.cells #[.int .i64 k1, .int .i64 n1, .string s1] 23))
    replace HXx := Lib.hid (blk_alloc HXx.out (.cells #[.int .i64 k2, .int .i64 n2, .string s2] 23))
    have HXy := Lib.hid (show Blk ((w.alloc (.cells #[.int .i64 k1, .int .i64 n1, .string s1] 23)).alloc (.cells #[.int .i64 k2, .int .i64 n2, .string s2] 23)) (w.heap.size + 1) 23 #[.int .i64 k2, .int .i64 n2, .string s2] from blk_at (by simp))
    replace HW := Lib.hid (blw_al HW.out (.cells #[.int .i64 k2, .int .i64 n2, .string s2] 23))
    replace HXx := Lib.hid (blk_alloc HXx.out (.cells #[.int .i64 k1, .int .i64 n1, .string s1, .int .i64 k2, .int .i64 n2, .string s2] 23))
    replace HXy := Lib.hid (blk_alloc HXy.out (.cells #[.int .i64 k1, .int .i64 n1, .string s1, .int .i64 k2, .int .i64 n2, .string s2] 23))
    replace HW := Lib.hid (blw_al HW.out (.cells #[.int .i64 k1, .int .i64 n1, .string s1, .int .i64 k2, .int .i64 n2, .string s2] 23))
    go_enter Try.func5, Try.ntmps5
    go_wp2_with fail
    refine (great2_any _ _ _ k1 n1 s1 k2 n2 s2 _ (blk_at (by simp)) HS1.out HS2.out).mono ?_
    rw [HG.out]
    rintro e' w1 ⟨rfl, rfl⟩
    have x0 := blk_cell HXx.out 0 rfl
    have x1 := blk_cell HXx.out 1 rfl
    have x2 := blk_cell HXx.out 2 rfl
    go_wp2_with fail
    refine (qcheck_any k1 n1 s1 _ (by have := HS1.out; omega)).mono ?_
    rw [← HC1.out]
    rintro e' w2 ⟨rfl, b⟩
    replace HW := Lib.hid (blw_on HW.out b)
    replace HXx := Lib.hid (blk_below HXx.out b)
    replace HXy := Lib.hid (blk_below HXy.out b)
    clear x0 x1 x2
    clear b
    have y0 := blk_cell HXy.out 0 rfl
    have y1 := blk_cell HXy.out 1 rfl
    have y2 := blk_cell HXy.out 2 rfl
    go_wp2_with fail
    refine (qcheck_any k2 n2 s2 _ (by have := HS2.out; omega)).mono ?_
    rw [← HC2.out]
    rintro e' w3 ⟨rfl, b⟩
    replace HW := Lib.hid (blw_on HW.out b)
    replace HXx := Lib.hid (blk_below HXx.out b)
    replace HXy := Lib.hid (blk_below HXy.out b)
    clear y0 y1 y2
    clear b
    have x0 := blk_cell HXx.out 0 rfl
    have x1 := blk_cell HXx.out 1 rfl
    have x2 := blk_cell HXx.out 2 rfl
    have y0 := blk_cell HXy.out 0 rfl
    have y1 := blk_cell HXy.out 1 rfl
    have y2 := blk_cell HXy.out 2 rfl
    go_wp2_with fail
    refine (bin_any op k1 n1 s1 k2 n2 s2 nc _ HN1.out HN2.out HS1.out HS2.out).mono ?_
    rw [← HR.out]
    rintro e' w4 ⟨rfl, b⟩
    replace HW := Lib.hid (blw_on HW.out b)
    replace HXx := Lib.hid (blk_below HXx.out b)
    replace HXy := Lib.hid (blk_below HXy.out b)
    clear x0 x1 x2 y0 y1 y2
    clear b
    replace HXx := Lib.hid (blk_alloc HXx.out (.cells #[.int .i64 r.k, .int .i64 r.n, .string r.s] 23))
    replace HXy := Lib.hid (blk_alloc HXy.out (.cells #[.int .i64 r.k, .int .i64 r.n, .string r.s] 23))
    have HXp := Lib.hid (blk_new w4 23 #[.int .i64 r.k, .int .i64 r.n, .string r.s])
    replace HW := Lib.hid (blw_al HW.out (.cells #[.int .i64 r.k, .int .i64 r.n, .string r.s] 23))
    have x0 := blk_cell HXx.out 0 rfl
    have x1 := blk_cell HXx.out 1 rfl
    have x2 := blk_cell HXx.out 2 rfl
    have y0 := blk_cell HXy.out 0 rfl
    have y1 := blk_cell HXy.out 1 rfl
    have y2 := blk_cell HXy.out 2 rfl
    go_wp2_with fail
    refine (rbin_any op k1 n1 s1 k2 n2 s2 nc _ HN1.out HN2.out HT1.out HT2.out).mono ?_
    rw [← HR.out]
    rintro e' w5 ⟨rfl, b⟩
    replace HW := Lib.hid (blw_on HW.out b)
    replace HXx := Lib.hid (blk_below HXx.out b)
    replace HXy := Lib.hid (blk_below HXy.out b)
    replace HXp := Lib.hid (blk_below HXp.out b)
    clear x0 x1 x2 y0 y1 y2
    clear b
    replace HXx := Lib.hid (blk_alloc HXx.out (.cells #[.int .i64 r.k, .int .i64 r.n, .string r.s] 23))
    replace HXy := Lib.hid (blk_alloc HXy.out (.cells #[.int .i64 r.k, .int .i64 r.n, .string r.s] 23))
    replace HXp := Lib.hid (blk_alloc HXp.out (.cells #[.int .i64 r.k, .int .i64 r.n, .string r.s] 23))
    have HXq := Lib.hid (blk_new w5 23 #[.int .i64 r.k, .int .i64 r.n, .string r.s])
    replace HW := Lib.hid (blw_al HW.out (.cells #[.int .i64 r.k, .int .i64 r.n, .string r.s] 23))
    have p0 := blk_cell HXp.out 0 rfl
    have p1 := blk_cell HXp.out 1 rfl
    have p2 := blk_cell HXp.out 2 rfl
    have q0 := blk_cell HXq.out 0 rfl
    have q1 := blk_cell HXq.out 1 rfl
    have q2 := blk_cell HXq.out 2 rfl
    go_wp2_with fail
    refine (works6_any _).mono ?_
    rintro e' w6 ⟨rfl, b⟩
    replace HW := Lib.hid (blw_on HW.out b)
    replace HXx := Lib.hid (blk_below HXx.out b)
    replace HXy := Lib.hid (blk_below HXy.out b)
    replace HXp := Lib.hid (blk_below HXp.out b)
    replace HXq := Lib.hid (blk_below HXq.out b)
    clear p0 p1 p2 q0 q1 q2
    clear b
    go_wp2_with fail
    go_ret
    exact ⟨rfl, HW.out⟩
theorem binlaw_any (op : ByteArray) (k1 n1 : Int) (s1 : ByteArray) (k2 n2 : Int) (s2 : ByteArray) (nc : Bool) (w : World) (h1 : -9223372036854775808 ≤ n1 ∧ n1 ≤ 9223372036854775807) (h2 : -9223372036854775808 ≤ n2 ∧ n2 ≤ 9223372036854775807) (hs1 : s1.size ≤ 140737488351232) (hs2 : s2.size ≤ 140737488351232) :
    Calls Try.prog 5 #[.string op, .agg #[.int .i64 k1, .int .i64 n1, .string s1], .agg #[.int .i64 k2, .int .i64 n2, .string s2], .bool nc] w fun e w' => e = .returned (.bool true) ∧ Below w.heap.size w w' := by
  rcases hg : greatB s1 s2 with _ | _
  · by_cases c1 : checkZ k1 n1 s1 = 0
    · by_cases c2 : checkZ k2 n2 s2 = 0
      · exact binlaw_ok op k1 n1 s1 k2 n2 s2 nc w h1 h2 hs1 hs2 hg c1.symm c2.symm
      · exact binlaw_c2 op k1 n1 s1 k2 n2 s2 nc w h1 h2 hs1 hs2 hg c1.symm _ rfl (by simpa using c2)
    · exact binlaw_c1 op k1 n1 s1 k2 n2 s2 nc w h1 h2 hs1 hs2 hg _ rfl (by simpa using c1)
  · exact binlaw_great op k1 n1 s1 k2 n2 s2 nc w h1 h2 hs1 hs2 hg
end Go.Proofs.Ytadbmjmikoggbaa
