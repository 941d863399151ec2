/-
  Layer 6, the document's pieces of Binary (truth, number): each returns its plain function and changes nothing that was there. Condition: the numbers are ints.
-/
import Derived.Test.YtadbmjmikoggbaaLogBack
namespace Go.Proofs.Ytadbmjmikoggbaa
open Go.RowKit

theorem rtruthV_any (b : Bool) (w : World) : Calls Try.prog 44 #[.bool b] w fun e w' => e = .returned (.agg #[.int .i64 1, .int .i64 (if b then 1 else 0), .string ⟨#[]⟩]) ∧ Below w.heap.size w w' := by
  cases b
  all_goals
    go_enter Try.func44, Try.ntmps44
    go_wp2_with fail
    refine (rof_any _ _).mono ?_
    first | rw [show ofK 0 = 1 from rfl, show ofN 0 = 0 from rfl] | rw [show ofK 1 = 1 from rfl, show ofN 1 = 1 from rfl]
    rintro e w' ⟨rfl, hb⟩
    obtain ⟨hrow, HB⟩ := res_row hb
    clear hb
    have f0 := blk_frozen hrow 0; have f1 := blk_frozen hrow 1; have f2 := blk_frozen hrow 2
    have c0 := blk_cell hrow 0 rfl; have c1 := blk_cell hrow 1 rfl; have c2 := blk_cell hrow 2 rfl
    go_wp2_with fail
    refine bodyPost_ret (results_cell_row rfl _ _ w.heap.size _ _ _ _ rfl (blk_set (blk_set (blk_set hrow 0 _) 1 _) 2 _) Try.underlying23 rfl (by kernel_rfl)) rfl ?_
    exact ⟨rfl, blw_set (blw_set (blw_set HB.out (Nat.le_refl _) _ _) (Nat.le_refl _) _ _) (Nat.le_refl _) _ _⟩
set_option maxHeartbeats 1000000 in
theorem rnum_type (op : ByteArray) (k1 n1 : Int) (s1 : ByteArray) (k2 n2 : Int) (s2 : ByteArray) (w : World) (hk : (k1 != 1) = true ∨ (k1 != 1) = false ∧ (k2 != 1) = true) :
    Calls Try.prog 45 #[.string op, .agg #[.int .i64 k1, .int .i64 n1, .string s1], .agg #[.int .i64 k2, .int .i64 n2, .string s2]] w fun e w' => e = .returned (.tuple #[.agg #[.int .i64 (nulR 14).k, .int .i64 (nulR 14).n, .string (nulR 14).s], .int .i64 (nulR 14).e]) ∧ Below w.heap.size w w' := by
  rcases hk with t1 | ⟨t1, t2⟩
  all_goals
    go_enter Try.func45, Try.ntmps45
    go_wp2
    refine bodyPost_ret (results_pair rfl _ _ (w.heap.size + 2) _ _ _ rfl (blk_at (by simp)) Try.underlying23 rfl (by kernel_rfl)) rfl ?_
    exact ⟨rfl, blw3 _ _ _ _⟩
set_option maxHeartbeats 1000000 in
theorem rnum_add (n1 : Int) (s1 : ByteArray) (n2 : Int) (s2 : ByteArray) (w : World) (h1 : -9223372036854775808 ≤ n1 ∧ n1 ≤ 9223372036854775807) (h2 : -9223372036854775808 ≤ n2 ∧ n2 ≤ 9223372036854775807) :
    Calls Try.prog 45 #[.string ⟨#[43]⟩, .agg #[.int .i64 1, .int .i64 n1, .string s1], .agg #[.int .i64 1, .int .i64 n2, .string s2]] w fun e w' => e = .returned (.tuple #[.agg #[.int .i64 (fitR (n1 + n2)).k, .int .i64 (fitR (n1 + n2)).n, .string (fitR (n1 + n2)).s], .int .i64 (fitR (n1 + n2)).e]) ∧ Below w.heap.size w w' := by
  by_cases hf : -9223372036854775808 ≤ (n1 + n2) ∧ (n1 + n2) ≤ 9223372036854775807
  · rw [fitR_in hf]
    obtain ⟨z, hz⟩ : ∃ z, z = n1 + n2 := ⟨_, rfl⟩
    rw [← hz]
    have HZ := Lib.hid (show fitN (n1 + n2) = z ∧ fitE (n1 + n2) = 0 from ⟨(fit_in hf).1.trans hz.symm, (fit_in hf).2⟩)
    have H1 := Lib.hid h1; have H2 := Lib.hid h2; clear h1 h2 hf hz
    go_enter Try.func45, Try.ntmps45
    go_wp2_with fail
    refine (radd_any n1 n2 _ H1.out H2.out).mono ?_
    rw [HZ.out.1, HZ.out.2]
    rintro e w' ⟨rfl, rfl⟩
    go_wp2_with fail
    refine bodyPost_ret (results_pair rfl _ _ (w.heap.size + 2) _ _ _ rfl (blk_at (by simp)) Try.underlying23 rfl (by kernel_rfl)) rfl ?_
    exact ⟨rfl, blw3 _ _ _ _⟩
  · rw [fitR_out hf]
    have HZ := Lib.hid (show fitN (n1 + n2) = 0 ∧ fitE (n1 + n2) = 15 from ⟨by rw [fitN, if_neg hf], by rw [fitE, if_neg hf]⟩)
    have H1 := Lib.hid h1; have H2 := Lib.hid h2; clear h1 h2 hf
    go_enter Try.func45, Try.ntmps45
    go_wp2_with fail
    refine (radd_any n1 n2 _ H1.out H2.out).mono ?_
    rw [HZ.out.1, HZ.out.2]
    rintro e w' ⟨rfl, rfl⟩
    go_wp2_with fail
    refine bodyPost_ret (results_pair rfl _ _ (w.heap.size + 2) _ _ _ rfl (blk_at (by simp)) Try.underlying23 rfl (by kernel_rfl)) rfl ?_
    exact ⟨rfl, blw3 _ _ _ _⟩
set_option maxHeartbeats 1000000 in
theorem rnum_sub (n1 : Int) (s1 : ByteArray) (n2 : Int) (s2 : ByteArray) (w : World) (h1 : -9223372036854775808 ≤ n1 ∧ n1 ≤ 9223372036854775807) (h2 : -9223372036854775808 ≤ n2 ∧ n2 ≤ 9223372036854775807) :
    Calls Try.prog 45 #[.string ⟨#[45]⟩, .agg #[.int .i64 1, .int .i64 n1, .string s1], .agg #[.int .i64 1, .int .i64 n2, .string s2]] w fun e w' => e = .returned (.tuple #[.agg #[.int .i64 (fitR (n1 - n2)).k, .int .i64 (fitR (n1 - n2)).n, .string (fitR (n1 - n2)).s], .int .i64 (fitR (n1 - n2)).e]) ∧ Below w.heap.size w w' := by
  by_cases hf : -9223372036854775808 ≤ (n1 - n2) ∧ (n1 - n2) ≤ 9223372036854775807
  · rw [fitR_in hf]
    obtain ⟨z, hz⟩ : ∃ z, z = n1 - n2 := ⟨_, rfl⟩
    rw [← hz]
    have HZ := Lib.hid (show fitN (n1 - n2) = z ∧ fitE (n1 - n2) = 0 from ⟨(fit_in hf).1.trans hz.symm, (fit_in hf).2⟩)
    have H1 := Lib.hid h1; have H2 := Lib.hid h2; clear h1 h2 hf hz
    go_enter Try.func45, Try.ntmps45
    go_wp2_with fail
    refine (rsub_any n1 n2 _ H1.out H2.out).mono ?_
    rw [HZ.out.1, HZ.out.2]
    rintro e w' ⟨rfl, rfl⟩
    go_wp2_with fail
    refine bodyPost_ret (results_pair rfl _ _ (w.heap.size + 2) _ _ _ rfl (blk_at (by simp)) Try.underlying23 rfl (by kernel_rfl)) rfl ?_
    exact ⟨rfl, blw3 _ _ _ _⟩
  · rw [fitR_out hf]
    have HZ := Lib.hid (show fitN (n1 - n2) = 0 ∧ fitE (n1 - n2) = 15 from ⟨by rw [fitN, if_neg hf], by rw [fitE, if_neg hf]⟩)
    have H1 := Lib.hid h1; have H2 := Lib.hid h2; clear h1 h2 hf
    go_enter Try.func45, Try.ntmps45
    go_wp2_with fail
    refine (rsub_any n1 n2 _ H1.out H2.out).mono ?_
    rw [HZ.out.1, HZ.out.2]
    rintro e w' ⟨rfl, rfl⟩
    go_wp2_with fail
    refine bodyPost_ret (results_pair rfl _ _ (w.heap.size + 2) _ _ _ rfl (blk_at (by simp)) Try.underlying23 rfl (by kernel_rfl)) rfl ?_
    exact ⟨rfl, blw3 _ _ _ _⟩
set_option maxHeartbeats 1000000 in
theorem rnum_mul (n1 : Int) (s1 : ByteArray) (n2 : Int) (s2 : ByteArray) (w : World) (h1 : -9223372036854775808 ≤ n1 ∧ n1 ≤ 9223372036854775807) (h2 : -9223372036854775808 ≤ n2 ∧ n2 ≤ 9223372036854775807) :
    Calls Try.prog 45 #[.string ⟨#[42]⟩, .agg #[.int .i64 1, .int .i64 n1, .string s1], .agg #[.int .i64 1, .int .i64 n2, .string s2]] w fun e w' => e = .returned (.tuple #[.agg #[.int .i64 (fitR (n1 * n2)).k, .int .i64 (fitR (n1 * n2)).n, .string (fitR (n1 * n2)).s], .int .i64 (fitR (n1 * n2)).e]) ∧ Below w.heap.size w w' := by
  by_cases hf : -9223372036854775808 ≤ (n1 * n2) ∧ (n1 * n2) ≤ 9223372036854775807
  · rw [fitR_in hf]
    obtain ⟨z, hz⟩ : ∃ z, z = n1 * n2 := ⟨_, rfl⟩
    rw [← hz]
    have HZ := Lib.hid (show fitN (n1 * n2) = z ∧ fitE (n1 * n2) = 0 from ⟨(fit_in hf).1.trans hz.symm, (fit_in hf).2⟩)
    have H1 := Lib.hid h1; have H2 := Lib.hid h2; clear h1 h2 hf hz
    go_enter Try.func45, Try.ntmps45
    go_wp2_with fail
    refine (rmul_any n1 n2 _ H1.out H2.out).mono ?_
    rw [HZ.out.1, HZ.out.2]
    rintro e w' ⟨rfl, rfl⟩
    go_wp2_with fail
    refine bodyPost_ret (results_pair rfl _ _ (w.heap.size + 2) _ _ _ rfl (blk_at (by simp)) Try.underlying23 rfl (by kernel_rfl)) rfl ?_
    exact ⟨rfl, blw3 _ _ _ _⟩
  · rw [fitR_out hf]
    have HZ := Lib.hid (show fitN (n1 * n2) = 0 ∧ fitE (n1 * n2) = 15 from ⟨by rw [fitN, if_neg hf], by rw [fitE, if_neg hf]⟩)
    have H1 := Lib.hid h1; have H2 := Lib.hid h2; clear h1 h2 hf
    go_enter Try.func45, Try.ntmps45
    go_wp2_with fail
    refine (rmul_any n1 n2 _ H1.out H2.out).mono ?_
    rw [HZ.out.1, HZ.out.2]
    rintro e w' ⟨rfl, rfl⟩
    go_wp2_with fail
    refine bodyPost_ret (results_pair rfl _ _ (w.heap.size + 2) _ _ _ rfl (blk_at (by simp)) Try.underlying23 rfl (by kernel_rfl)) rfl ?_
    exact ⟨rfl, blw3 _ _ _ _⟩
set_option maxHeartbeats 1000000 in
theorem rnum_q0 (n1 : Int) (s1 : ByteArray) (n2 : Int) (s2 : ByteArray) (w : World) (t0 : (n2 == 0) = true) :
    Calls Try.prog 45 #[.string ⟨#[47]⟩, .agg #[.int .i64 1, .int .i64 n1, .string s1], .agg #[.int .i64 1, .int .i64 n2, .string s2]] w fun e w' => e = .returned (.tuple #[.agg #[.int .i64 0, .int .i64 0, .string ⟨#[]⟩], .int .i64 0]) ∧ Below w.heap.size w w' := by
  go_enter Try.func45, Try.ntmps45
  go_wp2
  refine bodyPost_ret (results_pair rfl _ _ (w.heap.size + 2) _ _ _ rfl (blk_at (by simp)) Try.underlying23 rfl (by kernel_rfl)) rfl ?_
  exact ⟨rfl, blw3 _ _ _ _⟩
set_option maxHeartbeats 1000000 in
theorem rnum_r0 (n1 : Int) (s1 : ByteArray) (n2 : Int) (s2 : ByteArray) (w : World) (t0 : (n2 == 0) = true) :
    Calls Try.prog 45 #[.string ⟨#[37]⟩, .agg #[.int .i64 1, .int .i64 n1, .string s1], .agg #[.int .i64 1, .int .i64 n2, .string s2]] w fun e w' => e = .returned (.tuple #[.agg #[.int .i64 0, .int .i64 0, .string ⟨#[]⟩], .int .i64 0]) ∧ Below w.heap.size w w' := by
  go_enter Try.func45, Try.ntmps45
  go_wp2
  refine bodyPost_ret (results_pair rfl _ _ (w.heap.size + 2) _ _ _ rfl (blk_at (by simp)) Try.underlying23 rfl (by kernel_rfl)) rfl ?_
  exact ⟨rfl, blw3 _ _ _ _⟩
set_option maxHeartbeats 1000000 in
theorem rnum_qo (n1 : Int) (s1 : ByteArray) (n2 : Int) (s2 : ByteArray) (w : World) (t0 : (n2 == 0) = false) (t1 : (n1 == -9223372036854775808) = true) (t2 : (n2 == -1) = true) :
    Calls Try.prog 45 #[.string ⟨#[47]⟩, .agg #[.int .i64 1, .int .i64 n1, .string s1], .agg #[.int .i64 1, .int .i64 n2, .string s2]] w fun e w' => e = .returned (.tuple #[.agg #[.int .i64 0, .int .i64 0, .string ⟨#[]⟩], .int .i64 15]) ∧ Below w.heap.size w w' := by
  go_enter Try.func45, Try.ntmps45
  go_wp2
  refine bodyPost_ret (results_pair rfl _ _ (w.heap.size + 2) _ _ _ rfl (blk_at (by simp)) Try.underlying23 rfl (by kernel_rfl)) rfl ?_
  exact ⟨rfl, blw3 _ _ _ _⟩
set_option maxHeartbeats 1000000 in
theorem rnum_q1 (n1 : Int) (s1 : ByteArray) (n2 : Int) (s2 : ByteArray) (w : World) (z : Int) (b0 : ¬ n2 = 0) (t0 : (n2 == 0) = false) (t1 : (n1 == -9223372036854775808) = false) (hw : wrap64 (n1.tdiv n2) = z) :
    Calls Try.prog 45 #[.string ⟨#[47]⟩, .agg #[.int .i64 1, .int .i64 n1, .string s1], .agg #[.int .i64 1, .int .i64 n2, .string s2]] w fun e w' => e = .returned (.tuple #[.agg #[.int .i64 1, .int .i64 z, .string ⟨#[]⟩], .int .i64 0]) ∧ Below w.heap.size w w' := by
  go_enter Try.func45, Try.ntmps45
  go_wp2
  refine bodyPost_ret (results_pair rfl _ _ (w.heap.size + 2) _ _ _ rfl (blk_at (by simp)) Try.underlying23 rfl (by kernel_rfl)) rfl ?_
  exact ⟨rfl, blw3 _ _ _ _⟩
set_option maxHeartbeats 1000000 in
theorem rnum_q2 (n1 : Int) (s1 : ByteArray) (n2 : Int) (s2 : ByteArray) (w : World) (z : Int) (b0 : ¬ n2 = 0) (t0 : (n2 == 0) = false) (t1 : (n1 == -9223372036854775808) = true) (t2 : (n2 == -1) = false) (hw : wrap64 (n1.tdiv n2) = z) :
    Calls Try.prog 45 #[.string ⟨#[47]⟩, .agg #[.int .i64 1, .int .i64 n1, .string s1], .agg #[.int .i64 1, .int .i64 n2, .string s2]] w fun e w' => e = .returned (.tuple #[.agg #[.int .i64 1, .int .i64 z, .string ⟨#[]⟩], .int .i64 0]) ∧ Below w.heap.size w w' := by
  go_enter Try.func45, Try.ntmps45
  go_wp2
  refine bodyPost_ret (results_pair rfl _ _ (w.heap.size + 2) _ _ _ rfl (blk_at (by simp)) Try.underlying23 rfl (by kernel_rfl)) rfl ?_
  exact ⟨rfl, blw3 _ _ _ _⟩
set_option maxHeartbeats 1000000 in
theorem rnum_r1 (n1 : Int) (s1 : ByteArray) (n2 : Int) (s2 : ByteArray) (w : World) (t0 : (n2 == 0) = false) (t2 : (n2 != -1) = false) :
    Calls Try.prog 45 #[.string ⟨#[37]⟩, .agg #[.int .i64 1, .int .i64 n1, .string s1], .agg #[.int .i64 1, .int .i64 n2, .string s2]] w fun e w' => e = .returned (.tuple #[.agg #[.int .i64 1, .int .i64 0, .string ⟨#[]⟩], .int .i64 0]) ∧ Below w.heap.size w w' := by
  go_enter Try.func45, Try.ntmps45
  go_wp2
  refine bodyPost_ret (results_pair rfl _ _ (w.heap.size + 2) _ _ _ rfl (blk_at (by simp)) Try.underlying23 rfl (by kernel_rfl)) rfl ?_
  exact ⟨rfl, blw3 _ _ _ _⟩
set_option maxHeartbeats 1000000 in
theorem rnum_r2 (n1 : Int) (s1 : ByteArray) (n2 : Int) (s2 : ByteArray) (w : World) (z : Int) (b0 : ¬ n2 = 0) (t0 : (n2 == 0) = false) (t2 : (n2 != -1) = true) (hw : wrap64 (n1.tmod n2) = z) (hz : n1.tmod n2 = z) :
    Calls Try.prog 45 #[.string ⟨#[37]⟩, .agg #[.int .i64 1, .int .i64 n1, .string s1], .agg #[.int .i64 1, .int .i64 n2, .string s2]] w fun e w' => e = .returned (.tuple #[.agg #[.int .i64 1, .int .i64 z, .string ⟨#[]⟩], .int .i64 0]) ∧ Below w.heap.size w w' := by
  go_enter Try.func45, Try.ntmps45
  go_wp2
  refine bodyPost_ret (results_pair rfl _ _ (w.heap.size + 2) _ _ _ rfl (blk_at (by simp)) Try.underlying23 rfl (by kernel_rfl)) rfl ?_
  exact ⟨rfl, blw3 _ _ _ _⟩
/-- The document's number is the program's calculation. -/
theorem rnum_any (op : ByteArray) (n1 : Int) (s1 : ByteArray) (n2 : Int) (s2 : ByteArray) (w : World) (hop : classZ op = 2) (h1 : -9223372036854775808 ≤ n1 ∧ n1 ≤ 9223372036854775807) (h2 : -9223372036854775808 ≤ n2 ∧ n2 ≤ 9223372036854775807) :
    Calls Try.prog 45 #[.string op, .agg #[.int .i64 1, .int .i64 n1, .string s1], .agg #[.int .i64 1, .int .i64 n2, .string s2]] w fun e w' => e = .returned (.tuple #[.agg #[.int .i64 (calcR op n1 n2).k, .int .i64 (calcR op n1 n2).n, .string (calcR op n1 n2).s], .int .i64 (calcR op n1 n2).e]) ∧ Below w.heap.size w w' := by
  rcases class_two hop with rfl | rfl | rfl | rfl | rfl
  · rw [calc_p]; exact rnum_add n1 s1 n2 s2 w h1 h2
  · rw [calc_m]; exact rnum_sub n1 s1 n2 s2 w h1 h2
  · rw [calc_t]; exact rnum_mul n1 s1 n2 s2 w h1 h2
  · by_cases b0 : n2 = 0
    · subst b0; rw [calc_q0]; exact rnum_q0 n1 s1 0 s2 w rfl
    have t0 : (n2 == 0) = false := by simpa using b0
    rw [calc_q _ _ b0]
    by_cases hov : n1 = -9223372036854775808 ∧ n2 = -1
    · rw [fitR_out (by rw [hov.2, tdiv_minus]; omega)]
      exact rnum_qo n1 s1 n2 s2 w t0 (by simpa using hov.1) (by simpa using hov.2)
    · have hdf : -9223372036854775808 ≤ n1.tdiv n2 ∧ n1.tdiv n2 ≤ 9223372036854775807 := by
        by_cases hm : n2 = -1
        · rw [hm, tdiv_minus]; omega
        · exact tdiv_fits h1 b0 hm
      rw [fitR_in hdf]
      by_cases ha : n1 = -9223372036854775808
      · exact rnum_q2 n1 s1 n2 s2 w _ b0 t0 (by simpa using ha) (by simp; omega) (mul_wrap hdf)
      · exact rnum_q1 n1 s1 n2 s2 w _ b0 t0 (by simpa using ha) (mul_wrap hdf)
  · by_cases b0 : n2 = 0
    · subst b0; rw [calc_r0]; exact rnum_r0 n1 s1 0 s2 w rfl
    have t0 : (n2 == 0) = false := by simpa using b0
    have hmf := tmod_fits (a := n1) h2 b0
    rw [calc_r _ _ b0, fitR_in hmf]
    by_cases hm : n2 = -1
    · subst hm
      rw [show n1.tmod (-1) = 0 from by rw [Int.tmod_neg, Int.tmod_one]]
      exact rnum_r1 n1 s1 (-1) s2 w rfl rfl
    · exact rnum_r2 n1 s1 n2 s2 w _ b0 t0 (by simpa using hm) (mul_wrap hmf) rfl
end Go.Proofs.Ytadbmjmikoggbaa
