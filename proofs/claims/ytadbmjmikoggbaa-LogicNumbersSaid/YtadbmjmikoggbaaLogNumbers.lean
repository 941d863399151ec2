/-
  The statement LogicNumbers as a walk: it returns true for every input and changes nothing that was there. Condition: the numbers are ints.
-/
import Derived.Test.YtadbmjmikoggbaaLogEq
namespace Go.Proofs.Ytadbmjmikoggbaa
open Go.RowKit

set_option maxRecDepth 100000 in
set_option maxHeartbeats 2000000 in
theorem numbers_any (a b : Int) (k n : Int) (s : ByteArray) (w : World) (ha : -9223372036854775808 ≤ a ∧ a ≤ 9223372036854775807) (hb : -9223372036854775808 ≤ b ∧ b ≤ 9223372036854775807) (hn : -9223372036854775808 ≤ n ∧ n ≤ 9223372036854775807) :
    Calls Try.prog 4 #[.int .i64 a, .int .i64 b, .agg #[.int .i64 k, .int .i64 n, .string s]] w fun e w' => e = .returned (.bool true) ∧ Below w.heap.size w w' := by
  obtain ⟨x, hx⟩ : ∃ x, x = fitN (a + b) := ⟨_, rfl⟩
  have Kx := Lib.hid hx; clear hx
  obtain ⟨e, he⟩ : ∃ e, e = fitE (a + b) := ⟨_, rfl⟩
  have Ke := Lib.hid he; clear he
  obtain ⟨p, hp⟩ : ∃ p, p = fitN (a * b) := ⟨_, rfl⟩
  have Kp := Lib.hid hp; clear hp
  obtain ⟨g, hg⟩ : ∃ g, g = fitE (a * b) := ⟨_, rfl⟩
  have Kg := Lib.hid hg; clear hg
  obtain ⟨u, hu⟩ : ∃ u, u = negK k n := ⟨_, rfl⟩
  have Ku := Lib.hid hu; clear hu
  obtain ⟨v, hv⟩ : ∃ v, v = negN k n := ⟨_, rfl⟩
  have Kv := Lib.hid hv; clear hv
  obtain ⟨z, hz⟩ : ∃ z, z = negE k n := ⟨_, rfl⟩
  have Kz := Lib.hid hz; clear hz
  have HXv := Lib.hid (blk_new w 23 #[.int .i64 k, .int .i64 n, .string s])
  have HW := Lib.hid (blw1 w (.cells #[.int .i64 k, .int .i64 n, .string s] 23))
  have heq := run_eqlS u v ⟨#[]⟩
  have hgd := guardV
  have HA := Lib.hid ha; have HB := Lib.hid hb; have HN := Lib.hid hn; clear ha hb hn
  go_enter Try.func4, Try.ntmps4
  go_wp2_with fail
  refine (add_any a b _ HA.out HB.out).mono ?_
  rw [← Kx.out, ← Ke.out]
  rintro e' w1 ⟨rfl, rfl⟩
  go_wp2_with fail
  refine (radd_any a b _ HA.out HB.out).mono ?_
  rw [← Kx.out, ← Ke.out]
  rintro e' w2 ⟨rfl, rfl⟩
  go_wp2_with fail
  refine (mul_any a b _ HA.out HB.out).mono ?_
  rw [← Kp.out, ← Kg.out]
  rintro e' w3 ⟨rfl, rfl⟩
  go_wp2_with fail
  refine (rmul_any a b _ HA.out HB.out).mono ?_
  rw [← Kp.out, ← Kg.out]
  rintro e' w4 ⟨rfl, rfl⟩
  have v0 := blk_cell HXv.out 0 rfl
  have v1 := blk_cell HXv.out 1 rfl
  have v2 := blk_cell HXv.out 2 rfl
  go_wp2_with fail
  refine (neg_any k n s _ HN.out).mono ?_
  rw [← Ku.out, ← Kv.out, ← Kz.out]
  rintro e' w5 ⟨rfl, b⟩
  replace HW := Lib.hid (blw_on HW.out b)
  replace HXv := Lib.hid (blk_below HXv.out b)
  clear v0 v1 v2
  clear b
  replace HXv := Lib.hid (blk_alloc HXv.out (.cells #[.int .i64 u, .int .i64 v, .string ⟨#[]⟩] 23))
  have HXm := Lib.hid (blk_new w5 23 #[.int .i64 u, .int .i64 v, .string ⟨#[]⟩])
  replace HW := Lib.hid (blw_al HW.out (.cells #[.int .i64 u, .int .i64 v, .string ⟨#[]⟩] 23))
  have v0 := blk_cell HXv.out 0 rfl
  have v1 := blk_cell HXv.out 1 rfl
  have v2 := blk_cell HXv.out 2 rfl
  go_wp2_with fail
  refine (rneg_any k n s _ HN.out).mono ?_
  rw [← Ku.out, ← Kv.out, ← Kz.out]
  rintro e' w6 ⟨rfl, b⟩
  replace HW := Lib.hid (blw_on HW.out b)
  replace HXv := Lib.hid (blk_below HXv.out b)
  replace HXm := Lib.hid (blk_below HXm.out b)
  clear v0 v1 v2
  clear b
  clear HXv
  replace HXm := Lib.hid (blk_alloc HXm.out (.cells #[.int .i64 u, .int .i64 v, .string ⟨#[]⟩] 23))
  have HXq := Lib.hid (blk_new w6 23 #[.int .i64 u, .int .i64 v, .string ⟨#[]⟩])
  replace HW := Lib.hid (blw_al HW.out (.cells #[.int .i64 u, .int .i64 v, .string ⟨#[]⟩] 23))
  have m0 := blk_cell HXm.out 0 rfl
  have m1 := blk_cell HXm.out 1 rfl
  have m2 := blk_cell HXm.out 2 rfl
  have q0 := blk_cell HXq.out 0 rfl
  have q1 := blk_cell HXq.out 1 rfl
  have q2 := blk_cell HXq.out 2 rfl
  go_wp2_with fail
  refine (works6_any _).mono ?_
  rintro e' w7 ⟨rfl, b⟩
  replace HW := Lib.hid (blw_on HW.out b)
  replace HXm := Lib.hid (blk_below HXm.out b)
  replace HXq := Lib.hid (blk_below HXq.out b)
  clear m0 m1 m2 q0 q1 q2
  clear b
  go_wp2_with fail
  go_ret
  exact ⟨rfl, HW.out⟩
end Go.Proofs.Ytadbmjmikoggbaa
