/-
  Layer 6, Binary for all operators: it returns its plain function ('binR') and changes nothing that was there. Condition: the numbers are ints, the strings have at most 2^47 - 4096 bytes.
-/
import Derived.Test.YtadbmjmikoggbaaLogBinary
import Derived.Test.YtadbmjmikoggbaaValComp
namespace Go.Proofs.Ytadbmjmikoggbaa
open Go.RowKit

theorem cmpV_is (k1 n1 : Int) (s1 : ByteArray) (k2 n2 : Int) (s2 : ByteArray) (nc : Bool) : cmpV k1 n1 s1 k2 n2 s2 nc = -1 ∨ cmpV k1 n1 s1 k2 n2 s2 nc = 0 ∨ cmpV k1 n1 s1 k2 n2 s2 nc = 1 := by
  have hi : ∀ a b, cmpI a b = -1 ∨ cmpI a b = 0 ∨ cmpI a b = 1 := fun a b => by unfold cmpI; split <;> (try split) <;> simp
  have hs : ∀ a b, cmpS a b = -1 ∨ cmpS a b = 0 ∨ cmpS a b = 1 := fun a b => by unfold cmpS; split <;> (try split) <;> simp
  unfold cmpV
  split
  · exact hi _ _
  · split
    · exact hi _ _
    · split <;> exact hs _ _
/-- What Binary returns. -/
def binR (op : ByteArray) (k1 n1 : Int) (s1 : ByteArray) (k2 n2 : Int) (s2 : ByteArray) (nc : Bool) : Out :=
  if classZ op = 0 then nulR 8 else if k1 = 0 ∨ k2 = 0 then nulR 0
  else if classZ op = 1 then ⟨1, if holdsZ op (cmpV k1 n1 s1 k2 n2 s2 nc) then 1 else 0, ⟨#[]⟩, 0⟩
  else if classZ op = 2 then (if k1 ≠ 1 ∨ k2 ≠ 1 then nulR 14 else calcR op n1 n2) else catR k1 s1 k2 s2
theorem of_truth (b : Bool) : ofK (if b then 1 else 0) = 1 ∧ ofN (if b then 1 else 0) = if b then 1 else 0 := by cases b <;> exact ⟨rfl, rfl⟩
set_option maxHeartbeats 1000000 in
theorem bin_cmp (op : ByteArray) (k1 n1 : Int) (s1 : ByteArray) (k2 n2 : Int) (s2 : ByteArray) (nc : Bool) (w : World) (hop : classZ op = 1) (t1 : (k1 == 0) = false) (t2 : (k2 == 0) = false) (hs1 : s1.size ≤ 140737488351232) (hs2 : s2.size ≤ 140737488351232) (z : Int) (hz : z = if holdsZ op (cmpV k1 n1 s1 k2 n2 s2 nc) then 1 else 0) :
    Calls Try.prog 29 #[.string op, .agg #[.int .i64 k1, .int .i64 n1, .string s1], .agg #[.int .i64 k2, .int .i64 n2, .string s2], .bool nc] w fun e w' => e = .returned (.tuple #[.agg #[.int .i64 1, .int .i64 z, .string ⟨#[]⟩], .int .i64 0]) ∧ Below w.heap.size w w' := by
  obtain ⟨c, hc⟩ : ∃ c, c = cmpV k1 n1 s1 k2 n2 s2 nc := ⟨_, rfl⟩
  have hci : c = -1 ∨ c = 0 ∨ c = 1 := hc ▸ cmpV_is k1 n1 s1 k2 n2 s2 nc
  rw [← hc] at hz
  obtain ⟨h, hh⟩ : ∃ h, h = holdsZ op c := ⟨_, rfl⟩
  rw [← hh] at hz
  have HO := Lib.hid hop; have HC := Lib.hid hc; have HI := Lib.hid hci; have HH := Lib.hid hh; have HZ := Lib.hid hz
  have HS1 := Lib.hid hs1; have HS2 := Lib.hid hs2
  clear hop hc hci hh hz hs1 hs2
  have HX := Lib.hid (box_new w k1 n1 s1 k2 n2 s2)
  go_enter Try.func29, Try.ntmps29
  go_wp2_with (go_at_call 38; refine (class_any op _).mono ?_; rw [HO.out]; rintro e w' ⟨rfl, rfl⟩)
  refine (compare_any k1 n1 s1 k2 n2 s2 nc _ HS1.out HS2.out).mono ?_
  rw [← HC.out]
  rintro e w1 ⟨rfl, hb⟩
  have HY := Lib.hid (box_next HX.out hb)
  clear hb HX
  go_wp2_with fail
  refine (holds_any op c _ HO.out HI.out).mono ?_
  rw [← HH.out]
  rintro e w2 ⟨rfl, rfl⟩
  go_wp2_with fail
  refine (truthOf_any h _).mono ?_
  rw [← HZ.out]
  rintro e w2 ⟨rfl, rfl⟩
  go_wp2_with fail
  refine (lof_any z _).mono ?_
  rw [HZ.out, (of_truth h).1, (of_truth h).2, ← HZ.out]
  rintro e w2 ⟨rfl, hb⟩
  have HY2 := Lib.hid (box_next HY.out hb)
  clear hb HY
  have hrow := HY2.out.row
  have f0 := blk_frozen hrow 0; have f1 := blk_frozen hrow 1; have f2 := blk_frozen hrow 2
  have c0 := blk_cell hrow 0 rfl; have c1 := blk_cell hrow 1 rfl; have c2 := blk_cell hrow 2 rfl
  go_wp2_with fail
  refine bodyPost_ret (results_pair rfl _ _ (w.heap.size + 2) _ _ _ rfl (blk_set (blk_set (blk_set hrow 0 _) 1 _) 2 _) Try.underlying23 rfl (by kernel_rfl)) rfl ?_
  exact ⟨rfl, box_fin HY2.out _ _ _⟩
theorem nul_cases {k1 k2 : Int} (h : k1 = 0 ∨ k2 = 0) : (k1 == 0) = true ∨ (k1 == 0) = false ∧ (k2 == 0) = true := by
  by_cases e : k1 = 0
  · exact .inl (by simpa using e)
  · exact .inr ⟨by simpa using e, by simp; omega⟩
theorem one_cases {k1 k2 : Int} (h : k1 ≠ 1 ∨ k2 ≠ 1) : (k1 != 1) = true ∨ (k1 != 1) = false ∧ (k2 != 1) = true := by
  by_cases e : k1 = 1
  · exact .inr ⟨by simpa using e, by simp; omega⟩
  · exact .inl (by simpa using e)
theorem bin_any (op : ByteArray) (k1 n1 : Int) (s1 : ByteArray) (k2 n2 : Int) (s2 : ByteArray) (nc : Bool) (w : World) (h1 : -9223372036854775808 ≤ n1 ∧ n1 ≤ 9223372036854775807) (h2 : -9223372036854775808 ≤ n2 ∧ n2 ≤ 9223372036854775807) (hs1 : s1.size ≤ 140737488351232) (hs2 : s2.size ≤ 140737488351232) :
    Calls Try.prog 29 #[.string op, .agg #[.int .i64 k1, .int .i64 n1, .string s1], .agg #[.int .i64 k2, .int .i64 n2, .string s2], .bool nc] w fun e w' => e = .returned (.tuple #[.agg #[.int .i64 (binR op k1 n1 s1 k2 n2 s2 nc).k, .int .i64 (binR op k1 n1 s1 k2 n2 s2 nc).n, .string (binR op k1 n1 s1 k2 n2 s2 nc).s], .int .i64 (binR op k1 n1 s1 k2 n2 s2 nc).e]) ∧ Below w.heap.size w w' := by
  unfold binR
  by_cases c0 : classZ op = 0
  · rw [if_pos c0]; exact bin_none op k1 n1 s1 k2 n2 s2 nc w c0
  rw [if_neg c0]
  by_cases hk : k1 = 0 ∨ k2 = 0
  · rw [if_pos hk]; exact bin_null op k1 n1 s1 k2 n2 s2 nc w _ rfl (by simpa using c0) (nul_cases hk)
  rw [if_neg hk]
  have t1 : (k1 == 0) = false := by simp; omega
  have t2 : (k2 == 0) = false := by simp; omega
  by_cases c1 : classZ op = 1
  · rw [if_pos c1]; exact bin_cmp op k1 n1 s1 k2 n2 s2 nc w c1 t1 t2 hs1 hs2 _ rfl
  rw [if_neg c1]
  by_cases c2 : classZ op = 2
  · rw [if_pos c2]
    by_cases ho : k1 ≠ 1 ∨ k2 ≠ 1
    · rw [if_pos ho]; exact bin_type op k1 n1 s1 k2 n2 s2 nc w c2 t1 t2 (one_cases ho)
    · rw [if_neg ho]
      obtain ⟨rfl, rfl⟩ : k1 = 1 ∧ k2 = 1 := by omega
      exact bin_num op n1 s1 n2 s2 nc w c2 h1 h2
  · rw [if_neg c2]
    have c3 : classZ op = 3 := by have := class_all op; omega
    exact bin_cat op k1 n1 s1 k2 n2 s2 nc w c3 t1 t2 hs1 hs2
end Go.Proofs.Ytadbmjmikoggbaa
