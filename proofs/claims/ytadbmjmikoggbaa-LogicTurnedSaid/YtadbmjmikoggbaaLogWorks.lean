/-
  Layer 6, the law's own examples: works returns true and changes nothing that was there. Condition: none.
-/
import Derived.Test.YtadbmjmikoggbaaLogBinary
namespace Go.Proofs.Ytadbmjmikoggbaa
open Go.RowKit

theorem ex_div : calcR ⟨#[47]⟩ 7 (-2) = ⟨1, -3, ⟨#[]⟩, 0⟩ := by kernel_rfl
theorem ex_rem : calcR ⟨#[37]⟩ 7 (-2) = ⟨1, 1, ⟨#[]⟩, 0⟩ := by kernel_rfl
theorem ex_div_any (w : World) : Calls Try.prog 29 #[.string ⟨#[47]⟩, .agg #[.int .i64 1, .int .i64 7, .string ⟨#[]⟩], .agg #[.int .i64 1, .int .i64 (-2), .string ⟨#[]⟩], .bool false] w fun e w' => e = .returned (.tuple #[.agg #[.int .i64 1, .int .i64 (-3), .string ⟨#[]⟩], .int .i64 0]) ∧ Below w.heap.size w w' := by
  have h := bin_num ⟨#[47]⟩ 7 ⟨#[]⟩ (-2) ⟨#[]⟩ false w (by decide) (by omega) (by omega)
  rw [ex_div] at h
  exact h
theorem ex_rem_any (w : World) : Calls Try.prog 29 #[.string ⟨#[37]⟩, .agg #[.int .i64 1, .int .i64 7, .string ⟨#[]⟩], .agg #[.int .i64 1, .int .i64 (-2), .string ⟨#[]⟩], .bool false] w fun e w' => e = .returned (.tuple #[.agg #[.int .i64 1, .int .i64 1, .string ⟨#[]⟩], .int .i64 0]) ∧ Below w.heap.size w w' := by
  have h := bin_num ⟨#[37]⟩ 7 ⟨#[]⟩ (-2) ⟨#[]⟩ false w (by decide) (by omega) (by omega)
  rw [ex_rem] at h
  exact h
theorem ex_and (w : World) : Calls Try.prog 16 #[.int .i64 0, .int .i64 2] w fun e w' => e = .returned (.int .i64 0) ∧ w = w' := and_any 0 2 w
theorem ex_of (w : World) : Calls Try.prog 12 #[.int .i64 1] w fun e w' => e = .returned (.agg #[.int .i64 1, .int .i64 1, .string ⟨#[]⟩]) ∧ Below w.heap.size w w' := lof_any 1 w
theorem blw_on {a b c : World} (h : Below a.heap.size a b) (h' : Below b.heap.size b c) : Below a.heap.size a c := h.trans (h'.mono h.size)
theorem blw_al {a b : World} (h : Below a.heap.size a b) (o : Obj) : Below a.heap.size a (b.alloc o) := h.alloc h.size o

set_option maxRecDepth 100000 in
set_option maxHeartbeats 1000000 in
theorem works6_any (w : World) : Calls Try.prog 20 #[] w fun e w' => e = .returned (.bool true) ∧ Below w.heap.size w w' := by
  go_enter Try.func20, Try.ntmps20
  go_wp2_with fail
  refine (ex_div_any _).mono ?_
  rintro e w1 ⟨rfl, b1⟩
  have HB1 := Lib.hid b1; clear b1
  have hr1 := blk_new w1 23 #[.int .i64 1, .int .i64 (-3), .string ⟨#[]⟩]
  have HR1 := Lib.hid hr1; clear hr1
  go_wp2_with fail
  refine (ex_rem_any _).mono ?_
  rintro e w2 ⟨rfl, b2⟩
  have hq := blk_below HR1.out b2
  have HQ := Lib.hid hq
  have HB2 := Lib.hid (blw_on (blw_al HB1.out _) b2)
  have hsz : w1.heap.size < w2.heap.size := blk_lt hq
  clear b2 hq HR1 HB1
  have hx := blk_alloc HQ.out (.cells #[.int .i64 1, .int .i64 1, .string ⟨#[]⟩] 23)
  have cx := blk_cell hx 1 rfl
  have HXX := Lib.hid hx
  clear hx HQ
  go_wp2_with fail
  refine (ex_and _).mono ?_
  rintro e w3 ⟨rfl, rfl⟩
  go_wp2_with fail
  refine (ex_of _).mono ?_
  rintro e w4 ⟨rfl, b4⟩
  have HB4 := Lib.hid (blw_on (blw_al HB2.out _) b4)
  clear b4
  have HF := run_fieldN 1 1 ⟨#[]⟩ w4
  go_wp2_with fail
  go_ret
  exact ⟨rfl, HB4.out⟩
end Go.Proofs.Ytadbmjmikoggbaa
