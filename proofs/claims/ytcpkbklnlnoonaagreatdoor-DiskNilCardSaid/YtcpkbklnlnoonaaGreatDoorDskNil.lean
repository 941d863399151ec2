/-
  Layer 7: every method of a nil disk: it fails with ErrState, and has nothing. Condition: the variable errors.errorType holds what the program's text lays there.
-/
import Derived.Test.YtcpkbklnlnoonaaGreatDoorDskWorks
namespace Go.Proofs.YtcpkbklnlnoonaaGreatDoor
open Go.RowKit
variable {L : Loc} {ρ ρ' : Nat → Option Role} {n : Nat} {S : DS} {w w' : World}

abbrev NilQ (w : World) (e : Ending) (w' : World) : Prop := e = .returned (.int .i64 10) ∧ Below w.heap.size w w'
theorem blw_then {w1 : World} {B : Nat} (h : Below B w w1) (hb : Below w1.heap.size w1 w') (hB : B ≤ w1.heap.size) : Below B w w' := h.trans (hb.mono hB)

theorem create_nil (p : ByteArray) (hG : Glob w) : Calls Tryz.prog 22 #[.pointer none, .string p] w (NilQ w) := by
  have HC := Lib.hid (call_nil_Create1 #[.pointer (some ⟨w.heap.size + 1, 0, none⟩), .pointer (some ⟨w.heap.size, 0, none⟩)] (glob_alloc (glob_alloc hG (.cells #[.pointer none] 25)) (.cells #[.string p] 9)))
  have HB : Hid (Below w.heap.size w ((w.alloc (.cells #[.pointer none] 25)).alloc (.cells #[.string p] 9))) := Lib.hid (((Below.refl _ _).alloc (Nat.le_refl _) _).alloc (by simp) _)
  clear hG
  go_enter Tryz.func22, Tryz.ntmps22
  go_wp2_with (go_at_call 43; (with_reducible refine HC.out.mono ?_); rintro e w1 ⟨rfl, hb⟩)
  go_ret
  exact ⟨rfl, HB.out.trans (hb.mono HB.out.size)⟩
theorem delete_nil (p : ByteArray) (hG : Glob w) : Calls Tryz.prog 23 #[.pointer none, .string p] w (NilQ w) := by
  have HC := Lib.hid (callOn_nil_Delete1 (.pointer (some ⟨w.heap.size, 0, none⟩)) (.pointer (some ⟨w.heap.size + 1, 0, none⟩)) p (glob_alloc (glob_alloc hG (.cells #[.pointer none] 25)) (.cells #[.string p] 9)))
  have HB : Hid (Below w.heap.size w ((w.alloc (.cells #[.pointer none] 25)).alloc (.cells #[.string p] 9))) := Lib.hid (((Below.refl _ _).alloc (Nat.le_refl _) _).alloc (by simp) _)
  clear hG
  go_enter Tryz.func23, Tryz.ntmps23
  go_wp2_with (go_at_call 38; (with_reducible refine HC.out.mono ?_); rintro e w1 ⟨rfl, hb⟩)
  go_ret
  exact ⟨rfl, HB.out.trans (hb.mono HB.out.size)⟩
theorem write_nil (p : ByteArray) (o : Int) (d : ByteArray) (hG : Glob w) : Calls Tryz.prog 24 #[.pointer none, .string p, .int .i64 o, .string d] w (NilQ w) := by
  have HC := Lib.hid (callOn_nil_Write1 (.pointer (some ⟨w.heap.size + 1, 0, none⟩)) (.pointer (some ⟨w.heap.size + 1 + 1, 0, none⟩)) (.pointer (some ⟨w.heap.size, 0, none⟩)) p (glob_alloc (glob_alloc (glob_alloc hG (.cells #[.pointer none] 25)) (.cells #[.int .i64 o] 3)) (.cells #[.string d] 9)))
  have HB : Hid (Below w.heap.size w (((w.alloc (.cells #[.pointer none] 25)).alloc (.cells #[.int .i64 o] 3)).alloc (.cells #[.string d] 9))) := Lib.hid ((((Below.refl _ _).alloc (Nat.le_refl _) _).alloc (by simp) _).alloc (by simp; omega) _)
  clear hG
  go_enter Tryz.func24, Tryz.ntmps24
  go_wp2_with (go_at_call 38; (with_reducible refine HC.out.mono ?_); rintro e w1 ⟨rfl, hb⟩)
  go_ret
  exact ⟨rfl, HB.out.trans (hb.mono HB.out.size)⟩
theorem trunc_nil (p : ByteArray) (o : Int) (hG : Glob w) : Calls Tryz.prog 25 #[.pointer none, .string p, .int .i64 o] w (NilQ w) := by
  have HC := Lib.hid (callOn_nil_Trunc1 (.pointer (some ⟨w.heap.size + 1, 0, none⟩)) (.pointer (some ⟨w.heap.size, 0, none⟩)) p (glob_alloc (glob_alloc hG (.cells #[.pointer none] 25)) (.cells #[.int .i64 o] 3)))
  have HB : Hid (Below w.heap.size w ((w.alloc (.cells #[.pointer none] 25)).alloc (.cells #[.int .i64 o] 3))) := Lib.hid (((Below.refl _ _).alloc (Nat.le_refl _) _).alloc (by simp) _)
  clear hG
  go_enter Tryz.func25, Tryz.ntmps25
  go_wp2_with (go_at_call 38; (with_reducible refine HC.out.mono ?_); rintro e w1 ⟨rfl, hb⟩)
  go_ret
  exact ⟨rfl, HB.out.trans (hb.mono HB.out.size)⟩
theorem sync_nil (p : ByteArray) (hG : Glob w) : Calls Tryz.prog 14 #[.pointer none, .string p] w (NilQ w) := by
  have HC := Lib.hid (callOn_nil_Sync1 (.pointer (some ⟨w.heap.size, 0, none⟩)) p (glob_alloc hG (.cells #[.pointer none] 25)))
  have HB : Hid (Below w.heap.size w (w.alloc (.cells #[.pointer none] 25))) := Lib.hid ((Below.refl _ _).alloc (Nat.le_refl _) _)
  clear hG
  go_enter Tryz.func14, Tryz.ntmps14
  go_wp2_with (go_at_call 38; (with_reducible refine HC.out.mono ?_); rintro e w1 ⟨rfl, hb⟩)
  go_ret
  exact ⟨rfl, HB.out.trans (hb.mono HB.out.size)⟩
theorem dirsync_nil (hG : Glob w) : Calls Tryz.prog 15 #[.pointer none] w (NilQ w) := by
  have HC := Lib.hid (call_nil_DirSync1 #[.pointer (some ⟨w.heap.size, 0, none⟩)] (glob_alloc hG (.cells #[.pointer none] 25)))
  have HB : Hid (Below w.heap.size w (w.alloc (.cells #[.pointer none] 25))) := Lib.hid ((Below.refl _ _).alloc (Nat.le_refl _) _)
  clear hG
  go_enter Tryz.func15, Tryz.ntmps15
  go_wp2_with (go_at_call 43; (with_reducible refine HC.out.mono ?_); rintro e w1 ⟨rfl, hb⟩)
  go_ret
  exact ⟨rfl, HB.out.trans (hb.mono HB.out.size)⟩
theorem read_nil (p : ByteArray) (o m : Int) (hG : Glob w) : Calls Tryz.prog 20 #[.pointer none, .string p, .int .i64 o, .int .i64 m] w fun e w' => e = .returned (.tuple #[.string ⟨#[]⟩, .int .i64 10]) ∧ Below w.heap.size w w' := by
  have HC := Lib.hid (callOn_nil_Read1 (.pointer (some ⟨w.heap.size, 0, none⟩)) (.pointer (some ⟨w.heap.size + 1, 0, none⟩)) (.pointer (some ⟨w.heap.size + 1 + 1, 0, none⟩)) p (glob_alloc (glob_alloc (glob_alloc hG (.cells #[.int .i64 o] 3)) (.cells #[.int .i64 m] 3)) (.cells #[.string ⟨#[]⟩] 9)))
  have HB : Hid (Below w.heap.size w (((w.alloc (.cells #[.int .i64 o] 3)).alloc (.cells #[.int .i64 m] 3)).alloc (.cells #[.string ⟨#[]⟩] 9))) := Lib.hid ((((Below.refl _ _).alloc (Nat.le_refl _) _).alloc (by simp) _).alloc (by simp; omega) _)
  clear hG
  go_enter Tryz.func20, Tryz.ntmps20
  go_wp2_with (go_at_call 38; (with_reducible refine HC.out.mono ?_); rintro e w1 ⟨rfl, hb⟩)
  go_ret2
  exact ⟨rfl, HB.out.trans (hb.mono HB.out.size)⟩
theorem faults_nil (v : Value) (w : World) : Calls Tryz.prog 12 #[.pointer none, v] w fun e w' => e = .returned (.tuple #[]) ∧ w' = w := by
  go_enter Tryz.func12, Tryz.ntmps12
  go_wp2
  go_returns
  exact ⟨rfl, rfl⟩
theorem crashat_nil (o : Int) (w : World) : Calls Tryz.prog 13 #[.pointer none, .int .i64 o] w fun e w' => e = .returned (.tuple #[]) ∧ w' = w := by
  go_enter Tryz.func13, Tryz.ntmps13
  go_wp2
  go_returns
  exact ⟨rfl, rfl⟩
theorem restart_nil (v : Value) (w : World) : Calls Tryz.prog 17 #[.pointer none, v] w fun e w' => e = .returned (.tuple #[]) ∧ w' = w := by
  go_enter Tryz.func17, Tryz.ntmps17
  go_wp2
  go_returns
  exact ⟨rfl, rfl⟩
theorem size_nil (p : ByteArray) (w : World) : Calls Tryz.prog 21 #[.pointer none, .string p] w fun e w' => e = .returned (.tuple #[.int .i64 0, .bool false]) ∧ w' = w := by
  go_enter Tryz.func21, Tryz.ntmps21
  go_wp2_with (go_at_call 46; (with_reducible refine (find_nil _ _).mono ?_); rintro e w1 ⟨rfl, rfl⟩)
  go_ret2
  exact ⟨rfl, rfl⟩
theorem names_nil (w : World) : Calls Tryz.prog 18 #[.pointer none] w fun e w' => e = .returned (.slice none 0 0) ∧ w' = w := by
  go_enter Tryz.func18, Tryz.ntmps18
  go_wp2
  go_ret
  exact ⟨rfl, rfl⟩
theorem neqD_none (w : World) : (binOp .neq 25 (.pointer none) (.pointer none)).run Tryz.prog w = .ok (.bool false) w := by kernel_rfl
theorem down_nil (w : World) : Calls Tryz.prog 19 #[.pointer none] w fun e w' => e = .returned (.bool false) ∧ w' = w := by
  have hq := neqD_none
  go_enter Tryz.func19, Tryz.ntmps19
  go_wp2
  go_ret
  exact ⟨rfl, rfl⟩
end Go.Proofs.YtcpkbklnlnoonaaGreatDoor
