/-
  The statement DiskNil as a walk: it returns true for every input and changes nothing that was there. Condition: the variable errors.errorType holds what the program's text lays there.
-/
import Derived.Test.YtcpkbklnlnoonaaGreatDoorDskNil
namespace Go.Proofs.YtcpkbklnlnoonaaGreatDoor
open Go.RowKit

theorem glob_below {w w' : World} (hG : Glob w) (hb : Below w.heap.size w w') : Glob w' := glob_block hG (hb.block 0 (World.block_lt_of_cell? w _ hG))
structure NilI (w v : World) : Prop where
  below : Below w.heap.size w v
  glob : Glob v
theorem nil_next {w v v' : World} (h : NilI w v) (hb : Below v.heap.size v v') : NilI w v' := ⟨h.below.trans (hb.mono h.below.size), glob_below h.glob hb⟩

set_option maxHeartbeats 2000000 in
set_option maxRecDepth 100000 in
theorem nillaw_any (p : ByteArray) (o : Int) (d : ByteArray) (w : World) (hG : Glob w) : Calls Tryz.prog 5 #[.string p, .int .i64 o, .string d] w fun e w' => e = .returned (.bool true) ∧ Below w.heap.size w w' := by
  have HN := Lib.hid (show NilI w w from ⟨Below.refl _ _, hG⟩)
  clear hG
  go_enter Tryz.func5, Tryz.ntmps5
  go_wp2_with (first
    | (go_at_call 12; (with_reducible refine (faults_nil _ _).mono ?_); rintro e w1 ⟨rfl, rfl⟩)
    | (go_at_call 13; (with_reducible refine (crashat_nil _ _).mono ?_); rintro e w1 ⟨rfl, rfl⟩)
    | (go_at_call 17; (with_reducible refine (restart_nil _ _).mono ?_); rintro e w1 ⟨rfl, rfl⟩)
    | (go_at_call 20; (with_reducible refine (read_nil _ _ _ HN.out.glob).mono ?_); rintro e w1 ⟨rfl, hb⟩; replace HN := Lib.hid (nil_next HN.out hb); clear hb)
    | (go_at_call 16; (with_reducible refine (content_nil _ _).mono ?_); rintro e w1 ⟨rfl, rfl⟩)
    | (go_at_call 21; (with_reducible refine (size_nil _ _).mono ?_); rintro e w1 ⟨rfl, rfl⟩)
    | (go_at_call 22; (with_reducible refine (create_nil _ HN.out.glob).mono ?_); rintro e w1 ⟨rfl, hb⟩; replace HN := Lib.hid (nil_next HN.out hb); clear hb)
    | (go_at_call 23; (with_reducible refine (delete_nil _ HN.out.glob).mono ?_); rintro e w1 ⟨rfl, hb⟩; replace HN := Lib.hid (nil_next HN.out hb); clear hb)
    | (go_at_call 24; (with_reducible refine (write_nil _ _ _ HN.out.glob).mono ?_); rintro e w1 ⟨rfl, hb⟩; replace HN := Lib.hid (nil_next HN.out hb); clear hb)
    | (go_at_call 25; (with_reducible refine (trunc_nil _ _ HN.out.glob).mono ?_); rintro e w1 ⟨rfl, hb⟩; replace HN := Lib.hid (nil_next HN.out hb); clear hb)
    | (go_at_call 14; (with_reducible refine (sync_nil _ HN.out.glob).mono ?_); rintro e w1 ⟨rfl, hb⟩; replace HN := Lib.hid (nil_next HN.out hb); clear hb)
    | (go_at_call 15; (with_reducible refine (dirsync_nil HN.out.glob).mono ?_); rintro e w1 ⟨rfl, hb⟩; replace HN := Lib.hid (nil_next HN.out hb); clear hb)
    | (go_at_call 18; (with_reducible refine (names_nil _).mono ?_); rintro e w1 ⟨rfl, rfl⟩)
    | (go_at_call 26; (with_reducible refine (ops_nil _).mono ?_); rintro e w1 ⟨rfl, rfl⟩)
    | (go_at_call 19; (with_reducible refine (down_nil _).mono ?_); rintro e w1 ⟨rfl, rfl⟩)
    | (go_at_call 6; (with_reducible refine (works7_any _).mono ?_); rintro e w1 ⟨rfl, hb⟩; replace HN := Lib.hid (nil_next HN.out hb); clear hb))
  go_ret
  exact ⟨rfl, HN.out.below⟩
end Go.Proofs.YtcpkbklnlnoonaaGreatDoor
