/-
  start, New and the two methods of a running checksum of layer 3: each returns its plain function of the nonce and the bytes; Add changes the running checksum alone. Condition: the numbers are ints; the string has at most 2^63 - 1 bytes.
-/
import Derived.Test.YtjmciknelkodcaaSumMath
import Derived.Test.YtjmciknelkodcaaVarLeaf
import Derived.WalkKit
import Derived.WalkArith
import Derived.Lib.Hide
import Derived.Deep.QuietTactic
import Derived.BigQuiet
import Derived.BigRegion
import Derived.Deep.OwnRows
import Derived.Below
import Derived.Handy
namespace Go.Proofs.Ytjmciknelkodcaa
open Go.RowKit

theorem start_any (n : Int) (h1 : -9223372036854775808 ≤ n) (h2 : n ≤ 9223372036854775807) (w : World) :
    Calls Try.prog 74 #[.int .i64 n] w fun e w' => e = .returned (.int .i64 (startZ n)) ∧ w = w' := by
  have hs := start_tmod n
  have hb := tmod_bd n
  have HS := Lib.hid hs; clear hs
  by_cases h : n.tmod 65521 < 0
  · go_enter Try.func74, Try.ntmps74
    go_wp2
    go_ret
    exact ⟨ret_int (by rw [HS.out, if_pos h]), rfl⟩
  · go_enter Try.func74, Try.ntmps74
    go_wp2
    go_ret
    exact ⟨ret_int (by rw [HS.out, if_neg (by omega)]), rfl⟩

def pair2 (p : Int × Int) (i : Nat) : Value := if i = 0 then .int .i64 p.1 else .int .i64 p.2

theorem new_any (n : Int) (h1 : -9223372036854775808 ≤ n) (h2 : n ≤ 9223372036854775807) (w : World) :
    Calls Try.prog 62 #[.int .i64 n] w fun e w' => e = .returned (.pointer (some ⟨w.heap.size, 0, none⟩)) ∧ w' = w.alloc (.cells #[.int .i64 (startZ n), .int .i64 0] 118) := by
  go_enter Try.func62, Try.ntmps62
  go_wp2_with (go_at_call 74; refine (start_any n h1 h2 _).mono ?_; rintro e w' ⟨rfl, rfl⟩)
  go_ret
  exact ⟨rfl, rfl⟩
end Go.Proofs.Ytjmciknelkodcaa
