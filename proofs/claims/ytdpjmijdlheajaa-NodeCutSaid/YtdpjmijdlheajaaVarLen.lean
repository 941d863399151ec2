/-
  Len of layer 2 returns 'lenN' of the number and leaves the world alone. Condition: the number is a uint64.
-/
import Derived.Test.YtdpjmijdlheajaaVarMath
import Derived.Test.YtdpjmijdlheajaaVarLeaf
import Derived.Handy
namespace Go.Proofs.Ytdpjmijdlheajaa
open Go.RowKit

set_option maxHeartbeats 1000000 in
set_option maxRecDepth 100000 in
theorem vlen_any (z : Int) (h0 : 0 ≤ z) (h : z < 18446744073709551616) (w : World) :
    Calls Try.prog 46 #[.int .u64 z] w fun e w' => e = .returned (.int .i64 (lenN z.toNat)) ∧ w = w' := by
  by_cases hb : 72057594037927936 ≤ z
  · go_enter Try.func46, Try.ntmps46
    go_wp2
    go_ret
    exact ⟨ret_int (by rw [lenN_big (by omega)]; rfl), rfl⟩
  · obtain ⟨r, hr⟩ : ∃ r, r = lenN z.toNat := ⟨_, rfl⟩
    rw [← hr]
    have HR := Lib.hid hr; clear hr
    go_enter Try.func46, Try.ntmps46
    go_wp2
    go_loop [0, 3] (fun x s => ∃ (y : Int) (k : Nat), 0 ≤ y ∧ y < 72057594037927936 ∧ x = .int .u64 y ∧ s = .int .i64 k ∧ Hid (k + lenN y.toNat = r + 1) ∧ k ≤ 9) (fun x _ => (intOf x).toNat)
    case atStart => exact ⟨z, 1, h0, by omega, rfl, rfl, Lib.hid (by rw [HR.out]; omega), by omega⟩
    case round =>
      obtain ⟨y, k, hy0, hy1, rfl, rfl, hI, hk⟩ := hrel
      by_cases hlt : 127 < y
      · go_wp2
        go_round
        case rel => exact ⟨y / 128, k + 1, by omega, by omega, by go_num, by go_num, Lib.hid (by
          have := hI.out
          rw [lenN_step (by omega) (by omega), show y.toNat / 128 = (y / 128).toNat by omega] at this
          omega), by
          have := HR.out
          have := hI.out
          have h3 := lenN_le z.toNat
          rw [lenN_step (n := y.toNat) (by omega) (by omega)] at this
          have := lenN_ge (y.toNat / 128)
          omega⟩
        case measure => simp [intOf]; omega
      · go_wp2
        go_ret
        exact ⟨ret_int (by
          have := hI.out
          rw [lenN_one (by omega)] at this
          omega), rfl⟩
end Go.Proofs.Ytdpjmijdlheajaa
