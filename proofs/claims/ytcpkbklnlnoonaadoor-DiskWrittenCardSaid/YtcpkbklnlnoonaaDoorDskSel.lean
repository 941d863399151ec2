/-
  Layer 7: ofContents, and the choice that Sync makes among the pending changes. Condition: none.
-/
import Derived.Test.YtcpkbklnlnoonaaDoorDskPerf2
namespace Go.Proofs.YtcpkbklnlnoonaaDoor
open Go.RowKit

theorem ofCont_any (k : Int) (nm : ByteArray) (fp : Option Addr) (o : Int) (d : ByteArray) (w : World) :
    Calls Tryd.prog 27 #[.agg #[.int .i64 k, .string nm, .pointer fp, .int .i64 o, .string d]] w fun e w' => e = .returned (.bool (k == 2 || k == 3)) ∧ Below w.heap.size w w' := by
  have hB : Below w.heap.size w (w.alloc (.cells #[.int .i64 k, .string nm, .pointer fp, .int .i64 o, .string d] 52)) := (Below.refl _ _).alloc (Nat.le_refl _) _
  have HB := Lib.hid hB; clear hB
  by_cases h2 : k = 2
  · subst h2
    go_enter Tryd.func27, Tryd.ntmps27
    go_wp2
    go_ret
    exact ⟨rfl, HB.out⟩
  · have e2 : (k == 2) = false := by simpa using h2
    rw [e2, Bool.false_or]
    generalize hq : (k == 3) = q
    go_enter Tryd.func27, Tryd.ntmps27
    go_wp2
    go_ret
    exact ⟨rfl, HB.out⟩
end Go.Proofs.YtcpkbklnlnoonaaDoor
