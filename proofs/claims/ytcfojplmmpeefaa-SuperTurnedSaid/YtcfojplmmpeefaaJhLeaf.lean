/-
  Layer 8, the small functions: fixed, number, within, nearest, valid and the document's Four and Right: each returns its plain function and changes nothing that was there. Condition: numbers are ints; a string has at most 2^63 - 1 bytes.
-/
import Derived.Test.YtcfojplmmpeefaaJhMath
import Derived.Test.YtcfojplmmpeefaaLogLeaf
import Derived.Deep.RegionHeld3
import Derived.Lib.MinMax
import Derived.Laws.Rows
import Derived.Laws.StructEq
import Derived.StillTailTactics
import Derived.Deep.RegionWith
import Derived.Deep.Cut
namespace Go.Proofs.Ytcfojplmmpeefaa
open Go.RowKit

theorem rfour_any (n : Int) (h1 : -9223372036854775808 ≤ n) (h2 : n ≤ 9223372036854775807) (w : World) :
    Calls Try.prog 25 #[.int .i64 n] w fun e w' => e = .returned (.string ⟨(fixR n).1.toArray⟩) ∧ Below w.heap.size w w' := by
  go_enter Try.func25, Try.ntmps25
  go_wp2_with (go_at_call 38; refine (rfixed_any n h1 h2 _).mono ?_; rintro e w' ⟨rfl, hb⟩)
  go_ret
  exact ⟨rfl, hb⟩
def clampZ (n m : Int) : Int := max 0 (min n m)
structure H8I (b : Nat) (x y z : Value) (w wr : World) : Prop where
  c0 : wr.cell? ⟨b, 0, none⟩ = some x
  c1 : wr.cell? ⟨b, 1, none⟩ = some y
  c2 : wr.cell? ⟨b, 2, none⟩ = some z
  lt : b < wr.heap.size
  below : Below w.heap.size w wr
theorem h8_drew {b : Nat} {x y z : Value} {w wr : World} (h : H8I b x y z w wr) : H8I b x y z w wr.drew := ⟨h.c0, h.c1, h.c2, h.lt, h.below.drew⟩
theorem h8_next {b : Nat} {x y z : Value} {w wr w2 : World} (h : H8I b x y z w wr) (hb : Below wr.heap.size wr w2) : H8I b x y z w w2 :=
  ⟨(hb.cell (p := ⟨b, 0, none⟩) h.lt).trans h.c0, (hb.cell (p := ⟨b, 1, none⟩) h.lt).trans h.c1, (hb.cell (p := ⟨b, 2, none⟩) h.lt).trans h.c2, Nat.lt_of_lt_of_le h.lt hb.size, h.below.trans (hb.mono h.below.size)⟩
theorem h8_new (w : World) (x y z : Value) (t : TypeId) : H8I w.heap.size x y z w (w.alloc (.cells #[x, y, z] t)) := by
  have h := World.rowIs_alloc w #[x, y, z] t (fun j => [x, y, z].getD j x) (fun i hi => by
    match i, hi with
    | 0, _ => rfl
    | 1, _ => rfl
    | 2, _ => rfl
    | i + 3, hi => simp at hi; omega)
  exact ⟨h.cell (i := 0) (by simp), h.cell (i := 1) (by simp), h.cell (i := 2) (by simp), by simp, (Below.refl _ _).alloc (Nat.le_refl _) _⟩
theorem h8_of {b : Nat} {x y z : Value} {w wr : World} (h : H8I b x y z w wr) : wr.cell? ⟨b, 0, none⟩ = some x ∧ wr.cell? ⟨b, 1, none⟩ = some y ∧ wr.cell? ⟨b, 2, none⟩ = some z ∧ H8I b x y z w wr := ⟨h.c0, h.c1, h.c2, h⟩

def eq3 (a b c a' b' c' : Int) : Bool := decide (a = a' ∧ b = b' ∧ c = c')
theorem eq3_true {a b c a' b' c' : Int} : eq3 a b c a' b' c' = true ↔ a = a' ∧ b = b' ∧ c = c' := decide_eq_true_iff
end Go.Proofs.Ytcfojplmmpeefaa
