/-
  What the row of DiskSure asks besides: a slice of ints as an argument, opened to what the walk asks.
-/
import Derived.Test.YtkfncnpeockiaaaGreatDoorMg10
namespace Go.Proofs.YtkfncnpeockiaaaGreatDoor
open Go.ChangeShapes Go.WideShapes Go.ChangeAt Go.RowKit Go.Deep

section
variable {H : Type} {enc : TypeId × Value → H} {W W' : World}
set_option maxRecDepth 100000 in
theorem open_nums {b0 : Nat} {r : Reach} {v : Value} {d : DataW H} {p : List MemPlace} (hlt : ∀ x ∈ p, x.block < W.heap.size) (hv : Value.okWide Tryz.prog W r b0 30 v) (h : DataW.Trod enc Tryz.prog W 0 (fun _ => true) true 30 v d p) (hz : Sz 30 d) :
    ∃ a cap l, v = .slice a (List.length l) cap ∧ l.length ≤ 1152921504606846976 ∧ Ints W a l := by
  obtain ⟨a, len, cap, rfl⟩ := okWide_slice Tryz.underlying30 hv
  obtain ⟨fuel, hf⟩ := h
  obtain ⟨a', cap', l, e, -, hl, -, hI⟩ := ints_of (sv := .slice a len cap) (y := (d, p)) hf hz hlt
  exact ⟨a', cap', l, e, hl, hI⟩
end
end Go.Proofs.YtkfncnpeockiaaaGreatDoor
