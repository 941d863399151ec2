/-
  Layer 16: nodes in memory: a slice of cells and one of numbers, by their lists. Condition: as each theorem says.
-/
import Derived.Test.YtdpjmijdlheajaaNdMath
import Derived.Test.YtdpjmijdlheajaaBlkLeaf
namespace Go.Proofs.Ytdpjmijdlheajaa
open Go.RowKit

def Cls (w : World) (a : Option Addr) (l : List Cel) : Prop :=
  ∀ j (hj : j < l.length), ∃ b off, a = some ⟨b, off, none⟩ ∧ b < w.heap.size ∧ w.cell? ⟨b, off + j * 4, none⟩ = some (.string (nb l[j].key)) ∧ w.cell? ⟨b, off + j * 4 + 1, none⟩ = some (.int .i64 l[j].len) ∧ w.cell? ⟨b, off + j * 4 + 2, none⟩ = some (.string (nb l[j].loc)) ∧ w.cell? ⟨b, off + j * 4 + 3, none⟩ = some (.int .i64 l[j].ov)
def Kds (w : World) (a : Option Addr) (l : List Int) : Prop :=
  ∀ j (hj : j < l.length), ∃ b off, a = some ⟨b, off, none⟩ ∧ b < w.heap.size ∧ w.cell? ⟨b, off + j, none⟩ = some (.int .i64 l[j])
theorem cls_next {w w' : World} {a : Option Addr} {l : List Cel} (h : Cls w a l) (hb : Below w.heap.size w w') : Cls w' a l := by
  intro j hj
  obtain ⟨b, off, ha, hlt, h1, h2, h3, h4⟩ := h j hj
  have hk := hb.block b hlt
  exact ⟨b, off, ha, Nat.lt_of_lt_of_le hlt hb.size, (World.cell?_of_block hk).trans h1, (World.cell?_of_block hk).trans h2, (World.cell?_of_block hk).trans h3, (World.cell?_of_block hk).trans h4⟩
theorem kds_next {w w' : World} {a : Option Addr} {l : List Int} (h : Kds w a l) (hb : Below w.heap.size w w') : Kds w' a l := by
  intro j hj
  obtain ⟨b, off, ha, hlt, h1⟩ := h j hj
  exact ⟨b, off, ha, Nat.lt_of_lt_of_le hlt hb.size, (World.cell?_of_block (hb.block b hlt)).trans h1⟩
theorem cls_alloc {w : World} {a : Option Addr} {l : List Cel} (h : Cls w a l) (o : Obj) : Cls (w.alloc o) a l := cls_next h (blw1 _ _)
theorem kds_alloc {w : World} {a : Option Addr} {l : List Int} (h : Kds w a l) (o : Obj) : Kds (w.alloc o) a l := kds_next h (blw1 _ _)
/-- What fits into memory. -/
structure NdSz (n : Nod) : Prop where
  cl : n.cells.length ≤ 1152921504606846976
  kl : n.kids.length ≤ 1152921504606846976
  ks : ∀ k (h : k < n.cells.length), n.cells[k].key.length ≤ 1152921504606846976
  ls : ∀ k (h : k < n.cells.length), n.cells[k].loc.length ≤ 1152921504606846976
end Go.Proofs.Ytdpjmijdlheajaa
