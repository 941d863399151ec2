/-
  The statement SumTurned as a walk: it returns true for every input and changes nothing that was there.
-/
import Derived.Test.YtjmciknelkodcaaSumSum
import Derived.Laws.IdiomStrings
namespace Go.Proofs.Ytjmciknelkodcaa
open Go.RowKit

/-- A block of our own that holds a string's bytes. -/
structure BytesI (l : List UInt8) (b : Nat) (wr : World) : Prop where
  cell : ∀ j (h : j < l.length), wr.cell? ⟨b, j, none⟩ = some (.int .u8 ((l[j]).toNat : Int))
  free : ∀ j, j < l.length → wr.frozen? ⟨b, j, none⟩ = false
theorem bytesI_set {l : List UInt8} {b : Nat} {wr : World} (h : BytesI l b wr) (i : Nat) (d : UInt8) : BytesI (l.set i d) b (wr.setCell ⟨b, i, none⟩ (.int .u8 (d.toNat : Int))) := by
  refine ⟨fun j hj => ?_, fun j hj => ?_⟩
  · have hjl : j < l.length := by rw [List.length_set] at hj; exact hj
    by_cases e : j = i
    · subst e
      rw [World.cell?_setCell_same' _ _ _ (by rw [h.cell j hjl]; rfl), List.getElem_set_self]
    · rw [World.cell?_setCell_other (a := ⟨b, i, none⟩) (b := ⟨b, j, none⟩) (h := by intro e'; cases e'; exact e rfl), h.cell j hjl, List.getElem_set_ne (by omega)]
  · rw [List.length_set] at hj
    rw [World.frozen?_setCell]; exact h.free j hj
theorem bytesI_new (s : ByteArray) (w : World) (cap : Nat) : BytesI s.data.toList w.heap.size (w.drew.alloc (.cells (bytesRow s cap) 5 ((bytesRow s cap).size, (bytesRow s cap).size + 1))) := by
  have hsz : s.size ≤ (bytesRow s cap).size := by simp [bytesRow]
  refine ⟨fun j hj => ?_, fun j hj => ?_⟩
  · have hj' : j < s.size := by simpa using hj
    have e := World.cell?_alloc_mark w.drew (bytesRow s cap) 5 ((bytesRow s cap).size, (bytesRow s cap).size + 1) j
    exact e.trans ((bytesRow_at s cap j hj').trans (by simp))
  · have hj' : j < s.size := by simpa using hj
    refine (World.frozen?_alloc_mark w.drew (bytesRow s cap) 5 _ _ j).trans ?_
    simp; intro h; omega
theorem bytesI_back {l : List UInt8} {b : Nat} {wr : World} (h : BytesI l b wr) (cap : Nat) :
    (convert 63 9 (.slice (some ⟨b, 0, none⟩) l.length cap)).run Try.prog wr = .ok (.string ⟨l.toArray⟩) wr :=
  run_convert_bytes_back (P := Try.prog) wr 63 9 5 ⟨b, 0, none⟩ cap l Try.underlying63 Try.underlying5 Try.underlying9 (fun j hj => by
    rw [Addr.add_lit, Nat.zero_add]; exact h.cell j hj)

end Go.Proofs.Ytjmciknelkodcaa
