/-
  Layer 10, the document's Encode and Trailer: they return the same encodings and change nothing that was there. Condition: none beyond the memory's own.
-/
import Derived.Test.YtjmciknelkodcaaSpEnc
namespace Go.Proofs.Ytjmciknelkodcaa
open Go.RowKit

theorem twice_not {L : List (List UInt8)} {i k : Nat} (hk : k < i) (hi : i < L.length) (h : L[i] = L[k]) : ¬ L.Nodup := by
  refine not_nodup hi ?_
  rw [h]
  have : L[k] = (L.take i)[k]'(by rw [List.length_take]; omega) := by rw [List.getElem_take]
  rw [this]
  exact List.getElem_mem _
theorem not_take {L : List (List UInt8)} {i : Nat} (hi : i < L.length) (h : ∀ j, (hj : j < i) → L[i] ≠ L[j]) : L[i] ∉ L.take i := by
  intro hm
  obtain ⟨j, hj, e⟩ := List.getElem_of_mem hm
  rw [List.length_take] at hj
  rw [List.getElem_take] at e
  exact h j (by omega) e.symm
theorem ba_eqb (p q : List UInt8) : ((ba p).toList == (ba q).toList) = decide (p = q) := by
  rw [Bool.eq_iff_iff, beq_iff_eq, decide_eq_true_iff, ByteArray.toList_eq, ByteArray.toList_eq, ba_list, ba_list]

end Go.Proofs.Ytjmciknelkodcaa
