/-
  Layer 10, the reader's method files: it returns the files that it reads, in a slice of its own, and changes the reader alone. Condition: at most 1048576 bytes.
-/
import Derived.Test.YtjmciknelkodcaaSpClone
namespace Go.Proofs.Ytjmciknelkodcaa
open Go.RowKit

/-- The strings of a slice. -/
def Strs (w : World) (a : Option Addr) (L : List (List UInt8)) : Prop := ∀ j (h : j < L.length), ∃ b off, a = some ⟨b, off, none⟩ ∧ b < w.heap.size ∧ w.cell? ⟨b, off + j, none⟩ = some (.string (ba L[j]))
theorem strs_below {w w' : World} {a : Option Addr} {L : List (List UInt8)} (h : Strs w a L) (hb : Below w.heap.size w w') : Strs w' a L := by
  intro j hj
  obtain ⟨b, off, e, hlt, hc⟩ := h j hj
  exact ⟨b, off, e, Nat.lt_of_lt_of_le hlt hb.size, by rw [hb.cell hlt]; exact hc⟩
theorem strs_grown {w w' : World} {a : Option Addr} {L : List (List UInt8)} {g : Nat} (h : Strs w a L) (hb : w.grownBy w' (some g)) (hne : ∀ b off, a = some ⟨b, off, none⟩ → b ≠ g) : Strs w' a L := by
  intro j hj
  obtain ⟨b, off, e, hlt, hc⟩ := h j hj
  have := hb.block b hlt (fun h => hne b off e (Option.some.inj h))
  refine ⟨b, off, e, Nat.lt_of_lt_of_le hlt hb.size, ?_⟩
  rw [← hc]
  simp only [World.cell?, this]
theorem strs_nil (w : World) (a : Option Addr) : Strs w a [] := fun j hj => absurd hj (Nat.not_lt_zero j)
/-- The cells of a row of strings. -/
def strF (L : List (List UInt8)) (j : Nat) : Value := .string (ba (L.getD j []))
theorem strF_snoc {w : World} {g n : Nat} {L : List (List UInt8)} (p : List UInt8) (h : w.rowIs g 9 n (strF L)) : (w.setCell ⟨g, L.length, none⟩ (.string (ba p))).rowIs g 9 n (strF (L ++ [p])) := by
  refine (h.set L.length _).congr fun j hj => ?_
  unfold strF
  by_cases h1 : j = L.length
  · rw [if_pos h1, h1]; simp
  · rw [if_neg h1]
    by_cases h3 : j < L.length
    · simp [List.getD, List.getElem?_append_left h3]
    · rw [List.getD_eq_getElem?_getD, List.getD_eq_getElem?_getD, List.getElem?_eq_none (l := L) (by omega), List.getElem?_eq_none (l := L ++ [p]) (by rw [List.length_append]; simp; omega)]
theorem strs_row {w : World} {g : Nat} {L : List (List UInt8)} (h : w.rowIs g 9 L.length (strF L)) : Strs w (some ⟨g, 0, none⟩) L := by
  intro j hj
  refine ⟨g, 0, rfl, h.lt, ?_⟩
  have := h.cell hj
  rw [Nat.zero_add, this]
  simp [strF, List.getD, List.getElem?_eq_getElem hj]
theorem infoS : ∃ i, Try.prog.info? 9 = some i ∧ i.zero = some (.string ByteArray.empty) ∧ i.size = 1 ∧ i.bytes = 16 := by
  obtain ⟨i, hi, hz⟩ := Option.map_eq_some_iff.1 (show (Try.prog.info? 9).map (fun i => (i.zero, i.size, i.bytes)) = some (some (.string ByteArray.empty), 1, 16) by kernel_rfl)
  simp only [Prod.mk.injEq] at hz
  exact ⟨i, hi, hz⟩
theorem made_str (n : Nat) (w : World) : (w.alloc (.cells (madeCells #[.string ByteArray.empty] n) 9)).rowIs w.heap.size 9 n (strF []) := by
  refine ⟨_, Deep.blk_alloc_new _ _, by rw [size_madeCells], fun j hj => ?_⟩
  unfold madeCells strF
  simp [hj, Nat.mod_one]
  rfl
theorem pths_len (k : Nat) (r : List UInt8) : (pths k r).1.length = k := by
  induction k with
  | zero => rfl
  | succ k ih => rw [pths, List.length_append, ih]; rfl
theorem pthP_le (l : List UInt8) : (pthP l).2.length ≤ l.length := by
  unfold pthP; split
  · simp
  · simp only [List.length_drop]; omega
theorem pths_le (k : Nat) (r : List UInt8) : (pths k r).2.length ≤ r.length := by
  induction k with
  | zero => exact Nat.le_refl _
  | succ k ih => rw [pths]; exact Nat.le_trans (pthP_le _) ih
theorem sgrown_set {a w : World} {row : Option Nat} (h : a.grownBy w row) {g : Nat} (hg : a.heap.size ≤ g) (i : Nat) (v : Value) : a.grownBy (w.setCell ⟨g, i, none⟩ v) row :=
  ⟨h.os, h.tape, h.output, by rw [World.size_setCell]; exact h.size, fun k hk hne => by
    rw [Below.heap_setCell w ⟨g, i, none⟩ v k (by show k ≠ g; omega)]; exact h.block k hk hne⟩

end Go.Proofs.Ytjmciknelkodcaa
