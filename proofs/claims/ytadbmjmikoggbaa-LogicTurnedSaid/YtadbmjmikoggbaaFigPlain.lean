/-
  Plain functions of bytes: what layer 1's Name and Fold are to return.
-/
import Derived.Test.YtadbmjmikoggbaaFigLeaf2
namespace Go.Proofs.Ytadbmjmikoggbaa
def okChar (x : UInt8) : Bool := letB x.toNat || isDigB x.toNat
def nameB (l : List UInt8) : Bool := !l.isEmpty && decide (l.length ≤ 16) && !isDigB (l.headD 0).toNat && l.all okChar
def lowU (x : UInt8) : UInt8 := (lowI x.toNat).toNat.toUInt8
def foldL (l : List UInt8) : List UInt8 := l.map lowU
theorem byte_bd (x : UInt8) : 0 ≤ (x.toNat : Int) ∧ (x.toNat : Int) ≤ 255 := by have := x.toNat_lt; omega
theorem lowU_toNat (x : UInt8) : ((lowU x).toNat : Int) = lowI x.toNat := by
  have h := low_bd x.toNat (byte_bd x)
  unfold lowU
  obtain ⟨k, hk⟩ := Int.eq_ofNat_of_zero_le h.1
  rw [hk]; simp; omega
theorem name_no {l : List UInt8} (h : l = [] ∨ 16 < l.length ∨ isDigB (l.headD 0).toNat = true) : nameB l = false := by
  unfold nameB
  rcases h with rfl | h | h
  · rfl
  · have : decide (l.length ≤ 16) = false := by simp; omega
    simp [this]
  · rw [h]; simp
theorem name_yes {l : List UInt8} (h0 : l ≠ []) (h1 : l.length ≤ 16) (h2 : isDigB (l.headD 0).toNat = false) : nameB l = l.all okChar := by
  unfold nameB
  cases l with
  | nil => exact absurd rfl h0
  | cons a t => simp only [List.headD_cons] at h2; simp at h1; simp [h1, h2]
end Go.Proofs.Ytadbmjmikoggbaa
